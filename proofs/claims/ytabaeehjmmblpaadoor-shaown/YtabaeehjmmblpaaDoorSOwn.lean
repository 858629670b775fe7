/-
  The law ShaOwn returns true for every two rows of texts: two digests in the making do not touch one another. No condition but the form's own reach.
-/
import Derived.Test.YtabaeehjmmblpaaDoorShHash
import Derived.Test.YtabaeehjmmblpaaDoorShTab
import Derived.Test.YtabaeehjmmblpaaDoorShOpen
import Derived.LaidLaws
namespace Go.Proofs.YtabaeehjmmblpaaDoor.shaOwn
open Go.ChangeShapes Go.WideShapes Go.ChangeAt Go.RowKit
open Go.ChangeMaps (open_string shut_string)

/-- A text that is put in, if it is there and short enough. -/
def pk (f : Nat → ByteArray) (n i : Nat) : ByteArray := if i < n ∧ (f i).size < 500 then f i else ⟨#[]⟩
theorem cat_yes (f : Nat → ByteArray) (n i : Nat) (h : i < n) (h' : (f i).size < 500) : cat (pk f n) i ++ f i = cat (pk f n) (i + 1) := by
  show _ = cat (pk f n) i ++ pk f n i
  rw [pk, if_pos ⟨h, h'⟩]
theorem cat_no (f : Nat → ByteArray) (n i : Nat) (h : ¬ (i < n ∧ (f i).size < 500)) : cat (pk f n) i = cat (pk f n) (i + 1) := by
  show _ = cat (pk f n) i ++ pk f n i
  rw [pk, if_neg h]
  exact (ByteArray.append_empty (b := cat (pk f n) i)).symm
theorem cat_pk_size (f : Nat → ByteArray) (n : Nat) : ∀ i, (cat (pk f n) i).size ≤ 500 * i
  | 0 => Nat.le_refl _
  | i + 1 => by
    have h := cat_pk_size f n i
    show (cat (pk f n) i ++ pk f n i).size ≤ _
    have h2 : (pk f n i).size ≤ 500 := by
      unfold pk
      split
      · next hh => omega
      · decide
    rw [ByteArray.size_append]; omega
set_option maxHeartbeats 8000000 in
theorem walk (a a' : Option Addr) (n c n' c' : Nat) (f f' : Nat → ByteArray) (w : World) (t : Tab w) (hs : Strs w a n f) (hs' : Strs w a' n' f') :
    Calls Tryd.prog 6 #[.slice a n c, .slice a' n' c'] w fun e w' => e = .returned (.bool true) ∧ Below w.heap.size w w' := by
  have WO : Hid (∀ w, Tab w → _) := works_ok
  go_enter Tryd.func6, Tryd.ntmps6
  go_wp2_with fail
  refine (WO.out _ t).mono ?_
  rintro e w1 ⟨rfl, b1⟩
  clear WO
  go_wp2_with fail
  refine (inv_new w _ b1 t).mono ?_
  rintro e w2 ⟨p, rfl, n2⟩
  have N2 : Hid (Inv w w2 (.pointer (some p)) []) := n2
  clear n2 b1
  go_wp2_with fail
  refine (inv2_new t N2.out).mono ?_
  rintro e w9 ⟨q, rfl, n9⟩
  have N9 : Hid (Inv2 w w9 (.pointer (some p)) [] (.pointer (some q)) []) := n9
  clear n9 N2
  go_wp2_with fail
  go_loopg [7, 8, 9] 12 (fun g xv yv iv wr => ∃ i : Nat, i + g = 12 ∧ xv = .string (cat (pk f n) i) ∧ yv = .string (cat (pk f' n') i) ∧ iv = .int .i64 i ∧ (cat (pk f n) i).size ≤ 500 * i ∧ (cat (pk f' n') i).size ≤ 500 * i ∧ Hid (Inv2 w wr (.pointer (some p)) (nb (cat (pk f n) i)) (.pointer (some q)) (nb (cat (pk f' n') i))))
  case atStart => exact ⟨0, by omega, rfl, rfl, rfl, Nat.le_refl _, Nat.le_refl _, N9⟩
  case round =>
    clear N9
    obtain ⟨i, hi, rfl, rfl, rfl, z0, z1, N⟩ := hrel
    by_cases hlt : i < 12
    · have q1 : decide ((i : Int) < 12) = true := decide_eq_true (by omega)
      have q2 : decide (i < 12) = true := decide_eq_true (by omega)
      have zx := cat_pk_size f n (i + 1)
      have zy := cat_pk_size f' n' (i + 1)
      by_cases hiL : i < n
      · have qaL : decide (i < n) = true := decide_eq_true hiL
        obtain ⟨b, off, rfl, hb, hc⟩ := hs.resolve_left (by omega)
        have cL := (N.out.below.cell (p := ⟨b, off + i, none⟩) hb).trans (hc i hiL)
        by_cases hfL : (f i).size < 500
        · have qbL : decide (((f i).size : Int) < 500) = true := decide_eq_true (by omega)
          have etL : cat (pk f n) i ++ f i = cat (pk f n) (i + 1) := cat_yes f n i hiL hfL
          have ezL := ByteArray.size_append (a := cat (pk f n) i) (b := f i)
          replace hc : Hid _ := hc
          go_wp2_with fail
          refine (inv2_write t (f i) N.out (by rw [nb_length]; omega)).mono ?_
          rintro e w3 ⟨rfl, n3⟩
          rw [← nb_append] at n3
          have N3 : Hid (Inv2 w w3 (.pointer (some p)) (nb (cat (pk f n) i ++ f i)) (.pointer (some q)) (nb (cat (pk f' n') i))) := n3
          clear n3 N cL
          have cL := (N3.out.below.cell (p := ⟨b, off + i, none⟩) hb).trans (hc.out i hiL)
          clear hc
          by_cases hiM : i < n'
          · have qaM : decide (i < n') = true := decide_eq_true hiM
            obtain ⟨b', off', rfl, hb', hc'⟩ := hs'.resolve_left (by omega)
            have cM := (N3.out.below.cell (p := ⟨b', off' + i, none⟩) hb').trans (hc' i hiM)
            by_cases hfM : (f' i).size < 500
            · have qbM : decide (((f' i).size : Int) < 500) = true := decide_eq_true (by omega)
              have etM : cat (pk f' n') i ++ f' i = cat (pk f' n') (i + 1) := cat_yes f' n' i hiM hfM
              have ezM := ByteArray.size_append (a := cat (pk f' n') i) (b := f' i)
              replace hc' : Hid _ := hc'
              go_wp2_with fail
              refine (inv2_write t (f' i) N3.out.swap (by rw [nb_length]; omega)).mono ?_
              rintro e w4 ⟨rfl, n4⟩
              rw [← nb_append] at n4
              have N4 : Hid (Inv2 w w4 (.pointer (some p)) (nb (cat (pk f n) i ++ f i)) (.pointer (some q)) (nb (cat (pk f' n') i ++ f' i))) := n4.swap
              clear n4 N3 cM
              have cM := (N4.out.below.cell (p := ⟨b', off' + i, none⟩) hb').trans (hc'.out i hiM)
              clear hc'
              go_wp2_with fail
              go_roundg (12 - (i + 1))
              case measure => omega
              case rel => exact ⟨i + 1, by omega, (by first | rfl | rw [etL]), (by first | rfl | rw [etM]), by go_num, zx, zy, (by have NN := N4; rw [etL, etM] at NN; exact NN)⟩
            · have qbM : decide (((f' i).size : Int) < 500) = false := decide_eq_false (by omega)
              have enM : cat (pk f' n') i = cat (pk f' n') (i + 1) := cat_no f' n' i (fun h => hfM h.2)
              clear hc'
              go_wp2_with fail
              go_roundg (12 - (i + 1))
              case measure => omega
              case rel => exact ⟨i + 1, by omega, (by first | rfl | rw [etL]), (by first | rfl | rw [enM]), by go_num, zx, zy, (by have NN := N3; rw [etL, enM] at NN; exact NN)⟩
          · have qaM : decide (i < n') = false := decide_eq_false hiM
            have enM : cat (pk f' n') i = cat (pk f' n') (i + 1) := cat_no f' n' i (fun h => hiM h.1)
            go_wp2_with fail
            go_roundg (12 - (i + 1))
            case measure => omega
            case rel => exact ⟨i + 1, by omega, (by first | rfl | rw [etL]), (by first | rfl | rw [enM]), by go_num, zx, zy, (by have NN := N3; rw [etL, enM] at NN; exact NN)⟩
        · have qbL : decide (((f i).size : Int) < 500) = false := decide_eq_false (by omega)
          have enL : cat (pk f n) i = cat (pk f n) (i + 1) := cat_no f n i (fun h => hfL h.2)
          clear hc
          by_cases hiM : i < n'
          · have qaM : decide (i < n') = true := decide_eq_true hiM
            obtain ⟨b', off', rfl, hb', hc'⟩ := hs'.resolve_left (by omega)
            have cM := (N.out.below.cell (p := ⟨b', off' + i, none⟩) hb').trans (hc' i hiM)
            by_cases hfM : (f' i).size < 500
            · have qbM : decide (((f' i).size : Int) < 500) = true := decide_eq_true (by omega)
              have etM : cat (pk f' n') i ++ f' i = cat (pk f' n') (i + 1) := cat_yes f' n' i hiM hfM
              have ezM := ByteArray.size_append (a := cat (pk f' n') i) (b := f' i)
              replace hc' : Hid _ := hc'
              go_wp2_with fail
              refine (inv2_write t (f' i) N.out.swap (by rw [nb_length]; omega)).mono ?_
              rintro e w4 ⟨rfl, n4⟩
              rw [← nb_append] at n4
              have N4 : Hid (Inv2 w w4 (.pointer (some p)) (nb (cat (pk f n) i)) (.pointer (some q)) (nb (cat (pk f' n') i ++ f' i))) := n4.swap
              clear n4 N cM
              have cM := (N4.out.below.cell (p := ⟨b', off' + i, none⟩) hb').trans (hc'.out i hiM)
              clear hc'
              go_wp2_with fail
              go_roundg (12 - (i + 1))
              case measure => omega
              case rel => exact ⟨i + 1, by omega, (by first | rfl | rw [enL]), (by first | rfl | rw [etM]), by go_num, zx, zy, (by have NN := N4; rw [enL, etM] at NN; exact NN)⟩
            · have qbM : decide (((f' i).size : Int) < 500) = false := decide_eq_false (by omega)
              have enM : cat (pk f' n') i = cat (pk f' n') (i + 1) := cat_no f' n' i (fun h => hfM h.2)
              clear hc'
              go_wp2_with fail
              go_roundg (12 - (i + 1))
              case measure => omega
              case rel => exact ⟨i + 1, by omega, (by first | rfl | rw [enL]), (by first | rfl | rw [enM]), by go_num, zx, zy, (by have NN := N; rw [enL, enM] at NN; exact NN)⟩
          · have qaM : decide (i < n') = false := decide_eq_false hiM
            have enM : cat (pk f' n') i = cat (pk f' n') (i + 1) := cat_no f' n' i (fun h => hiM h.1)
            go_wp2_with fail
            go_roundg (12 - (i + 1))
            case measure => omega
            case rel => exact ⟨i + 1, by omega, (by first | rfl | rw [enL]), (by first | rfl | rw [enM]), by go_num, zx, zy, (by have NN := N; rw [enL, enM] at NN; exact NN)⟩
      · have qaL : decide (i < n) = false := decide_eq_false hiL
        have enL : cat (pk f n) i = cat (pk f n) (i + 1) := cat_no f n i (fun h => hiL h.1)
        by_cases hiM : i < n'
        · have qaM : decide (i < n') = true := decide_eq_true hiM
          obtain ⟨b', off', rfl, hb', hc'⟩ := hs'.resolve_left (by omega)
          have cM := (N.out.below.cell (p := ⟨b', off' + i, none⟩) hb').trans (hc' i hiM)
          by_cases hfM : (f' i).size < 500
          · have qbM : decide (((f' i).size : Int) < 500) = true := decide_eq_true (by omega)
            have etM : cat (pk f' n') i ++ f' i = cat (pk f' n') (i + 1) := cat_yes f' n' i hiM hfM
            have ezM := ByteArray.size_append (a := cat (pk f' n') i) (b := f' i)
            replace hc' : Hid _ := hc'
            go_wp2_with fail
            refine (inv2_write t (f' i) N.out.swap (by rw [nb_length]; omega)).mono ?_
            rintro e w4 ⟨rfl, n4⟩
            rw [← nb_append] at n4
            have N4 : Hid (Inv2 w w4 (.pointer (some p)) (nb (cat (pk f n) i)) (.pointer (some q)) (nb (cat (pk f' n') i ++ f' i))) := n4.swap
            clear n4 N cM
            have cM := (N4.out.below.cell (p := ⟨b', off' + i, none⟩) hb').trans (hc'.out i hiM)
            clear hc'
            go_wp2_with fail
            go_roundg (12 - (i + 1))
            case measure => omega
            case rel => exact ⟨i + 1, by omega, (by first | rfl | rw [enL]), (by first | rfl | rw [etM]), by go_num, zx, zy, (by have NN := N4; rw [enL, etM] at NN; exact NN)⟩
          · have qbM : decide (((f' i).size : Int) < 500) = false := decide_eq_false (by omega)
            have enM : cat (pk f' n') i = cat (pk f' n') (i + 1) := cat_no f' n' i (fun h => hfM h.2)
            clear hc'
            go_wp2_with fail
            go_roundg (12 - (i + 1))
            case measure => omega
            case rel => exact ⟨i + 1, by omega, (by first | rfl | rw [enL]), (by first | rfl | rw [enM]), by go_num, zx, zy, (by have NN := N; rw [enL, enM] at NN; exact NN)⟩
        · have qaM : decide (i < n') = false := decide_eq_false hiM
          have enM : cat (pk f' n') i = cat (pk f' n') (i + 1) := cat_no f' n' i (fun h => hiM h.1)
          go_wp2_with fail
          go_roundg (12 - (i + 1))
          case measure => omega
          case rel => exact ⟨i + 1, by omega, (by first | rfl | rw [enL]), (by first | rfl | rw [enM]), by go_num, zx, zy, (by have NN := N; rw [enL, enM] at NN; exact NN)⟩
    · have q1 : decide ((i : Int) < 12) = false := decide_eq_false (by omega)
      have q2 : decide (i < 12) = false := decide_eq_false (by omega)
      obtain ⟨U, hU⟩ : ∃ U, U = bstr (dig (nb (cat (pk f n) i))) := ⟨_, rfl⟩
      obtain ⟨V, hV⟩ : ∃ V, V = bstr (dig (nb (cat (pk f' n') i))) := ⟨_, rfl⟩
      have zU : U.size = 32 := by rw [hU, bstr_size, dig_length]
      replace hU : Hid _ := hU
      replace hV : Hid _ := hV
      clear hs hs'
      have N10 : Hid _ := N
      clear N
      go_wp2_with fail
      have R11 := inv2_hsum t N10.out (by rw [nb_length]; omega)
      rw [← hU.out] at R11
      refine R11.mono ?_
      clear R11
      rintro e w11 ⟨rfl, n11⟩
      have N11 : Hid (Inv2 w w11 (.pointer (some p)) (nb (cat (pk f n) i)) (.pointer (some q)) (nb (cat (pk f' n') i))) := n11
      clear n11 N10
      go_wp2_with fail
      have R12 := inv2_sum t (cat (pk f n) i) N11.out (by omega)
      rw [← hU.out] at R12
      refine R12.mono ?_
      clear R12
      rintro e w12 ⟨rfl, n12⟩
      have N12 : Hid (Inv2 w w12 (.pointer (some p)) (nb (cat (pk f n) i)) (.pointer (some q)) (nb (cat (pk f' n') i))) := n12
      clear n12 N11
      go_wp2_with fail
      have R13 := inv2_hsum t N12.out.swap (by rw [nb_length]; omega)
      rw [← hV.out] at R13
      refine R13.mono ?_
      clear R13
      rintro e w13 ⟨rfl, n13⟩
      have N13 : Hid (Inv2 w w13 (.pointer (some p)) (nb (cat (pk f n) i)) (.pointer (some q)) (nb (cat (pk f' n') i))) := n13.swap
      clear n13 N12
      go_wp2_with fail
      have R14 := inv2_sum t (cat (pk f' n') i) N13.out (by omega)
      rw [← hV.out] at R14
      refine R14.mono ?_
      clear R14
      rintro e w14 ⟨rfl, n14⟩
      have N14 : Hid (Inv2 w w14 (.pointer (some p)) (nb (cat (pk f n) i)) (.pointer (some q)) (nb (cat (pk f' n') i))) := n14
      clear n14 N13
      go_wp2_with fail
      have R15 := inv2_hsum t N14.out (by rw [nb_length]; omega)
      rw [← hU.out] at R15
      refine R15.mono ?_
      clear R15
      rintro e w15 ⟨rfl, n15⟩
      have N15 : Hid (Inv2 w w15 (.pointer (some p)) (nb (cat (pk f n) i)) (.pointer (some q)) (nb (cat (pk f' n') i))) := n15
      clear n15 N14
      go_wp2_with fail
      have R16 := inv2_sum t (cat (pk f n) i) N15.out (by omega)
      rw [← hU.out] at R16
      refine R16.mono ?_
      clear R16
      rintro e w16 ⟨rfl, n16⟩
      have N16 : Hid (Inv2 w w16 (.pointer (some p)) (nb (cat (pk f n) i)) (.pointer (some q)) (nb (cat (pk f' n') i))) := n16
      clear n16 N15
      go_wp2_with fail
      have R17 := inv2_hsum t N16.out (by rw [nb_length]; omega)
      rw [← hU.out] at R17
      refine R17.mono ?_
      clear R17
      rintro e w17 ⟨rfl, n17⟩
      have N17 : Hid (Inv2 w w17 (.pointer (some p)) (nb (cat (pk f n) i)) (.pointer (some q)) (nb (cat (pk f' n') i))) := n17
      clear n17 N16
      go_wp2_with fail
      go_ret
      exact ⟨rfl, N17.out.below⟩

set_option maxRecDepth 100000 in
theorem contract (H : Type) (enc : TypeId × Value → H) (W : World) (base : Nat) (args : Array Value) (ds gs : List (DataW H)) (before : List MemPlace)
    (hval : ∀ (j : Nat) t v, Tryd.f6.params[j]? = some t → args[j]? = some v → Value.okWide Tryd.prog W .any base t v)
    (hW : DataW.Whole enc Tryd.prog Tryd.f6.params.toList Rows.shaOwnSpec.vars false W args.toList ds gs before) (hT : Tab W)
    (hsz : (DataW.weightsEach Tryd.prog (Tryd.f6.params.toList ++ (OpenSpec.ofChange Rows.shaOwnSpec).bare.plain.varTypes Tryd.prog) (ds ++ gs)).all (· ≤ reachBytes) = true) :
    Calls Tryd.prog 6 args W fun e W' => ∃ v, e = .returned v ∧ Rows.shaOwnSpec.post enc Tryd.prog Tryd.f6 false true false false W args v W' := by
  have hW' := hW
  obtain ⟨p, q, hA0, hV, rfl, hfz, hnd⟩ := hW
  have hA : DataW.TrodAll enc Tryd.prog W 0 (fun _ => true) true Tryd.f6.params.toList args.toList ds p := hA0
  rw [Tryd.params6] at hA hval hsz
  obtain ⟨v0, vs0, d0, ds0, p0, q0, hargs, rfl, rfl, h0, r0⟩ := trodAll_cons hA
  obtain ⟨v1, vs1, d1, ds1, p1, q1, rfl, rfl, rfl, h1, r1⟩ := trodAll_cons r0
  obtain ⟨rfl, rfl, rfl⟩ := trodAll_nil r1
  obtain rfl : args = #[v0, v1] := by cases args; simp_all
  obtain ⟨rfl, rfl⟩ := trodVars_none hV
  have k0 := h0
  have lt0 : ∀ x ∈ p0, x.block < W.heap.size := by obtain ⟨m, hm⟩ := k0; exact DataW.trod_lt m _ _ _ hm
  obtain ⟨a0, n0, c0, f0, rfl, hn0, hz0, hs0⟩ := open_strs (hval 0 26 v0 rfl rfl) h0 (fun n hn => by simpa using List.all_eq_true.1 hsz _ (DataW.weights_mem_each (j := 0) (t := 26) rfl rfl n hn))
  have k1 := h1
  have lt1 : ∀ x ∈ p1, x.block < W.heap.size := by obtain ⟨m, hm⟩ := k1; exact DataW.trod_lt m _ _ _ hm
  obtain ⟨a1, n1, c1, f1, rfl, hn1, hz1, hs1⟩ := open_strs (hval 1 26 v1 rfl rfl) h1 (fun n hn => by simpa using List.all_eq_true.1 hsz _ (DataW.weights_mem_each (j := 1) (t := 26) rfl rfl n hn))
  clear hA0
  simp only [List.append_nil] at hW'
  refine (walk a0 a1 n0 c0 n1 c1 f0 f1 W hT hs0 hs1).mono fun e W' ⟨he, bel⟩ => ?_
  subst he
  exact ⟨_, rfl, _, _, _, [], _, [], hW', trodAll_mk1 (shut_bool Tryd.underlying4 _), (trodAll_cons_mk (Below.trod laidOut (by kernel_rfl) (of_decide_eq_true (by kernel_rfl)) k0 bel lt0) (trodAll_cons_mk (Below.trod laidOut (by kernel_rfl) (of_decide_eq_true (by kernel_rfl)) k1 bel lt1) trodAll_mk0)), rfl, bel.frame _, fun h => by cases h⟩

set_option maxRecDepth 100000 in
theorem lifted (os : Os) (started : os.Started) (H : Type) (enc : TypeId × Value → H) :
    ReturnsInHanded {} Tryd.checked os 6 .any (fun w args => (Rows.shaOwnSpec.pre enc Tryd.prog Tryd.f6 Rows.shaOwnRow.domain false w args ∧ laidMetH Tryd.prog Rows.shaOwnRow.laid w) ∧ sizedMet enc Tryd.prog Tryd.f6 (OpenSpec.ofChange Rows.shaOwnSpec) false w args)
      (Rows.shaOwnSpec.post enc Tryd.prog Tryd.f6 false true false false) := by
  refine returnsInHanded_of_change_and (C := Tryd.checked) (X := fun w _ => laidMetH Tryd.prog Rows.shaOwnRow.laid w) (fun _ _ _ hh h => h.of_heap hh) own started (by kernel_rfl) Tryd.func6
    (ChangeSpec.witness_shaped (enc := enc) (C := Tryd.checked) (os := os) (X := fun w _ => laidMetH Tryd.prog Rows.shaOwnRow.laid w) false (World.laidAll Tryd.prog os Rows.shaOwnRow.laid) #[.slice none 0 0, .slice none 0 0] 8 (World.laidAll_os _ _ _)
      (World.shaped_of_ZipB (by kernel_rfl) (by kernel_rfl)) (by kernel_rfl) (by kernel_rfl) (by kernel_rfl)
      (by rw [MakeChecks.laidMetH_plain _ _ _ (by kernel_rfl)]; exact laidMet_laidAll _ (by kernel_rfl) (by kernel_rfl))) ?_
  intro W base args ds gs before hval hW _ hsz hL _
  have hL' : laidMet Tryd.prog Rows.shaOwnRow.laid W := by
    rw [MakeChecks.laidMetH_plain _ _ _ (by kernel_rfl)] at hL
    exact hL
  exact contract H enc W base args ds gs before hval hW (tabOf1 rfl hL') hsz

theorem said : Rows.ShaOwnSaid :=
  OpenClaim.holds_of_wide 6 Tryd.f6 rfl rfl rfl rfl rfl rfl rfl ⟨rfl, rfl, rfl, rfl, rfl⟩ rfl rfl rfl rfl rfl (by kernel_rfl) Tryd.func6 (by kernel_rfl)
    (of_decide_eq_true (by kernel_rfl)) (by unfold Func.isWrapper; first | (rw [if_pos (by decide +kernel)]; kernel_rfl) | (rw [if_neg (by decide +kernel)]; exact ⟨rfl, rfl⟩))
    (fun os started H enc _ => lifted os started H enc)

theorem plain (f : FuncId) (fn : Func) (hf : Tryd.pinned.checked.prog.funcNamed Rows.shaOwnRow.func = some f) (hfn : Tryd.pinned.checked.prog.funcs[f]? = some fn) :
    (Tryd.pinned.checked.prog.looks [] = Tryd.pinned.checked.prog.looks []) ∧ ∀ (j : Nat) t, fn.params[j]? = some t → Tryd.pinned.checked.prog.wantsStandIn t = false := by
  obtain rfl : f = 6 := Option.some.inj ((show Tryd.prog.funcNamed Rows.shaOwnRow.func = some 6 by kernel_rfl).symm.trans hf) |>.symm
  obtain rfl : fn = Tryd.f6 := (Option.some.inj (Tryd.func6.symm.trans hfn)).symm
  refine ⟨rfl, fun j t ht => ?_⟩
  rw [Tryd.params6] at ht
  have hm : t ∈ [26, 26] := by simpa using Array.mem_of_getElem? ht
  have hall : ([26, 26].all fun u => !Tryd.prog.wantsStandIn u) = true := by kernel_rfl
  exact (show Tryd.prog.wantsStandIn t = false by simpa using List.all_eq_true.1 hall t hm)
theorem card : Rows.ShaOwnCardSaid :=
  Claim7.holds_tied_plain_at .later [] _ _ _ _ said (fun _ h => by cases h) (by kernel_rfl) (fun _ h => by cases h) shaOwn_row_tie rfl ⟨rfl, rfl⟩ (by kernel_rfl) rfl (fun f fn hf hfn => ⟨by kernel_rfl, (plain f fn hf hfn).2⟩) (by kernel_rfl)
end Go.Proofs.YtabaeehjmmblpaaDoor.shaOwn
namespace Go.Proofs.YtabaeehjmmblpaaDoor
theorem shaOwn_card : Rows.ShaOwnCardSaid := shaOwn.card
end Go.Proofs.YtabaeehjmmblpaaDoor
