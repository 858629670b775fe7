/-
  What the program's requireMarked does. No condition.
-/
import Derived.Test.YtojfcflkanohoaaDoorTgOwn
import Derived.Test.YtojfcflkanohoaaDoorShelf
import Derived.Deep.DeepCutAuto
namespace Go.Proofs.YtojfcflkanohoaaDoor
set_option maxRecDepth 100000
open Go.RowKit Go.Sort

theorem bx0 (w : World) (o : Obj) : Below w.heap.size w (w.alloc o) := (Below.refl _ _).alloc (Nat.le_refl _) _
theorem hasCol (n : L) : Lib.hasPrefix (strL n).data.toList (⟨#[58]⟩ : ByteArray).data.toList = col n := by
  unfold Lib.hasPrefix col
  show [58].isPrefixOf n = _
  cases n with
  | nil => rfl
  | cons c t =>
    show (58 == c && List.isPrefixOf [] t) = decide (some c = some 58)
    rw [List.isPrefixOf_nil_left, Bool.and_true, Bool.eq_iff_iff, beq_iff_eq, decide_eq_true_eq]
    exact ⟨fun h => by rw [h], fun h => by injection h with h; exact h.symm⟩
set_option maxHeartbeats 8000000 in
theorem mark_ok (l : List Fd) (v : Value) (w : World) (h : FdsAt w v l) (hl : l.length ≤ maxLen) : Calls Tryd.prog 31 #[v] w fun e w' => e = ReqE (marked l) 400 ∧ Below w.heap.size w w' := by
  have H := Lib.hid h
  obtain ⟨a, c, rfl⟩ := h.slice
  clear h
  have GET : Hid (∀ (w' : World) (nm : L), FdsAt w' (.slice a l.length c) l → Calls Tryd.prog 38 #[.slice a l.length c, .string (strL nm)] w' fun e w'' => e = .returned (getV l nm) ∧ Below w'.heap.size w' w'') := fun w' nm h' => pget14_ok l nm (.slice a l.length c) w' h' hl
  have hl2 : l.length ≤ 9223372036854775807 := by unfold maxLen at hl; omega
  clear hl
  obtain ⟨E, hE⟩ : ∃ E, E = ReqE (marked l) 400 := ⟨_, rfl⟩
  rw [← hE]
  replace hE := Lib.hid hE
  obtain ⟨n, hn⟩ : ∃ n, n = l.length := ⟨_, rfl⟩
  rw [← hn] at GET hl2 ⊢
  replace hn := Lib.hid hn
  have HP : Hid (∀ (s : ByteArray) (w : World), _) := fun s w => Tryd.strings_HasPrefix s ⟨#[58]⟩ w
  have KN : Hid (∀ (s : L) (w : World), _) := fun s w => isKnown_ok s w
  have RN : Hid (∀ w, _) := fun w => req_no 400 w
  have RY : Hid (∀ w, _) := fun w => req_yes 400 w
  go_enter Tryd.func31, Tryd.ntmps31
  go_wp2_with fail
  go_loopg [2, 9] n (fun g' av iv wr => ∃ (k : Nat) (b : Bool), Hid (k + g' = n) ∧ iv = .int .i64 k ∧ av = .bool b ∧ Hid (b = ahd (l.take k)) ∧ Hid (∀ i, i < k → okAt l i = true) ∧ Hid (Below w.heap.size w wr))
  case atStart => exact ⟨0, true, Lib.hid (by omega), rfl, rfl, rfl, fun i hi => by omega, Below.refl _ _⟩
  case round =>
    obtain ⟨k, b, hk, rfl, rfl, hb, hok, bl⟩ := hrel
    have hk0 := hk.out
    by_cases hlt : k < n
    · have g1 : decide ((k : Int) < (n : Int)) = true := decide_eq_true (by omega)
      have g1' : decide (k < n) = true := decide_eq_true hlt
      have hkl : Hid (k < l.length) := by unfold Hid; rw [← hn.out]; exact hlt
      have HR := Lib.hid (H.out.keep bl.out)
      obtain ⟨g, o, rfl, c1, c2⟩ := HR.out.at (k := k) hkl.out
      have ia := fun w' => at_fds g o n c k w' hlt (k : Int) rfl (o + 2 * k) rfl
      have hms : Hid (n - (k + 1) < gk) := by unfold Hid; omega
      have hk1 : Hid (k + 1 + (n - (k + 1)) = n) := by unfold Hid; omega
      have hat := Lib.hid (ahd_take l k hkl.out)
      have okE : Hid (okAt l k = (!col (l.getD k nF).1 || (b && (getS l (l.getD k nF).1).isSome && known (l.getD k nF).1))) := by unfold Hid; rw [hb.out]; rfl
      have next : Hid (okAt l k = true → ∀ i, i < k + 1 → okAt l i = true) := fun q i hi => by
        rcases Nat.lt_or_ge i k with r | r
        · exact hok.out i r
        · obtain rfl : i = k := by omega
          exact q
      have bad : Hid (okAt l k = false → E = .panicked (thrown 400)) := fun q => by rw [hE.out, marked_no hkl.out q]; rfl
      obtain ⟨X, hX⟩ : ∃ X, getV l (l.getD k nF).1 = .tuple #[.string X, .bool (getS l (l.getD k nF).1).isSome] := by
        unfold getV
        cases getS l (l.getD k nF).1 with
        | none => exact ⟨_, rfl⟩
        | some x => exact ⟨_, rfl⟩
      have GE : Hid (∀ w', Below wr.heap.size wr w' → Calls Tryd.prog 38 #[.slice (some ⟨g, o, none⟩) n c, .string (strL (l.getD k nF).1)] w' fun e w'' => e = .returned (.tuple #[.string X, .bool (getS l (l.getD k nF).1).isSome]) ∧ Below w'.heap.size w' w'') := fun w' hb' => by
        have := GET.out w' (l.getD k nF).1 (by rw [hn.out]; exact HR.out.keep hb')
        rwa [hX] at this
      clear hX
      have HC := hasCol (l.getD k nF).1
      have HP1 : Hid (∀ w, _) := fun w => HP.out (strL (l.getD k nF).1) w
      rw [HC] at HP1
      have KN1 : Hid (∀ w, _) := fun w => KN.out (l.getD k nF).1 w
      generalize l.getD k nF = f at *
      obtain ⟨f1, f2⟩ := f
      simp only at c1 c2 hat okE GE HP1 KN1
      have lA := Lies.new wr [.string (strL f1), .string (strL f2)] 35
      have bA := bx0 wr (.cells #[.string (strL f1), .string (strL f2)] 35)
      obtain ⟨wa, hwa⟩ : ∃ wa, wa = wr.alloc (.cells #[.string (strL f1), .string (strL f2)] 35) := ⟨_, rfl⟩
      have lA' : Lies wa wr.heap.size [.string (strL f1), .string (strL f2)] := by rw [hwa]; exact lA
      rw [← hwa] at bA
      have c3 := lA'.cell 0 (v := .string (strL f1)) rfl
      have LA := Lib.hid lA'
      have BA := Lib.hid bA
      have ZA := Lib.hid (bl.out.trans (bA.mono bl.out.size))
      have hb2 := hb
      clear lA lA' bA HC hk hk0 hb hok H HR GET HP KN
      generalize (getS l f1).isSome = s at *
      obtain ⟨kn, hkn⟩ : ∃ kn, kn = known f1 := ⟨_, rfl⟩
      rw [← hkn] at KN1 okE
      clear hkn
      obtain ⟨cl, hcl⟩ : ∃ cl, cl = col f1 := ⟨_, rfl⟩
      rw [← hcl] at HP1 okE hat
      clear hcl
      generalize strL f1 = S at *
      generalize strL f2 = S2 at *
      go_upto_region 4 with fail
      rw [← hwa]
      clear hwa
      go_wp2_with fail
      refine (HP1.out wa).mono ?_
      rintro e w1 ⟨rfl, rfl⟩
      cases cl
      · have b2 : Hid (false = ahd (l.take (k + 1))) := by unfold Hid; rw [hat.out, Bool.and_false]
        have nx : Hid (∀ i, i < k + 1 → okAt l i = true) := next.out okE.out
        clear okE hat GE KN1 LA BA
        go_wp2_with fail
        go_roundg (n - (k + 1))
        case measure => exact hms.out
        case rel => exact ⟨k + 1, false, hk1, by go_num, rfl, b2, nx, ZA⟩
      · have b2 : Hid (b = ahd (l.take (k + 1))) := by unfold Hid; rw [hat.out, Bool.and_true]; exact hb2.out
        go_wp2_with fail
        refine (GE.out w1 BA.out).mono ?_
        rintro e w2 ⟨rfl, g2⟩
        have L2 := LA.out.keep (by show 0 < 2; decide) g2
        have Z2 := Lib.hid (ZA.out.trans (g2.mono ZA.out.size))
        clear g2 LA BA ZA c3 GE hat
        have c3 := L2.cell 0 (v := .string S) rfl
        clear L2
        cases b
        · have bd := Lib.hid (bad.out okE.out)
          clear okE bad next KN1
          go_wp2_with fail
          refine (RN.out w2).mono ?_
          rintro e w3 ⟨rfl, rfl⟩
          exact ⟨rfl, bd.out.symm, Z2.out⟩
        · cases s
          · have bd := Lib.hid (bad.out okE.out)
            clear okE bad next KN1
            go_wp2_with fail
            refine (RN.out w2).mono ?_
            rintro e w3 ⟨rfl, rfl⟩
            exact ⟨rfl, bd.out.symm, Z2.out⟩
          · go_wp2_with fail
            refine (KN1.out w2).mono ?_
            rintro e w3 ⟨rfl, rfl⟩
            cases kn
            · have bd := Lib.hid (bad.out okE.out)
              clear okE bad next KN1
              go_wp2_with fail
              refine (RN.out w2).mono ?_
              rintro e w4 ⟨rfl, rfl⟩
              exact ⟨rfl, bd.out.symm, Z2.out⟩
            · have nx : Hid (∀ i, i < k + 1 → okAt l i = true) := next.out okE.out
              clear okE bad next KN1
              go_wp2_with fail
              refine (RY.out w2).mono ?_
              rintro e w4 ⟨rfl, rfl⟩
              go_wp2_with fail
              go_roundg (n - (k + 1))
              case measure => exact hms.out
              case rel => exact ⟨k + 1, true, hk1, by go_num, rfl, b2, nx, Z2⟩
    · have g1 : decide ((k : Int) < (n : Int)) = false := decide_eq_false (by omega)
      have g1' : decide (k < n) = false := decide_eq_false hlt
      have E0 : Hid (E = .returned (.tuple #[])) := by
        unfold Hid
        rw [hE.out, (marked_iff l).2 (fun i hi => hok.out i (by rw [← hn.out] at hi; omega))]
        rfl
      go_wp2_with fail
      go_end0
      exact ⟨by rw [E0.out], bl.out⟩
theorem at_zero (c : UInt8) (t : L) (w : World) : (Instr.index 9 (.string (strL (c :: t))) (.int .i64 0)).run Tryd.prog w = .ok (.int .u8 (c.toNat : Int)) w := at_strL (c :: t) 0 w (by simp) 0 rfl
theorem col_cons (c : UInt8) (t : L) : ((c.toNat : Int) != 58) = !col (c :: t) := by
  unfold col
  rw [Bool.eq_iff_iff, bne_iff_ne, Bool.not_eq_true', decide_eq_false_iff_not]
  constructor
  · intro h e
    injection e with e
    exact h (by rw [e]; rfl)
  · intro h e
    refine h ?_
    have : c = 58 := UInt8.toNat_inj.1 (by show c.toNat = 58; omega)
    rw [this]
    rfl
set_option maxHeartbeats 8000000 in
theorem shaped_ok (l : List Fd) (v : Value) (w : World) (h : FdsAt w v l) (hl : l.length ≤ maxLen) (hne : ∀ i, i < l.length → (l.getD i nF).1 ≠ []) : Calls Tryd.prog 19 #[v] w fun e w' => e = .returned (.bool (marked l)) ∧ Below w.heap.size w w' := by
  have H := Lib.hid h
  obtain ⟨a, c, rfl⟩ := h.slice
  clear h
  have GET : Hid (∀ (w' : World) (nm : L), FdsAt w' (.slice a l.length c) l → Calls Tryd.prog 20 #[.slice a l.length c, .string (strL nm)] w' fun e w'' => e = .returned (getV l nm) ∧ w' = w'') := fun w' nm h' => rget14_ok l nm (.slice a l.length c) w' h' hl
  have hl2 : l.length ≤ 9223372036854775807 := by unfold maxLen at hl; omega
  clear hl
  replace hne := Lib.hid hne
  obtain ⟨E, hE⟩ : ∃ E, E = marked l := ⟨_, rfl⟩
  rw [← hE]
  replace hE := Lib.hid hE
  obtain ⟨n, hn⟩ : ∃ n, n = l.length := ⟨_, rfl⟩
  rw [← hn] at GET hl2 ⊢
  replace hn := Lib.hid hn
  have KN : Hid (∀ (s : L) (w : World), _) := fun s w => pseudo_ok s w
  go_enter Tryd.func19, Tryd.ntmps19
  go_wp2_with fail
  go_loopg [3, 4] n (fun g' av iv wr => ∃ (k : Nat) (b : Bool), Hid (k + g' = n) ∧ iv = .int .i64 k ∧ av = .bool b ∧ Hid (b = !ahd (l.take k)) ∧ Hid (∀ i, i < k → okAt l i = true) ∧ w = wr)
  case atStart => exact ⟨0, false, Lib.hid (by omega), rfl, rfl, rfl, fun i hi => by omega, rfl⟩
  case round =>
    obtain ⟨k, b, hk, rfl, rfl, hb, hok, rfl⟩ := hrel
    have hk0 := hk.out
    by_cases hlt : k < n
    · have g1 : decide ((k : Int) < (n : Int)) = true := decide_eq_true (by omega)
      have g1' : decide (k < n) = true := decide_eq_true hlt
      have hkl : Hid (k < l.length) := by unfold Hid; rw [← hn.out]; exact hlt
      obtain ⟨g, o, rfl, c1, c2⟩ := H.out.at (k := k) hkl.out
      have ia := fun w' => at_fds g o n c k w' hlt (k : Int) rfl (o + 2 * k) rfl
      have hms : Hid (n - (k + 1) < gk) := by unfold Hid; omega
      have hk1 : Hid (k + 1 + (n - (k + 1)) = n) := by unfold Hid; omega
      have hat := Lib.hid (ahd_take l k hkl.out)
      have okE : Hid (okAt l k = (!col (l.getD k nF).1 || ((!b) && (getS l (l.getD k nF).1).isSome && known (l.getD k nF).1))) := by unfold Hid; rw [hb.out, Bool.not_not]; rfl
      have next : Hid (okAt l k = true → ∀ i, i < k + 1 → okAt l i = true) := fun q i hi => by
        rcases Nat.lt_or_ge i k with r | r
        · exact hok.out i r
        · obtain rfl : i = k := by omega
          exact q
      have bad : Hid (okAt l k = false → E = false) := fun q => by rw [hE.out, marked_no hkl.out q]
      obtain ⟨X, hX⟩ : ∃ X, getV l (l.getD k nF).1 = .tuple #[.string X, .bool (getS l (l.getD k nF).1).isSome] := by
        unfold getV
        cases getS l (l.getD k nF).1 with
        | none => exact ⟨_, rfl⟩
        | some x => exact ⟨_, rfl⟩
      have GE : Hid (Calls Tryd.prog 20 #[.slice (some ⟨g, o, none⟩) n c, .string (strL (l.getD k nF).1)] w fun e w'' => e = .returned (.tuple #[.string X, .bool (getS l (l.getD k nF).1).isSome]) ∧ w = w'') := by
        have := GET.out w (l.getD k nF).1 (by rw [hn.out]; exact H.out)
        rwa [hX] at this
      clear hX
      have KN1 : Hid (∀ w, _) := fun w => KN.out (l.getD k nF).1 w
      have ne1 := hne.out k hkl.out
      generalize l.getD k nF = f at *
      obtain ⟨f1, f2⟩ := f
      simp only at c1 c2 hat okE GE KN1 ne1
      obtain ⟨c0, t0, rfl⟩ : ∃ c0 t0, f1 = c0 :: t0 := by
        cases f1 with
        | nil => exact absurd rfl ne1
        | cons c0 t0 => exact ⟨c0, t0, rfl⟩
      have iz := at_zero c0 t0
      have cc := col_cons c0 t0
      have hb2 := hb
      clear hk hk0 hb hok GET KN ne1
      generalize (getS l (c0 :: t0)).isSome = s at *
      obtain ⟨kn, hkn⟩ : ∃ kn, kn = known (c0 :: t0) := ⟨_, rfl⟩
      rw [← hkn] at KN1 okE
      clear hkn
      obtain ⟨cl, hcl⟩ : ∃ cl, cl = col (c0 :: t0) := ⟨_, rfl⟩
      rw [← hcl] at cc okE hat
      clear hcl
      generalize strL (c0 :: t0) = S at *
      generalize strL f2 = S2 at *
      obtain ⟨x, hx⟩ : ∃ x : Int, x = (c0.toNat : Int) := ⟨_, rfl⟩
      rw [← hx] at iz cc
      clear hx
      cases cl
      · have b2 : Hid (true = !ahd (l.take (k + 1))) := by unfold Hid; rw [hat.out, Bool.and_false]; rfl
        have nx : Hid (∀ i, i < k + 1 → okAt l i = true) := next.out okE.out
        clear okE hat GE KN1
        simp only [Bool.not_false] at cc
        go_wp2_with fail
        go_roundg (n - (k + 1))
        case measure => exact hms.out
        case rel => exact ⟨k + 1, true, hk1, by go_num, rfl, b2, nx, rfl⟩
      · have b2 : Hid (b = !ahd (l.take (k + 1))) := by unfold Hid; rw [hat.out, Bool.and_true]; exact hb2.out
        simp only [Bool.not_true] at cc
        go_wp2_with fail
        refine GE.out.mono ?_
        rintro e w2 ⟨rfl, rfl⟩
        clear GE hat
        cases b
        · go_wp2_with fail
          refine (KN1.out w).mono ?_
          rintro e w3 ⟨rfl, rfl⟩
          cases kn
          · have bd : Hid (E = false) := bad.out (by rw [okE.out]; cases s <;> rfl)
            clear okE bad next KN1
            go_wp2_with fail
            go_ret
            exact ⟨by rw [bd.out]; rfl, Below.refl _ _⟩
          · cases s
            · have bd : Hid (E = false) := bad.out okE.out
              clear okE bad next KN1
              go_wp2_with fail
              go_ret
              exact ⟨by rw [bd.out]; rfl, Below.refl _ _⟩
            · have nx : Hid (∀ i, i < k + 1 → okAt l i = true) := next.out okE.out
              clear okE bad next KN1
              go_wp2_with fail
              go_roundg (n - (k + 1))
              case measure => exact hms.out
              case rel => exact ⟨k + 1, false, hk1, by go_num, rfl, b2, nx, rfl⟩
        · have bd : Hid (E = false) := bad.out okE.out
          clear okE bad next KN1
          go_wp2_with fail
          go_ret
          exact ⟨by rw [bd.out]; rfl, Below.refl _ _⟩
    · have g1 : decide ((k : Int) < (n : Int)) = false := decide_eq_false (by omega)
      have g1' : decide (k < n) = false := decide_eq_false hlt
      have E0 : Hid (E = true) := by
        unfold Hid
        rw [hE.out, (marked_iff l).2 (fun i hi => hok.out i (by rw [← hn.out] at hi; omega))]
      go_wp2_with fail
      go_ret
      exact ⟨by rw [E0.out]; rfl, Below.refl _ _⟩
end Go.Proofs.YtojfcflkanohoaaDoor
