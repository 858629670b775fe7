/-
  The law ReplayOnce returns true for every row of numbers and every number: no number is seen twice. No condition.
-/
import Derived.Test.YtjdkmjpajijkdaaRpInv
import Derived.Test.YtjdkmjpajijkdaaRpOpen
import Derived.LaidLaws
namespace Go.Proofs.Ytjdkmjpajijkdaa.replayOnce
set_option maxRecDepth 100000
open Go.ChangeShapes Go.WideShapes Go.ChangeAt Go.RowKit
open Go.ChangeMaps (open_string shut_string)

set_option maxHeartbeats 8000000 in
theorem walk_some (f : Nat → Int) (b off m cap M : Nat) (n : Int) (w : World) (hb : b < w.heap.size) (hm : m ≤ 9223372036854775807) (hM : (M = m ∧ m ≤ 200) ∨ (M = 200 ∧ 200 < m))
    (hc : ∀ i, i < m → w.cell? ⟨b, off + i, none⟩ = some (.int .i64 (f i))) :
    Calls Try.prog 4 #[.slice (some ⟨b, off, none⟩) m cap, .int .i64 n] w fun e w' => e = .returned (.bool true) ∧ Below w.heap.size w w' := by
  have hMn : M ≤ m ∧ M ≤ 200 := by omega
  replace hc : Hid _ := hc
  have WO : Hid (∀ w, _) := works_ok
  have NA : Hid (∀ w', Below w.heap.size w w' → _) := fun w' b => winv_new w w' b
  go_enter Try.func4, Try.ntmps4
  go_wp2_with fail
  refine (WO.out _).mono ?_
  rintro e w1 ⟨rfl, b1⟩
  have Z1 := Lib.hid b1
  clear b1 WO
  go_wp2_with fail
  refine (NA.out _ Z1.out).mono ?_
  rintro e w2 ⟨B, rfl, n2⟩
  have N2 : Hid (WInv w w2 B []) := n2
  clear n2 NA Z1
  go_wp2_with fail
  go_loopg [6, 7] M (fun g sv iv wr => ∃ (i c : Nat) (L : List Int), i + g = M ∧ iv = .int .i64 i ∧ sv = .int .i64 c ∧ c ≤ 1 ∧ Hid (c = 0 ↔ n ∉ L) ∧ Hid (WInv w wr B L))
  case atStart => exact ⟨0, 0, [], by omega, rfl, rfl, by omega, by unfold Hid; simp, N2⟩
  case round =>
    clear N2
    obtain ⟨i, c, L, hi, rfl, rfl, hc1, C1, N⟩ := hrel
    by_cases hlt : i < M
    · have q1 : decide (i < m) = true := decide_eq_true (by omega)
      have q2 : decide ((i : Int) < 200) = true := decide_eq_true (by omega)
      have q3 : decide (i < 200) = true := decide_eq_true (by omega)
      have CK : Hid (∀ w', WInv w w' B L → _) := fun w' h => winv_check n h
      have SE : Hid (∀ w', WInv w w' B L → _) := fun w' h => winv_see n h
      have ia := fun w' => at_i64s b off m cap i w' (by omega) (i : Int) rfl (off + i) rfl
      go_wp2_with fail
      refine (CK.out _ N.out).mono ?_
      rintro e w3 ⟨rfl, n3⟩
      have N3 := Lib.hid n3
      clear n3 N
      go_wp2_with fail
      refine (CK.out _ N3.out).mono ?_
      rintro e w4 ⟨rfl, n4⟩
      have N4 := Lib.hid n4
      clear n4 N3 CK
      have gq : (chk L n != chk L n) = false := by simp
      go_wp2_with fail
      refine (SE.out _ N4.out).mono ?_
      rintro e w5 ⟨rfl, n5⟩
      have N5' := Lib.hid n5
      have c5 := (n5.bel.cell (p := ⟨b, off + i, none⟩) hb).trans (hc.out i (by omega))
      clear n5 SE N4 gq
      by_cases hA : chk L n = 0
      · have e1 : nxt L n = L ++ [n] := if_pos hA
        have gA : (chk L n == 0) = true := by rw [hA]; rfl
        have hc0 : c = 0 := C1.out.2 (chk_zero.1 hA).2.2
        subst hc0
        rw [e1] at N5'
        have N5 : Hid (WInv w w5 B (L ++ [n])) := N5'
        have C2 : Hid (1 = 0 ↔ n ∉ L ++ [n]) := by unfold Hid; simp
        clear N5' e1 C1
        rw [hA]
        have S2 : Hid (∀ w', WInv w w' B (L ++ [n]) → _) := fun w' h => winv_see (f i) h
        go_wp2_with fail
        refine (S2.out _ N5.out).mono ?_
        rintro e w6 ⟨rfl, n6⟩
        have N6' := Lib.hid n6
        have c6 := (n6.bel.cell (p := ⟨b, off + i, none⟩) hb).trans (hc.out i (by omega))
        clear n6 S2 N5 c5
        by_cases hB : chk (L ++ [n]) (f i) = 0
        · have e2 : nxt (L ++ [n]) (f i) = (L ++ [n]) ++ [f i] := if_pos hB
          have gB : (chk (L ++ [n]) (f i) == 0) = true := by rw [hB]; rfl
          have fr := (chk_zero.1 hB).2.2
          rw [e2] at N6'
          have N6 : Hid (WInv w w6 B ((L ++ [n]) ++ [f i])) := N6'
          clear N6' e2
          by_cases hx : f i = n
          · have gx : (f i == n) = true := by simpa using hx
            have C3 : Hid (1 + 1 = 0 ↔ n ∉ (L ++ [n]) ++ [f i]) := by unfold Hid; rw [hx]; simp
            have hc0 : 1 = 0 := C2.out.2 (fun q => fr (by rw [hx]; exact q))
            clear C2 fr
            rw [hB]
            go_wp2_with fail
            go_roundg (M - (i + 1))
            case measure => omega
            case rel => exact ⟨i + 1, 1 + 1, (L ++ [n]) ++ [f i], by omega, by go_num, by go_num, by omega, C3, N6⟩
          · have gx : (f i == n) = false := by simpa using hx
            have C3 : Hid (1 = 0 ↔ n ∉ (L ++ [n]) ++ [f i]) := by
              unfold Hid
              rw [C2.out]
              simp only [List.mem_append, List.mem_singleton, not_or]
              exact ⟨fun h => ⟨h, fun e => hx e.symm⟩, fun h => h.1⟩
            clear C2 fr
            rw [hB]
            go_wp2_with fail
            go_roundg (M - (i + 1))
            case measure => omega
            case rel => exact ⟨i + 1, 1, (L ++ [n]) ++ [f i], by omega, by go_num, by go_num, by omega, C3, N6⟩
        · have e2 : nxt (L ++ [n]) (f i) = (L ++ [n]) := if_neg hB
          have gB : (chk (L ++ [n]) (f i) == 0) = false := by simpa using hB
          rw [e2] at N6'
          have N6 : Hid (WInv w w6 B (L ++ [n])) := N6'
          have C3 := C2
          clear N6' e2 C2
          generalize chk (L ++ [n]) (f i) = A2 at *
          go_wp2_with fail
          go_roundg (M - (i + 1))
          case measure => omega
          case rel => exact ⟨i + 1, 1, L ++ [n], by omega, by go_num, by go_num, by omega, C3, N6⟩
      · have e1 : nxt L n = L := if_neg hA
        have gA : (chk L n == 0) = false := by simpa using hA
        rw [e1] at N5'
        have N5 : Hid (WInv w w5 B L) := N5'
        have C2 := C1
        clear N5' e1 C1
        have S2 : Hid (∀ w', WInv w w' B (L) → _) := fun w' h => winv_see (f i) h
        go_wp2_with fail
        refine (S2.out _ N5.out).mono ?_
        rintro e w6 ⟨rfl, n6⟩
        have N6' := Lib.hid n6
        have c6 := (n6.bel.cell (p := ⟨b, off + i, none⟩) hb).trans (hc.out i (by omega))
        clear n6 S2 N5 c5
        by_cases hB : chk (L) (f i) = 0
        · have e2 : nxt (L) (f i) = (L) ++ [f i] := if_pos hB
          have gB : (chk (L) (f i) == 0) = true := by rw [hB]; rfl
          have fr := (chk_zero.1 hB).2.2
          rw [e2] at N6'
          have N6 : Hid (WInv w w6 B ((L) ++ [f i])) := N6'
          clear N6' e2
          by_cases hx : f i = n
          · have gx : (f i == n) = true := by simpa using hx
            have C3 : Hid (c + 1 = 0 ↔ n ∉ (L) ++ [f i]) := by unfold Hid; rw [hx]; simp
            have hc0 : c = 0 := C2.out.2 (fun q => fr (by rw [hx]; exact q))
            clear C2 fr
            rw [hB]
            go_wp2_with fail
            go_roundg (M - (i + 1))
            case measure => omega
            case rel => exact ⟨i + 1, c + 1, (L) ++ [f i], by omega, by go_num, by go_num, by omega, C3, N6⟩
          · have gx : (f i == n) = false := by simpa using hx
            have C3 : Hid (c = 0 ↔ n ∉ (L) ++ [f i]) := by
              unfold Hid
              rw [C2.out]
              simp only [List.mem_append, List.mem_singleton, not_or]
              exact ⟨fun h => ⟨h, fun e => hx e.symm⟩, fun h => h.1⟩
            clear C2 fr
            rw [hB]
            go_wp2_with fail
            go_roundg (M - (i + 1))
            case measure => omega
            case rel => exact ⟨i + 1, c, (L) ++ [f i], by omega, by go_num, by go_num, by omega, C3, N6⟩
        · have e2 : nxt (L) (f i) = (L) := if_neg hB
          have gB : (chk (L) (f i) == 0) = false := by simpa using hB
          rw [e2] at N6'
          have N6 : Hid (WInv w w6 B (L)) := N6'
          have C3 := C2
          clear N6' e2 C2
          generalize chk (L) (f i) = A2 at *
          go_wp2_with fail
          go_roundg (M - (i + 1))
          case measure => omega
          case rel => exact ⟨i + 1, c, L, by omega, by go_num, by go_num, by omega, C3, N6⟩
    · clear hc
      by_cases hin : i < m
      · have q1 : decide (i < m) = true := decide_eq_true hin
        have q2 : decide ((i : Int) < 200) = false := decide_eq_false (by omega)
        have q3 : decide (i < 200) = false := decide_eq_false (by omega)
        have q9 : decide ((c : Int) ≤ 1) = true := decide_eq_true (by omega)
        have q8 : decide (c ≤ 1) = true := decide_eq_true (by omega)
        go_wp2_with fail
        go_ret
        exact ⟨rfl, N.out.bel⟩
      · have q1 : decide (i < m) = false := decide_eq_false hin
        have q9 : decide ((c : Int) ≤ 1) = true := decide_eq_true (by omega)
        have q8 : decide (c ≤ 1) = true := decide_eq_true (by omega)
        go_wp2_with fail
        go_ret
        exact ⟨rfl, N.out.bel⟩

set_option maxHeartbeats 2000000 in
theorem walk_none (a : Option Addr) (m cap : Nat) (n : Int) (hm : m = 0) (w : World) :
    Calls Try.prog 4 #[.slice a m cap, .int .i64 n] w fun e w' => e = .returned (.bool true) ∧ Below w.heap.size w w' := by
  have WO : Hid (∀ w, _) := works_ok
  have NA : Hid (∀ w', Below w.heap.size w w' → _) := fun w' b => winv_new w w' b
  go_enter Try.func4, Try.ntmps4
  go_wp2_with fail
  refine (WO.out _).mono ?_
  rintro e w1 ⟨rfl, b1⟩
  have Z1 := Lib.hid b1
  clear b1 WO
  go_wp2_with fail
  refine (NA.out _ Z1.out).mono ?_
  rintro e w2 ⟨B, rfl, n2⟩
  have N2 : Hid (WInv w w2 B []) := n2
  clear n2 NA Z1
  go_wp2_with fail
  go_loopg [6, 7] 0 (fun g sv iv wr => ∃ (i c : Nat) (L : List Int), i + g = 0 ∧ iv = .int .i64 i ∧ sv = .int .i64 c ∧ c ≤ 1 ∧ Hid (c = 0 ↔ n ∉ L) ∧ Hid (WInv w wr B L))
  case atStart => exact ⟨0, 0, [], by omega, rfl, rfl, by omega, by unfold Hid; simp, N2⟩
  case round =>
    clear N2
    obtain ⟨i, c, L, hi, rfl, rfl, hc1, C1, N⟩ := hrel
    have q1 : decide (i < m) = false := decide_eq_false (by omega)
    have q9 : decide ((c : Int) ≤ 1) = true := decide_eq_true (by omega)
    have q8 : decide (c ≤ 1) = true := decide_eq_true (by omega)
    go_wp2_with fail
    go_ret
    exact ⟨rfl, N.out.bel⟩

theorem walk (a : Option Addr) (m cap : Nat) (f : Nat → Int) (n : Int) (w : World) (hm : m ≤ maxLen) (hs : Nums w a m f) :
    Calls Try.prog 4 #[.slice a m cap, .int .i64 n] w fun e w' => e = .returned (.bool true) ∧ Below w.heap.size w w' := by
  have hm' : m ≤ 9223372036854775807 := by unfold maxLen at hm; omega
  rcases hs with h0 | ⟨b, off, rfl, hb, hc⟩
  · exact walk_none a m cap n h0 w
  · by_cases h : m ≤ 200
    · exact walk_some f b off m cap m n w hb hm' (.inl ⟨rfl, h⟩) hc
    · exact walk_some f b off m cap 200 n w hb hm' (.inr ⟨rfl, by omega⟩) hc

theorem contract (H : Type) (enc : TypeId × Value → H) (W : World) (base : Nat) (args : Array Value) (ds gs : List (DataW H)) (before : List MemPlace)
    (hval : ∀ (j : Nat) t v, Try.f4.params[j]? = some t → args[j]? = some v → Value.okWide Try.prog W .any base t v)
    (hW : DataW.Whole enc Try.prog Try.f4.params.toList Rows.replayOnceSpec.vars false W args.toList ds gs before) :
    Calls Try.prog 4 args W fun e W' => ∃ v, e = .returned v ∧ Rows.replayOnceSpec.post enc Try.prog Try.f4 false true false false W args v W' := by
  have hW' := hW
  obtain ⟨p, q, hA0, hV, rfl, hfz, hnd⟩ := hW
  have hA : DataW.TrodAll enc Try.prog W 0 (fun _ => true) true Try.f4.params.toList args.toList ds p := hA0
  rw [Try.params4] at hA hval
  obtain ⟨v0, vs0, d0, ds0, p0, q0, hargs, rfl, rfl, h0, r0⟩ := trodAll_cons hA
  obtain ⟨v1, vs1, d1, ds1, p1, q1, rfl, rfl, rfl, h1, r1⟩ := trodAll_cons r0
  obtain ⟨rfl, rfl, rfl⟩ := trodAll_nil r1
  obtain rfl : args = #[v0, v1] := by cases args; simp_all
  obtain ⟨rfl, rfl⟩ := trodVars_none hV
  have k0 := h0
  have lt0 : ∀ x ∈ p0, x.block < W.heap.size := by obtain ⟨m, hm⟩ := k0; exact DataW.trod_lt m _ _ _ hm
  obtain ⟨a0, n0, c0, f0, rfl, hn0, hz0, hs0⟩ := open_i64s Try.underlying22 Try.underlying2 (by kernel_rfl) (hval 0 22 v0 rfl rfl) h0
  obtain ⟨a1, rfl, rfl, rfl, w1⟩ := open_int Try.underlying2 (hval 1 2 v1 rfl rfl) h1
  have b1 := bounds_i64 w1
  clear hA0
  simp only [List.append_nil] at hW'
  refine (walk a0 n0 c0 f0 a1 W hn0 hs0).mono fun e W' ⟨he, bel⟩ => ?_
  subst he
  exact ⟨_, rfl, _, _, _, [], _, [], hW', trodAll_mk1 (shut_bool Try.underlying4 _), (trodAll_cons_mk (Below.trod laidOut (by kernel_rfl) (of_decide_eq_true (by kernel_rfl)) k0 bel lt0) (trodAll_cons_mk (shut_int Try.underlying2 w1) trodAll_mk0)), rfl, bel.frame _, fun h => by cases h⟩

theorem laid_met (os : Os) : laidMet Try.prog Rows.replayOnceRow.laid ((startWorld Try.prog os).forCall (fun _ _ => 0) ⟨#[], #[.slice none 0 0, .int .i64 0], []⟩).memory :=
  laidMet_of_run' 8 (by kernel_rfl) (by kernel_rfl)
theorem reads (os : Os) {H : Type} (enc : TypeId × Value → H) : ∃ places, DataW.whole enc Try.prog ((startWorld Try.prog os).forCall (fun _ _ => 0) ⟨#[], #[.slice none 0 0, .int .i64 0], []⟩).memory Try.f4.params.toList Rows.replayOnceSpec.vars false #[Value.slice none 0 0, Value.int .i64 0].toList 8 = some ([.nil, .lit (.int .i64 0)], [], places) :=
  ⟨[], by kernel_rfl⟩

set_option maxRecDepth 100000 in
theorem lifted (os : Os) (started : os.Started) (H : Type) (enc : TypeId × Value → H) (F : Stop.Interp) :
    ReturnsInHanded {} Try.checked os 4 .any ((OpenSpec.ofChange Rows.replayOnceSpec).preRow enc Try.prog Try.f4 Rows.replayOnceRow.domain false Rows.replayOnceRow.laid) (((OpenSpec.ofChange Rows.replayOnceSpec).at F).post enc Try.prog Try.f4 false true false false) := by
  obtain ⟨places, hx⟩ := reads os enc
  refine returnsInHanded_of_row (C := Try.checked) (s := OpenSpec.ofChange Rows.replayOnceSpec) own started (by kernel_rfl) Try.func4
    (witness_row_at (enc := enc) (C := Try.checked) false (startWorld Try.prog os) #[.slice none 0 0, .int .i64 0] rfl (by kernel_rfl) (by kernel_rfl) (by kernel_rfl)
      (OpenSpec.preRow_of_cond 8 hx (by kernel_rfl) (fun k hk => by cases hk) (by kernel_rfl) (laid_met os))) ?_
  intro W base args ds gs before hval hW _ _ _ _ _ _
  exact contract H enc W base args ds gs before hval hW

theorem said : Rows.ReplayOnceSaid :=
  OpenClaim.holds_of_cond 4 Try.f4 rfl rfl rfl rfl rfl rfl rfl ⟨rfl, rfl, rfl, rfl, rfl⟩ rfl rfl rfl rfl rfl (by kernel_rfl) Try.func4 (by kernel_rfl)
    (of_decide_eq_true (by kernel_rfl)) (by unfold Func.isWrapper; first | (rw [if_pos (by decide +kernel)]; kernel_rfl) | (rw [if_neg (by decide +kernel)]; exact ⟨rfl, rfl⟩))
    (fun os started H enc _ F => by rw [OpenClaim.pre_eq_preRow]; exact lifted os started H enc F)
end Go.Proofs.Ytjdkmjpajijkdaa.replayOnce
namespace Go.Proofs.Ytjdkmjpajijkdaa
theorem replayOnce_said : Rows.ReplayOnceSaid := replayOnce.said
end Go.Proofs.Ytjdkmjpajijkdaa
