/-
  The law ReplayRises returns true for every first number and every row of steps: numbers that rise are all seen. No condition.
-/
import Derived.Test.YtjdkmjpajijkdaaRpInv
import Derived.Test.YtjdkmjpajijkdaaRpOpen
import Derived.LaidLaws
namespace Go.Proofs.Ytjdkmjpajijkdaa.replayRises
set_option maxRecDepth 100000
open Go.ChangeShapes Go.WideShapes Go.ChangeAt Go.RowKit
open Go.ChangeMaps (open_string shut_string)

theorem place (a : Int) (c : Int) (hc : 0 < c) (hc2 : c < 4611686018427387904) : ∃ x : Nat, wrap64 ((IntKind.u64.wrap a).tmod c) = x ∧ (x : Int) < c := by
  have h : 0 ≤ IntKind.u64.wrap a := by rw [IntKind.wrap_u64]; omega
  rw [Int.tmod_eq_emod_of_nonneg h]
  have h1 := Int.emod_nonneg (IntKind.u64.wrap a) (by omega : c ≠ 0)
  have h2 := Int.emod_lt_of_pos (IntKind.u64.wrap a) hc
  refine ⟨(IntKind.u64.wrap a % c).toNat, ?_, by omega⟩
  unfold wrap64
  omega
theorem rise_zero {l : List Int} {n : Int} (h : ∀ x ∈ l, x < n) (h0 : 0 ≤ n) (h1 : n ≤ 4611686018427387903) (hr : InR l) : chk l n = 0 :=
  chk_zero.2 ⟨⟨h0, h1⟩, fun hl => by have := h _ (top_mem hr hl); omega, fun hm => by have := h n hm; omega⟩
theorem rise_old (l : List Int) {n : Int} (h0 : 0 ≤ n) (h1 : n ≤ 4611686018427387903) : chk (l ++ [n]) n = 11 := by
  rw [chk_in h0 h1, if_pos (.inr (by simp))]
set_option maxHeartbeats 4000000 in
theorem walk_some (first : Int) (f : Nat → Int) (b off m cap M : Nat) (w : World) (hb : b < w.heap.size) (hm : m ≤ 9223372036854775807) (hM : (M = m ∧ m ≤ 60) ∨ (M = 60 ∧ 60 < m))
    (hc : ∀ i, i < m → w.cell? ⟨b, off + i, none⟩ = some (.int .i64 (f i))) :
    Calls Try.prog 6 #[.int .i64 first, .slice (some ⟨b, off, none⟩) m cap] w fun e w' => e = .returned (.bool true) ∧ Below w.heap.size w w' := by
  have hMn : M ≤ m ∧ M ≤ 60 := by omega
  replace hc : Hid _ := hc
  obtain ⟨x0, ex0, hx0⟩ := place first 1000 (by decide) (by decide)
  have WO : Hid (∀ w, _) := works_ok
  have NA : Hid (∀ w', Below w.heap.size w w' → _) := fun w' b => winv_new w w' b
  go_enter Try.func6, Try.ntmps6
  go_wp2_with fail
  refine (WO.out _).mono ?_
  rintro e w1 ⟨rfl, b1⟩
  have Z1 := Lib.hid b1
  clear b1 WO
  go_wp2_with fail
  refine (NA.out _ Z1.out).mono ?_
  rintro e w2 ⟨B, rfl, n2⟩
  have N2 : Hid (WInv w w2 B []) := n2
  clear n2 NA Z1
  go_wp2_with fail
  go_loopg [6, 7] M (fun g nv iv wr => ∃ (i : Nat) (n : Int) (l : List Int), i + g = M ∧ iv = .int .i64 i ∧ nv = .int .i64 n ∧ 0 ≤ n ∧ n ≤ 999 + (i : Int) * 1125899906842624 ∧ Hid (∀ x ∈ l, x < n) ∧ Hid (WInv w wr B l))
  case atStart => exact ⟨0, x0, [], by omega, rfl, by rw [ex0], by omega, by omega, fun _ h => (by cases h), N2⟩
  case round =>
    clear N2 ex0 hx0
    obtain ⟨i, n, l, hi, rfl, rfl, hn0, hn1, hall, N⟩ := hrel
    by_cases hlt : i < M
    · have q1 : decide (i < m) = true := decide_eq_true (by omega)
      have q2 : decide ((i : Int) < 60) = true := decide_eq_true (by omega)
      have q3 : decide (i < 60) = true := decide_eq_true (by omega)
      have hnm : n ≤ 4611686018427387903 := by omega
      have ez := rise_zero hall.out hn0 hnm N.out.win.inr
      have eo := rise_old l hn0 hnm
      have en : nxt l n = l ++ [n] := if_pos ez
      have SE : Hid (∀ _ : Unit, _) := fun _ => winv_see n N.out
      rw [ez, en] at SE
      have CK : Hid (∀ w', WInv w w' B (l ++ [n]) → _) := fun w' h => winv_check n h
      rw [eo] at CK
      obtain ⟨x, ex, hx⟩ := place (f i) 1125899906842624 (by decide) (by decide)
      have hall2 : Hid (∀ y ∈ l ++ [n], y < n + 1 + x) := fun y hy => by
        rcases List.mem_append.1 hy with h | h
        · have := hall.out y h; omega
        · rw [List.mem_singleton] at h; omega
      have ia := fun w' => at_i64s b off m cap i w' (by omega) (i : Int) rfl (off + i) rfl
      clear ez eo en hall N
      go_wp2_with fail
      refine (SE.out ()).mono ?_
      rintro e w3 ⟨rfl, n3⟩
      have N3 := Lib.hid n3
      clear n3 SE
      go_wp2_with fail
      refine (CK.out _ N3.out).mono ?_
      rintro e w4 ⟨rfl, n4⟩
      have N4 := Lib.hid n4
      have c4 := (n4.bel.cell (p := ⟨b, off + i, none⟩) hb).trans (hc.out i (by omega))
      clear n4 N3 CK
      go_wp2_with fail
      go_roundg (M - (i + 1))
      case measure => omega
      case rel => exact ⟨i + 1, n + 1 + x, l ++ [n], by omega, by go_num, by go_num, by omega, by omega, hall2, N4⟩
    · clear hc
      by_cases hin : i < m
      · have q1 : decide (i < m) = true := decide_eq_true hin
        have q2 : decide ((i : Int) < 60) = false := decide_eq_false (by omega)
        have q3 : decide (i < 60) = false := decide_eq_false (by omega)
        go_wp2_with fail
        go_ret
        exact ⟨rfl, N.out.bel⟩
      · have q1 : decide (i < m) = false := decide_eq_false hin
        go_wp2_with fail
        go_ret
        exact ⟨rfl, N.out.bel⟩

set_option maxHeartbeats 2000000 in
theorem walk_none (first : Int) (a : Option Addr) (m cap : Nat) (hm : m = 0) (w : World) :
    Calls Try.prog 6 #[.int .i64 first, .slice a m cap] w fun e w' => e = .returned (.bool true) ∧ Below w.heap.size w w' := by
  obtain ⟨x0, ex0, hx0⟩ := place first 1000 (by decide) (by decide)
  have WO : Hid (∀ w, _) := works_ok
  have NA : Hid (∀ w', Below w.heap.size w w' → _) := fun w' b => winv_new w w' b
  go_enter Try.func6, Try.ntmps6
  go_wp2_with fail
  refine (WO.out _).mono ?_
  rintro e w1 ⟨rfl, b1⟩
  have Z1 := Lib.hid b1
  clear b1 WO
  go_wp2_with fail
  refine (NA.out _ Z1.out).mono ?_
  rintro e w2 ⟨B, rfl, n2⟩
  have N2 : Hid (WInv w w2 B []) := n2
  clear n2 NA Z1
  go_wp2_with fail
  go_loopg [6, 7] 0 (fun g nv iv wr => ∃ (i : Nat) (n : Int) (l : List Int), i + g = 0 ∧ iv = .int .i64 i ∧ nv = .int .i64 n ∧ 0 ≤ n ∧ n ≤ 999 + (i : Int) * 1125899906842624 ∧ Hid (∀ x ∈ l, x < n) ∧ Hid (WInv w wr B l))
  case atStart => exact ⟨0, x0, [], by omega, rfl, by rw [ex0], by omega, by omega, fun _ h => (by cases h), N2⟩
  case round =>
    clear N2
    obtain ⟨i, n, l, hi, rfl, rfl, hn0, hn1, hall, N⟩ := hrel
    have q1 : decide (i < m) = false := decide_eq_false (by omega)
    go_wp2_with fail
    go_ret
    exact ⟨rfl, N.out.bel⟩

theorem walk (first : Int) (a : Option Addr) (m cap : Nat) (f : Nat → Int) (w : World) (hm : m ≤ maxLen) (hs : Nums w a m f) :
    Calls Try.prog 6 #[.int .i64 first, .slice a m cap] w fun e w' => e = .returned (.bool true) ∧ Below w.heap.size w w' := by
  have hm' : m ≤ 9223372036854775807 := by unfold maxLen at hm; omega
  rcases hs with h0 | ⟨b, off, rfl, hb, hc⟩
  · exact walk_none first a m cap h0 w
  · by_cases h : m ≤ 60
    · exact walk_some first f b off m cap m w hb hm' (.inl ⟨rfl, h⟩) hc
    · exact walk_some first f b off m cap 60 w hb hm' (.inr ⟨rfl, by omega⟩) hc

theorem contract (H : Type) (enc : TypeId × Value → H) (W : World) (base : Nat) (args : Array Value) (ds gs : List (DataW H)) (before : List MemPlace)
    (hval : ∀ (j : Nat) t v, Try.f6.params[j]? = some t → args[j]? = some v → Value.okWide Try.prog W .any base t v)
    (hW : DataW.Whole enc Try.prog Try.f6.params.toList Rows.replayRisesSpec.vars false W args.toList ds gs before) :
    Calls Try.prog 6 args W fun e W' => ∃ v, e = .returned v ∧ Rows.replayRisesSpec.post enc Try.prog Try.f6 false true false false W args v W' := by
  have hW' := hW
  obtain ⟨p, q, hA0, hV, rfl, hfz, hnd⟩ := hW
  have hA : DataW.TrodAll enc Try.prog W 0 (fun _ => true) true Try.f6.params.toList args.toList ds p := hA0
  rw [Try.params6] at hA hval
  obtain ⟨v0, vs0, d0, ds0, p0, q0, hargs, rfl, rfl, h0, r0⟩ := trodAll_cons hA
  obtain ⟨v1, vs1, d1, ds1, p1, q1, rfl, rfl, rfl, h1, r1⟩ := trodAll_cons r0
  obtain ⟨rfl, rfl, rfl⟩ := trodAll_nil r1
  obtain rfl : args = #[v0, v1] := by cases args; simp_all
  obtain ⟨rfl, rfl⟩ := trodVars_none hV
  obtain ⟨a0, rfl, rfl, rfl, w0⟩ := open_int Try.underlying2 (hval 0 2 v0 rfl rfl) h0
  have b0 := bounds_i64 w0
  have k1 := h1
  have lt1 : ∀ x ∈ p1, x.block < W.heap.size := by obtain ⟨m, hm⟩ := k1; exact DataW.trod_lt m _ _ _ hm
  obtain ⟨a1, n1, c1, f1, rfl, hn1, hz1, hs1⟩ := open_i64s Try.underlying22 Try.underlying2 (by kernel_rfl) (hval 1 22 v1 rfl rfl) h1
  clear hA0
  simp only [List.append_nil] at hW'
  refine (walk a0 a1 n1 c1 f1 W hn1 hs1).mono fun e W' ⟨he, bel⟩ => ?_
  subst he
  exact ⟨_, rfl, _, _, _, [], _, [], hW', trodAll_mk1 (shut_bool Try.underlying4 _), (trodAll_cons_mk (shut_int Try.underlying2 w0) (trodAll_cons_mk (Below.trod laidOut (by kernel_rfl) (of_decide_eq_true (by kernel_rfl)) k1 bel lt1) trodAll_mk0)), rfl, bel.frame _, fun h => by cases h⟩

theorem laid_met (os : Os) : laidMet Try.prog Rows.replayRisesRow.laid ((startWorld Try.prog os).forCall (fun _ _ => 0) ⟨#[], #[.int .i64 0, .slice none 0 0], []⟩).memory :=
  laidMet_of_run' 8 (by kernel_rfl) (by kernel_rfl)
theorem reads (os : Os) {H : Type} (enc : TypeId × Value → H) : ∃ places, DataW.whole enc Try.prog ((startWorld Try.prog os).forCall (fun _ _ => 0) ⟨#[], #[.int .i64 0, .slice none 0 0], []⟩).memory Try.f6.params.toList Rows.replayRisesSpec.vars false #[Value.int .i64 0, Value.slice none 0 0].toList 8 = some ([.lit (.int .i64 0), .nil], [], places) :=
  ⟨[], by kernel_rfl⟩

set_option maxRecDepth 100000 in
theorem lifted (os : Os) (started : os.Started) (H : Type) (enc : TypeId × Value → H) (F : Stop.Interp) :
    ReturnsInHanded {} Try.checked os 6 .any ((OpenSpec.ofChange Rows.replayRisesSpec).preRow enc Try.prog Try.f6 Rows.replayRisesRow.domain false Rows.replayRisesRow.laid) (((OpenSpec.ofChange Rows.replayRisesSpec).at F).post enc Try.prog Try.f6 false true false false) := by
  obtain ⟨places, hx⟩ := reads os enc
  refine returnsInHanded_of_row (C := Try.checked) (s := OpenSpec.ofChange Rows.replayRisesSpec) own started (by kernel_rfl) Try.func6
    (witness_row_at (enc := enc) (C := Try.checked) false (startWorld Try.prog os) #[.int .i64 0, .slice none 0 0] rfl (by kernel_rfl) (by kernel_rfl) (by kernel_rfl)
      (OpenSpec.preRow_of_cond 8 hx (by kernel_rfl) (fun k hk => by cases hk) (by kernel_rfl) (laid_met os))) ?_
  intro W base args ds gs before hval hW _ _ _ _ _ _
  exact contract H enc W base args ds gs before hval hW

theorem said : Rows.ReplayRisesSaid :=
  OpenClaim.holds_of_cond 6 Try.f6 rfl rfl rfl rfl rfl rfl rfl ⟨rfl, rfl, rfl, rfl, rfl⟩ rfl rfl rfl rfl rfl (by kernel_rfl) Try.func6 (by kernel_rfl)
    (of_decide_eq_true (by kernel_rfl)) (by unfold Func.isWrapper; first | (rw [if_pos (by decide +kernel)]; kernel_rfl) | (rw [if_neg (by decide +kernel)]; exact ⟨rfl, rfl⟩))
    (fun os started H enc _ F => by rw [OpenClaim.pre_eq_preRow]; exact lifted os started H enc F)
end Go.Proofs.Ytjdkmjpajijkdaa.replayRises
namespace Go.Proofs.Ytjdkmjpajijkdaa
theorem replayRises_said : Rows.ReplayRisesSaid := replayRises.said
end Go.Proofs.Ytjdkmjpajijkdaa
