/-
  The law AcksWhole returns true for every row of numbers: numbers over others make one range. No condition.
-/
import Derived.Test.YtlbhlmccjieieaaAkWorks
import Derived.Test.YtlbhlmccjieieaaObDraw
import Derived.Test.YtlbhlmccjieieaaAkI64
import Derived.Test.YtlbhlmccjieieaaRpOpen
import Derived.LaidLaws
namespace Go.Proofs.Ytlbhlmccjieieaa.acksWhole
set_option maxRecDepth 100000
open Go.ChangeShapes Go.WideShapes Go.ChangeAt Go.RowKit
open Go.ChangeMaps (open_string shut_string)

theorem enter_add (x y z : Value) (w : World) : (callFunc 11 #[x, y, z]).run Try.prog w = .ok (.enter 11 #[x, y, z]) w := by simp [go_sem]

theorem place (a : Int) (c : Int) (hc : 0 < c) (hc2 : c < 4611686018427387904) : ∃ x : Nat, wrap64 ((IntKind.u64.wrap a).tmod c) = x ∧ (x : Int) < c := by
  have h : 0 ≤ IntKind.u64.wrap a := by rw [IntKind.wrap_u64]; omega
  rw [Int.tmod_eq_emod_of_nonneg h]
  have h1 := Int.emod_nonneg (IntKind.u64.wrap a) (by omega : c ≠ 0)
  have h2 := Int.emod_lt_of_pos (IntKind.u64.wrap a) hc
  refine ⟨(IntKind.u64.wrap a % c).toNat, ?_, by omega⟩
  unfold wrap64
  omega
theorem place2 (a : Int) (c : Int) (hc : 0 < c) (hc2 : c < 4611686018427387904) : ∃ x : Nat, IntKind.i64.wrap ((IntKind.u64.wrap a).tmod c) = x ∧ (x : Int) < c := by
  have h : 0 ≤ IntKind.u64.wrap a := by rw [IntKind.wrap_u64]; omega
  rw [Int.tmod_eq_emod_of_nonneg h]
  have h1 := Int.emod_nonneg (IntKind.u64.wrap a) (by omega : c ≠ 0)
  have h2 := Int.emod_lt_of_pos (IntKind.u64.wrap a) hc
  refine ⟨(IntKind.u64.wrap a % c).toNat, ?_, by omega⟩
  rw [IntKind.wrap_i64]
  omega
theorem addS_le {l : List Rg} (h : ∀ x ∈ l, x.2 ≤ 1000) {v : Int} (hv : v ≤ 1000) : ∀ x ∈ addS l v v, x.2 ≤ 1000 := fun x hx => by
  unfold addS at hx
  split at hx
  · exact add_le l v v 1000 hv h x (List.mem_of_mem_take hx)
  · exact h x hx
theorem addS_whole {l : List Rg} (ok : Ok l) (h : ∀ x ∈ l, x.2 ≤ 1000) : addS l 0 1000 = [(0, 1000)] := by
  unfold addS
  rw [if_pos (by decide), add_whole l 1000 fun x hx => ⟨(ok.1.mem x hx).1, h x hx, (ok.1.mem x hx).2.1⟩]
  rfl
set_option maxHeartbeats 8000000 in
theorem walk_some (f : Nat → Int) (b off m cap M : Nat) (w : World) (hb : b < w.heap.size) (hm : m ≤ 9223372036854775807) (hM : (M = m ∧ m ≤ 60) ∨ (M = 60 ∧ 60 < m))
    (hc : ∀ i, i < m → w.cell? ⟨b, off + i, none⟩ = some (.int .i64 (f i))) :
    Calls Try.prog 7 #[.slice (some ⟨b, off, none⟩) m cap] w fun e w' => e = .returned (.bool true) ∧ Below w.heap.size w w' := by
  have hMn : M ≤ m ∧ M ≤ 60 := by omega
  replace hc : Hid _ := hc
  have WO : Hid (∀ w, _) := works_ok
  have NA : Hid (∀ w', Below w.heap.size w w' → _) := fun w' b => pinv_new w w' b
  go_enter Try.func7, Try.ntmps7
  go_wp2_with fail
  refine (WO.out _).mono ?_
  rintro e w1 ⟨rfl, b1⟩
  have Z1 := Lib.hid b1
  clear b1 WO
  go_wp2_with fail
  refine (NA.out _ Z1.out).mono ?_
  rintro e w2 ⟨B, F0, rfl, n2, -⟩
  have N2 : Hid (PInv w w2 B F0 []) := n2
  clear n2 NA Z1
  go_wp2_with fail
  go_loopg [4] M (fun g iv wr => ∃ (i : Nat) (F : Nat → Prop) (L : List Rg), i + g = M ∧ iv = .int .i64 i ∧ Hid (∀ x ∈ L, x.2 ≤ 1000) ∧ Hid (PInv w wr B F L))
  case atStart => exact ⟨0, F0, [], by omega, rfl, fun _ h => (by cases h), N2⟩
  case round =>
    clear N2
    obtain ⟨i, F, L, hi, rfl, hL, N⟩ := hrel
    by_cases hlt : i < M
    · have q1 : decide (i < m) = true := decide_eq_true (by omega)
      have q2 : decide ((i : Int) < 60) = true := decide_eq_true (by omega)
      have q3 : decide (i < 60) = true := decide_eq_true (by omega)
      have ia := fun w' => at_i64s b off m cap i w' (by omega) (i : Int) rfl (off + i) rfl
      obtain ⟨x, ex, hx⟩ := place2 (f i) 1000 (by decide) (by decide)
      have AD : Hid (∀ w', PInv w w' B F L → Calls Try.prog 11 #[.pointer (some ⟨B, 0, none⟩), .int .i64 (x : Int), .int .i64 (x : Int)] w' fun e w'' => e = .returned (.int .i64 (addE x x)) ∧ ∃ F', PInv w w'' B F' (addS L x x)) := fun w' h => (pinv_add h ⟨by omega, by omega⟩ ⟨by omega, by omega⟩).mono fun _ _ ⟨e, F', h, _⟩ => ⟨e, F', h⟩
      go_wp2_with fail
      refine wp_region_held (S := fun w' => w'.cell? ⟨b, off + i, none⟩ = some (.int .i64 (f i))) (by kernel_rfl) ?_
      change wpAnyH _ .any _ _ _ 16 (Array.replicate 16 false) _ wr.drew
      have hS : wr.drew.cell? ⟨b, off + i, none⟩ = some (.int .i64 (f i)) := (N.out.bel.cell (p := ⟨b, off + i, none⟩) hb).trans (hc.out i (by omega))
      have N3 : Hid (PInv w wr.drew B F L) := N.out.keep (drewB _ _)
      clear N
      refine obTakeH (i := 0) (d := 19) (v := .pointer (some ⟨B, 0, none⟩)) rfl rfl (by kernel_rfl) (by kernel_rfl) (by kernel_rfl) (fun _ _ _ h => h) rfl (fun w hS => by obtain s1 := hS; go_simp) hS ?_
      refine obTakeH (i := 1) (d := 20) (v := (.slice (some ⟨b, off, none⟩) m cap)) rfl rfl (by kernel_rfl) (by kernel_rfl) (by kernel_rfl) (fun _ _ _ h => h) rfl (fun w hS => by obtain s1 := hS; go_simp) hS ?_
      refine obTakeH (i := 2) (d := 21) (v := .int .i64 (i : Int)) rfl rfl (by kernel_rfl) (by kernel_rfl) (by kernel_rfl) (fun _ _ _ h => h) rfl (fun w hS => by obtain s1 := hS; go_simp) hS ?_
      refine obTakeH (i := 3) (d := 22) (v := .pointer (some ⟨b, off + i, none⟩)) rfl rfl (by kernel_rfl) (by kernel_rfl) (by kernel_rfl) (fun _ _ _ h => h) rfl (fun w hS => by obtain s1 := hS; go_simp) hS ?_
      refine obTakeH (i := 4) (d := 23) (v := .int .i64 (f i)) rfl rfl (by kernel_rfl) (by kernel_rfl) (by kernel_rfl) (fun _ _ _ h => h) rfl (fun w hS => by obtain s1 := hS; go_simp) hS ?_
      refine obTakeH (i := 5) (d := 24) (v := .int .u64 (IntKind.u64.wrap (f i))) rfl rfl (by kernel_rfl) (by kernel_rfl) (by kernel_rfl) (fun _ _ _ h => h) rfl (fun w hS => by obtain s1 := hS; go_simp) hS ?_
      refine obTakeH (i := 6) (d := 25) (v := .int .u64 ((IntKind.u64.wrap (f i)).tmod 1000)) rfl rfl (by kernel_rfl) (by kernel_rfl) (by kernel_rfl) (fun _ _ _ h => h) rfl (fun w hS => by obtain s1 := hS; go_simp) hS ?_
      refine obTakeH (i := 7) (d := 26) (v := .int .i64 (x : Int)) rfl rfl (by kernel_rfl) (by kernel_rfl) (by kernel_rfl) (fun _ _ _ h => h) rfl (fun w hS => by obtain s1 := hS; go_simp <;> exact ex) hS ?_
      refine obTakeH (i := 8) (d := 27) (v := (.slice (some ⟨b, off, none⟩) m cap)) rfl rfl (by kernel_rfl) (by kernel_rfl) (by kernel_rfl) (fun _ _ _ h => h) rfl (fun w hS => by obtain s1 := hS; go_simp) hS ?_
      refine obTakeH (i := 9) (d := 28) (v := .int .i64 (i : Int)) rfl rfl (by kernel_rfl) (by kernel_rfl) (by kernel_rfl) (fun _ _ _ h => h) rfl (fun w hS => by obtain s1 := hS; go_simp) hS ?_
      refine obTakeH (i := 10) (d := 29) (v := .pointer (some ⟨b, off + i, none⟩)) rfl rfl (by kernel_rfl) (by kernel_rfl) (by kernel_rfl) (fun _ _ _ h => h) rfl (fun w hS => by obtain s1 := hS; go_simp) hS ?_
      refine obTakeH (i := 11) (d := 30) (v := .int .i64 (f i)) rfl rfl (by kernel_rfl) (by kernel_rfl) (by kernel_rfl) (fun _ _ _ h => h) rfl (fun w hS => by obtain s1 := hS; go_simp) hS ?_
      refine obTakeH (i := 12) (d := 31) (v := .int .u64 (IntKind.u64.wrap (f i))) rfl rfl (by kernel_rfl) (by kernel_rfl) (by kernel_rfl) (fun _ _ _ h => h) rfl (fun w hS => by obtain s1 := hS; go_simp) hS ?_
      refine obTakeH (i := 13) (d := 32) (v := .int .u64 ((IntKind.u64.wrap (f i)).tmod 1000)) rfl rfl (by kernel_rfl) (by kernel_rfl) (by kernel_rfl) (fun _ _ _ h => h) rfl (fun w hS => by obtain s1 := hS; go_simp) hS ?_
      refine obTakeH (i := 14) (d := 33) (v := .int .i64 (x : Int)) rfl rfl (by kernel_rfl) (by kernel_rfl) (by kernel_rfl) (fun _ _ _ h => h) rfl (fun w hS => by obtain s1 := hS; go_simp <;> exact ex) hS ?_
      simp only [Act.put, List.setIfInBounds_toArray, List.set_cons_succ, List.set_cons_zero]
      clear ia ex
      refine wpAnyH_all (rs := [15]) (by kernel_rfl) (by simp) (fun j hj => ?_)
      obtain rfl : j = 15 := by simpa using hj
      refine wpOp_step rfl (fun K' hK => ?_)
      clear hj
      refine obCall3 (k1 := 19) (k2 := 26) (k3 := 33) (d := 34) (x1 := .pointer (some ⟨B, 0, none⟩)) (x2 := .int .i64 (x : Int)) (x3 := .int .i64 (x : Int)) 11 _ rfl rfl _ _ _ _ (enter_add _ _ _) rfl rfl rfl (AD.out _ N3.out) (fun e w5 hR => ?_)
      obtain ⟨rfl, F5, n5⟩ := hR
      refine ⟨_, rfl, hK _ _ ⟨?_, ?_⟩⟩
      · exact (n5.bel.cell (p := ⟨b, off + i, none⟩) hb).trans (hc.out i (by omega))
      clear hK K'
      have N5 := Lib.hid n5
      clear n5 N3 AD hS
      simp only [Act.put, List.setIfInBounds_toArray, List.set_cons_succ, List.set_cons_zero]
      refine wpAnyH_done (by kernel_rfl) ?_ 0
      go_wp2_with fail
      go_roundg (M - (i + 1))
      case measure => omega
      case rel => exact ⟨i + 1, F5, addS L x x, by omega, by go_num, addS_le hL.out (by omega), N5⟩
    · clear hc
      by_cases hin : i < m
      · have q1 : decide (i < m) = true := decide_eq_true hin
        have q2 : decide ((i : Int) < 60) = false := decide_eq_false (by omega)
        have q3 : decide (i < 60) = false := decide_eq_false (by omega)
        have AF : Hid (∀ _ : Unit, _) := fun _ => (pinv_add (lo := 0) (hi := 1000) N.out ⟨by decide, by decide⟩ ⟨by decide, by decide⟩)
        rw [addS_whole N.out.ok hL.out] at AF
        go_wp2_with fail
        refine (AF.out ()).mono ?_
        rintro e w6 ⟨rfl, F6, n6, -⟩
        have N6 := Lib.hid n6
        clear n6 AF N hL
        have e0 : addE 0 1000 = 0 := rfl
        rw [e0]
        clear e0
        go_wp2_with fail
        refine (pinv_ranges N6.out).mono ?_
        rintro e w7 ⟨v, rfl, ho, b7⟩
        obtain ⟨g1, o1, cap1, rfl, d1, d2⟩ := ho.one
        have N7 := Lib.hid (N6.out.keep b7)
        clear ho b7 N6
        simp only at d1 d2
        go_wp2_with fail
        go_ret
        exact ⟨rfl, N7.out.bel⟩
      · have q1 : decide (i < m) = false := decide_eq_false hin
        have AF : Hid (∀ _ : Unit, _) := fun _ => (pinv_add (lo := 0) (hi := 1000) N.out ⟨by decide, by decide⟩ ⟨by decide, by decide⟩)
        rw [addS_whole N.out.ok hL.out] at AF
        go_wp2_with fail
        refine (AF.out ()).mono ?_
        rintro e w6 ⟨rfl, F6, n6, -⟩
        have N6 := Lib.hid n6
        clear n6 AF N hL
        have e0 : addE 0 1000 = 0 := rfl
        rw [e0]
        clear e0
        go_wp2_with fail
        refine (pinv_ranges N6.out).mono ?_
        rintro e w7 ⟨v, rfl, ho, b7⟩
        obtain ⟨g1, o1, cap1, rfl, d1, d2⟩ := ho.one
        have N7 := Lib.hid (N6.out.keep b7)
        clear ho b7 N6
        simp only at d1 d2
        go_wp2_with fail
        go_ret
        exact ⟨rfl, N7.out.bel⟩

set_option maxHeartbeats 4000000 in
theorem walk_none (a : Option Addr) (m cap : Nat) (hm : m = 0) (w : World) :
    Calls Try.prog 7 #[.slice a m cap] w fun e w' => e = .returned (.bool true) ∧ Below w.heap.size w w' := by
  have WO : Hid (∀ w, _) := works_ok
  have NA : Hid (∀ w', Below w.heap.size w w' → _) := fun w' b => pinv_new w w' b
  go_enter Try.func7, Try.ntmps7
  go_wp2_with fail
  refine (WO.out _).mono ?_
  rintro e w1 ⟨rfl, b1⟩
  have Z1 := Lib.hid b1
  clear b1 WO
  go_wp2_with fail
  refine (NA.out _ Z1.out).mono ?_
  rintro e w2 ⟨B, F0, rfl, n2, -⟩
  have N2 : Hid (PInv w w2 B F0 []) := n2
  clear n2 NA Z1
  go_wp2_with fail
  go_loopg [4] 0 (fun g iv wr => ∃ (i : Nat) (F : Nat → Prop) (L : List Rg), i + g = 0 ∧ iv = .int .i64 i ∧ Hid (∀ x ∈ L, x.2 ≤ 1000) ∧ Hid (PInv w wr B F L))
  case atStart => exact ⟨0, F0, [], by omega, rfl, fun _ h => (by cases h), N2⟩
  case round =>
    clear N2
    obtain ⟨i, F, L, hi, rfl, hL, N⟩ := hrel
    have q1 : decide (i < m) = false := decide_eq_false (by omega)
    have AF : Hid (∀ _ : Unit, _) := fun _ => (pinv_add (lo := 0) (hi := 1000) N.out ⟨by decide, by decide⟩ ⟨by decide, by decide⟩)
    rw [addS_whole N.out.ok hL.out] at AF
    go_wp2_with fail
    refine (AF.out ()).mono ?_
    rintro e w6 ⟨rfl, F6, n6, -⟩
    have N6 := Lib.hid n6
    clear n6 AF N hL
    have e0 : addE 0 1000 = 0 := rfl
    rw [e0]
    clear e0
    go_wp2_with fail
    refine (pinv_ranges N6.out).mono ?_
    rintro e w7 ⟨v, rfl, ho, b7⟩
    obtain ⟨g1, o1, cap1, rfl, d1, d2⟩ := ho.one
    have N7 := Lib.hid (N6.out.keep b7)
    clear ho b7 N6
    simp only at d1 d2
    go_wp2_with fail
    go_ret
    exact ⟨rfl, N7.out.bel⟩

theorem walk (a : Option Addr) (m cap : Nat) (f : Nat → Int) (w : World) (hm : m ≤ maxLen) (hs : Nums w a m f) :
    Calls Try.prog 7 #[.slice a m cap] w fun e w' => e = .returned (.bool true) ∧ Below w.heap.size w w' := by
  have hm' : m ≤ 9223372036854775807 := by unfold maxLen at hm; omega
  rcases hs with h0 | ⟨b, off, rfl, hb, hc⟩
  · exact walk_none a m cap h0 w
  · by_cases h : m ≤ 60
    · exact walk_some f b off m cap m w hb hm' (.inl ⟨rfl, h⟩) hc
    · exact walk_some f b off m cap 60 w hb hm' (.inr ⟨rfl, by omega⟩) hc

theorem contract (H : Type) (enc : TypeId × Value → H) (W : World) (base : Nat) (args : Array Value) (ds gs : List (DataW H)) (before : List MemPlace)
    (hval : ∀ (j : Nat) t v, Try.f7.params[j]? = some t → args[j]? = some v → Value.okWide Try.prog W .any base t v)
    (hW : DataW.Whole enc Try.prog Try.f7.params.toList Rows.acksWholeSpec.vars false W args.toList ds gs before) :
    Calls Try.prog 7 args W fun e W' => ∃ v, e = .returned v ∧ Rows.acksWholeSpec.post enc Try.prog Try.f7 false true false false W args v W' := by
  have hW' := hW
  obtain ⟨p, q, hA0, hV, rfl, hfz, hnd⟩ := hW
  have hA : DataW.TrodAll enc Try.prog W 0 (fun _ => true) true Try.f7.params.toList args.toList ds p := hA0
  rw [Try.params7] at hA hval
  obtain ⟨v0, vs0, d0, ds0, p0, q0, hargs, rfl, rfl, h0, r0⟩ := trodAll_cons hA
  obtain ⟨rfl, rfl, rfl⟩ := trodAll_nil r0
  obtain rfl : args = #[v0] := by cases args; simp_all
  obtain ⟨rfl, rfl⟩ := trodVars_none hV
  have k0 := h0
  have lt0 : ∀ x ∈ p0, x.block < W.heap.size := by obtain ⟨m, hm⟩ := k0; exact DataW.trod_lt m _ _ _ hm
  obtain ⟨a0, n0, c0, f0, rfl, hn0, hz0, hs0⟩ := open_i64s Try.underlying23 Try.underlying2 (by kernel_rfl) (hval 0 23 v0 rfl rfl) h0
  clear hA0
  simp only [List.append_nil] at hW'
  refine (walk a0 n0 c0 f0 W hn0 hs0).mono fun e W' ⟨he, bel⟩ => ?_
  subst he
  exact ⟨_, rfl, _, _, _, [], _, [], hW', trodAll_mk1 (shut_bool Try.underlying4 _), (trodAll_cons_mk (Below.trod laidOut (by kernel_rfl) (of_decide_eq_true (by kernel_rfl)) k0 bel lt0) trodAll_mk0), rfl, bel.frame _, fun h => by cases h⟩

theorem laid_met (os : Os) : laidMet Try.prog Rows.acksWholeRow.laid ((startWorld Try.prog os).forCall (fun _ _ => 0) ⟨#[], #[.slice none 0 0], []⟩).memory :=
  laidMet_of_run' 8 (by kernel_rfl) (by kernel_rfl)
theorem reads (os : Os) {H : Type} (enc : TypeId × Value → H) : ∃ places, DataW.whole enc Try.prog ((startWorld Try.prog os).forCall (fun _ _ => 0) ⟨#[], #[.slice none 0 0], []⟩).memory Try.f7.params.toList Rows.acksWholeSpec.vars false #[Value.slice none 0 0].toList 8 = some ([.nil], [], places) :=
  ⟨[], by kernel_rfl⟩

set_option maxRecDepth 100000 in
theorem lifted (os : Os) (started : os.Started) (H : Type) (enc : TypeId × Value → H) (F : Stop.Interp) :
    ReturnsInHanded {} Try.checked os 7 .any ((OpenSpec.ofChange Rows.acksWholeSpec).preRow enc Try.prog Try.f7 Rows.acksWholeRow.domain false Rows.acksWholeRow.laid) (((OpenSpec.ofChange Rows.acksWholeSpec).at F).post enc Try.prog Try.f7 false true false false) := by
  obtain ⟨places, hx⟩ := reads os enc
  refine returnsInHanded_of_row (C := Try.checked) (s := OpenSpec.ofChange Rows.acksWholeSpec) own started (by kernel_rfl) Try.func7
    (witness_row_at (enc := enc) (C := Try.checked) false (startWorld Try.prog os) #[.slice none 0 0] rfl (by kernel_rfl) (by kernel_rfl) (by kernel_rfl)
      (OpenSpec.preRow_of_cond 8 hx (by kernel_rfl) (fun k hk => by cases hk) (by kernel_rfl) (laid_met os))) ?_
  intro W base args ds gs before hval hW _ _ _ _ _ _
  exact contract H enc W base args ds gs before hval hW

theorem said : Rows.AcksWholeSaid :=
  OpenClaim.holds_of_cond 7 Try.f7 rfl rfl rfl rfl rfl rfl rfl ⟨rfl, rfl, rfl, rfl, rfl⟩ rfl rfl rfl rfl rfl (by kernel_rfl) Try.func7 (by kernel_rfl)
    (of_decide_eq_true (by kernel_rfl)) (by unfold Func.isWrapper; first | (rw [if_pos (by decide +kernel)]; kernel_rfl) | (rw [if_neg (by decide +kernel)]; exact ⟨rfl, rfl⟩))
    (fun os started H enc _ F => by rw [OpenClaim.pre_eq_preRow]; exact lifted os started H enc F)
end Go.Proofs.Ytlbhlmccjieieaa.acksWhole
namespace Go.Proofs.Ytlbhlmccjieieaa
theorem acksWhole_said : Rows.AcksWholeSaid := acksWhole.said
end Go.Proofs.Ytlbhlmccjieieaa
