/-
  The law AcksRight returns true for every row of numbers and every row of places: ranges are always right. No condition.
-/
import Derived.Test.YtlbhlmccjieieaaAkAll
import Derived.Test.YtlbhlmccjieieaaObDraw
import Derived.Test.YtlbhlmccjieieaaAkI64
import Derived.Test.YtlbhlmccjieieaaObSize
import Derived.Lib.QuietBelow
import Derived.Deep.DeepCutAuto
import Derived.Deep.QuietTactic
import Derived.BigQuiet
import Derived.Test.YtlbhlmccjieieaaRpOpen
import Derived.LaidLaws
namespace Go.Proofs.Ytlbhlmccjieieaa.acksRight
set_option maxRecDepth 100000
open Go.ChangeShapes Go.WideShapes Go.ChangeAt Go.RowKit
open Go.ChangeMaps (open_string shut_string)

theorem enter_add (x y z : Value) (w : World) : (callFunc 11 #[x, y, z]).run Try.prog w = .ok (.enter 11 #[x, y, z]) w := by simp [go_sem]
theorem info_i64 : ∃ i, Try.prog.info? 2 = some i ∧ i.zero = some (.int .i64 0) ∧ i.size = 1 ∧ i.bytes = 8 := by
  have h : (Try.prog.info? 2).map (fun i => (i.zero, i.size, i.bytes)) = some (some (.int .i64 0), 1, 8) := by kernel_rfl
  obtain ⟨i, hi, e⟩ := Option.map_eq_some_iff.1 h
  injection e with e1 e2
  injection e2 with e2 e3
  exact ⟨i, hi, e1, e2, e3⟩
theorem empty_own1 (w : World) (t : TypeId) : (w.alloc (.cells #[] t)).ownsRow w.heap.size t 1 (.slice (some ⟨w.heap.size, 0, none⟩) 0 0) 0 [] :=
  ⟨rfl, .inr ⟨w.heap.size, 0, #[], rfl, Nat.le_refl _, heap_alloc_new w _, Nat.le_refl _, Nat.zero_le _, rfl, rfl⟩⟩
theorem placeN (a : Int) (N : Nat) (h0 : 0 < N) (h1 : N ≤ 16) : ∃ x : Nat, IntKind.i64.wrap ((IntKind.u64.wrap a).tmod (N : Int)) = x ∧ x < N := by
  have h : 0 ≤ IntKind.u64.wrap a := by rw [IntKind.wrap_u64]; omega
  rw [Int.tmod_eq_emod_of_nonneg h]
  have h1 := Int.emod_nonneg (IntKind.u64.wrap a) (by omega : (N : Int) ≠ 0)
  have h2 := Int.emod_lt_of_pos (IntKind.u64.wrap a) (by omega : 0 < (N : Int))
  refine ⟨(IntKind.u64.wrap a % (N : Int)).toNat, ?_, by omega⟩
  rw [IntKind.wrap_i64]
  omega
theorem sl16i (B N cap : Nat) (w : World) (h : 16 ≤ cap) : (Instr.sliceAt 23 (.slice (some ⟨B, 0, none⟩) N cap) none (some (.int .i64 16)) none).run Try.prog w = .ok (.slice (some ⟨B, 0, none⟩) 16 cap) w := by
  have h3 : ¬ cap = 0 := by omega
  simp [Instr.sliceAt, Instr.slice, run_underlying Try.underlying23, Instr.sliceBounds, Instr.sliceBound, asIntOf, Try.sizeOf2, h3, Addr.add_mid]
  intro hh
  omega
set_option maxHeartbeats 16000000 in
theorem walk (a : Option Addr) (n cap : Nat) (f : Nat → Int) (a2 : Option Addr) (n2 cap2 : Nat) (f2 : Nat → Int) (w : World) (ha : a = none → n = 0 ∧ cap = 0) (hs : n * 8 ≤ 140737488351232) (hz : ∀ i, i < n → I64 (f i)) (hn : Nums w a n f) (hm2 : n2 ≤ maxLen) (hA : Nums w a2 n2 f2) :
    Calls Try.prog 5 #[.slice a n cap, .slice a2 n2 cap2] w fun e w' => e = .returned (.bool true) ∧ Below w.heap.size w w' := by
  have hm2' : n2 ≤ 9223372036854775807 := by unfold maxLen at hm2; omega
  replace hz : Hid _ := hz
  replace hA : Hid (Nums w a2 n2 f2) := hA
  replace hn : Hid (∀ ad, a = some ad → ∀ w3, Below w.heap.size w w3 → ∀ j u, (nums ((List.range n).map f))[j]? = some u → (w3.alloc (.cells #[] 2)).cell? (ad.add j) = some u) := fun ad e w3 b j u hj => by
    have hl : j < n := by
      rcases Nat.lt_or_ge j n with q | q
      · exact q
      · rw [List.getElem?_eq_none (by rw [nums_len]; simpa using q)] at hj
        cases hj
    rw [nums_get _ j (by simpa using hl)] at hj
    injection hj with hj
    subst e hj
    rcases hn with q | ⟨b0, off, e, hb, hc⟩
    · omega
    · injection e with e
      subst e
      rw [Addr.add_mid, ((Below.refl w3.heap.size w3).alloc (Nat.le_refl _) _).cell (Nat.lt_of_lt_of_le hb b.size), b.cell hb, hc j hl]
      simp [List.getD, hl]
  have WO : Hid (∀ w, _) := works_ok
  have NA : Hid (∀ w', Below w.heap.size w w' → _) := fun w' b => pinv_new w w' b
  obtain ⟨i0, hi0, hz0, hz1, hz2⟩ := info_i64
  go_enter Try.func5, Try.ntmps5
  go_wp2_with fail
  refine (WO.out _).mono ?_
  rintro e w1 ⟨rfl, b1⟩
  have Z1 := Lib.hid b1
  clear b1 WO
  go_wp2_with fail
  refine (NA.out _ Z1.out).mono ?_
  rintro e w2 ⟨A, F0, rfl, n2, -⟩
  have N2 : Hid (PInv w w2 A F0 []) := n2
  clear n2 NA Z1
  go_wp2_with fail
  refine (two_new N2.out).mono ?_
  rintro e w3 ⟨B, G0, rfl, n3⟩
  have N3 : Hid (Two w w3 A F0 [] B G0 []) := n3
  clear n3 N2
  have OE := Lib.hid (empty_own1 w3 2)
  have BE : Hid (Below w3.heap.size w3 (w3.alloc (.cells #[] 2))) := (Below.refl _ _).alloc (Nat.le_refl _) _
  go_upto_region 4 with fail
  go_cut [7] (fun mv wx => ∃ (g c1 : Nat), mv = .slice (some ⟨g, 0, none⟩) n c1 ∧ Hid (wx.ownsRow w3.heap.size 2 1 (.slice (some ⟨g, 0, none⟩) n c1) n (nums ((List.range n).map f))) ∧ Hid (Below w3.heap.size w3 wx))
  case first =>
    cases a with
    | none =>
      obtain ⟨rfl, rfl⟩ := ha rfl
      go_wp2_with (at_builtin; refine wpList_append_own_none rfl _ _ 23 rfl w3.heap.size 2 i0 1 Try.underlying23 hi0 _ 0 [] rfl OE.out rfl ?_)
      go_meet
      exact ⟨w3.heap.size, 0, rfl, OE, BE⟩
    | some ad =>
      have hnews : Hid (∀ j u, (nums ((List.range n).map f))[j]? = some u → (w3.alloc (.cells #[] 2)).cell? (ad.add j) = some u) := hn.out ad rfl w3 N3.out.a.bel
      have h1c : Hid _ := nums_one ((List.range n).map f)
      have hrl : Hid ((nums ((List.range n).map f)).length = n * 1) := by unfold Hid; rw [nums_len]; simp
      go_wp2_with (at_builtin; refine wpList_append_own _ rfl _ _ 23 rfl w3.heap.size 2 i0 (.int .i64 0) 1 8 Try.underlying23 hi0 hz0 hz1 hz2 rfl (by decide) _ 0 _ rfl OE.out ad n cap (nums ((List.range n).map f)) rfl hrl.out hnews.out h1c.out (by unfold maxLen; omega) (by omega) (by simp) ?_)
      intro v1 w4 hown' hgrow hnn
      have B1 : Hid (Below w3.heap.size w3 w4) := BE.out.grown hgrow BE.out.size (fun k hk => (OE.out.lt k hk).1)
      obtain ⟨g1, c1, rfl⟩ : ∃ g1 c1, v1 = .slice (some ⟨g1, 0, none⟩) n c1 := by
        rcases hown'.2 with ⟨q, _⟩ | ⟨g1, c1, _, q, _⟩
        · exact absurd q (by simpa using hnn)
        · exact ⟨g1, c1, q⟩
      have O1 : Hid (w4.ownsRow w3.heap.size 2 1 (.slice (some ⟨g1, 0, none⟩) n c1) n (nums ((List.range n).map f))) := hown'
      clear hown' hgrow hnn
      go_wp2_with fail
      go_meet
      exact ⟨g1, c1, rfl, O1, B1⟩
  case rest =>
    obtain ⟨g1, c1, rfl, O1, B1⟩ := hcut
    clear OE BE
    generalize wc = w4 at *
    have hcap := (own_nb O1.out).2.2
    go_upto_if 23 with fail
    go_cut [7] (fun mv wx => ∃ N : Nat, N ≤ 16 ∧ (N = n ∨ (N = 16 ∧ 16 < n)) ∧ mv = .slice (some ⟨g1, 0, none⟩) N c1 ∧ wx = w4)
    case first =>
      by_cases h16 : 16 < n
      · have q16 : decide ((16 : Int) < (n : Int)) = true := decide_eq_true (by omega)
        have hsl := fun w => sl16i g1 n c1 w (by omega)
        go_wp2_with fail
        go_meet
        exact ⟨16, by omega, .inr ⟨rfl, h16⟩, rfl, rfl⟩
      · have q16 : decide ((16 : Int) < (n : Int)) = false := decide_eq_false (by omega)
        go_wp2_with fail
        go_meet
        exact ⟨n, by omega, .inl rfl, rfl, rfl⟩
    case rest =>
      obtain ⟨N, hN16, hNn, rfl, rfl⟩ := hcut
      have hNle : N ≤ n := by omega
      obtain ⟨xs, hxs⟩ : ∃ xs, xs = ((List.range n).map f).take N := ⟨_, rfl⟩
      have hxl : xs.length = N := by rw [hxs]; simp; omega
      have hxz : Hid (∀ k, k < N → I64 (xs.getD k 0)) := fun k hk => by
        rw [hxs]
        have : (((List.range n).map f).take N).getD k 0 = f k := by simp [List.getD, hk, show k < n by omega]
        rw [this]
        exact hz.out k (by omega)
      have NM : Hid (NB wc g1 xs) := by
        obtain ⟨vs, hv⟩ := (own_nb O1.out).1
        refine ⟨(nums ((List.range n).map f)).drop N ++ vs, ?_⟩
        have e : nums xs = (nums ((List.range n).map f)).take N := by rw [hxs]; simp [nums, List.map_take]
        rw [e, ← List.append_assoc, List.take_append_drop]
        exact hv
      have hg1 := (own_nb O1.out).2.1
      have hg1l := (O1.out.lt g1 rfl).2
      replace hxs : Hid _ := hxs
      clear O1 hn hz ha
      generalize wc = w4 at *
      have OE := Lib.hid (empty_own1 w4 2)
      have BE : Hid (Below w4.heap.size w4 (w4.alloc (.cells #[] 2))) := (Below.refl _ _).alloc (Nat.le_refl _) _
      have hnews : Hid (∀ j u, (nums xs)[j]? = some u → (w4.alloc (.cells #[] 2)).cell? ((⟨g1, 0, none⟩ : Addr).add j) = some u) := fun j u hj => by
        have hl : j < xs.length := by
          rcases Nat.lt_or_ge j xs.length with q | q
          · exact q
          · rw [List.getElem?_eq_none (by rw [nums_len]; exact q)] at hj
            cases hj
        rw [nums_get _ j hl] at hj
        injection hj with hj
        subst hj
        rw [Addr.add_mid, Nat.zero_add, BE.out.cell hg1l, NM.out.cell j hl]
      have h1c : Hid _ := nums_one xs
      have hrl : Hid ((nums xs).length = N * 1) := by unfold Hid; rw [nums_len, hxl]; simp
      go_wp2_with (at_builtin; refine wpList_append_own _ rfl _ _ 23 rfl w4.heap.size 2 i0 (.int .i64 0) 1 8 Try.underlying23 hi0 hz0 hz1 hz2 rfl (by decide) _ 0 _ rfl OE.out ⟨g1, 0, none⟩ N c1 (nums xs) rfl hrl.out hnews.out h1c.out (by unfold maxLen; omega) (by omega) (by simp) ?_)
      intro v1 w5 hown' hgrow hnn
      have B5 : Hid (Below w4.heap.size w4 w5) := BE.out.grown hgrow BE.out.size (fun k hk => (OE.out.lt k hk).1)
      obtain ⟨g2, c2, rfl⟩ : ∃ g2 c2, v1 = .slice (some ⟨g2, 0, none⟩) N c2 := by
        rcases hown'.2 with ⟨q, _⟩ | ⟨g2, c2, _, q, _⟩
        · exact absurd q (by simpa using hnn)
        · exact ⟨g2, c2, q⟩
      have O5 : w5.ownsRow w4.heap.size 2 1 (.slice (some ⟨g2, 0, none⟩) N c2) N (nums xs) := hown'
      have NP : Hid (NB w5 g2 xs) := (own_nb O5).1
      have hg2 := (own_nb O5).2.1
      have hg2l := (O5.lt g2 rfl).2
      have NM5 : Hid (NB w5 g1 xs) := NM.out.of_block (B5.out.block g1 hg1l)
      have N5 : Hid (Two w w5 A F0 [] B G0 []) := (N3.out.keep B1.out).keep (B5.out)
      have K5 : Hid (Below w3.heap.size w3 w5) := B1.out.trans (B5.out.mono B1.out.size)
      clear hown' hgrow hnn O5 OE BE hnews h1c hrl B5 NM
      go_wp2_with fail
      go_loopg [9] 30 (fun g iv wr => ∃ (t : Nat) (ps : List Int), t + g = 30 ∧ iv = .int .i64 (2 * (t : Int)) ∧ Hid (ps.Perm xs) ∧ Hid (NB wr g2 ps) ∧ Hid (Kept (fun k => k = g2) w5 wr))
      case atStart => exact ⟨0, xs, by omega, rfl, List.Perm.refl _, NP, Kept.refl _ _⟩
      case round =>
        clear NP
        obtain ⟨t, ps, ht, rfl, hpm, NP, KP⟩ := hrel
        have hpl : ps.length = N := by rw [hpm.out.length_eq]; exact hxl
        go_upto_region 9 with fail
        go_cut [42] (fun c wx => c = .bool (decide (2 * t + 1 < n2 ∧ t < 30 ∧ 0 < N)) ∧ wx = wr)
        case first =>
          by_cases p1 : 2 * t + 1 < n2
          · have d1 : decide (2 * (t : Int) + 1 < (n2 : Int)) = true := decide_eq_true (by omega)
            by_cases p2 : t < 30
            · have d2 : decide (2 * (t : Int) < 60) = true := decide_eq_true (by omega)
              by_cases p3 : 0 < N
              · have d3 : decide (0 < (N : Int)) = true := decide_eq_true (by omega)
                have eC := decide_eq_true (show 2 * t + 1 < n2 ∧ t < 30 ∧ 0 < N from ⟨p1, p2, p3⟩)
                go_wp2_with fail
                go_meet
                exact ⟨congrArg Value.bool eC.symm, rfl⟩
              · have d3 : decide (0 < (N : Int)) = false := decide_eq_false (by omega)
                have eC := decide_eq_false (show ¬ (2 * t + 1 < n2 ∧ t < 30 ∧ 0 < N) from fun q => p3 q.2.2)
                go_wp2_with fail
                go_meet
                exact ⟨congrArg Value.bool eC.symm, rfl⟩
            · have d2 : decide (2 * (t : Int) < 60) = false := decide_eq_false (by omega)
              have eC := decide_eq_false (show ¬ (2 * t + 1 < n2 ∧ t < 30 ∧ 0 < N) from fun q => p2 q.2.1)
              go_wp2_with fail
              go_meet
              exact ⟨congrArg Value.bool eC.symm, rfl⟩
          · have d1 : decide (2 * (t : Int) + 1 < (n2 : Int)) = false := decide_eq_false (by omega)
            have eC := decide_eq_false (show ¬ (2 * t + 1 < n2 ∧ t < 30 ∧ 0 < N) from fun q => p1 q.1)
            go_wp2_with fail
            go_meet
            exact ⟨congrArg Value.bool eC.symm, rfl⟩
        case rest =>
          obtain ⟨rfl, rfl⟩ := hcut
          by_cases hP : 2 * t + 1 < n2 ∧ t < 30 ∧ 0 < N
          · rw [decide_eq_true hP]
            obtain ⟨p1, p2, p3⟩ := hP
            obtain ⟨b2, off2, rfl, hb2, hc2⟩ : ∃ b2 off2, a2 = some ⟨b2, off2, none⟩ ∧ b2 < w.heap.size ∧ ∀ i, i < n2 → w.cell? ⟨b2, off2 + i, none⟩ = some (.int .i64 (f2 i)) := by
              rcases hA.out with h | h
              · omega
              · exact h
            have BW : Below w.heap.size w wc := N5.out.a.bel.trans (KP.out.below N5.out.a.bel.size (fun k hk => by have := K5.out.size; have := N3.out.a.bel.size; have := B1.out.size; omega))
            have c1' := (BW.cell (p := ⟨b2, off2 + 2 * t, none⟩) hb2).trans (hc2 (2 * t) (by omega))
            have c2' := (BW.cell (p := ⟨b2, off2 + (2 * t + 1), none⟩) hb2).trans (hc2 (2 * t + 1) (by omega))
            have ib1 := fun w' => at_ints b2 off2 n2 cap2 (2 * t) w' (by omega) (2 * (t : Int)) (by omega) (off2 + 2 * t) rfl
            have ib2 := fun w' => at_ints b2 off2 n2 cap2 (2 * t + 1) w' p1 (2 * (t : Int) + 1) (by omega) (off2 + (2 * t + 1)) rfl
            obtain ⟨x, ex, hx⟩ := placeN (f2 (2 * t)) N p3 hN16
            obtain ⟨y, ey, hy⟩ := placeN (f2 (2 * t + 1)) N p3 hN16
            have eN : IntKind.u64.wrap (N : Int) = N := by rw [IntKind.wrap_u64]; omega
            have nN : ((N : Int) == 0) = false := by simp; omega
            clear BW hc2
            go_wp2_with fail
            go_quiet (fail)
            have NP6 : Hid (NB (wc.drewN nq).drew g2 ps) := NP.out.of_block rfl
            have KP6 : Hid (Kept (fun k => k = g2) w5 (wc.drewN nq).drew) := KP.out.add ⟨rfl, rfl, rfl, Nat.le_refl _, fun _ _ => rfl⟩
            clear NP KP c1' c2' ib1 ib2 ex ey eN nN
            have ix := fun w' => at_i64s g2 0 N c2 x w' hx (x : Int) rfl x (by omega)
            have iy := fun w' => at_i64s g2 0 N c2 y w' hy (y : Int) rfl y (by omega)
            go_wp2_with fail
            refine wp_region_any (by kernel_rfl) ?_
            change wpAny _ .any _ _ 16 (Array.replicate 16 false) _ (wc.drewN nq).drew
            generalize (wc.drewN nq).drew = w6 at *
            have cx := NP6.out.cell x (by omega)
            have cy := NP6.out.cell y (by omega)
            obtain ⟨vx, hvx⟩ : ∃ vx, vx = ps.getD x 0 := ⟨_, rfl⟩
            obtain ⟨vy, hvy⟩ : ∃ vy, vy = ps.getD y 0 := ⟨_, rfl⟩
            rw [← hvx] at cx
            rw [← hvy] at cy
            replace hvx : Hid _ := hvx
            replace hvy : Hid _ := hvy
            have fx := NP6.out.free x (by omega)
            have fy := NP6.out.free y (by omega)
            refine obTake (i := 0) (d := 66) (v := (.slice (some ⟨g2, 0, none⟩) N c2)) rfl rfl (by kernel_rfl) (by kernel_rfl) (by kernel_rfl) (fun _ _ _ h => h) rfl (fun w => by go_simp) ?_
            refine obTake (i := 1) (d := 67) (v := .int .i64 (x : Int)) rfl rfl (by kernel_rfl) (by kernel_rfl) (by kernel_rfl) (fun _ _ _ h => h) rfl (fun w => by go_simp) ?_
            refine obTake (i := 2) (d := 68) (v := (.slice (some ⟨g2, 0, none⟩) N c2)) rfl rfl (by kernel_rfl) (by kernel_rfl) (by kernel_rfl) (fun _ _ _ h => h) rfl (fun w => by go_simp) ?_
            refine obTake (i := 3) (d := 69) (v := .int .i64 (y : Int)) rfl rfl (by kernel_rfl) (by kernel_rfl) (by kernel_rfl) (fun _ _ _ h => h) rfl (fun w => by go_simp) ?_
            refine obTake (i := 4) (d := 70) (v := (.slice (some ⟨g2, 0, none⟩) N c2)) rfl rfl (by kernel_rfl) (by kernel_rfl) (by kernel_rfl) (fun _ _ _ h => h) rfl (fun w => by go_simp) ?_
            refine obTake (i := 5) (d := 71) (v := .int .i64 (y : Int)) rfl rfl (by kernel_rfl) (by kernel_rfl) (by kernel_rfl) (fun _ _ _ h => h) rfl (fun w => by go_simp) ?_
            refine obTake (i := 6) (d := 72) (v := .pointer (some ⟨g2, y, none⟩)) rfl rfl (by kernel_rfl) (by kernel_rfl) (by kernel_rfl) (fun _ _ _ h => h) rfl (fun w => by go_simp) ?_
            refine obTake (i := 8) (d := 74) (v := (.slice (some ⟨g2, 0, none⟩) N c2)) rfl rfl (by kernel_rfl) (by kernel_rfl) (by kernel_rfl) (fun _ _ _ h => h) rfl (fun w => by go_simp) ?_
            refine obTake (i := 9) (d := 75) (v := .int .i64 (x : Int)) rfl rfl (by kernel_rfl) (by kernel_rfl) (by kernel_rfl) (fun _ _ _ h => h) rfl (fun w => by go_simp) ?_
            refine obTake (i := 10) (d := 76) (v := .pointer (some ⟨g2, x, none⟩)) rfl rfl (by kernel_rfl) (by kernel_rfl) (by kernel_rfl) (fun _ _ _ h => h) rfl (fun w => by go_simp) ?_
            simp only [Act.put, List.setIfInBounds_toArray, List.set_cons_succ, List.set_cons_zero]
            refine wpAny_all (rs := [7, 11]) (by kernel_rfl) (by simp) (fun j hj => ?_)
            rcases (show j = 7 ∨ j = 11 by simpa using hj) with rfl | rfl
            · refine wpOp_step rfl (fun K' hK => ?_)
              clear hj
              go_simp
              refine hK _ _ ?_
              clear hK K'
              refine wpAny_all (rs := [11]) (by kernel_rfl) (by simp) (fun j hj => ?_)
              obtain rfl : j = 11 := by simpa using hj
              refine wpOp_step rfl (fun K' hK => ?_)
              clear hj
              go_simp
              refine hK _ _ ?_
              clear hK K'
              refine wpAny_all (rs := [12]) (by kernel_rfl) (by simp) (fun j hj => ?_)
              obtain rfl : j = 12 := by simpa using hj
              refine wpOp_step rfl (fun K' hK => ?_)
              clear hj
              go_simp
              refine hK _ _ ?_
              clear hK K'
              try simp only [Act.put, List.setIfInBounds_toArray, List.set_cons_succ, List.set_cons_zero]
              refine wpAny_all (rs := [13]) (by kernel_rfl) (by simp) (fun j hj => ?_)
              obtain rfl : j = 13 := by simpa using hj
              refine wpOp_step rfl (fun K' hK => ?_)
              clear hj
              go_simp
              refine hK _ _ ?_
              clear hK K'
              have NP7 : Hid (NB (w6.setCell ⟨g2, x, none⟩ (.int .i64 vy)) g2 (ps.set x vy)) := NP6.out.put x (by omega) _
              have KP7 : Hid (Kept (fun k => k = g2) w5 (w6.setCell ⟨g2, x, none⟩ (.int .i64 vy))) := Kept.set (F := fun k => k = g2) KP6.out ⟨g2, x, none⟩ rfl _
              clear cx cy fx fy NP6 KP6
              generalize w6.setCell ⟨g2, x, none⟩ (.int .i64 vy) = w7 at *
              have cy7 := NP7.out.cell y (by simp; omega)
              have fy7 := NP7.out.free y (by simp; omega)
              generalize (ps.set x vy).getD y 0 = z at *
              refine wpAny_all (rs := [14]) (by kernel_rfl) (by simp) (fun j hj => ?_)
              obtain rfl : j = 14 := by simpa using hj
              refine wpOp_step rfl (fun K' hK => ?_)
              clear hj
              go_simp
              refine hK _ _ ?_
              clear hK K'
              try simp only [Act.put, List.setIfInBounds_toArray, List.set_cons_succ, List.set_cons_zero]
              refine wpAny_all (rs := [15]) (by kernel_rfl) (by simp) (fun j hj => ?_)
              obtain rfl : j = 15 := by simpa using hj
              refine wpOp_step rfl (fun K' hK => ?_)
              clear hj
              go_simp
              refine hK _ _ ?_
              clear hK K'
              have NP8 : Hid (NB (w7.setCell ⟨g2, y, none⟩ (.int .i64 vx)) g2 ((ps.set x vy).set y vx)) := NP7.out.put y (by simp; omega) _
              have KP8 : Hid (Kept (fun k => k = g2) w5 (w7.setCell ⟨g2, y, none⟩ (.int .i64 vx))) := Kept.set (F := fun k => k = g2) KP7.out ⟨g2, y, none⟩ rfl _
              refine wpAny_done (by kernel_rfl) ?_ 0
              clear ix iy cy7 fy7 NP7 KP7
              generalize w7.setCell ⟨g2, y, none⟩ (.int .i64 vx) = w8 at *
              go_wp2_with fail
              go_roundg (30 - (t + 1))
              case measure => omega
              case rel => exact ⟨t + 1, _, by omega, by go_num, by rw [hvx.out, hvy.out]; exact (swap_perm ps x y (by omega) (by omega)).trans hpm.out, NP8, KP8⟩
            · refine wpOp_step rfl (fun K' hK => ?_)
              clear hj
              go_simp
              refine hK _ _ ?_
              clear hK K'
              refine wpAny_all (rs := [7]) (by kernel_rfl) (by simp) (fun j hj => ?_)
              obtain rfl : j = 7 := by simpa using hj
              refine wpOp_step rfl (fun K' hK => ?_)
              clear hj
              go_simp
              refine hK _ _ ?_
              clear hK K'
              refine wpAny_all (rs := [12]) (by kernel_rfl) (by simp) (fun j hj => ?_)
              obtain rfl : j = 12 := by simpa using hj
              refine wpOp_step rfl (fun K' hK => ?_)
              clear hj
              go_simp
              refine hK _ _ ?_
              clear hK K'
              try simp only [Act.put, List.setIfInBounds_toArray, List.set_cons_succ, List.set_cons_zero]
              refine wpAny_all (rs := [13]) (by kernel_rfl) (by simp) (fun j hj => ?_)
              obtain rfl : j = 13 := by simpa using hj
              refine wpOp_step rfl (fun K' hK => ?_)
              clear hj
              go_simp
              refine hK _ _ ?_
              clear hK K'
              have NP7 : Hid (NB (w6.setCell ⟨g2, x, none⟩ (.int .i64 vy)) g2 (ps.set x vy)) := NP6.out.put x (by omega) _
              have KP7 : Hid (Kept (fun k => k = g2) w5 (w6.setCell ⟨g2, x, none⟩ (.int .i64 vy))) := Kept.set (F := fun k => k = g2) KP6.out ⟨g2, x, none⟩ rfl _
              clear cx cy fx fy NP6 KP6
              generalize w6.setCell ⟨g2, x, none⟩ (.int .i64 vy) = w7 at *
              have cy7 := NP7.out.cell y (by simp; omega)
              have fy7 := NP7.out.free y (by simp; omega)
              generalize (ps.set x vy).getD y 0 = z at *
              refine wpAny_all (rs := [14]) (by kernel_rfl) (by simp) (fun j hj => ?_)
              obtain rfl : j = 14 := by simpa using hj
              refine wpOp_step rfl (fun K' hK => ?_)
              clear hj
              go_simp
              refine hK _ _ ?_
              clear hK K'
              try simp only [Act.put, List.setIfInBounds_toArray, List.set_cons_succ, List.set_cons_zero]
              refine wpAny_all (rs := [15]) (by kernel_rfl) (by simp) (fun j hj => ?_)
              obtain rfl : j = 15 := by simpa using hj
              refine wpOp_step rfl (fun K' hK => ?_)
              clear hj
              go_simp
              refine hK _ _ ?_
              clear hK K'
              have NP8 : Hid (NB (w7.setCell ⟨g2, y, none⟩ (.int .i64 vx)) g2 ((ps.set x vy).set y vx)) := NP7.out.put y (by simp; omega) _
              have KP8 : Hid (Kept (fun k => k = g2) w5 (w7.setCell ⟨g2, y, none⟩ (.int .i64 vx))) := Kept.set (F := fun k => k = g2) KP7.out ⟨g2, y, none⟩ rfl _
              refine wpAny_done (by kernel_rfl) ?_ 0
              clear ix iy cy7 fy7 NP7 KP7
              generalize w7.setCell ⟨g2, y, none⟩ (.int .i64 vx) = w8 at *
              go_wp2_with fail
              go_roundg (30 - (t + 1))
              case measure => omega
              case rel => exact ⟨t + 1, _, by omega, by go_num, by rw [hvx.out, hvy.out]; exact (swap_perm ps x y (by omega) (by omega)).trans hpm.out, NP8, KP8⟩
          · rw [decide_eq_false hP]
            clear hP
            generalize wc = wX at *
            have hsz5 := K5.out.size
            have hszB := B1.out.size
            have BX : Hid (Below w3.heap.size w3 wX) := K5.out.trans (KP.out.below hsz5 (fun k hk => by omega))
            have NMX : Hid (NB wX g1 xs) := NM5.out.of_block (KP.out.block g1 (by omega) (by omega))
            have hszX := KP.out.size
            have T0 : Hid (Tri w wX wX A F0 [] B G0 [] (fun k => k = g1 ∨ k = g2)) := tri_new N3.out BX.out (fun k hk => by rcases hk with rfl | rfl <;> omega)
            have hpz : Hid (∀ k, k < N → I64 (ps.getD k 0)) := fun k hk => by
              have h1 : ps.getD k 0 ∈ ps := by simp [List.getD, List.getElem?_eq_getElem (show k < ps.length by omega)]
              obtain ⟨j, hj, e⟩ := List.getElem_of_mem (hpm.out.mem_iff.1 h1)
              have := hxz.out j (by omega)
              rw [← e]
              simpa [List.getD, List.getElem?_eq_getElem hj] using this
            clear N5 K5 NM5 B1 BX KP N3 hA
            go_wp2_with fail
            go_loopg [12] N (fun g iv wr => ∃ (i : Nat) (F G : Nat → Prop), i + g = N ∧ iv = .int .i64 i ∧ Hid (Tri w wX wr A F (all (xs.take i)) B G (all (ps.take i)) (fun k => k = g1 ∨ k = g2)))
            case atStart => exact ⟨0, F0, G0, by omega, rfl, T0⟩
            case round =>
              clear T0
              obtain ⟨i, F, G, hi, rfl, T⟩ := hrel
              by_cases hlt : i < N
              · have q1 : decide ((i : Int) < (N : Int)) = true := decide_eq_true (by omega)
                have ea : Hid (all (xs.take (i + 1)) = addS (all (xs.take i)) (xs.getD i 0) (xs.getD i 0)) := all_take xs i (by omega)
                have ep : Hid (all (ps.take (i + 1)) = addS (all (ps.take i)) (ps.getD i 0) (ps.getD i 0)) := all_take ps i (by omega)
                have hcm : wX.cell? ⟨g1, i, none⟩ = some (.int .i64 (xs.getD i 0)) := NMX.out.cell i (by omega)
                have hcp : wX.cell? ⟨g2, i, none⟩ = some (.int .i64 (ps.getD i 0)) := NP.out.cell i (by omega)
                have bv := hxz.out i hlt
                have bu := hpz.out i hlt
                generalize xs.getD i 0 = v at *
                generalize ps.getD i 0 = u at *
                have cm : wr.cell? ⟨g1, i, none⟩ = some (.int .i64 v) := (World.cell?_of_block (w := wX) (a := ⟨g1, i, none⟩) (T.out.same g1 (.inl rfl))).trans hcm
                have im := fun w' => at_i64s g1 0 N c1 i w' hlt (i : Int) rfl i (by omega)
                have ip := fun w' => at_i64s g2 0 N c2 i w' hlt (i : Int) rfl i (by omega)
                have AB : Hid (∀ w' F', Tri w wX w' A F' (addS (all (xs.take i)) v v) B G (all (ps.take i)) (fun k => k = g1 ∨ k = g2) → _) := fun w' F' h => tri_addB h bu bu
                by_cases h1 : 0 ≤ v
                · have d1 : decide (0 ≤ v) = true := decide_eq_true h1
                  by_cases h2 : v ≤ 4611686018427387903
                  · have d2 : decide (v ≤ 4611686018427387903) = true := decide_eq_true h2
                    have eE : addE v v = 0 := by unfold addE; rw [fine_iff.2 ⟨h1, h2, Int.le_refl v⟩]; rfl
                    have AD : Hid (∀ w', Tri w wX w' A F (all (xs.take i)) B G (all (ps.take i)) (fun k => k = g1 ∨ k = g2) → Calls Try.prog 11 #[.pointer (some ⟨A, 0, none⟩), .int .i64 v, .int .i64 v] w' fun e w'' => e = .returned (.int .i64 0) ∧ ∃ F', Tri w wX w'' A F' (addS (all (xs.take i)) v v) B G (all (ps.take i)) (fun k => k = g1 ∨ k = g2)) := fun w' h => by
                      have := tri_add h bv bv
                      rw [eE] at this
                      exact this
                    go_wp2_with fail
                    refine wp_region_held (S := fun w' => w'.cell? ⟨g1, i, none⟩ = some (.int .i64 v)) (by kernel_rfl) ?_
                    change wpAnyH _ .any _ _ _ 25 (Array.replicate 25 false) _ wr.drew
                    have T1 : Hid (Tri w wX wr.drew A F (all (xs.take i)) B G (all (ps.take i)) (fun k => k = g1 ∨ k = g2)) := T.out.keep (drewB _ _)
                    have hS : wr.drew.cell? ⟨g1, i, none⟩ = some (.int .i64 v) := cm
                    clear T
                    refine obTakeH (i := 0) (d := 86) (v := .pointer (some ⟨A, 0, none⟩)) rfl rfl (by kernel_rfl) (by kernel_rfl) (by kernel_rfl) (fun _ _ _ h => h) rfl (fun w hS => by obtain s1 := hS; go_simp) hS ?_
                    refine obTakeH (i := 1) (d := 87) (v := (.slice (some ⟨g1, 0, none⟩) N c1)) rfl rfl (by kernel_rfl) (by kernel_rfl) (by kernel_rfl) (fun _ _ _ h => h) rfl (fun w hS => by obtain s1 := hS; go_simp) hS ?_
                    refine obTakeH (i := 2) (d := 88) (v := .int .i64 (i : Int)) rfl rfl (by kernel_rfl) (by kernel_rfl) (by kernel_rfl) (fun _ _ _ h => h) rfl (fun w hS => by obtain s1 := hS; go_simp) hS ?_
                    refine obTakeH (i := 3) (d := 89) (v := .pointer (some ⟨g1, i, none⟩)) rfl rfl (by kernel_rfl) (by kernel_rfl) (by kernel_rfl) (fun _ _ _ h => h) rfl (fun w hS => by obtain s1 := hS; go_simp) hS ?_
                    refine obTakeH (i := 4) (d := 90) (v := .int .i64 v) rfl rfl (by kernel_rfl) (by kernel_rfl) (by kernel_rfl) (fun _ _ _ h => h) rfl (fun w hS => by obtain s1 := hS; go_simp) hS ?_
                    refine obTakeH (i := 5) (d := 91) (v := (.slice (some ⟨g1, 0, none⟩) N c1)) rfl rfl (by kernel_rfl) (by kernel_rfl) (by kernel_rfl) (fun _ _ _ h => h) rfl (fun w hS => by obtain s1 := hS; go_simp) hS ?_
                    refine obTakeH (i := 6) (d := 92) (v := .int .i64 (i : Int)) rfl rfl (by kernel_rfl) (by kernel_rfl) (by kernel_rfl) (fun _ _ _ h => h) rfl (fun w hS => by obtain s1 := hS; go_simp) hS ?_
                    refine obTakeH (i := 7) (d := 93) (v := .pointer (some ⟨g1, i, none⟩)) rfl rfl (by kernel_rfl) (by kernel_rfl) (by kernel_rfl) (fun _ _ _ h => h) rfl (fun w hS => by obtain s1 := hS; go_simp) hS ?_
                    refine obTakeH (i := 8) (d := 94) (v := .int .i64 v) rfl rfl (by kernel_rfl) (by kernel_rfl) (by kernel_rfl) (fun _ _ _ h => h) rfl (fun w hS => by obtain s1 := hS; go_simp) hS ?_
                    simp only [Act.put, List.setIfInBounds_toArray, List.set_cons_succ, List.set_cons_zero]
                    refine wpAnyH_all (rs := [9]) (by kernel_rfl) (by simp) (fun j hj => ?_)
                    obtain rfl : j = 9 := by simpa using hj
                    refine wpOp_step rfl (fun K' hK => ?_)
                    clear hj
                    refine obCall3 (k1 := 86) (k2 := 90) (k3 := 94) (d := 95) (x1 := .pointer (some ⟨A, 0, none⟩)) (x2 := .int .i64 v) (x3 := .int .i64 v) 11 _ rfl rfl _ _ _ _ (enter_add _ _ _) rfl rfl rfl (AD.out _ T1.out) (fun e w7 hR => ?_)
                    obtain ⟨rfl, F7, n7⟩ := hR
                    have hS : w7.cell? ⟨g1, i, none⟩ = some (.int .i64 v) := (World.cell?_of_block (w := wX) (a := ⟨g1, i, none⟩) (n7.same g1 (.inl rfl))).trans hcm
                    refine ⟨_, rfl, hK _ _ ⟨hS, ?_⟩⟩
                    clear hK K'
                    have T7 := Lib.hid n7
                    clear n7 T1 AD
                    simp only [Act.put, List.setIfInBounds_toArray, List.set_cons_succ, List.set_cons_zero]
                    refine obTakeH (i := 10) (d := 96) (v := .bool false) rfl rfl (by kernel_rfl) (by kernel_rfl) (by kernel_rfl) (fun _ _ _ h => h) rfl (fun w hS => by obtain s1 := hS; go_simp) hS ?_
                    refine obTakeH (i := 11) (d := 97) (v := .bool false) rfl rfl (by kernel_rfl) (by kernel_rfl) (by kernel_rfl) (fun _ _ _ h => h) rfl (fun w hS => by obtain s1 := hS; go_simp) hS ?_
                    simp only [Act.put, List.setIfInBounds_toArray, List.set_cons_succ, List.set_cons_zero]
                    refine obSkipH (i := 12) (d := 98) rfl rfl (by kernel_rfl) (by kernel_rfl) (by kernel_rfl) (fun _ _ _ h => h) (by kernel_rfl) hS ?_
                    refine obSkipH (i := 13) (d := 99) rfl rfl (by kernel_rfl) (by kernel_rfl) (by kernel_rfl) (fun _ _ _ h => h) (by kernel_rfl) hS ?_
                    refine obSkipH (i := 14) (d := 100) rfl rfl (by kernel_rfl) (by kernel_rfl) (by kernel_rfl) (fun _ _ _ h => h) (by kernel_rfl) hS ?_
                    refine obSkipH (i := 15) (d := 101) rfl rfl (by kernel_rfl) (by kernel_rfl) (by kernel_rfl) (fun _ _ _ h => h) (by kernel_rfl) hS ?_
                    refine obSkipH (i := 16) (d := 102) rfl rfl (by kernel_rfl) (by kernel_rfl) (by kernel_rfl) (fun _ _ _ h => h) (by kernel_rfl) hS ?_
                    simp only [Act.put, List.setIfInBounds_toArray, List.set_cons_succ, List.set_cons_zero]
                    refine obTakeH (i := 17) (d := 103) (v := .bool false) rfl rfl (by kernel_rfl) (by kernel_rfl) (by kernel_rfl) (fun _ _ _ h => h) rfl (fun w hS => by obtain s1 := hS; go_simp) hS ?_
                    refine obTakeH (i := 18) (d := 104) (v := .bool false) rfl rfl (by kernel_rfl) (by kernel_rfl) (by kernel_rfl) (fun _ _ _ h => h) rfl (fun w hS => by obtain s1 := hS; go_simp) hS ?_
                    simp only [Act.put, List.setIfInBounds_toArray, List.set_cons_succ, List.set_cons_zero]
                    refine obSkipH (i := 19) (d := 105) rfl rfl (by kernel_rfl) (by kernel_rfl) (by kernel_rfl) (fun _ _ _ h => h) (by kernel_rfl) hS ?_
                    refine obSkipH (i := 20) (d := 106) rfl rfl (by kernel_rfl) (by kernel_rfl) (by kernel_rfl) (fun _ _ _ h => h) (by kernel_rfl) hS ?_
                    refine obSkipH (i := 21) (d := 107) rfl rfl (by kernel_rfl) (by kernel_rfl) (by kernel_rfl) (fun _ _ _ h => h) (by kernel_rfl) hS ?_
                    refine obSkipH (i := 22) (d := 108) rfl rfl (by kernel_rfl) (by kernel_rfl) (by kernel_rfl) (fun _ _ _ h => h) (by kernel_rfl) hS ?_
                    refine obSkipH (i := 23) (d := 109) rfl rfl (by kernel_rfl) (by kernel_rfl) (by kernel_rfl) (fun _ _ _ h => h) (by kernel_rfl) hS ?_
                    simp only [Act.put, List.setIfInBounds_toArray, List.set_cons_succ, List.set_cons_zero]
                    refine obTakeH (i := 24) (d := 110) (v := .bool false) rfl rfl (by kernel_rfl) (by kernel_rfl) (by kernel_rfl) (fun _ _ _ h => h) rfl (fun w hS => by obtain s1 := hS; go_simp) hS ?_
                    simp only [Act.put, List.setIfInBounds_toArray, List.set_cons_succ, List.set_cons_zero]
                    refine wpAnyH_done (by kernel_rfl) ?_ 0
                    clear im cm hS
                    go_wp2_with fail
                    refine wp_region_held (S := fun w' => w'.cell? ⟨g2, i, none⟩ = some (.int .i64 u)) (by kernel_rfl) ?_
                    change wpAnyH _ .any _ _ _ 10 (Array.replicate 10 false) _ w7.drew
                    have T8 : Hid (Tri w wX w7.drew A F7 (addS (all (xs.take i)) v v) B G (all (ps.take i)) (fun k => k = g1 ∨ k = g2)) := T7.out.keep (drewB _ _)
                    have hS : w7.drew.cell? ⟨g2, i, none⟩ = some (.int .i64 u) := (World.cell?_of_block (w := wX) (a := ⟨g2, i, none⟩) (T7.out.same g2 (.inr rfl))).trans hcp
                    clear T7
                    refine obTakeH (i := 0) (d := 111) (v := .pointer (some ⟨B, 0, none⟩)) rfl rfl (by kernel_rfl) (by kernel_rfl) (by kernel_rfl) (fun _ _ _ h => h) rfl (fun w hS => by obtain s1 := hS; go_simp) hS ?_
                    refine obTakeH (i := 1) (d := 112) (v := (.slice (some ⟨g2, 0, none⟩) N c2)) rfl rfl (by kernel_rfl) (by kernel_rfl) (by kernel_rfl) (fun _ _ _ h => h) rfl (fun w hS => by obtain s1 := hS; go_simp) hS ?_
                    refine obTakeH (i := 2) (d := 113) (v := .int .i64 (i : Int)) rfl rfl (by kernel_rfl) (by kernel_rfl) (by kernel_rfl) (fun _ _ _ h => h) rfl (fun w hS => by obtain s1 := hS; go_simp) hS ?_
                    refine obTakeH (i := 3) (d := 114) (v := .pointer (some ⟨g2, i, none⟩)) rfl rfl (by kernel_rfl) (by kernel_rfl) (by kernel_rfl) (fun _ _ _ h => h) rfl (fun w hS => by obtain s1 := hS; go_simp) hS ?_
                    refine obTakeH (i := 4) (d := 115) (v := .int .i64 u) rfl rfl (by kernel_rfl) (by kernel_rfl) (by kernel_rfl) (fun _ _ _ h => h) rfl (fun w hS => by obtain s1 := hS; go_simp) hS ?_
                    refine obTakeH (i := 5) (d := 116) (v := (.slice (some ⟨g2, 0, none⟩) N c2)) rfl rfl (by kernel_rfl) (by kernel_rfl) (by kernel_rfl) (fun _ _ _ h => h) rfl (fun w hS => by obtain s1 := hS; go_simp) hS ?_
                    refine obTakeH (i := 6) (d := 117) (v := .int .i64 (i : Int)) rfl rfl (by kernel_rfl) (by kernel_rfl) (by kernel_rfl) (fun _ _ _ h => h) rfl (fun w hS => by obtain s1 := hS; go_simp) hS ?_
                    refine obTakeH (i := 7) (d := 118) (v := .pointer (some ⟨g2, i, none⟩)) rfl rfl (by kernel_rfl) (by kernel_rfl) (by kernel_rfl) (fun _ _ _ h => h) rfl (fun w hS => by obtain s1 := hS; go_simp) hS ?_
                    refine obTakeH (i := 8) (d := 119) (v := .int .i64 u) rfl rfl (by kernel_rfl) (by kernel_rfl) (by kernel_rfl) (fun _ _ _ h => h) rfl (fun w hS => by obtain s1 := hS; go_simp) hS ?_
                    simp only [Act.put, List.setIfInBounds_toArray, List.set_cons_succ, List.set_cons_zero]
                    refine wpAnyH_all (rs := [9]) (by kernel_rfl) (by simp) (fun j hj => ?_)
                    obtain rfl : j = 9 := by simpa using hj
                    refine wpOp_step rfl (fun K' hK => ?_)
                    clear hj
                    refine obCall3 (k1 := 111) (k2 := 115) (k3 := 119) (d := 120) (x1 := .pointer (some ⟨B, 0, none⟩)) (x2 := .int .i64 u) (x3 := .int .i64 u) 11 _ rfl rfl _ _ _ _ (enter_add _ _ _) rfl rfl rfl (AB.out _ _ T8.out) (fun e w9 hR => ?_)
                    obtain ⟨rfl, G9, n9⟩ := hR
                    refine ⟨_, rfl, hK _ _ ⟨(World.cell?_of_block (w := wX) (a := ⟨g2, i, none⟩) (n9.same g2 (.inr rfl))).trans hcp, ?_⟩⟩
                    clear hK K'
                    have T9 := Lib.hid n9
                    clear n9 T8 AB hS ip
                    simp only [Act.put, List.setIfInBounds_toArray, List.set_cons_succ, List.set_cons_zero]
                    refine wpAnyH_done (by kernel_rfl) ?_ 0
                    go_wp2_with fail
                    refine (pinv_ranges T9.out.two.a).mono ?_
                    rintro e w10 ⟨v10, rfl, ho, b10⟩
                    have T10 := Lib.hid (T9.out.keep b10)
                    have CK : Hid (∀ _ : Unit, _) := fun _ => T9.out.two.a.ok.chk_ok ho.at
                    clear ho b10 T9
                    go_wp2_with fail
                    refine (CK.out ()).mono ?_
                    rintro e w11 ⟨rfl, b11⟩
                    have T11 := Lib.hid (T10.out.keep b11)
                    clear b11 CK T10
                    rw [← ea.out, ← ep.out] at T11
                    go_wp2_with fail
                    go_roundg (N - (i + 1))
                    case measure => omega
                    case rel => exact ⟨i + 1, F7, G9, by omega, by go_num, T11⟩
                  · have d2 : decide (v ≤ 4611686018427387903) = false := decide_eq_false h2
                    have eE : addE v v = 2 := by
                      unfold addE
                      rw [if_neg (fun q => h2 (fine_iff.1 q).2.1)]
                    have AD : Hid (∀ w', Tri w wX w' A F (all (xs.take i)) B G (all (ps.take i)) (fun k => k = g1 ∨ k = g2) → Calls Try.prog 11 #[.pointer (some ⟨A, 0, none⟩), .int .i64 v, .int .i64 v] w' fun e w'' => e = .returned (.int .i64 2) ∧ ∃ F', Tri w wX w'' A F' (addS (all (xs.take i)) v v) B G (all (ps.take i)) (fun k => k = g1 ∨ k = g2)) := fun w' h => by
                      have := tri_add h bv bv
                      rw [eE] at this
                      exact this
                    go_wp2_with fail
                    refine wp_region_held (S := fun w' => w'.cell? ⟨g1, i, none⟩ = some (.int .i64 v)) (by kernel_rfl) ?_
                    change wpAnyH _ .any _ _ _ 25 (Array.replicate 25 false) _ wr.drew
                    have T1 : Hid (Tri w wX wr.drew A F (all (xs.take i)) B G (all (ps.take i)) (fun k => k = g1 ∨ k = g2)) := T.out.keep (drewB _ _)
                    have hS : wr.drew.cell? ⟨g1, i, none⟩ = some (.int .i64 v) := cm
                    clear T
                    refine obTakeH (i := 0) (d := 86) (v := .pointer (some ⟨A, 0, none⟩)) rfl rfl (by kernel_rfl) (by kernel_rfl) (by kernel_rfl) (fun _ _ _ h => h) rfl (fun w hS => by obtain s1 := hS; go_simp) hS ?_
                    refine obTakeH (i := 1) (d := 87) (v := (.slice (some ⟨g1, 0, none⟩) N c1)) rfl rfl (by kernel_rfl) (by kernel_rfl) (by kernel_rfl) (fun _ _ _ h => h) rfl (fun w hS => by obtain s1 := hS; go_simp) hS ?_
                    refine obTakeH (i := 2) (d := 88) (v := .int .i64 (i : Int)) rfl rfl (by kernel_rfl) (by kernel_rfl) (by kernel_rfl) (fun _ _ _ h => h) rfl (fun w hS => by obtain s1 := hS; go_simp) hS ?_
                    refine obTakeH (i := 3) (d := 89) (v := .pointer (some ⟨g1, i, none⟩)) rfl rfl (by kernel_rfl) (by kernel_rfl) (by kernel_rfl) (fun _ _ _ h => h) rfl (fun w hS => by obtain s1 := hS; go_simp) hS ?_
                    refine obTakeH (i := 4) (d := 90) (v := .int .i64 v) rfl rfl (by kernel_rfl) (by kernel_rfl) (by kernel_rfl) (fun _ _ _ h => h) rfl (fun w hS => by obtain s1 := hS; go_simp) hS ?_
                    refine obTakeH (i := 5) (d := 91) (v := (.slice (some ⟨g1, 0, none⟩) N c1)) rfl rfl (by kernel_rfl) (by kernel_rfl) (by kernel_rfl) (fun _ _ _ h => h) rfl (fun w hS => by obtain s1 := hS; go_simp) hS ?_
                    refine obTakeH (i := 6) (d := 92) (v := .int .i64 (i : Int)) rfl rfl (by kernel_rfl) (by kernel_rfl) (by kernel_rfl) (fun _ _ _ h => h) rfl (fun w hS => by obtain s1 := hS; go_simp) hS ?_
                    refine obTakeH (i := 7) (d := 93) (v := .pointer (some ⟨g1, i, none⟩)) rfl rfl (by kernel_rfl) (by kernel_rfl) (by kernel_rfl) (fun _ _ _ h => h) rfl (fun w hS => by obtain s1 := hS; go_simp) hS ?_
                    refine obTakeH (i := 8) (d := 94) (v := .int .i64 v) rfl rfl (by kernel_rfl) (by kernel_rfl) (by kernel_rfl) (fun _ _ _ h => h) rfl (fun w hS => by obtain s1 := hS; go_simp) hS ?_
                    simp only [Act.put, List.setIfInBounds_toArray, List.set_cons_succ, List.set_cons_zero]
                    refine wpAnyH_all (rs := [9]) (by kernel_rfl) (by simp) (fun j hj => ?_)
                    obtain rfl : j = 9 := by simpa using hj
                    refine wpOp_step rfl (fun K' hK => ?_)
                    clear hj
                    refine obCall3 (k1 := 86) (k2 := 90) (k3 := 94) (d := 95) (x1 := .pointer (some ⟨A, 0, none⟩)) (x2 := .int .i64 v) (x3 := .int .i64 v) 11 _ rfl rfl _ _ _ _ (enter_add _ _ _) rfl rfl rfl (AD.out _ T1.out) (fun e w7 hR => ?_)
                    obtain ⟨rfl, F7, n7⟩ := hR
                    have hS : w7.cell? ⟨g1, i, none⟩ = some (.int .i64 v) := (World.cell?_of_block (w := wX) (a := ⟨g1, i, none⟩) (n7.same g1 (.inl rfl))).trans hcm
                    refine ⟨_, rfl, hK _ _ ⟨hS, ?_⟩⟩
                    clear hK K'
                    have T7 := Lib.hid n7
                    clear n7 T1 AD
                    simp only [Act.put, List.setIfInBounds_toArray, List.set_cons_succ, List.set_cons_zero]
                    refine obTakeH (i := 10) (d := 96) (v := .bool true) rfl rfl (by kernel_rfl) (by kernel_rfl) (by kernel_rfl) (fun _ _ _ h => h) rfl (fun w hS => by obtain s1 := hS; go_simp) hS ?_
                    refine obTakeH (i := 11) (d := 97) (v := .bool true) rfl rfl (by kernel_rfl) (by kernel_rfl) (by kernel_rfl) (fun _ _ _ h => h) rfl (fun w hS => by obtain s1 := hS; go_simp) hS ?_
                    simp only [Act.put, List.setIfInBounds_toArray, List.set_cons_succ, List.set_cons_zero]
                    refine obTakeHG (i := 12) (d := 98) (v := (.slice (some ⟨g1, 0, none⟩) N c1)) rfl rfl (by kernel_rfl) (by kernel_rfl) (by kernel_rfl) (fun _ _ _ h => h) (by kernel_rfl) (fun w hS => by obtain s1 := hS; go_simp) hS ?_
                    refine obTakeHG (i := 13) (d := 99) (v := .int .i64 (i : Int)) rfl rfl (by kernel_rfl) (by kernel_rfl) (by kernel_rfl) (fun _ _ _ h => h) (by kernel_rfl) (fun w hS => by obtain s1 := hS; go_simp) hS ?_
                    refine obTakeHG (i := 14) (d := 100) (v := .pointer (some ⟨g1, i, none⟩)) rfl rfl (by kernel_rfl) (by kernel_rfl) (by kernel_rfl) (fun _ _ _ h => h) (by kernel_rfl) (fun w hS => by obtain s1 := hS; go_simp) hS ?_
                    refine obTakeHG (i := 15) (d := 101) (v := .int .i64 v) rfl rfl (by kernel_rfl) (by kernel_rfl) (by kernel_rfl) (fun _ _ _ h => h) (by kernel_rfl) (fun w hS => by obtain s1 := hS; go_simp) hS ?_
                    refine obTakeHG (i := 16) (d := 102) (v := .bool true) rfl rfl (by kernel_rfl) (by kernel_rfl) (by kernel_rfl) (fun _ _ _ h => h) (by kernel_rfl) (fun w hS => by obtain s1 := hS; go_simp) hS ?_
                    simp only [Act.put, List.setIfInBounds_toArray, List.set_cons_succ, List.set_cons_zero]
                    refine obTakeH (i := 17) (d := 103) (v := .bool true) rfl rfl (by kernel_rfl) (by kernel_rfl) (by kernel_rfl) (fun _ _ _ h => h) rfl (fun w hS => by obtain s1 := hS; go_simp) hS ?_
                    refine obTakeH (i := 18) (d := 104) (v := .bool true) rfl rfl (by kernel_rfl) (by kernel_rfl) (by kernel_rfl) (fun _ _ _ h => h) rfl (fun w hS => by obtain s1 := hS; go_simp) hS ?_
                    simp only [Act.put, List.setIfInBounds_toArray, List.set_cons_succ, List.set_cons_zero]
                    refine obTakeHG (i := 19) (d := 105) (v := (.slice (some ⟨g1, 0, none⟩) N c1)) rfl rfl (by kernel_rfl) (by kernel_rfl) (by kernel_rfl) (fun _ _ _ h => h) (by kernel_rfl) (fun w hS => by obtain s1 := hS; go_simp) hS ?_
                    refine obTakeHG (i := 20) (d := 106) (v := .int .i64 (i : Int)) rfl rfl (by kernel_rfl) (by kernel_rfl) (by kernel_rfl) (fun _ _ _ h => h) (by kernel_rfl) (fun w hS => by obtain s1 := hS; go_simp) hS ?_
                    refine obTakeHG (i := 21) (d := 107) (v := .pointer (some ⟨g1, i, none⟩)) rfl rfl (by kernel_rfl) (by kernel_rfl) (by kernel_rfl) (fun _ _ _ h => h) (by kernel_rfl) (fun w hS => by obtain s1 := hS; go_simp) hS ?_
                    refine obTakeHG (i := 22) (d := 108) (v := .int .i64 v) rfl rfl (by kernel_rfl) (by kernel_rfl) (by kernel_rfl) (fun _ _ _ h => h) (by kernel_rfl) (fun w hS => by obtain s1 := hS; go_simp) hS ?_
                    refine obTakeHG (i := 23) (d := 109) (v := .bool false) rfl rfl (by kernel_rfl) (by kernel_rfl) (by kernel_rfl) (fun _ _ _ h => h) (by kernel_rfl) (fun w hS => by obtain s1 := hS; go_simp) hS ?_
                    refine obTakeH (i := 24) (d := 110) (v := .bool false) rfl rfl (by kernel_rfl) (by kernel_rfl) (by kernel_rfl) (fun _ _ _ h => h) rfl (fun w hS => by obtain s1 := hS; go_simp) hS ?_
                    simp only [Act.put, List.setIfInBounds_toArray, List.set_cons_succ, List.set_cons_zero]
                    refine wpAnyH_done (by kernel_rfl) ?_ 0
                    clear im cm hS
                    go_wp2_with fail
                    refine wp_region_held (S := fun w' => w'.cell? ⟨g2, i, none⟩ = some (.int .i64 u)) (by kernel_rfl) ?_
                    change wpAnyH _ .any _ _ _ 10 (Array.replicate 10 false) _ w7.drew
                    have T8 : Hid (Tri w wX w7.drew A F7 (addS (all (xs.take i)) v v) B G (all (ps.take i)) (fun k => k = g1 ∨ k = g2)) := T7.out.keep (drewB _ _)
                    have hS : w7.drew.cell? ⟨g2, i, none⟩ = some (.int .i64 u) := (World.cell?_of_block (w := wX) (a := ⟨g2, i, none⟩) (T7.out.same g2 (.inr rfl))).trans hcp
                    clear T7
                    refine obTakeH (i := 0) (d := 111) (v := .pointer (some ⟨B, 0, none⟩)) rfl rfl (by kernel_rfl) (by kernel_rfl) (by kernel_rfl) (fun _ _ _ h => h) rfl (fun w hS => by obtain s1 := hS; go_simp) hS ?_
                    refine obTakeH (i := 1) (d := 112) (v := (.slice (some ⟨g2, 0, none⟩) N c2)) rfl rfl (by kernel_rfl) (by kernel_rfl) (by kernel_rfl) (fun _ _ _ h => h) rfl (fun w hS => by obtain s1 := hS; go_simp) hS ?_
                    refine obTakeH (i := 2) (d := 113) (v := .int .i64 (i : Int)) rfl rfl (by kernel_rfl) (by kernel_rfl) (by kernel_rfl) (fun _ _ _ h => h) rfl (fun w hS => by obtain s1 := hS; go_simp) hS ?_
                    refine obTakeH (i := 3) (d := 114) (v := .pointer (some ⟨g2, i, none⟩)) rfl rfl (by kernel_rfl) (by kernel_rfl) (by kernel_rfl) (fun _ _ _ h => h) rfl (fun w hS => by obtain s1 := hS; go_simp) hS ?_
                    refine obTakeH (i := 4) (d := 115) (v := .int .i64 u) rfl rfl (by kernel_rfl) (by kernel_rfl) (by kernel_rfl) (fun _ _ _ h => h) rfl (fun w hS => by obtain s1 := hS; go_simp) hS ?_
                    refine obTakeH (i := 5) (d := 116) (v := (.slice (some ⟨g2, 0, none⟩) N c2)) rfl rfl (by kernel_rfl) (by kernel_rfl) (by kernel_rfl) (fun _ _ _ h => h) rfl (fun w hS => by obtain s1 := hS; go_simp) hS ?_
                    refine obTakeH (i := 6) (d := 117) (v := .int .i64 (i : Int)) rfl rfl (by kernel_rfl) (by kernel_rfl) (by kernel_rfl) (fun _ _ _ h => h) rfl (fun w hS => by obtain s1 := hS; go_simp) hS ?_
                    refine obTakeH (i := 7) (d := 118) (v := .pointer (some ⟨g2, i, none⟩)) rfl rfl (by kernel_rfl) (by kernel_rfl) (by kernel_rfl) (fun _ _ _ h => h) rfl (fun w hS => by obtain s1 := hS; go_simp) hS ?_
                    refine obTakeH (i := 8) (d := 119) (v := .int .i64 u) rfl rfl (by kernel_rfl) (by kernel_rfl) (by kernel_rfl) (fun _ _ _ h => h) rfl (fun w hS => by obtain s1 := hS; go_simp) hS ?_
                    simp only [Act.put, List.setIfInBounds_toArray, List.set_cons_succ, List.set_cons_zero]
                    refine wpAnyH_all (rs := [9]) (by kernel_rfl) (by simp) (fun j hj => ?_)
                    obtain rfl : j = 9 := by simpa using hj
                    refine wpOp_step rfl (fun K' hK => ?_)
                    clear hj
                    refine obCall3 (k1 := 111) (k2 := 115) (k3 := 119) (d := 120) (x1 := .pointer (some ⟨B, 0, none⟩)) (x2 := .int .i64 u) (x3 := .int .i64 u) 11 _ rfl rfl _ _ _ _ (enter_add _ _ _) rfl rfl rfl (AB.out _ _ T8.out) (fun e w9 hR => ?_)
                    obtain ⟨rfl, G9, n9⟩ := hR
                    refine ⟨_, rfl, hK _ _ ⟨(World.cell?_of_block (w := wX) (a := ⟨g2, i, none⟩) (n9.same g2 (.inr rfl))).trans hcp, ?_⟩⟩
                    clear hK K'
                    have T9 := Lib.hid n9
                    clear n9 T8 AB hS ip
                    simp only [Act.put, List.setIfInBounds_toArray, List.set_cons_succ, List.set_cons_zero]
                    refine wpAnyH_done (by kernel_rfl) ?_ 0
                    go_wp2_with fail
                    refine (pinv_ranges T9.out.two.a).mono ?_
                    rintro e w10 ⟨v10, rfl, ho, b10⟩
                    have T10 := Lib.hid (T9.out.keep b10)
                    have CK : Hid (∀ _ : Unit, _) := fun _ => T9.out.two.a.ok.chk_ok ho.at
                    clear ho b10 T9
                    go_wp2_with fail
                    refine (CK.out ()).mono ?_
                    rintro e w11 ⟨rfl, b11⟩
                    have T11 := Lib.hid (T10.out.keep b11)
                    clear b11 CK T10
                    rw [← ea.out, ← ep.out] at T11
                    go_wp2_with fail
                    go_roundg (N - (i + 1))
                    case measure => omega
                    case rel => exact ⟨i + 1, F7, G9, by omega, by go_num, T11⟩
                · have d1 : decide (0 ≤ v) = false := decide_eq_false h1
                  have eE : addE v v = 2 := by
                    unfold addE
                    rw [if_neg (fun q => h1 (fine_iff.1 q).1)]
                  have AD : Hid (∀ w', Tri w wX w' A F (all (xs.take i)) B G (all (ps.take i)) (fun k => k = g1 ∨ k = g2) → Calls Try.prog 11 #[.pointer (some ⟨A, 0, none⟩), .int .i64 v, .int .i64 v] w' fun e w'' => e = .returned (.int .i64 2) ∧ ∃ F', Tri w wX w'' A F' (addS (all (xs.take i)) v v) B G (all (ps.take i)) (fun k => k = g1 ∨ k = g2)) := fun w' h => by
                    have := tri_add h bv bv
                    rw [eE] at this
                    exact this
                  go_wp2_with fail
                  refine wp_region_held (S := fun w' => w'.cell? ⟨g1, i, none⟩ = some (.int .i64 v)) (by kernel_rfl) ?_
                  change wpAnyH _ .any _ _ _ 25 (Array.replicate 25 false) _ wr.drew
                  have T1 : Hid (Tri w wX wr.drew A F (all (xs.take i)) B G (all (ps.take i)) (fun k => k = g1 ∨ k = g2)) := T.out.keep (drewB _ _)
                  have hS : wr.drew.cell? ⟨g1, i, none⟩ = some (.int .i64 v) := cm
                  clear T
                  refine obTakeH (i := 0) (d := 86) (v := .pointer (some ⟨A, 0, none⟩)) rfl rfl (by kernel_rfl) (by kernel_rfl) (by kernel_rfl) (fun _ _ _ h => h) rfl (fun w hS => by obtain s1 := hS; go_simp) hS ?_
                  refine obTakeH (i := 1) (d := 87) (v := (.slice (some ⟨g1, 0, none⟩) N c1)) rfl rfl (by kernel_rfl) (by kernel_rfl) (by kernel_rfl) (fun _ _ _ h => h) rfl (fun w hS => by obtain s1 := hS; go_simp) hS ?_
                  refine obTakeH (i := 2) (d := 88) (v := .int .i64 (i : Int)) rfl rfl (by kernel_rfl) (by kernel_rfl) (by kernel_rfl) (fun _ _ _ h => h) rfl (fun w hS => by obtain s1 := hS; go_simp) hS ?_
                  refine obTakeH (i := 3) (d := 89) (v := .pointer (some ⟨g1, i, none⟩)) rfl rfl (by kernel_rfl) (by kernel_rfl) (by kernel_rfl) (fun _ _ _ h => h) rfl (fun w hS => by obtain s1 := hS; go_simp) hS ?_
                  refine obTakeH (i := 4) (d := 90) (v := .int .i64 v) rfl rfl (by kernel_rfl) (by kernel_rfl) (by kernel_rfl) (fun _ _ _ h => h) rfl (fun w hS => by obtain s1 := hS; go_simp) hS ?_
                  refine obTakeH (i := 5) (d := 91) (v := (.slice (some ⟨g1, 0, none⟩) N c1)) rfl rfl (by kernel_rfl) (by kernel_rfl) (by kernel_rfl) (fun _ _ _ h => h) rfl (fun w hS => by obtain s1 := hS; go_simp) hS ?_
                  refine obTakeH (i := 6) (d := 92) (v := .int .i64 (i : Int)) rfl rfl (by kernel_rfl) (by kernel_rfl) (by kernel_rfl) (fun _ _ _ h => h) rfl (fun w hS => by obtain s1 := hS; go_simp) hS ?_
                  refine obTakeH (i := 7) (d := 93) (v := .pointer (some ⟨g1, i, none⟩)) rfl rfl (by kernel_rfl) (by kernel_rfl) (by kernel_rfl) (fun _ _ _ h => h) rfl (fun w hS => by obtain s1 := hS; go_simp) hS ?_
                  refine obTakeH (i := 8) (d := 94) (v := .int .i64 v) rfl rfl (by kernel_rfl) (by kernel_rfl) (by kernel_rfl) (fun _ _ _ h => h) rfl (fun w hS => by obtain s1 := hS; go_simp) hS ?_
                  simp only [Act.put, List.setIfInBounds_toArray, List.set_cons_succ, List.set_cons_zero]
                  refine wpAnyH_all (rs := [9]) (by kernel_rfl) (by simp) (fun j hj => ?_)
                  obtain rfl : j = 9 := by simpa using hj
                  refine wpOp_step rfl (fun K' hK => ?_)
                  clear hj
                  refine obCall3 (k1 := 86) (k2 := 90) (k3 := 94) (d := 95) (x1 := .pointer (some ⟨A, 0, none⟩)) (x2 := .int .i64 v) (x3 := .int .i64 v) 11 _ rfl rfl _ _ _ _ (enter_add _ _ _) rfl rfl rfl (AD.out _ T1.out) (fun e w7 hR => ?_)
                  obtain ⟨rfl, F7, n7⟩ := hR
                  have hS : w7.cell? ⟨g1, i, none⟩ = some (.int .i64 v) := (World.cell?_of_block (w := wX) (a := ⟨g1, i, none⟩) (n7.same g1 (.inl rfl))).trans hcm
                  refine ⟨_, rfl, hK _ _ ⟨hS, ?_⟩⟩
                  clear hK K'
                  have T7 := Lib.hid n7
                  clear n7 T1 AD
                  simp only [Act.put, List.setIfInBounds_toArray, List.set_cons_succ, List.set_cons_zero]
                  refine obTakeH (i := 10) (d := 96) (v := .bool true) rfl rfl (by kernel_rfl) (by kernel_rfl) (by kernel_rfl) (fun _ _ _ h => h) rfl (fun w hS => by obtain s1 := hS; go_simp) hS ?_
                  refine obTakeH (i := 11) (d := 97) (v := .bool true) rfl rfl (by kernel_rfl) (by kernel_rfl) (by kernel_rfl) (fun _ _ _ h => h) rfl (fun w hS => by obtain s1 := hS; go_simp) hS ?_
                  simp only [Act.put, List.setIfInBounds_toArray, List.set_cons_succ, List.set_cons_zero]
                  refine obTakeHG (i := 12) (d := 98) (v := (.slice (some ⟨g1, 0, none⟩) N c1)) rfl rfl (by kernel_rfl) (by kernel_rfl) (by kernel_rfl) (fun _ _ _ h => h) (by kernel_rfl) (fun w hS => by obtain s1 := hS; go_simp) hS ?_
                  refine obTakeHG (i := 13) (d := 99) (v := .int .i64 (i : Int)) rfl rfl (by kernel_rfl) (by kernel_rfl) (by kernel_rfl) (fun _ _ _ h => h) (by kernel_rfl) (fun w hS => by obtain s1 := hS; go_simp) hS ?_
                  refine obTakeHG (i := 14) (d := 100) (v := .pointer (some ⟨g1, i, none⟩)) rfl rfl (by kernel_rfl) (by kernel_rfl) (by kernel_rfl) (fun _ _ _ h => h) (by kernel_rfl) (fun w hS => by obtain s1 := hS; go_simp) hS ?_
                  refine obTakeHG (i := 15) (d := 101) (v := .int .i64 v) rfl rfl (by kernel_rfl) (by kernel_rfl) (by kernel_rfl) (fun _ _ _ h => h) (by kernel_rfl) (fun w hS => by obtain s1 := hS; go_simp) hS ?_
                  refine obTakeHG (i := 16) (d := 102) (v := .bool false) rfl rfl (by kernel_rfl) (by kernel_rfl) (by kernel_rfl) (fun _ _ _ h => h) (by kernel_rfl) (fun w hS => by obtain s1 := hS; go_simp) hS ?_
                  simp only [Act.put, List.setIfInBounds_toArray, List.set_cons_succ, List.set_cons_zero]
                  refine obTakeH (i := 17) (d := 103) (v := .bool false) rfl rfl (by kernel_rfl) (by kernel_rfl) (by kernel_rfl) (fun _ _ _ h => h) rfl (fun w hS => by obtain s1 := hS; go_simp) hS ?_
                  refine obTakeH (i := 18) (d := 104) (v := .bool false) rfl rfl (by kernel_rfl) (by kernel_rfl) (by kernel_rfl) (fun _ _ _ h => h) rfl (fun w hS => by obtain s1 := hS; go_simp) hS ?_
                  simp only [Act.put, List.setIfInBounds_toArray, List.set_cons_succ, List.set_cons_zero]
                  refine obSkipH (i := 19) (d := 105) rfl rfl (by kernel_rfl) (by kernel_rfl) (by kernel_rfl) (fun _ _ _ h => h) (by kernel_rfl) hS ?_
                  refine obSkipH (i := 20) (d := 106) rfl rfl (by kernel_rfl) (by kernel_rfl) (by kernel_rfl) (fun _ _ _ h => h) (by kernel_rfl) hS ?_
                  refine obSkipH (i := 21) (d := 107) rfl rfl (by kernel_rfl) (by kernel_rfl) (by kernel_rfl) (fun _ _ _ h => h) (by kernel_rfl) hS ?_
                  refine obSkipH (i := 22) (d := 108) rfl rfl (by kernel_rfl) (by kernel_rfl) (by kernel_rfl) (fun _ _ _ h => h) (by kernel_rfl) hS ?_
                  refine obSkipH (i := 23) (d := 109) rfl rfl (by kernel_rfl) (by kernel_rfl) (by kernel_rfl) (fun _ _ _ h => h) (by kernel_rfl) hS ?_
                  simp only [Act.put, List.setIfInBounds_toArray, List.set_cons_succ, List.set_cons_zero]
                  refine obTakeH (i := 24) (d := 110) (v := .bool false) rfl rfl (by kernel_rfl) (by kernel_rfl) (by kernel_rfl) (fun _ _ _ h => h) rfl (fun w hS => by obtain s1 := hS; go_simp) hS ?_
                  simp only [Act.put, List.setIfInBounds_toArray, List.set_cons_succ, List.set_cons_zero]
                  refine wpAnyH_done (by kernel_rfl) ?_ 0
                  clear im cm hS
                  go_wp2_with fail
                  refine wp_region_held (S := fun w' => w'.cell? ⟨g2, i, none⟩ = some (.int .i64 u)) (by kernel_rfl) ?_
                  change wpAnyH _ .any _ _ _ 10 (Array.replicate 10 false) _ w7.drew
                  have T8 : Hid (Tri w wX w7.drew A F7 (addS (all (xs.take i)) v v) B G (all (ps.take i)) (fun k => k = g1 ∨ k = g2)) := T7.out.keep (drewB _ _)
                  have hS : w7.drew.cell? ⟨g2, i, none⟩ = some (.int .i64 u) := (World.cell?_of_block (w := wX) (a := ⟨g2, i, none⟩) (T7.out.same g2 (.inr rfl))).trans hcp
                  clear T7
                  refine obTakeH (i := 0) (d := 111) (v := .pointer (some ⟨B, 0, none⟩)) rfl rfl (by kernel_rfl) (by kernel_rfl) (by kernel_rfl) (fun _ _ _ h => h) rfl (fun w hS => by obtain s1 := hS; go_simp) hS ?_
                  refine obTakeH (i := 1) (d := 112) (v := (.slice (some ⟨g2, 0, none⟩) N c2)) rfl rfl (by kernel_rfl) (by kernel_rfl) (by kernel_rfl) (fun _ _ _ h => h) rfl (fun w hS => by obtain s1 := hS; go_simp) hS ?_
                  refine obTakeH (i := 2) (d := 113) (v := .int .i64 (i : Int)) rfl rfl (by kernel_rfl) (by kernel_rfl) (by kernel_rfl) (fun _ _ _ h => h) rfl (fun w hS => by obtain s1 := hS; go_simp) hS ?_
                  refine obTakeH (i := 3) (d := 114) (v := .pointer (some ⟨g2, i, none⟩)) rfl rfl (by kernel_rfl) (by kernel_rfl) (by kernel_rfl) (fun _ _ _ h => h) rfl (fun w hS => by obtain s1 := hS; go_simp) hS ?_
                  refine obTakeH (i := 4) (d := 115) (v := .int .i64 u) rfl rfl (by kernel_rfl) (by kernel_rfl) (by kernel_rfl) (fun _ _ _ h => h) rfl (fun w hS => by obtain s1 := hS; go_simp) hS ?_
                  refine obTakeH (i := 5) (d := 116) (v := (.slice (some ⟨g2, 0, none⟩) N c2)) rfl rfl (by kernel_rfl) (by kernel_rfl) (by kernel_rfl) (fun _ _ _ h => h) rfl (fun w hS => by obtain s1 := hS; go_simp) hS ?_
                  refine obTakeH (i := 6) (d := 117) (v := .int .i64 (i : Int)) rfl rfl (by kernel_rfl) (by kernel_rfl) (by kernel_rfl) (fun _ _ _ h => h) rfl (fun w hS => by obtain s1 := hS; go_simp) hS ?_
                  refine obTakeH (i := 7) (d := 118) (v := .pointer (some ⟨g2, i, none⟩)) rfl rfl (by kernel_rfl) (by kernel_rfl) (by kernel_rfl) (fun _ _ _ h => h) rfl (fun w hS => by obtain s1 := hS; go_simp) hS ?_
                  refine obTakeH (i := 8) (d := 119) (v := .int .i64 u) rfl rfl (by kernel_rfl) (by kernel_rfl) (by kernel_rfl) (fun _ _ _ h => h) rfl (fun w hS => by obtain s1 := hS; go_simp) hS ?_
                  simp only [Act.put, List.setIfInBounds_toArray, List.set_cons_succ, List.set_cons_zero]
                  refine wpAnyH_all (rs := [9]) (by kernel_rfl) (by simp) (fun j hj => ?_)
                  obtain rfl : j = 9 := by simpa using hj
                  refine wpOp_step rfl (fun K' hK => ?_)
                  clear hj
                  refine obCall3 (k1 := 111) (k2 := 115) (k3 := 119) (d := 120) (x1 := .pointer (some ⟨B, 0, none⟩)) (x2 := .int .i64 u) (x3 := .int .i64 u) 11 _ rfl rfl _ _ _ _ (enter_add _ _ _) rfl rfl rfl (AB.out _ _ T8.out) (fun e w9 hR => ?_)
                  obtain ⟨rfl, G9, n9⟩ := hR
                  refine ⟨_, rfl, hK _ _ ⟨(World.cell?_of_block (w := wX) (a := ⟨g2, i, none⟩) (n9.same g2 (.inr rfl))).trans hcp, ?_⟩⟩
                  clear hK K'
                  have T9 := Lib.hid n9
                  clear n9 T8 AB hS ip
                  simp only [Act.put, List.setIfInBounds_toArray, List.set_cons_succ, List.set_cons_zero]
                  refine wpAnyH_done (by kernel_rfl) ?_ 0
                  go_wp2_with fail
                  refine (pinv_ranges T9.out.two.a).mono ?_
                  rintro e w10 ⟨v10, rfl, ho, b10⟩
                  have T10 := Lib.hid (T9.out.keep b10)
                  have CK : Hid (∀ _ : Unit, _) := fun _ => T9.out.two.a.ok.chk_ok ho.at
                  clear ho b10 T9
                  go_wp2_with fail
                  refine (CK.out ()).mono ?_
                  rintro e w11 ⟨rfl, b11⟩
                  have T11 := Lib.hid (T10.out.keep b11)
                  clear b11 CK T10
                  rw [← ea.out, ← ep.out] at T11
                  go_wp2_with fail
                  go_roundg (N - (i + 1))
                  case measure => omega
                  case rel => exact ⟨i + 1, F7, G9, by omega, by go_num, T11⟩
              · have q1 : decide ((i : Int) < (N : Int)) = false := decide_eq_false (by omega)
                rw [List.take_of_length_le (show xs.length ≤ i by omega), List.take_of_length_le (show ps.length ≤ i by omega)] at T
                go_wp2_with fail
                go_loopg [13] N (fun g iv wr => ∃ i : Nat, i + g = N ∧ iv = .int .i64 i ∧ Hid (Tri w wX wr A F (all xs) B G (all ps) (fun k => k = g1 ∨ k = g2)))
                case atStart => exact ⟨0, by omega, rfl, T⟩
                case round =>
                  clear T
                  obtain ⟨i, hi, rfl, T⟩ := hrel
                  by_cases hlt : i < N
                  · have q1 : decide ((i : Int) < (N : Int)) = true := decide_eq_true (by omega)
                    obtain ⟨v, hv⟩ : ∃ v, v = xs.getD i 0 := ⟨_, rfl⟩
                    have bv : I64 v := hv ▸ hxz.out i hlt
                    have hmem : v ∈ xs := by rw [hv]; simp [List.getD, List.getElem?_eq_getElem (show i < xs.length by omega)]
                    have hfa := (all_facts xs (by omega)).2.2 v
                    have hcm : wX.cell? ⟨g1, i, none⟩ = some (.int .i64 v) := hv ▸ NMX.out.cell i (by omega)
                    have cm : wr.cell? ⟨g1, i, none⟩ = some (.int .i64 v) := (World.cell?_of_block (w := wX) (a := ⟨g1, i, none⟩) (T.out.same g1 (.inl rfl))).trans hcm
                    have cA := fun d os => cell_regrown cm d os
                    have im := fun w' => at_i64s g1 0 N c1 i w' hlt (i : Int) rfl i (by omega)
                    clear hcm cm hv
                    by_cases h1 : 0 ≤ v
                    · have d1 : decide (0 ≤ v) = true := decide_eq_true h1
                      by_cases h2 : v ≤ 4611686018427387903
                      · have d2 : decide (v ≤ 4611686018427387903) = true := decide_eq_true h2
                        have hh : hasR (all xs) v = true := hfa.2 ⟨hmem, h1, h2⟩
                        clear hfa hmem
                        have CK : Hid (∀ d os, _) := fun d os => Calls.regrown_of (P := Try.prog) (w := wr) (d := d) (os := os) (pinv_has (n := v) (T.out.keep (below_regrown wr d os)).two.a bv)
                        rw [hh] at CK
                        go_wp2_with fail
                        refine wp_region_quiet_below (by kernel_rfl) (by kernel_rfl) ?_
                        repeat (go_big_quiet_step ((go_at_call 15; exact CK.out _ _)))
                        refine wpQuiet_nil ?_
                        intro _ hw'
                        obtain ⟨⟨dq, osq⟩, hw''⟩ := hw'
                        subst hw''
                        have T3 : Hid (Tri w wX (Go.Sort.grow (redrawn wr dq) osq) A F (all xs) B G (all ps) (fun k => k = g1 ∨ k = g2)) := T.out.keep (below_regrown wr dq osq)
                        simp only
                        generalize Go.Sort.grow (redrawn wr dq) osq = w12 at *
                        clear CK T cA im
                        go_wp2_with fail
                        go_roundg (N - (i + 1))
                        case measure => omega
                        case rel => exact ⟨i + 1, by omega, by go_num, T3⟩
                      · have d2 : decide (v ≤ 4611686018427387903) = false := decide_eq_false h2
                        have hh : hasR (all xs) v = false := by
                          rw [Bool.eq_false_iff]
                          exact fun q => h2 (hfa.1 q).2.2
                        clear hfa hmem
                        have CK : Hid (∀ d os, _) := fun d os => Calls.regrown_of (P := Try.prog) (w := wr) (d := d) (os := os) (pinv_has (n := v) (T.out.keep (below_regrown wr d os)).two.a bv)
                        rw [hh] at CK
                        go_wp2_with fail
                        refine wp_region_quiet_below (by kernel_rfl) (by kernel_rfl) ?_
                        repeat (go_big_quiet_step ((go_at_call 15; exact CK.out _ _)))
                        refine wpQuiet_nil ?_
                        intro _ hw'
                        obtain ⟨⟨dq, osq⟩, hw''⟩ := hw'
                        subst hw''
                        have T3 : Hid (Tri w wX (Go.Sort.grow (redrawn wr dq) osq) A F (all xs) B G (all ps) (fun k => k = g1 ∨ k = g2)) := T.out.keep (below_regrown wr dq osq)
                        simp only
                        generalize Go.Sort.grow (redrawn wr dq) osq = w12 at *
                        clear CK T cA im
                        go_wp2_with fail
                        go_roundg (N - (i + 1))
                        case measure => omega
                        case rel => exact ⟨i + 1, by omega, by go_num, T3⟩
                    · have d1 : decide (0 ≤ v) = false := decide_eq_false h1
                      have hh : hasR (all xs) v = false := by
                        rw [Bool.eq_false_iff]
                        exact fun q => h1 (hfa.1 q).2.1
                      clear hfa hmem
                      have CK : Hid (∀ d os, _) := fun d os => Calls.regrown_of (P := Try.prog) (w := wr) (d := d) (os := os) (pinv_has (n := v) (T.out.keep (below_regrown wr d os)).two.a bv)
                      rw [hh] at CK
                      go_wp2_with fail
                      refine wp_region_quiet_below (by kernel_rfl) (by kernel_rfl) ?_
                      repeat (go_big_quiet_step ((go_at_call 15; exact CK.out _ _)))
                      refine wpQuiet_nil ?_
                      intro _ hw'
                      obtain ⟨⟨dq, osq⟩, hw''⟩ := hw'
                      subst hw''
                      have T3 : Hid (Tri w wX (Go.Sort.grow (redrawn wr dq) osq) A F (all xs) B G (all ps) (fun k => k = g1 ∨ k = g2)) := T.out.keep (below_regrown wr dq osq)
                      simp only
                      generalize Go.Sort.grow (redrawn wr dq) osq = w12 at *
                      clear CK T cA im
                      go_wp2_with fail
                      go_roundg (N - (i + 1))
                      case measure => omega
                      case rel => exact ⟨i + 1, by omega, by go_num, T3⟩
                  · have q1 : decide ((i : Int) < (N : Int)) = false := decide_eq_false (by omega)
                    go_wp2_with fail
                    refine (pinv_ranges T.out.two.a).mono ?_
                    rintro e w12 ⟨v12, rfl, ho12, b12⟩
                    have T12 := Lib.hid (T.out.keep b12)
                    have R12 := Lib.hid ho12.at
                    clear ho12 b12 T
                    go_wp2_with fail
                    refine (pinv_ranges T12.out.two.b).mono ?_
                    rintro e w13 ⟨v13, rfl, ho13, b13⟩
                    have T13 := Lib.hid (T12.out.keep b13)
                    have SM : Hid (∀ _ : Unit, Calls Try.prog 14 #[v12, v13] w13 fun e w'' => e = .returned (.bool true) ∧ Below w13.heap.size w13 w'') := fun _ => by
                      have := rsame_ok v12 v13 (all xs) (all ps) w13 (R12.out.keep b13) ho13.at (by have := T13.out.two.a.ok.2; omega) (by have := T13.out.two.b.ok.2; omega)
                      rw [decide_eq_true (all_perm hpm.out.symm (by omega))] at this
                      exact this
                    clear ho13 b13 T12 R12
                    go_wp2_with fail
                    refine (SM.out ()).mono ?_
                    rintro e w14 ⟨rfl, b14⟩
                    have T14 := Lib.hid (T13.out.keep b14)
                    clear b14 SM T13
                    go_wp2_with fail
                    go_ret
                    exact ⟨rfl, T14.out.bel⟩

theorem contract (H : Type) (enc : TypeId × Value → H) (W : World) (base : Nat) (args : Array Value) (ds gs : List (DataW H)) (before : List MemPlace)
    (hval : ∀ (j : Nat) t v, Try.f5.params[j]? = some t → args[j]? = some v → Value.okWide Try.prog W .any base t v)
    (hW : DataW.Whole enc Try.prog Try.f5.params.toList Rows.acksRightSpec.vars false W args.toList ds gs before)
    (hsz : (DataW.weightsEach Try.prog (Try.f5.params.toList ++ (OpenSpec.ofChange Rows.acksRightSpec).bare.plain.varTypes Try.prog) (ds ++ gs)).all (· ≤ reachBytes) = true) :
    Calls Try.prog 5 args W fun e W' => ∃ v, e = .returned v ∧ Rows.acksRightSpec.post enc Try.prog Try.f5 false true false false W args v W' := by
  have hW' := hW
  obtain ⟨p, q, hA0, hV, rfl, hfz, hnd⟩ := hW
  have hA : DataW.TrodAll enc Try.prog W 0 (fun _ => true) true Try.f5.params.toList args.toList ds p := hA0
  rw [Try.params5] at hA hval hsz
  obtain ⟨v0, vs0, d0, ds0, p0, q0, hargs, rfl, rfl, h0, r0⟩ := trodAll_cons hA
  obtain ⟨v1, vs1, d1, ds1, p1, q1, rfl, rfl, rfl, h1, r1⟩ := trodAll_cons r0
  obtain ⟨rfl, rfl, rfl⟩ := trodAll_nil r1
  obtain rfl : args = #[v0, v1] := by cases args; simp_all
  obtain ⟨rfl, rfl⟩ := trodVars_none hV
  have k0 := h0
  have lt0 : ∀ x ∈ p0, x.block < W.heap.size := by obtain ⟨m, hm⟩ := k0; exact DataW.trod_lt m _ _ _ hm
  obtain ⟨a0, n0, c0, f0, rfl, hn0, hz0, hs0⟩ := open_i64s Try.underlying23 Try.underlying2 (by kernel_rfl) (hval 0 23 v0 rfl rfl) h0
  have ha0 := open_nil Try.underlying23 k0
  have z0 : n0 * 8 ≤ 140737488351232 := sized_len Try.underlying23 k0 (fun n hn => by simpa using List.all_eq_true.1 hsz _ (DataW.weights_mem_each (j := 0) (t := 23) rfl rfl n hn))
  have k1 := h1
  have lt1 : ∀ x ∈ p1, x.block < W.heap.size := by obtain ⟨m, hm⟩ := k1; exact DataW.trod_lt m _ _ _ hm
  obtain ⟨a1, n1, c1, f1, rfl, hn1, hz1, hs1⟩ := open_i64s Try.underlying43 Try.underlying3 (by kernel_rfl) (hval 1 43 v1 rfl rfl) h1
  have ha1 := open_nil Try.underlying43 k1
  have z1 : n1 * 8 ≤ 140737488351232 := sized_len Try.underlying43 k1 (fun n hn => by simpa using List.all_eq_true.1 hsz _ (DataW.weights_mem_each (j := 1) (t := 43) rfl rfl n hn))
  clear hA0
  simp only [List.append_nil] at hW'
  refine (walk a0 n0 c0 f0 a1 n1 c1 f1 W ha0 z0 hz0 hs0 hn1 hs1).mono fun e W' ⟨he, bel⟩ => ?_
  subst he
  exact ⟨_, rfl, _, _, _, [], _, [], hW', trodAll_mk1 (shut_bool Try.underlying4 _), (trodAll_cons_mk (Below.trod laidOut (by kernel_rfl) (of_decide_eq_true (by kernel_rfl)) k0 bel lt0) (trodAll_cons_mk (Below.trod laidOut (by kernel_rfl) (of_decide_eq_true (by kernel_rfl)) k1 bel lt1) trodAll_mk0)), rfl, bel.frame _, fun h => by cases h⟩

theorem laid_met (os : Os) : laidMet Try.prog Rows.acksRightRow.laid ((startWorld Try.prog os).forCall (fun _ _ => 0) ⟨#[], #[.slice none 0 0, .slice none 0 0], []⟩).memory :=
  laidMet_of_run' 8 (by kernel_rfl) (by kernel_rfl)
theorem reads (os : Os) {H : Type} (enc : TypeId × Value → H) : ∃ places, DataW.whole enc Try.prog ((startWorld Try.prog os).forCall (fun _ _ => 0) ⟨#[], #[.slice none 0 0, .slice none 0 0], []⟩).memory Try.f5.params.toList Rows.acksRightSpec.vars false #[Value.slice none 0 0, Value.slice none 0 0].toList 8 = some ([.nil, .nil], [], places) :=
  ⟨[], by kernel_rfl⟩

set_option maxRecDepth 100000 in
theorem lifted (os : Os) (started : os.Started) (H : Type) (enc : TypeId × Value → H) (F : Stop.Interp) :
    ReturnsInHanded {} Try.checked os 5 .any ((OpenSpec.ofChange Rows.acksRightSpec).preRow enc Try.prog Try.f5 Rows.acksRightRow.domain false Rows.acksRightRow.laid) (((OpenSpec.ofChange Rows.acksRightSpec).at F).post enc Try.prog Try.f5 false true false false) := by
  obtain ⟨places, hx⟩ := reads os enc
  refine returnsInHanded_of_row (C := Try.checked) (s := OpenSpec.ofChange Rows.acksRightSpec) own started (by kernel_rfl) Try.func5
    (witness_row_at (enc := enc) (C := Try.checked) false (startWorld Try.prog os) #[.slice none 0 0, .slice none 0 0] rfl (by kernel_rfl) (by kernel_rfl) (by kernel_rfl)
      (OpenSpec.preRow_of_cond 8 hx (by kernel_rfl) (fun k hk => by cases hk) (by kernel_rfl) (laid_met os))) ?_
  intro W base args ds gs before hval hW _ _ hsz _ _ _
  exact contract H enc W base args ds gs before hval hW hsz

theorem said : Rows.AcksRightSaid :=
  OpenClaim.holds_of_cond 5 Try.f5 rfl rfl rfl rfl rfl rfl rfl ⟨rfl, rfl, rfl, rfl, rfl⟩ rfl rfl rfl rfl rfl (by kernel_rfl) Try.func5 (by kernel_rfl)
    (of_decide_eq_true (by kernel_rfl)) (by unfold Func.isWrapper; first | (rw [if_pos (by decide +kernel)]; kernel_rfl) | (rw [if_neg (by decide +kernel)]; exact ⟨rfl, rfl⟩))
    (fun os started H enc _ F => by rw [OpenClaim.pre_eq_preRow]; exact lifted os started H enc F)
end Go.Proofs.Ytlbhlmccjieieaa.acksRight
namespace Go.Proofs.Ytlbhlmccjieieaa
theorem acksRight_said : Rows.AcksRightSaid := acksRight.said
end Go.Proofs.Ytlbhlmccjieieaa
