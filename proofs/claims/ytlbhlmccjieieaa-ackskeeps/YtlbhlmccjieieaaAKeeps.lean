/-
  The law AcksKeeps returns true for every row of acts and every row of numbers: ranges that are added and dropped leave the set that the chapter says. No condition.
-/
import Derived.Test.YtlbhlmccjieieaaAkInv
import Derived.Test.YtlbhlmccjieieaaObDraw
import Derived.Test.YtlbhlmccjieieaaAkI64
import Derived.Test.YtlbhlmccjieieaaAkOps
import Derived.Lib.QuietBelow
import Derived.Test.YtlbhlmccjieieaaRpOpen
import Derived.LaidLaws
namespace Go.Proofs.Ytlbhlmccjieieaa.acksKeeps
set_option maxRecDepth 100000
open Go.ChangeShapes Go.WideShapes Go.ChangeAt Go.RowKit
open Go.ChangeMaps (open_string shut_string)

theorem enter_add (x y z : Value) (w : World) : (callFunc 11 #[x, y, z]).run Try.prog w = .ok (.enter 11 #[x, y, z]) w := by simp [go_sem]
theorem enter_radd (x y z : Value) (w : World) : (callFunc 12 #[x, y, z]).run Try.prog w = .ok (.enter 12 #[x, y, z]) w := by simp [go_sem]
theorem lies_heap {w : World} {g : Nat} {cur : Array Value} {e : TypeId} (h : w.heap[g]? = some (.cells cur e (0, 0))) : Lies w g cur.toList := by
  refine ⟨fun j v hv => ?_, fun j hj => ?_⟩
  · rw [Nat.zero_add]
    simp [World.cell?, h]
    simpa using hv
  · rw [Nat.zero_add]
    have hj' : j < cur.size := by simpa using hj
    simp [World.cell?, World.frozen?, h, hj']
theorem out_lies {w w' : World} {base : Nat} {v : Value} {l : List Rg} (h : Out w base v l) (b : Below w.heap.size w w') (hl : l.length ≤ 16) : (∃ a cap, v = .slice a 0 cap) ∨ ∃ (g N cap : Nat) (vs : List Value), v = .slice (some ⟨g, 0, none⟩) N cap ∧ base ≤ g ∧ N ≤ 16 ∧ 2 * N ≤ vs.length ∧ Lies w' g vs := by
  rcases h with ⟨_, a, cap, rfl⟩ | h
  · exact .inl ⟨a, cap, rfl⟩
  · rcases h.2 with ⟨rfl, _⟩ | ⟨g, cap, cur, rfl, h1, h2, h3, h4, h5, h6⟩
    · exact .inl ⟨none, 0, rfl⟩
    · right
      have hg : g < w.heap.size := by
        rcases Nat.lt_or_ge g w.heap.size with q | q
        · exact q
        · rw [Array.getElem?_eq_none q] at h2
          cases h2
      exact ⟨g, l.length, cap, cur.toList, rfl, h1, hl, by simp [h5]; omega, lies_heap (by rw [b.block g hg]; exact h2)⟩
set_option maxHeartbeats 16000000 in
theorem walk_some (f : Nat → Bool × Int × Int) (b off m cap M : Nat) (a2 : Option Addr) (mA capA : Nat) (f2 : Nat → Int) (w : World) (hb : b < w.heap.size) (hm : m ≤ 9223372036854775807) (hmA : mA ≤ 9223372036854775807) (hM : (M = m ∧ m ≤ 100) ∨ (M = 100 ∧ 100 < m))
    (hz : ∀ i, i < m → I64 (f i).2.1 ∧ I64 (f i).2.2) (hz2 : ∀ i, i < mA → I64 (f2 i))
    (hc : ∀ i, i < m → w.cell? ⟨b, off + 3 * i, none⟩ = some (.bool (f i).1) ∧ w.cell? ⟨b, off + 3 * i + 1, none⟩ = some (.int .i64 (f i).2.1) ∧ w.cell? ⟨b, off + 3 * i + 2, none⟩ = some (.int .i64 (f i).2.2)) (hA : Nums w a2 mA f2) :
    Calls Try.prog 3 #[.slice (some ⟨b, off, none⟩) m cap, .slice a2 mA capA] w fun e w' => e = .returned (.bool true) ∧ Below w.heap.size w w' := by
  have hMn : M ≤ m ∧ M ≤ 100 := by omega
  replace hc : Hid _ := hc
  replace hA : Hid (Nums w a2 mA f2) := hA
  replace hz : Hid _ := hz
  replace hz2 : Hid _ := hz2
  have NA : Hid (∀ w', Below w.heap.size w w' → _) := fun w' b => pinv_new w w' b
  go_enter Try.func3, Try.ntmps3
  go_wp2_with fail
  refine (NA.out _ (Below.refl _ _)).mono ?_
  rintro e w1 ⟨B, F0, rfl, n1, -⟩
  have hR : Hid (∃ R, R = w1.heap.size) := ⟨_, rfl⟩
  have N2 : Hid (KInv w (w1.alloc (.cells #[.slice none 0 0] 29)) B F0 [] w1.heap.size []) := kinv_new n1 _
  clear n1 NA
  go_wp2_with fail
  obtain ⟨R, hRe⟩ := hR.out
  rw [← hRe] at N2 ⊢
  clear hR
  replace hRe : Hid _ := hRe
  go_loopg [7] M (fun g iv wr => ∃ (i : Nat) (F : Nat → Prop) (L : List Rg), i + g = M ∧ iv = .int .i64 i ∧ Hid (KInv w wr B F L R L))
  case atStart => exact ⟨0, F0, [], by omega, rfl, N2⟩
  case round =>
    clear N2
    obtain ⟨i, F, L, hi, rfl, N⟩ := hrel
    by_cases hlt : i < M
    · have q1 : decide (i < m) = true := decide_eq_true (by omega)
      have q2 : decide ((i : Int) < 100) = true := decide_eq_true (by omega)
      have q3 : decide (i < 100) = true := decide_eq_true (by omega)
      have ia := fun w' => at_ops b off m cap i w' (by omega) (i : Int) rfl (off + 3 * i) rfl
      cases hD : (f i).1
      · have AD : Hid (∀ w', KInv w w' B F L R L → _) := fun w' h => kinv_add h (hz.out i (by omega)).1 (hz.out i (by omega)).2
        have RA : Hid (∀ w' F', KInv w w' B F' (addS L (f i).2.1 (f i).2.2) R L → _) := fun w' F' h => kinv_radd (f i).2.1 (f i).2.2 h
        have c0 := (N.out.bel.cell (p := ⟨b, off + 3 * i, none⟩) hb).trans (hc.out i (by omega)).1
        rw [hD] at c0
        go_wp2_with fail
        clear c0
        refine wp_region_held (S := fun w' => w'.cell? ⟨b, off + 3 * i + 1, none⟩ = some (.int .i64 (f i).2.1) ∧ w'.cell? ⟨b, off + 3 * i + 2, none⟩ = some (.int .i64 (f i).2.2)) (by kernel_rfl) ?_
        change wpAnyH _ .any _ _ _ 25 (Array.replicate 25 false) _ wr.drew
        have N1 : Hid (KInv w wr.drew B F L R L) := N.out.keep (drewB _ _)
        have hS : wr.drew.cell? ⟨b, off + 3 * i + 1, none⟩ = some (.int .i64 (f i).2.1) ∧ wr.drew.cell? ⟨b, off + 3 * i + 2, none⟩ = some (.int .i64 (f i).2.2) := ⟨(N1.out.bel.cell (p := ⟨b, off + 3 * i + 1, none⟩) hb).trans (hc.out i (by omega)).2.1, (N1.out.bel.cell (p := ⟨b, off + 3 * i + 2, none⟩) hb).trans (hc.out i (by omega)).2.2⟩
        clear N
        refine obTakeH (i := 0) (d := 44) (v := .pointer (some ⟨B, 0, none⟩)) rfl rfl (by kernel_rfl) (by kernel_rfl) (by kernel_rfl) (fun _ _ _ h => h) rfl (fun w hS => by obtain ⟨s1, s2⟩ := hS; go_simp) hS ?_
        refine obTakeH (i := 1) (d := 45) (v := (.slice (some ⟨b, off, none⟩) m cap)) rfl rfl (by kernel_rfl) (by kernel_rfl) (by kernel_rfl) (fun _ _ _ h => h) rfl (fun w hS => by obtain ⟨s1, s2⟩ := hS; go_simp) hS ?_
        refine obTakeH (i := 2) (d := 46) (v := .int .i64 (i : Int)) rfl rfl (by kernel_rfl) (by kernel_rfl) (by kernel_rfl) (fun _ _ _ h => h) rfl (fun w hS => by obtain ⟨s1, s2⟩ := hS; go_simp) hS ?_
        refine obTakeH (i := 3) (d := 47) (v := .pointer (some ⟨b, off + 3 * i, none⟩)) rfl rfl (by kernel_rfl) (by kernel_rfl) (by kernel_rfl) (fun _ _ _ h => h) rfl (fun w hS => by obtain ⟨s1, s2⟩ := hS; go_simp) hS ?_
        refine obTakeH (i := 4) (d := 48) (v := .pointer (some ⟨b, off + 3 * i + 1, none⟩)) rfl rfl (by kernel_rfl) (by kernel_rfl) (by kernel_rfl) (fun _ _ _ h => h) rfl (fun w hS => by obtain ⟨s1, s2⟩ := hS; go_simp) hS ?_
        refine obTakeH (i := 5) (d := 49) (v := .int .i64 (f i).2.1) rfl rfl (by kernel_rfl) (by kernel_rfl) (by kernel_rfl) (fun _ _ _ h => h) rfl (fun w hS => by obtain ⟨s1, s2⟩ := hS; go_simp) hS ?_
        refine obTakeH (i := 6) (d := 50) (v := (.slice (some ⟨b, off, none⟩) m cap)) rfl rfl (by kernel_rfl) (by kernel_rfl) (by kernel_rfl) (fun _ _ _ h => h) rfl (fun w hS => by obtain ⟨s1, s2⟩ := hS; go_simp) hS ?_
        refine obTakeH (i := 7) (d := 51) (v := .int .i64 (i : Int)) rfl rfl (by kernel_rfl) (by kernel_rfl) (by kernel_rfl) (fun _ _ _ h => h) rfl (fun w hS => by obtain ⟨s1, s2⟩ := hS; go_simp) hS ?_
        refine obTakeH (i := 8) (d := 52) (v := .pointer (some ⟨b, off + 3 * i, none⟩)) rfl rfl (by kernel_rfl) (by kernel_rfl) (by kernel_rfl) (fun _ _ _ h => h) rfl (fun w hS => by obtain ⟨s1, s2⟩ := hS; go_simp) hS ?_
        refine obTakeH (i := 9) (d := 53) (v := .pointer (some ⟨b, off + 3 * i + 2, none⟩)) rfl rfl (by kernel_rfl) (by kernel_rfl) (by kernel_rfl) (fun _ _ _ h => h) rfl (fun w hS => by obtain ⟨s1, s2⟩ := hS; go_simp) hS ?_
        refine obTakeH (i := 10) (d := 54) (v := .int .i64 (f i).2.2) rfl rfl (by kernel_rfl) (by kernel_rfl) (by kernel_rfl) (fun _ _ _ h => h) rfl (fun w hS => by obtain ⟨s1, s2⟩ := hS; go_simp) hS ?_
        refine obTakeH (i := 12) (d := 56) (v := .pointer (some ⟨R, 0, none⟩)) rfl rfl (by kernel_rfl) (by kernel_rfl) (by kernel_rfl) (fun _ _ _ h => h) rfl (fun w hS => by obtain ⟨s1, s2⟩ := hS; go_simp) hS ?_
        refine obTakeH (i := 13) (d := 57) (v := (.slice (some ⟨b, off, none⟩) m cap)) rfl rfl (by kernel_rfl) (by kernel_rfl) (by kernel_rfl) (fun _ _ _ h => h) rfl (fun w hS => by obtain ⟨s1, s2⟩ := hS; go_simp) hS ?_
        refine obTakeH (i := 14) (d := 58) (v := .int .i64 (i : Int)) rfl rfl (by kernel_rfl) (by kernel_rfl) (by kernel_rfl) (fun _ _ _ h => h) rfl (fun w hS => by obtain ⟨s1, s2⟩ := hS; go_simp) hS ?_
        refine obTakeH (i := 15) (d := 59) (v := .pointer (some ⟨b, off + 3 * i, none⟩)) rfl rfl (by kernel_rfl) (by kernel_rfl) (by kernel_rfl) (fun _ _ _ h => h) rfl (fun w hS => by obtain ⟨s1, s2⟩ := hS; go_simp) hS ?_
        refine obTakeH (i := 16) (d := 60) (v := .pointer (some ⟨b, off + 3 * i + 1, none⟩)) rfl rfl (by kernel_rfl) (by kernel_rfl) (by kernel_rfl) (fun _ _ _ h => h) rfl (fun w hS => by obtain ⟨s1, s2⟩ := hS; go_simp) hS ?_
        refine obTakeH (i := 17) (d := 61) (v := .int .i64 (f i).2.1) rfl rfl (by kernel_rfl) (by kernel_rfl) (by kernel_rfl) (fun _ _ _ h => h) rfl (fun w hS => by obtain ⟨s1, s2⟩ := hS; go_simp) hS ?_
        refine obTakeH (i := 18) (d := 62) (v := (.slice (some ⟨b, off, none⟩) m cap)) rfl rfl (by kernel_rfl) (by kernel_rfl) (by kernel_rfl) (fun _ _ _ h => h) rfl (fun w hS => by obtain ⟨s1, s2⟩ := hS; go_simp) hS ?_
        refine obTakeH (i := 19) (d := 63) (v := .int .i64 (i : Int)) rfl rfl (by kernel_rfl) (by kernel_rfl) (by kernel_rfl) (fun _ _ _ h => h) rfl (fun w hS => by obtain ⟨s1, s2⟩ := hS; go_simp) hS ?_
        refine obTakeH (i := 20) (d := 64) (v := .pointer (some ⟨b, off + 3 * i, none⟩)) rfl rfl (by kernel_rfl) (by kernel_rfl) (by kernel_rfl) (fun _ _ _ h => h) rfl (fun w hS => by obtain ⟨s1, s2⟩ := hS; go_simp) hS ?_
        refine obTakeH (i := 21) (d := 65) (v := .pointer (some ⟨b, off + 3 * i + 2, none⟩)) rfl rfl (by kernel_rfl) (by kernel_rfl) (by kernel_rfl) (fun _ _ _ h => h) rfl (fun w hS => by obtain ⟨s1, s2⟩ := hS; go_simp) hS ?_
        refine obTakeH (i := 22) (d := 66) (v := .int .i64 (f i).2.2) rfl rfl (by kernel_rfl) (by kernel_rfl) (by kernel_rfl) (fun _ _ _ h => h) rfl (fun w hS => by obtain ⟨s1, s2⟩ := hS; go_simp) hS ?_
        simp only [Act.put, List.setIfInBounds_toArray, List.set_cons_succ, List.set_cons_zero]
        clear ia
        refine wpAnyH_all (rs := [11]) (by kernel_rfl) (by simp) (fun j hj => ?_)
        obtain rfl : j = 11 := by simpa using hj
        refine wpOp_step rfl (fun K' hK => ?_)
        clear hj
        refine obCall3 (k1 := 44) (k2 := 49) (k3 := 54) (d := 55) (x1 := .pointer (some ⟨B, 0, none⟩)) (x2 := .int .i64 (f i).2.1) (x3 := .int .i64 (f i).2.2) 11 _ rfl rfl _ _ _ _ (enter_add _ _ _) rfl rfl rfl (AD.out _ N1.out) (fun e w2 hR => ?_)
        obtain ⟨rfl, F2, n2⟩ := hR
        refine ⟨_, rfl, hK _ _ ⟨⟨(n2.bel.cell (p := ⟨b, off + 3 * i + 1, none⟩) hb).trans (hc.out i (by omega)).2.1, (n2.bel.cell (p := ⟨b, off + 3 * i + 2, none⟩) hb).trans (hc.out i (by omega)).2.2⟩, ?_⟩⟩
        clear hK K'
        have N2 := Lib.hid n2
        clear n2 N1 AD hS
        simp only [Act.put, List.setIfInBounds_toArray, List.set_cons_succ, List.set_cons_zero]
        refine wpAnyH_all (rs := [23]) (by kernel_rfl) (by simp) (fun j hj => ?_)
        obtain rfl : j = 23 := by simpa using hj
        refine wpOp_step rfl (fun K' hK => ?_)
        clear hj
        refine obCall3 (k1 := 56) (k2 := 61) (k3 := 66) (d := 67) (x1 := .pointer (some ⟨R, 0, none⟩)) (x2 := .int .i64 (f i).2.1) (x3 := .int .i64 (f i).2.2) 12 _ rfl rfl _ _ _ _ (enter_radd _ _ _) rfl rfl rfl (RA.out _ _ N2.out) (fun e w3 hR => ?_)
        obtain ⟨rfl, n3⟩ := hR
        refine ⟨_, rfl, hK _ _ ⟨⟨(n3.bel.cell (p := ⟨b, off + 3 * i + 1, none⟩) hb).trans (hc.out i (by omega)).2.1, (n3.bel.cell (p := ⟨b, off + 3 * i + 2, none⟩) hb).trans (hc.out i (by omega)).2.2⟩, ?_⟩⟩
        clear hK K'
        have hS : w3.cell? ⟨b, off + 3 * i + 1, none⟩ = some (.int .i64 (f i).2.1) ∧ w3.cell? ⟨b, off + 3 * i + 2, none⟩ = some (.int .i64 (f i).2.2) := ⟨(n3.bel.cell (p := ⟨b, off + 3 * i + 1, none⟩) hb).trans (hc.out i (by omega)).2.1, (n3.bel.cell (p := ⟨b, off + 3 * i + 2, none⟩) hb).trans (hc.out i (by omega)).2.2⟩
        have N3 : Hid (KInv w w3 B F2 (addS L (f i).2.1 (f i).2.2) R (addS L (f i).2.1 (f i).2.2)) := n3
        clear n3 N2 RA
        simp only [Act.put, List.setIfInBounds_toArray, List.set_cons_succ, List.set_cons_zero]
        have gE : (addE (f i).2.1 (f i).2.2 != addE (f i).2.1 (f i).2.2) = false := by simp
        refine wpAnyH_all (rs := [24]) (by kernel_rfl) (by simp) (fun j hj => ?_)
        obtain rfl : j = 24 := by simpa using hj
        refine wpOp_step rfl (fun K' hK => ?_)
        clear hj
        go_simp
        refine hK _ _ ⟨hS, ?_⟩
        clear hK K' hS
        refine wpAnyH_done (by kernel_rfl) ?_ 0
        clear gE
        obtain ⟨L2, hL2⟩ : ∃ L2, L2 = addS L (f i).2.1 (f i).2.2 := ⟨_, rfl⟩
        rw [← hL2] at N3
        clear hL2
        go_wp2_with fail
        refine (pinv_ranges N3.out.p).mono ?_
        rintro e w4 ⟨v4, rfl, ho, b4⟩
        have N4 := Lib.hid (N3.out.keep b4)
        obtain ⟨sv, c4, r4⟩ := N4.out.cell
        have SM : Hid (∀ _ : Unit, Calls Try.prog 14 #[v4, sv] w4 fun e w'' => e = .returned (.bool true) ∧ Below w4.heap.size w4 w'') := fun _ => by
          have := rsame_ok v4 sv L2 L2 w4 ho.at r4 (by have := N3.out.p.ok.2; omega) (by have := N3.out.p.ok.2; omega)
          rw [decide_eq_true (rfl : L2 = L2)] at this
          exact this
        have Z4 : Hid (Below w3.heap.size w3 w4) := b4
        have hl16 := N3.out.p.ok.2
        clear b4 r4 N4
        go_wp2_with fail
        refine (SM.out ()).mono ?_
        rintro e w5 ⟨rfl, b5⟩
        have Z5 : Hid (Below w3.heap.size w3 w5) := Z4.out.trans (b5.mono Z4.out.size)
        clear SM c4
        rcases out_lies ho b5 hl16 with ⟨a4, cap4, rfl⟩ | ⟨g4, N4, cap4, vs4, rfl, h0, h1, h2, h3⟩
        · clear ho b5 Z4
          go_wp2_with fail
          go_rounds 1
          have N6 : Hid (KInv w w5 B F2 L2 R L2) := N3.out.keep Z5.out
          clear N3 Z5
          have hc9 : True := trivial
          by_cases hq : i < mA
          · have p1 : decide (i < mA) = true := decide_eq_true hq
            obtain ⟨b2, off2, rfl, hb2, hc2⟩ : ∃ b2 off2, a2 = some ⟨b2, off2, none⟩ ∧ b2 < w.heap.size ∧ ∀ i, i < mA → w.cell? ⟨b2, off2 + i, none⟩ = some (.int .i64 (f2 i)) := by
              rcases hA.out with h | h
              · omega
              · exact h
            have cA' := fun d os => cell_regrown (w := w5) ((N6.out.bel.cell (p := ⟨b2, off2 + i, none⟩) hb2).trans (hc2 i hq)) d os
            have ib := fun w' => at_i64s b2 off2 mA capA i w' hq (i : Int) rfl (off2 + i) rfl
            have CK : Hid (∀ d os, _) := fun d os => Calls.regrown_of (P := Try.prog) (w := w5) (d := d) (os := os) (pinv_has (N6.out.keep (below_regrown w5 d os)).p (hz2.out i hq))
            have CR : Hid (∀ d os, _) := fun d os => Calls.regrown_of (P := Try.prog) (w := w5) (d := d) (os := os) (kinv_rhas (f2 i) (N6.out.keep (below_regrown w5 d os)))
            have gq : (hasR L2 (f2 i) != hasR L2 (f2 i)) = false := by simp
            clear hc2 hA
            go_wp2_with fail
            refine wp_region_quiet_below (by kernel_rfl) (by kernel_rfl) ?_
            repeat (go_big_quiet_step (first | (go_at_call 15; exact CK.out _ _) | (go_at_call 16; exact CR.out _ _)))
            refine wpQuiet_nil ?_
            intro _ hw'
            obtain ⟨⟨dq, osq⟩, hw''⟩ := hw'
            subst hw''
            have N7 : Hid (KInv w (Go.Sort.grow (redrawn w5 dq) osq) B F2 L2 R L2) := N6.out.keep (below_regrown w5 dq osq)
            simp only
            generalize Go.Sort.grow (redrawn w5 dq) osq = w7 at *
            clear CK CR cA' ib gq N6
            go_wp2_with fail
            go_roundg (M - (i + 1))
            case measure => omega
            case rel => exact ⟨i + 1, F2, L2, by omega, by go_num, N7⟩
          · have p1 : decide (i < mA) = false := decide_eq_false hq
            go_wp2_with fail
            refine wp_region_quiet_below (by kernel_rfl) (by kernel_rfl) ?_
            repeat (go_big_quiet_step (fail))
            refine wpQuiet_nil ?_
            intro _ hw'
            obtain ⟨⟨dq, osq⟩, hw''⟩ := hw'
            subst hw''
            have N7 : Hid (KInv w (Go.Sort.grow (redrawn w5 dq) osq) B F2 L2 R L2) := N6.out.keep (below_regrown w5 dq osq)
            simp only
            generalize Go.Sort.grow (redrawn w5 dq) osq = w7 at *
            clear N6
            go_wp2_with fail
            go_roundg (M - (i + 1))
            case measure => omega
            case rel => exact ⟨i + 1, F2, L2, by omega, by go_num, N7⟩
        · have H5 : Hid (Lies w5 g4 vs4) := h3
          clear ho b5 Z4 h3
          go_wp2_with fail
          go_loopg [9] N4 (fun g kv wq => ∃ (k : Nat) (vs : List Value), k + g = N4 ∧ kv = .int .i64 k ∧ vs.length = vs4.length ∧ Hid (Lies wq g4 vs) ∧ Hid (Below w3.heap.size w3 wq))
          case atStart => exact ⟨0, vs4, by omega, rfl, rfl, H5, Z5⟩
          case round =>
            clear H5 Z5
            obtain ⟨k, vs, hk, rfl, hvl, HL, Z5⟩ := hrel
            by_cases hkl : k < N4
            · have r1 : decide ((k : Int) < (N4 : Int)) = true := decide_eq_true (by omega)
              have ik := fun w' => at_rgs g4 0 N4 cap4 k w' hkl (k : Int) rfl (2 * k) (by omega)
              have e1 := HL.out.cell (2 * k) (v := vs[2 * k]'(by omega)) (List.getElem?_eq_getElem _)
              have e2 := HL.out.cell (2 * k + 1) (v := vs[2 * k + 1]'(by omega)) (List.getElem?_eq_getElem _)
              have y1 := HL.out.free (2 * k) (by omega)
              have y2 := HL.out.free (2 * k + 1) (by omega)
              go_wp2_with fail
              go_roundg (N4 - (k + 1))
              case measure => omega
              case rel => exact ⟨k + 1, (vs.set (2 * k) (.int .i64 0)).set (2 * k + 1) (.int .i64 0), by omega, by go_num, by simp [hvl], (HL.out.put (2 * k) (by omega) (.int .i64 0)).put (2 * k + 1) (by simp; omega) (.int .i64 0), Z5.out.trans ((Kept.set (F := fun k => k = g4) (Kept.set (F := fun k => k = g4) (Kept.refl _ wr) ⟨g4, 2 * k, none⟩ rfl _) ⟨g4, 2 * k + 1, none⟩ rfl _).below Z5.out.size (fun k hk => hk ▸ h0))⟩
            · have r1 : decide ((k : Int) < (N4 : Int)) = false := decide_eq_false (by omega)
              have N6 : Hid (KInv w wr B F2 L2 R L2) := N3.out.keep Z5.out
              clear N3 Z5 HL
              have hc9 : True := trivial
              by_cases hq : i < mA
              · have p1 : decide (i < mA) = true := decide_eq_true hq
                obtain ⟨b2, off2, rfl, hb2, hc2⟩ : ∃ b2 off2, a2 = some ⟨b2, off2, none⟩ ∧ b2 < w.heap.size ∧ ∀ i, i < mA → w.cell? ⟨b2, off2 + i, none⟩ = some (.int .i64 (f2 i)) := by
                  rcases hA.out with h | h
                  · omega
                  · exact h
                have cA' := fun d os => cell_regrown (w := wr) ((N6.out.bel.cell (p := ⟨b2, off2 + i, none⟩) hb2).trans (hc2 i hq)) d os
                have ib := fun w' => at_i64s b2 off2 mA capA i w' hq (i : Int) rfl (off2 + i) rfl
                have CK : Hid (∀ d os, _) := fun d os => Calls.regrown_of (P := Try.prog) (w := wr) (d := d) (os := os) (pinv_has (N6.out.keep (below_regrown wr d os)).p (hz2.out i hq))
                have CR : Hid (∀ d os, _) := fun d os => Calls.regrown_of (P := Try.prog) (w := wr) (d := d) (os := os) (kinv_rhas (f2 i) (N6.out.keep (below_regrown wr d os)))
                have gq : (hasR L2 (f2 i) != hasR L2 (f2 i)) = false := by simp
                clear hc2 hA
                go_wp2_with fail
                refine wp_region_quiet_below (by kernel_rfl) (by kernel_rfl) ?_
                repeat (go_big_quiet_step (first | (go_at_call 15; exact CK.out _ _) | (go_at_call 16; exact CR.out _ _)))
                refine wpQuiet_nil ?_
                intro _ hw'
                obtain ⟨⟨dq, osq⟩, hw''⟩ := hw'
                subst hw''
                have N7 : Hid (KInv w (Go.Sort.grow (redrawn wr dq) osq) B F2 L2 R L2) := N6.out.keep (below_regrown wr dq osq)
                simp only
                generalize Go.Sort.grow (redrawn wr dq) osq = w7 at *
                clear CK CR cA' ib gq N6
                go_wp2_with fail
                go_roundg (M - (i + 1))
                case measure => omega
                case rel => exact ⟨i + 1, F2, L2, by omega, by go_num, N7⟩
              · have p1 : decide (i < mA) = false := decide_eq_false hq
                go_wp2_with fail
                refine wp_region_quiet_below (by kernel_rfl) (by kernel_rfl) ?_
                repeat (go_big_quiet_step (fail))
                refine wpQuiet_nil ?_
                intro _ hw'
                obtain ⟨⟨dq, osq⟩, hw''⟩ := hw'
                subst hw''
                have N7 : Hid (KInv w (Go.Sort.grow (redrawn wr dq) osq) B F2 L2 R L2) := N6.out.keep (below_regrown wr dq osq)
                simp only
                generalize Go.Sort.grow (redrawn wr dq) osq = w7 at *
                clear N6
                go_wp2_with fail
                go_roundg (M - (i + 1))
                case measure => omega
                case rel => exact ⟨i + 1, F2, L2, by omega, by go_num, N7⟩
      · have DR : Hid (∀ w', KInv w w' B F L R L → _) := fun w' h => kinv_drop h (hz.out i (by omega)).1
        have RD : Hid (∀ w' F', KInv w w' B F' (drp L (f i).2.1) R L → _) := fun w' F' h => kinv_rdrop (f i).2.1 h
        have c0 := (N.out.bel.cell (p := ⟨b, off + 3 * i, none⟩) hb).trans (hc.out i (by omega)).1
        rw [hD] at c0
        have c1 := (N.out.bel.cell (p := ⟨b, off + 3 * i + 1, none⟩) hb).trans (hc.out i (by omega)).2.1
        go_wp2_with fail
        refine (DR.out _ N.out).mono ?_
        rintro e w2 ⟨rfl, F2, n2⟩
        have N2 := Lib.hid n2
        have c1 := (n2.bel.cell (p := ⟨b, off + 3 * i + 1, none⟩) hb).trans (hc.out i (by omega)).2.1
        clear n2 N DR c0
        go_wp2_with fail
        refine (RD.out _ _ N2.out).mono ?_
        rintro e w3 ⟨rfl, n3⟩
        have N3 : Hid (KInv w w3 B F2 (drp L (f i).2.1) R (drp L (f i).2.1)) := n3
        clear n3 N2 RD c1
        obtain ⟨L2, hL2⟩ : ∃ L2, L2 = drp L (f i).2.1 := ⟨_, rfl⟩
        rw [← hL2] at N3
        clear hL2
        go_wp2_with fail
        refine (pinv_ranges N3.out.p).mono ?_
        rintro e w4 ⟨v4, rfl, ho, b4⟩
        have N4 := Lib.hid (N3.out.keep b4)
        obtain ⟨sv, c4, r4⟩ := N4.out.cell
        have SM : Hid (∀ _ : Unit, Calls Try.prog 14 #[v4, sv] w4 fun e w'' => e = .returned (.bool true) ∧ Below w4.heap.size w4 w'') := fun _ => by
          have := rsame_ok v4 sv L2 L2 w4 ho.at r4 (by have := N3.out.p.ok.2; omega) (by have := N3.out.p.ok.2; omega)
          rw [decide_eq_true (rfl : L2 = L2)] at this
          exact this
        have Z4 : Hid (Below w3.heap.size w3 w4) := b4
        have hl16 := N3.out.p.ok.2
        clear b4 r4 N4
        go_wp2_with fail
        refine (SM.out ()).mono ?_
        rintro e w5 ⟨rfl, b5⟩
        have Z5 : Hid (Below w3.heap.size w3 w5) := Z4.out.trans (b5.mono Z4.out.size)
        clear SM c4
        rcases out_lies ho b5 hl16 with ⟨a4, cap4, rfl⟩ | ⟨g4, N4, cap4, vs4, rfl, h0, h1, h2, h3⟩
        · clear ho b5 Z4
          go_wp2_with fail
          go_rounds 1
          have N6 : Hid (KInv w w5 B F2 L2 R L2) := N3.out.keep Z5.out
          clear N3 Z5
          have hc9 : True := trivial
          by_cases hq : i < mA
          · have p1 : decide (i < mA) = true := decide_eq_true hq
            obtain ⟨b2, off2, rfl, hb2, hc2⟩ : ∃ b2 off2, a2 = some ⟨b2, off2, none⟩ ∧ b2 < w.heap.size ∧ ∀ i, i < mA → w.cell? ⟨b2, off2 + i, none⟩ = some (.int .i64 (f2 i)) := by
              rcases hA.out with h | h
              · omega
              · exact h
            have cA' := fun d os => cell_regrown (w := w5) ((N6.out.bel.cell (p := ⟨b2, off2 + i, none⟩) hb2).trans (hc2 i hq)) d os
            have ib := fun w' => at_i64s b2 off2 mA capA i w' hq (i : Int) rfl (off2 + i) rfl
            have CK : Hid (∀ d os, _) := fun d os => Calls.regrown_of (P := Try.prog) (w := w5) (d := d) (os := os) (pinv_has (N6.out.keep (below_regrown w5 d os)).p (hz2.out i hq))
            have CR : Hid (∀ d os, _) := fun d os => Calls.regrown_of (P := Try.prog) (w := w5) (d := d) (os := os) (kinv_rhas (f2 i) (N6.out.keep (below_regrown w5 d os)))
            have gq : (hasR L2 (f2 i) != hasR L2 (f2 i)) = false := by simp
            clear hc2 hA
            go_wp2_with fail
            refine wp_region_quiet_below (by kernel_rfl) (by kernel_rfl) ?_
            repeat (go_big_quiet_step (first | (go_at_call 15; exact CK.out _ _) | (go_at_call 16; exact CR.out _ _)))
            refine wpQuiet_nil ?_
            intro _ hw'
            obtain ⟨⟨dq, osq⟩, hw''⟩ := hw'
            subst hw''
            have N7 : Hid (KInv w (Go.Sort.grow (redrawn w5 dq) osq) B F2 L2 R L2) := N6.out.keep (below_regrown w5 dq osq)
            simp only
            generalize Go.Sort.grow (redrawn w5 dq) osq = w7 at *
            clear CK CR cA' ib gq N6
            go_wp2_with fail
            go_roundg (M - (i + 1))
            case measure => omega
            case rel => exact ⟨i + 1, F2, L2, by omega, by go_num, N7⟩
          · have p1 : decide (i < mA) = false := decide_eq_false hq
            go_wp2_with fail
            refine wp_region_quiet_below (by kernel_rfl) (by kernel_rfl) ?_
            repeat (go_big_quiet_step (fail))
            refine wpQuiet_nil ?_
            intro _ hw'
            obtain ⟨⟨dq, osq⟩, hw''⟩ := hw'
            subst hw''
            have N7 : Hid (KInv w (Go.Sort.grow (redrawn w5 dq) osq) B F2 L2 R L2) := N6.out.keep (below_regrown w5 dq osq)
            simp only
            generalize Go.Sort.grow (redrawn w5 dq) osq = w7 at *
            clear N6
            go_wp2_with fail
            go_roundg (M - (i + 1))
            case measure => omega
            case rel => exact ⟨i + 1, F2, L2, by omega, by go_num, N7⟩
        · have H5 : Hid (Lies w5 g4 vs4) := h3
          clear ho b5 Z4 h3
          go_wp2_with fail
          go_loopg [9] N4 (fun g kv wq => ∃ (k : Nat) (vs : List Value), k + g = N4 ∧ kv = .int .i64 k ∧ vs.length = vs4.length ∧ Hid (Lies wq g4 vs) ∧ Hid (Below w3.heap.size w3 wq))
          case atStart => exact ⟨0, vs4, by omega, rfl, rfl, H5, Z5⟩
          case round =>
            clear H5 Z5
            obtain ⟨k, vs, hk, rfl, hvl, HL, Z5⟩ := hrel
            by_cases hkl : k < N4
            · have r1 : decide ((k : Int) < (N4 : Int)) = true := decide_eq_true (by omega)
              have ik := fun w' => at_rgs g4 0 N4 cap4 k w' hkl (k : Int) rfl (2 * k) (by omega)
              have e1 := HL.out.cell (2 * k) (v := vs[2 * k]'(by omega)) (List.getElem?_eq_getElem _)
              have e2 := HL.out.cell (2 * k + 1) (v := vs[2 * k + 1]'(by omega)) (List.getElem?_eq_getElem _)
              have y1 := HL.out.free (2 * k) (by omega)
              have y2 := HL.out.free (2 * k + 1) (by omega)
              go_wp2_with fail
              go_roundg (N4 - (k + 1))
              case measure => omega
              case rel => exact ⟨k + 1, (vs.set (2 * k) (.int .i64 0)).set (2 * k + 1) (.int .i64 0), by omega, by go_num, by simp [hvl], (HL.out.put (2 * k) (by omega) (.int .i64 0)).put (2 * k + 1) (by simp; omega) (.int .i64 0), Z5.out.trans ((Kept.set (F := fun k => k = g4) (Kept.set (F := fun k => k = g4) (Kept.refl _ wr) ⟨g4, 2 * k, none⟩ rfl _) ⟨g4, 2 * k + 1, none⟩ rfl _).below Z5.out.size (fun k hk => hk ▸ h0))⟩
            · have r1 : decide ((k : Int) < (N4 : Int)) = false := decide_eq_false (by omega)
              have N6 : Hid (KInv w wr B F2 L2 R L2) := N3.out.keep Z5.out
              clear N3 Z5 HL
              have hc9 : True := trivial
              by_cases hq : i < mA
              · have p1 : decide (i < mA) = true := decide_eq_true hq
                obtain ⟨b2, off2, rfl, hb2, hc2⟩ : ∃ b2 off2, a2 = some ⟨b2, off2, none⟩ ∧ b2 < w.heap.size ∧ ∀ i, i < mA → w.cell? ⟨b2, off2 + i, none⟩ = some (.int .i64 (f2 i)) := by
                  rcases hA.out with h | h
                  · omega
                  · exact h
                have cA' := fun d os => cell_regrown (w := wr) ((N6.out.bel.cell (p := ⟨b2, off2 + i, none⟩) hb2).trans (hc2 i hq)) d os
                have ib := fun w' => at_i64s b2 off2 mA capA i w' hq (i : Int) rfl (off2 + i) rfl
                have CK : Hid (∀ d os, _) := fun d os => Calls.regrown_of (P := Try.prog) (w := wr) (d := d) (os := os) (pinv_has (N6.out.keep (below_regrown wr d os)).p (hz2.out i hq))
                have CR : Hid (∀ d os, _) := fun d os => Calls.regrown_of (P := Try.prog) (w := wr) (d := d) (os := os) (kinv_rhas (f2 i) (N6.out.keep (below_regrown wr d os)))
                have gq : (hasR L2 (f2 i) != hasR L2 (f2 i)) = false := by simp
                clear hc2 hA
                go_wp2_with fail
                refine wp_region_quiet_below (by kernel_rfl) (by kernel_rfl) ?_
                repeat (go_big_quiet_step (first | (go_at_call 15; exact CK.out _ _) | (go_at_call 16; exact CR.out _ _)))
                refine wpQuiet_nil ?_
                intro _ hw'
                obtain ⟨⟨dq, osq⟩, hw''⟩ := hw'
                subst hw''
                have N7 : Hid (KInv w (Go.Sort.grow (redrawn wr dq) osq) B F2 L2 R L2) := N6.out.keep (below_regrown wr dq osq)
                simp only
                generalize Go.Sort.grow (redrawn wr dq) osq = w7 at *
                clear CK CR cA' ib gq N6
                go_wp2_with fail
                go_roundg (M - (i + 1))
                case measure => omega
                case rel => exact ⟨i + 1, F2, L2, by omega, by go_num, N7⟩
              · have p1 : decide (i < mA) = false := decide_eq_false hq
                go_wp2_with fail
                refine wp_region_quiet_below (by kernel_rfl) (by kernel_rfl) ?_
                repeat (go_big_quiet_step (fail))
                refine wpQuiet_nil ?_
                intro _ hw'
                obtain ⟨⟨dq, osq⟩, hw''⟩ := hw'
                subst hw''
                have N7 : Hid (KInv w (Go.Sort.grow (redrawn wr dq) osq) B F2 L2 R L2) := N6.out.keep (below_regrown wr dq osq)
                simp only
                generalize Go.Sort.grow (redrawn wr dq) osq = w7 at *
                clear N6
                go_wp2_with fail
                go_roundg (M - (i + 1))
                case measure => omega
                case rel => exact ⟨i + 1, F2, L2, by omega, by go_num, N7⟩
    · clear hc
      by_cases hin : i < m
      · have q1 : decide (i < m) = true := decide_eq_true hin
        have q2 : decide ((i : Int) < 100) = false := decide_eq_false (by omega)
        have q3 : decide (i < 100) = false := decide_eq_false (by omega)
        go_wp2_with fail
        go_ret
        exact ⟨rfl, N.out.bel⟩
      · have q1 : decide (i < m) = false := decide_eq_false hin
        go_wp2_with fail
        go_ret
        exact ⟨rfl, N.out.bel⟩

set_option maxHeartbeats 4000000 in
theorem walk_none (a : Option Addr) (m cap : Nat) (v2 : Value) (hm : m = 0) (w : World) :
    Calls Try.prog 3 #[.slice a m cap, v2] w fun e w' => e = .returned (.bool true) ∧ Below w.heap.size w w' := by
  have NA : Hid (∀ w', Below w.heap.size w w' → _) := fun w' b => pinv_new w w' b
  go_enter Try.func3, Try.ntmps3
  go_wp2_with fail
  refine (NA.out _ (Below.refl _ _)).mono ?_
  rintro e w1 ⟨B, F0, rfl, n1, -⟩
  have hR : Hid (∃ R, R = w1.heap.size) := ⟨_, rfl⟩
  have N2 : Hid (KInv w (w1.alloc (.cells #[.slice none 0 0] 29)) B F0 [] w1.heap.size []) := kinv_new n1 _
  clear n1 NA
  go_wp2_with fail
  obtain ⟨R, hRe⟩ := hR.out
  rw [← hRe] at N2 ⊢
  clear hR
  replace hRe : Hid _ := hRe
  go_loopg [7] 0 (fun g iv wr => ∃ (i : Nat) (F : Nat → Prop) (L : List Rg), i + g = 0 ∧ iv = .int .i64 i ∧ Hid (KInv w wr B F L R L))
  case atStart => exact ⟨0, F0, [], by omega, rfl, N2⟩
  case round =>
    clear N2
    obtain ⟨i, F, L, hi, rfl, N⟩ := hrel
    have q1 : decide (i < m) = false := decide_eq_false (by omega)
    go_wp2_with fail
    go_ret
    exact ⟨rfl, N.out.bel⟩

theorem walk (a : Option Addr) (m cap : Nat) (f : Nat → Bool × Int × Int) (a2 : Option Addr) (mA capA : Nat) (f2 : Nat → Int) (w : World) (hm : m ≤ maxLen) (hz : ∀ i, i < m → I64 (f i).2.1 ∧ I64 (f i).2.2) (hs : Ops w a m f) (hmA : mA ≤ maxLen) (hz2 : ∀ i, i < mA → I64 (f2 i)) (hA : Nums w a2 mA f2) :
    Calls Try.prog 3 #[.slice a m cap, .slice a2 mA capA] w fun e w' => e = .returned (.bool true) ∧ Below w.heap.size w w' := by
  have hm' : m ≤ 9223372036854775807 := by unfold maxLen at hm; omega
  have hmA' : mA ≤ 9223372036854775807 := by unfold maxLen at hmA; omega
  rcases hs with h0 | ⟨b, off, rfl, hb, hc⟩
  · exact walk_none a m cap _ h0 w
  · by_cases h : m ≤ 100
    · exact walk_some f b off m cap m a2 mA capA f2 w hb hm' hmA' (.inl ⟨rfl, h⟩) hz hz2 hc hA
    · exact walk_some f b off m cap 100 a2 mA capA f2 w hb hm' hmA' (.inr ⟨rfl, by omega⟩) hz hz2 hc hA

theorem contract (H : Type) (enc : TypeId × Value → H) (W : World) (base : Nat) (args : Array Value) (ds gs : List (DataW H)) (before : List MemPlace)
    (hval : ∀ (j : Nat) t v, Try.f3.params[j]? = some t → args[j]? = some v → Value.okWide Try.prog W .any base t v)
    (hW : DataW.Whole enc Try.prog Try.f3.params.toList Rows.acksKeepsSpec.vars false W args.toList ds gs before) :
    Calls Try.prog 3 args W fun e W' => ∃ v, e = .returned v ∧ Rows.acksKeepsSpec.post enc Try.prog Try.f3 false true false false W args v W' := by
  have hW' := hW
  obtain ⟨p, q, hA0, hV, rfl, hfz, hnd⟩ := hW
  have hA : DataW.TrodAll enc Try.prog W 0 (fun _ => true) true Try.f3.params.toList args.toList ds p := hA0
  rw [Try.params3] at hA hval
  obtain ⟨v0, vs0, d0, ds0, p0, q0, hargs, rfl, rfl, h0, r0⟩ := trodAll_cons hA
  obtain ⟨v1, vs1, d1, ds1, p1, q1, rfl, rfl, rfl, h1, r1⟩ := trodAll_cons r0
  obtain ⟨rfl, rfl, rfl⟩ := trodAll_nil r1
  obtain rfl : args = #[v0, v1] := by cases args; simp_all
  obtain ⟨rfl, rfl⟩ := trodVars_none hV
  have k0 := h0
  have lt0 : ∀ x ∈ p0, x.block < W.heap.size := by obtain ⟨m, hm⟩ := k0; exact DataW.trod_lt m _ _ _ hm
  obtain ⟨a0, n0, c0, f0, rfl, hn0, hz0, hs0⟩ := open_ops (hval 0 22 v0 rfl rfl) h0
  have k1 := h1
  have lt1 : ∀ x ∈ p1, x.block < W.heap.size := by obtain ⟨m, hm⟩ := k1; exact DataW.trod_lt m _ _ _ hm
  obtain ⟨a1, n1, c1, f1, rfl, hn1, hz1, hs1⟩ := open_i64s Try.underlying23 Try.underlying2 (by kernel_rfl) (hval 1 23 v1 rfl rfl) h1
  clear hA0
  simp only [List.append_nil] at hW'
  refine (walk a0 n0 c0 f0 a1 n1 c1 f1 W hn0 hz0 hs0 hn1 hz1 hs1).mono fun e W' ⟨he, bel⟩ => ?_
  subst he
  exact ⟨_, rfl, _, _, _, [], _, [], hW', trodAll_mk1 (shut_bool Try.underlying4 _), (trodAll_cons_mk (Below.trod laidOut (by kernel_rfl) (of_decide_eq_true (by kernel_rfl)) k0 bel lt0) (trodAll_cons_mk (Below.trod laidOut (by kernel_rfl) (of_decide_eq_true (by kernel_rfl)) k1 bel lt1) trodAll_mk0)), rfl, bel.frame _, fun h => by cases h⟩

theorem laid_met (os : Os) : laidMet Try.prog Rows.acksKeepsRow.laid ((startWorld Try.prog os).forCall (fun _ _ => 0) ⟨#[], #[.slice none 0 0, .slice none 0 0], []⟩).memory :=
  laidMet_of_run' 8 (by kernel_rfl) (by kernel_rfl)
theorem reads (os : Os) {H : Type} (enc : TypeId × Value → H) : ∃ places, DataW.whole enc Try.prog ((startWorld Try.prog os).forCall (fun _ _ => 0) ⟨#[], #[.slice none 0 0, .slice none 0 0], []⟩).memory Try.f3.params.toList Rows.acksKeepsSpec.vars false #[Value.slice none 0 0, Value.slice none 0 0].toList 8 = some ([.nil, .nil], [], places) :=
  ⟨[], by kernel_rfl⟩

set_option maxRecDepth 100000 in
theorem lifted (os : Os) (started : os.Started) (H : Type) (enc : TypeId × Value → H) (F : Stop.Interp) :
    ReturnsInHanded {} Try.checked os 3 .any ((OpenSpec.ofChange Rows.acksKeepsSpec).preRow enc Try.prog Try.f3 Rows.acksKeepsRow.domain false Rows.acksKeepsRow.laid) (((OpenSpec.ofChange Rows.acksKeepsSpec).at F).post enc Try.prog Try.f3 false true false false) := by
  obtain ⟨places, hx⟩ := reads os enc
  refine returnsInHanded_of_row (C := Try.checked) (s := OpenSpec.ofChange Rows.acksKeepsSpec) own started (by kernel_rfl) Try.func3
    (witness_row_at (enc := enc) (C := Try.checked) false (startWorld Try.prog os) #[.slice none 0 0, .slice none 0 0] rfl (by kernel_rfl) (by kernel_rfl) (by kernel_rfl)
      (OpenSpec.preRow_of_cond 8 hx (by kernel_rfl) (fun k hk => by cases hk) (by kernel_rfl) (laid_met os))) ?_
  intro W base args ds gs before hval hW _ _ _ _ _ _
  exact contract H enc W base args ds gs before hval hW

theorem said : Rows.AcksKeepsSaid :=
  OpenClaim.holds_of_cond 3 Try.f3 rfl rfl rfl rfl rfl rfl rfl ⟨rfl, rfl, rfl, rfl, rfl⟩ rfl rfl rfl rfl rfl (by kernel_rfl) Try.func3 (by kernel_rfl)
    (of_decide_eq_true (by kernel_rfl)) (by unfold Func.isWrapper; first | (rw [if_pos (by decide +kernel)]; kernel_rfl) | (rw [if_neg (by decide +kernel)]; exact ⟨rfl, rfl⟩))
    (fun os started H enc _ F => by rw [OpenClaim.pre_eq_preRow]; exact lifted os started H enc F)
end Go.Proofs.Ytlbhlmccjieieaa.acksKeeps
namespace Go.Proofs.Ytlbhlmccjieieaa
theorem acksKeeps_said : Rows.AcksKeepsSaid := acksKeeps.said
end Go.Proofs.Ytlbhlmccjieieaa
