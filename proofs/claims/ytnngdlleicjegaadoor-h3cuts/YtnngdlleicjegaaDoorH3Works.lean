/-
  The program answers the chapter's examples: what five of the laws ask first. It leans on what the laws ask of the program's calls (H3Face). No other condition.
-/
import Derived.Test.YtnngdlleicjegaaDoorH3Face
namespace Go.Proofs.YtnngdlleicjegaaDoor
set_option maxRecDepth 100000
open Go.RowKit

theorem at_ev (B o N cap i : Nat) (w : World) (h : i < N) (z : Int) (hz : z = i) (p : Nat) (hp : p = o + 2 * i) :
    (Instr.indexAt 28 (.slice (some ⟨B, o, none⟩) N cap) (.int .i64 z)).run Tryd.prog w = .ok (.pointer (some ⟨B, p, none⟩)) w := by
  subst hz hp
  have e : Tryd.prog.elem 28 = 48 := by kernel_rfl
  rw [run_indexAt_slice (P := Tryd.prog) w 28 ⟨B, o, none⟩ N cap .i64 i (by rw [e]; exact Tryd.underlying28), if_pos (by omega), e]
  have s : (sizeOf 48).run Tryd.prog w = .ok 2 w := Tryd.sizeOf48 w
  rw [s]
  simp [Addr.add_mid, Nat.mul_comm]
def wA : L := [1, 2, 130, 132]
def wB : L := [0, 7, 1, 0]
theorem wA_is : ((fed false []).feed wA).1.code = 0 ∧ ((fed false []).feed wA).2 = [(1, [130, 132])] := by decide +kernel
theorem wB_is : ((fed true []).feed wB).1.code = 266 := by decide +kernel
theorem wF_is : frI 0 [97] = [0, 1, 97] := by decide +kernel
section
variable {T : World → Prop} {PR : (Nat → Prop) → World → Value → Bool → List L → Prop}
set_option maxHeartbeats 4000000 in
theorem works15_ok (f : H3Face T PR) (w : World) (t : T w) :
    Calls Tryd.prog 20 #[] w fun e w' => e = .returned (.bool true) ∧ Below w.heap.size w w' := by
  have N1 : Hid (∀ w, T w → _) := fun w t => f.new false w t
  have N2 : Hid (∀ w, T w → _) := fun w t => f.new true w t
  have F1 : Hid (∀ (F : Nat → Prop) (w : World) (v : Value), T w → PR F w v false [] → _) := fun F w v t h => f.feed ⟨#[1, 2, 130, 132]⟩ t h (by decide)
  have F2 : Hid (∀ (F : Nat → Prop) (w : World) (v : Value), T w → PR F w v true [] → _) := fun F w v t h => f.feed ⟨#[0, 7, 1, 0]⟩ t h (by decide)
  have FR : Hid (∀ w, T w → _) := fun w t => f.frame 0 ⟨#[97]⟩ w t (by decide)
  have e1 : toL ⟨#[1, 2, 130, 132]⟩ = wA := rfl
  have e2 : toL ⟨#[0, 7, 1, 0]⟩ = wB := rfl
  have e3 : strL (frI 0 (toL ⟨#[97]⟩)) = ⟨#[0, 1, 97]⟩ := by
    show strL (frI 0 [97]) = _
    rw [wF_is]
    rfl
  rw [e1, wA_is.1, wA_is.2] at F1
  rw [e2, wB_is] at F2
  rw [e3] at FR
  clear e1 e2 e3
  have T0 : Hid (T w) := t
  clear t
  go_enter Tryd.func20, Tryd.ntmps20
  go_wp2_with fail
  refine (N1.out _ T0.out).mono ?_
  rintro e w1 ⟨a1, G1, rfl, p1, g1, b1⟩
  have Z1 : Hid (Below w.heap.size w w1) := b1
  have P1 := Lib.hid p1
  have T1 := Lib.hid (f.keep T0.out b1)
  clear N1 p1 b1
  go_wp2_with fail
  refine (N2.out _ T1.out).mono ?_
  rintro e w2 ⟨a2, G2, rfl, p2, g2, b2⟩
  have Z2 : Hid (Below w.heap.size w w2) := Z1.out.trans (b2.mono Z1.out.size)
  have P12 := Lib.hid (f.of P1.out fun k hk => b2.block k (f.lt P1.out k hk))
  have P2 := Lib.hid p2
  have T2 := Lib.hid (f.keep T1.out b2)
  have ne : Hid (∀ k, G1 k → ¬ G2 k) := fun k h1 h2 => by
    have := f.lt P1.out k h1
    have := g2 k h2
    omega
  have g2' : Hid (∀ k, G2 k → w.heap.size ≤ k) := fun k hk => Nat.le_trans Z1.out.size (g2 k hk)
  replace g1 : Hid _ := g1
  clear N2 p2 b2 Z1 T1 g2 P1 T0
  go_wp2_with fail
  refine (F1.out G1 _ _ T2.out P12.out).mono ?_
  rintro e w3 ⟨G1', ev, rfl, p3, s3, k3, v3, o3⟩
  have Z3 : Hid (Below w.heap.size w w3) := Z2.out.trans (k3.below Z2.out.size g1.out)
  have T3 := Lib.hid (f.still T2.out P12.out k3)
  have P3 := Lib.hid (f.of P2.out fun k hk => k3.block k (f.lt P2.out k hk) (fun c => ne.out k c hk))
  have V3 := Lib.hid v3
  have hP2 := Lib.hid (f.lt P2.out)
  have O3 : Hid (∀ k, ev.ownBlock = some k → k < w3.heap.size ∧ ¬ G2 k) := fun k hk => ⟨(o3 k hk).2.1, fun c => by
    have h1 := hP2.out k c
    have h2 := (o3 k hk).1
    omega⟩
  clear F1 p3 s3 k3 v3 o3 P12 P2 T2 Z2 ne hP2
  go_wp2_with fail
  refine (F2.out G2 _ _ T3.out P3.out).mono ?_
  rintro e w4 ⟨G2', ev2, rfl, -, -, k4, -, -⟩
  have Z4 : Hid (Below w.heap.size w w4) := Z3.out.trans (k4.below Z3.out.size g2'.out)
  have T4 := Lib.hid (f.still T3.out P3.out k4)
  have v4 := V3.out.of fun k hk => k4.block k (O3.out k hk).1 (O3.out k hk).2
  obtain ⟨aa, cap, rfl, hv⟩ := v4
  clear F2 k4 P3 T3 Z3 V3 O3
  rcases hv with hv | ⟨g, o, rfl, hv⟩
  · cases hv
  · have h0 := hv 0 (by decide)
    have c0 : w4.cell? ⟨g, o, none⟩ = some (.int .i64 1) := h0.1
    have c1 : w4.cell? ⟨g, o + 1, none⟩ = some (.string ⟨#[130, 132]⟩) := h0.2
    have ia := fun w' => at_ev g o 1 cap 0 w' (by decide) 0 rfl o rfl
    clear hv h0
    go_wp2_with fail
    refine (FR.out _ T4.out).mono ?_
    rintro e w5 ⟨rfl, b5⟩
    have Z5 : Hid (Below w.heap.size w w5) := Z4.out.trans (b5.mono Z4.out.size)
    clear b5 FR T4 Z4
    go_wp2_with fail
    go_ret
    exact ⟨rfl, Z5.out⟩
end
end Go.Proofs.YtnngdlleicjegaaDoor
