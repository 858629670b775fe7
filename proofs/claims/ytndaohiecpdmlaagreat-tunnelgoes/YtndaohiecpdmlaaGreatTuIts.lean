/-
  The law's own tunnel: its rules copied. No condition but what the form allows.
-/
import Derived.Test.YtndaohiecpdmlaaGreatTuOpen
import Derived.Test.YtndaohiecpdmlaaGreatMgA
import Derived.Lib.Hide
import Derived.Tactics
import Derived.Tactics2
import Derived.RegionTactic
import Derived.BigQuiet
import Derived.Deep.Cut
namespace Go.Proofs.YtndaohiecpdmlaaGreat
set_option maxRecDepth 100000
open Go.RowKit

theorem OwnK.rusK {w w' : World} {base R : Nat} {v : Value} {d : List Ru} (h : OwnK KR w base v d) (hR : R < base) (k : Kept (fun k => k = R) w w') : RusAt w' v d :=
  OwnK.rus (h.of fun j hj => k.block j (h.lt j hj).2 fun q => by have := (h.lt j hj).1; omega)
set_option linter.unusedSimpArgs false in
set_option maxHeartbeats 4000000 in
theorem its_ok (T : Tu) (v : Value) (w : World) (h : RusAt w v T.rules) (hb : TuB T) :
    Calls Tryz.prog 4 #[tuV T v] w fun e w' => ∃ v', e = .returned (tuV T v') ∧ RusAt w' v' T.rules ∧ Below w.heap.size w w' := by
  have hlen := hb.len
  clear hb
  obtain ⟨ip, addr, tp, own, port, rules, rt⟩ := T
  unfold tuV
  simp only at *
  have hsl : ∃ a c, v = .slice a rules.length c := by obtain ⟨a, c, e, -, -⟩ := h; exact ⟨a, c, e⟩
  obtain ⟨a, c, rfl⟩ := hsl
  obtain ⟨n, hn⟩ : ∃ n, n = rules.length := ⟨_, rfl⟩
  obtain ⟨wb, hwb⟩ : ∃ x, x = w.alloc (.cells #[.bool ip, .int .u32 addr, .int .i64 tp, .int .u32 own, .int .i64 port, .slice a rules.length c] 27) := ⟨_, rfl⟩
  have lb : Lies wb w.heap.size [.bool ip, .int .u32 addr, .int .i64 tp, .int .u32 own, .int .i64 port, .slice a rules.length c] := by rw [hwb]; exact Lies.new w [.bool ip, .int .u32 addr, .int .i64 tp, .int .u32 own, .int .i64 port, .slice a rules.length c] _
  have sb : wb.heap.size = w.heap.size + 1 := by rw [hwb]; simp
  have bb : Below w.heap.size w wb := by rw [hwb]; exact (Below.refl _ _).alloc (Nat.le_refl _) _
  obtain ⟨wr, hwr⟩ : ∃ x, x = wb.alloc (.cells #[.bool false, .int .u32 0, .int .i64 0, .int .u32 0, .int .i64 0, .slice none 0 0] 28) := ⟨_, rfl⟩
  have br : Below wb.heap.size wb wr := by rw [hwr]; exact (Below.refl _ _).alloc (Nat.le_refl _) _
  have lr : Lies wr wb.heap.size [.bool false, .int .u32 0, .int .i64 0, .int .u32 0, .int .i64 0, .slice none 0 0] := by rw [hwr]; exact Lies.new wb [.bool false, .int .u32 0, .int .i64 0, .int .u32 0, .int .i64 0, .slice none 0 0] _
  have sr : wr.heap.size = wb.heap.size + 1 := by rw [hwr]; simp
  replace lb := lb.keep (by show 0 < 6; decide) br
  have bw0 := bb.trans (br.mono bb.size)
  replace h := h.keep bw0
  obtain ⟨R, hR⟩ : ∃ R, R = wb.heap.size := ⟨_, rfl⟩
  rw [← hR] at lr sr
  have hRb : R = w.heap.size + 1 := by omega
  replace hwb := Lib.hid hwb
  replace hwr := Lib.hid hwr
  replace hR := Lib.hid hR
  replace bw0 := Lib.hid bw0
  replace lb := Lib.hid lb
  replace lr := Lib.hid lr
  replace h := Lib.hid h
  replace sr := Lib.hid sr
  replace hRb := Lib.hid hRb
  replace hlen := Lib.hid hlen
  clear br bb sb
  rw [← hn] at hwb lb h ⊢
  replace hn := Lib.hid hn
  go_enter Tryz.func4, Tryz.ntmps4
  go_upto_region 1 with fail
  rw [← hwb.out, ← hwr.out, ← hRb.out]
  clear hwb hwr hR
  refine wp_region_held (S := fun w' => w'.cell? ⟨w.heap.size, 0, none⟩ = some (.bool ip) ∧ w'.cell? ⟨w.heap.size, 1, none⟩ = some (.int .u32 addr) ∧ w'.cell? ⟨w.heap.size, 2, none⟩ = some (.int .i64 tp) ∧ w'.cell? ⟨w.heap.size, 3, none⟩ = some (.int .u32 own) ∧ w'.cell? ⟨w.heap.size, 4, none⟩ = some (.int .i64 port) ∧ w'.cell? ⟨w.heap.size, 5, none⟩ = some (.slice a n c)) (by kernel_rfl) ?_
  change wpAnyH _ .any _ _ _ 12 (Array.replicate 12 false) _ wr.drew
  have SB : Hid (∀ w' : World, (∀ k, k = w.heap.size → w'.heap[k]? = wr.heap[k]?) → w'.cell? ⟨w.heap.size, 0, none⟩ = some (.bool ip) ∧ w'.cell? ⟨w.heap.size, 1, none⟩ = some (.int .u32 addr) ∧ w'.cell? ⟨w.heap.size, 2, none⟩ = some (.int .i64 tp) ∧ w'.cell? ⟨w.heap.size, 3, none⟩ = some (.int .u32 own) ∧ w'.cell? ⟨w.heap.size, 4, none⟩ = some (.int .i64 port) ∧ w'.cell? ⟨w.heap.size, 5, none⟩ = some (.slice a n c)) := fun w' b => by
    have := lb.out.of_block (b _ rfl)
    exact ⟨this.cell 0 rfl, this.cell 1 rfl, this.cell 2 rfl, this.cell 3 rfl, this.cell 4 rfl, this.cell 5 rfl⟩
  have bd : Below wr.heap.size wr wr.drew := drewB _ _
  obtain ⟨v', w2, hap, o, -, b2⟩ := copy_row kr_ok wr.drew (K := KR) (h.out.keep bd) (by rw [← hn.out]; have := hlen.out; rw [← hn.out] at this; show n * 48 ≤ _; omega) (by have := hlen.out; unfold maxLen; omega) 25
  have hsv : ∃ a' c', v' = .slice a' n c' := by obtain ⟨a', c', e⟩ := o.slice; rw [← hn.out] at e; exact ⟨a', c', e⟩
  obtain ⟨a', c', rfl⟩ := hsv
  replace hap : ∀ z, (builtin .append #[25, 25] 25 z #[.slice (some ⟨wr.drew.heap.size, 0, none⟩) 0 0, .slice a n c]).run Tryz.prog (wr.drew.alloc (.cells #[] 57)) = .ok (.value (.slice a' n c')) w2 := hap
  have zr := sr.out
  have zb := hRb.out
  have hl0 : w.heap.size < wr.heap.size := by omega
  have S1 := SB.out wr.drew (fun k q => bd.block k (by omega))
  have e1 : Below wr.drew.heap.size wr.drew (wr.drew.alloc (.cells #[] 57)) := (Below.refl _ _).alloc (Nat.le_refl _) _
  have S2 := SB.out (wr.drew.alloc (.cells #[] 57)) (fun k q => by rw [e1.block k (by show k < wr.heap.size; omega)]; exact bd.block k (by omega))
  have b3 : Below wr.heap.size wr w2 := bd.trans b2
  have S3 := SB.out w2 (fun k q => b3.block k (by omega))
  have l2 := lr.out.of_block (b3.block R (by omega))
  have l3 := (((((l2.put 0 (by show 0 < 6; decide) (.bool ip)).put 1 (by show 1 < 6; decide) (.int .u32 addr)).put 2 (by show 2 < 6; decide) (.int .i64 tp)).put 3 (by show 3 < 6; decide) (.int .u32 own)).put 4 (by show 4 < 6; decide) (.int .i64 port)).put 5 (by show 5 < 6; decide) (.slice a' n c')
  have k3 : Kept (fun k => k = R) w2 ((((((w2.setCell ⟨R, 0, none⟩ (.bool ip)).setCell ⟨R, 1, none⟩ (.int .u32 addr)).setCell ⟨R, 2, none⟩ (.int .i64 tp)).setCell ⟨R, 3, none⟩ (.int .u32 own)).setCell ⟨R, 4, none⟩ (.int .i64 port)).setCell ⟨R, 5, none⟩ (.slice a' n c')) := ((((((Kept.refl (fun k => k = R) w2).set ⟨R, 0, none⟩ rfl _).set ⟨R, 1, none⟩ rfl _).set ⟨R, 2, none⟩ rfl _).set ⟨R, 3, none⟩ rfl _).set ⟨R, 4, none⟩ rfl _).set ⟨R, 5, none⟩ rfl _
  have r3 := o.rusK (R := R) (by show R < wr.heap.size; omega) k3
  have b4 : Below w.heap.size w ((((((w2.setCell ⟨R, 0, none⟩ (.bool ip)).setCell ⟨R, 1, none⟩ (.int .u32 addr)).setCell ⟨R, 2, none⟩ (.int .i64 tp)).setCell ⟨R, 3, none⟩ (.int .u32 own)).setCell ⟨R, 4, none⟩ (.int .i64 port)).setCell ⟨R, 5, none⟩ (.slice a' n c')) := (bw0.out.trans (b3.mono bw0.out.size)).trans (k3.below (bw0.out.trans (b3.mono bw0.out.size)).size (fun k q => by omega))
  have S4 := SB.out _ (fun k q => by rw [k3.block k (by have := b3.size; omega) (by omega)]; exact b3.block k (by omega))
  have z0 := l2.free 0 (by show 0 < 6; decide)
  have z1 := (l2.put 0 (by show 0 < 6; decide) (.bool ip)).free 1 (by show 1 < 6; decide)
  have z2 := ((l2.put 0 (by show 0 < 6; decide) (.bool ip)).put 1 (by show 1 < 6; decide) (.int .u32 addr)).free 2 (by show 2 < 6; decide)
  have z3 := (((l2.put 0 (by show 0 < 6; decide) (.bool ip)).put 1 (by show 1 < 6; decide) (.int .u32 addr)).put 2 (by show 2 < 6; decide) (.int .i64 tp)).free 3 (by show 3 < 6; decide)
  have z4 := ((((l2.put 0 (by show 0 < 6; decide) (.bool ip)).put 1 (by show 1 < 6; decide) (.int .u32 addr)).put 2 (by show 2 < 6; decide) (.int .i64 tp)).put 3 (by show 3 < 6; decide) (.int .u32 own)).free 4 (by show 4 < 6; decide)
  have z5 := (((((l2.put 0 (by show 0 < 6; decide) (.bool ip)).put 1 (by show 1 < 6; decide) (.int .u32 addr)).put 2 (by show 2 < 6; decide) (.int .i64 tp)).put 3 (by show 3 < 6; decide) (.int .u32 own)).put 4 (by show 4 < 6; decide) (.int .i64 port)).free 5 (by show 5 < 6; decide)
  have o0 := l2.cell 0 rfl
  have o1 := (l2.put 0 (by show 0 < 6; decide) (.bool ip)).cell 1 rfl
  have o2 := ((l2.put 0 (by show 0 < 6; decide) (.bool ip)).put 1 (by show 1 < 6; decide) (.int .u32 addr)).cell 2 rfl
  have o3 := (((l2.put 0 (by show 0 < 6; decide) (.bool ip)).put 1 (by show 1 < 6; decide) (.int .u32 addr)).put 2 (by show 2 < 6; decide) (.int .i64 tp)).cell 3 rfl
  have o4 := ((((l2.put 0 (by show 0 < 6; decide) (.bool ip)).put 1 (by show 1 < 6; decide) (.int .u32 addr)).put 2 (by show 2 < 6; decide) (.int .i64 tp)).put 3 (by show 3 < 6; decide) (.int .u32 own)).cell 4 rfl
  have o5 := (((((l2.put 0 (by show 0 < 6; decide) (.bool ip)).put 1 (by show 1 < 6; decide) (.int .u32 addr)).put 2 (by show 2 < 6; decide) (.int .i64 tp)).put 3 (by show 3 < 6; decide) (.int .u32 own)).put 4 (by show 4 < 6; decide) (.int .i64 port)).cell 5 rfl
  have FIN := Lib.hid (And.intro l3 (And.intro r3 b4))
  replace S4 := Lib.hid S4
  replace S3 := Lib.hid S3
  replace S2 := Lib.hid S2
  replace hap := Lib.hid hap
  clear l3 k3 r3 b4 l2 b3 e1 zr zb hl0 b2 o bd SB lb lr h sr hRb hlen hn bw0
  refine obTakeH (i := 0) (d := 3) (v := .pointer (some ⟨w.heap.size, 0, none⟩)) rfl rfl (by kernel_rfl) (by kernel_rfl) (by kernel_rfl) (fun _ _ _ h => h) rfl (fun w' hS => by go_simp) S1 ?_
  refine obTakeH (i := 1) (d := 4) (v := .agg #[.bool ip, .int .u32 addr, .int .i64 tp]) rfl rfl (by kernel_rfl) (by kernel_rfl) (by kernel_rfl) (fun _ _ _ h => h) rfl (fun w' hS => by obtain ⟨h0, h1, h2, h3, h4, h5⟩ := hS; go_simp) S1 ?_
  refine obTakeH (i := 2) (d := 5) (v := .pointer (some ⟨w.heap.size, 3, none⟩)) rfl rfl (by kernel_rfl) (by kernel_rfl) (by kernel_rfl) (fun _ _ _ h => h) rfl (fun w' hS => by go_simp) S1 ?_
  refine obTakeH (i := 3) (d := 6) (v := .int .u32 own) rfl rfl (by kernel_rfl) (by kernel_rfl) (by kernel_rfl) (fun _ _ _ h => h) rfl (fun w' hS => by obtain ⟨h0, h1, h2, h3, h4, h5⟩ := hS; go_simp) S1 ?_
  refine obTakeH (i := 4) (d := 7) (v := .pointer (some ⟨w.heap.size, 4, none⟩)) rfl rfl (by kernel_rfl) (by kernel_rfl) (by kernel_rfl) (fun _ _ _ h => h) rfl (fun w' hS => by go_simp) S1 ?_
  refine obTakeH (i := 5) (d := 8) (v := .int .i64 port) rfl rfl (by kernel_rfl) (by kernel_rfl) (by kernel_rfl) (fun _ _ _ h => h) rfl (fun w' hS => by obtain ⟨h0, h1, h2, h3, h4, h5⟩ := hS; go_simp) S1 ?_
  refine obTakeH (i := 7) (d := 10) (v := .pointer (some ⟨w.heap.size, 5, none⟩)) rfl rfl (by kernel_rfl) (by kernel_rfl) (by kernel_rfl) (fun _ _ _ h => h) rfl (fun w' hS => by go_simp) S1 ?_
  refine obTakeH (i := 8) (d := 11) (v := .slice a n c) rfl rfl (by kernel_rfl) (by kernel_rfl) (by kernel_rfl) (fun _ _ _ h => h) rfl (fun w' hS => by obtain ⟨h0, h1, h2, h3, h4, h5⟩ := hS; go_simp) S1 ?_
  try simp only [Act.put, List.setIfInBounds_toArray, List.set_cons_succ, List.set_cons_zero]
  clear S1
  refine wpAnyH_all (rs := [6]) (by kernel_rfl) (by simp) (fun y hy => ?_)
  obtain rfl : y = 6 := by simpa using hy
  clear hy
  refine wpOp_step rfl (fun K' hK => ?_)
  go_simp
  refine hK _ _ ⟨S2.out, ?_⟩
  clear hK K' S2
  try simp only [Act.put, List.setIfInBounds_toArray, List.set_cons_succ, List.set_cons_zero]
  refine wpAnyH_all (rs := [9]) (by kernel_rfl) (by simp) (fun y hy => ?_)
  obtain rfl : y = 9 := by simpa using hy
  clear hy
  refine wpOp_step rfl (fun K' hK => ?_)
  refine obB2 _ .append _ _ _ _ rfl _ _ rfl rfl hap.out ?_
  refine hK _ _ ⟨S3.out, ?_⟩
  clear hK K' hap
  try simp only [Act.put, List.setIfInBounds_toArray, List.set_cons_succ, List.set_cons_zero]
  refine obTakeH (i := 10) (d := 13) (v := .agg #[.bool ip, .int .u32 addr, .int .i64 tp, .int .u32 own, .int .i64 port, .slice a' n c']) rfl rfl (by kernel_rfl) (by kernel_rfl) (by kernel_rfl) (fun _ _ _ h => h) rfl (fun w' hS => by go_simp) S3.out ?_
  try simp only [Act.put, List.setIfInBounds_toArray, List.set_cons_succ, List.set_cons_zero]
  refine wpAnyH_all (rs := [11]) (by kernel_rfl) (by simp) (fun y hy => ?_)
  obtain rfl : y = 11 := by simpa using hy
  clear hy S3
  refine wpOp_step rfl (fun K' hK => ?_)
  go_simp
  refine hK _ _ ⟨S4.out, ?_⟩
  clear hK K' S4 o0 o1 o2 o3 o4 o5 z0 z1 z2 z3 z4 z5
  try simp only [Act.put, List.setIfInBounds_toArray, List.set_cons_succ, List.set_cons_zero]
  refine wpAnyH_done (by kernel_rfl) ?_ 0
  generalize (((((w2.setCell ⟨R, 0, none⟩ (.bool ip)).setCell ⟨R, 1, none⟩ (.int .u32 addr)).setCell ⟨R, 2, none⟩ (.int .i64 tp)).setCell ⟨R, 3, none⟩ (.int .u32 own)).setCell ⟨R, 4, none⟩ (.int .i64 port)).setCell ⟨R, 5, none⟩ (.slice a' n c') = w3 at *
  have c0 := FIN.out.1.cell 0 rfl
  have c1 := FIN.out.1.cell 1 rfl
  have c2 := FIN.out.1.cell 2 rfl
  have c3 := FIN.out.1.cell 3 rfl
  have c4 := FIN.out.1.cell 4 rfl
  have c5 := FIN.out.1.cell 5 rfl
  go_wp2_with fail
  refine ⟨rfl, .agg #[.bool ip, .int .u32 addr, .int .i64 tp, .int .u32 own, .int .i64 port, .slice a' n c'], ?_, _, rfl, FIN.out.2.1, FIN.out.2.2⟩
  simp [results, Tryz.results4, go_sem, c0, c1, c2, c3, c4, c5]
end Go.Proofs.YtndaohiecpdmlaaGreat
