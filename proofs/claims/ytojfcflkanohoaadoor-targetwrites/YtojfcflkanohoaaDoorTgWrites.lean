/-
  The walk of TargetWrites: path and fields of any target are what the document says. The table of powers lies as the row's list gives it.
-/
import Derived.Test.YtojfcflkanohoaaDoorTgFlds
import Derived.Test.YtojfcflkanohoaaDoorTgSame
import Derived.OrdersHeld
namespace Go.Proofs.YtojfcflkanohoaaDoor
set_option maxRecDepth 100000
open Go.RowKit Go.Sort

/-- A call of a slot. -/
theorem obCall1g (f : FuncId) (o : Oper) {k1 d : Nat} {tys : Array TypeId} {x1 : Value} {R : Ending → World → Prop} (ho : o.op = .call { callee := .value (.func f), args := #[.tmp k1], argTypes := tys }) (hd : o.dst = some d) (a : Act) (w : World) (K : Act → World → Prop) (Q : Exit → Act → World → Prop)
    (hcf : ∀ w, (callFunc f #[x1]).run Tryd.prog w = .ok (.enter f #[x1]) w) (h1 : a.eval (.tmp k1) = x1) (C : Calls Tryd.prog f #[x1] w R) (hK : ∀ e w', R e w' → ∃ v, e = .returned v ∧ K (a.put (some d) v) w') : o.wp Tryd.prog a w K Q := by
  unfold Oper.wp
  have hr : (execOp a.eval o).run Tryd.prog w = .ok (.enter f #[x1]) w := by
    unfold execOp
    rw [ho]
    simp only [go_sem] at h1 ⊢
    simp [go_sem, h1, hcf]
  rw [hr]
  exact C.mono fun e w' h => by
    obtain ⟨v, rfl, hk⟩ := hK e w' h
    rw [hd]
    exact hk
/-- The fields of any target, as a list. -/
def fldT (au : L) (ip : Bool) (a n : Int) : List Fd := if rightT ip a n = true then fld6 au ip a n else []
theorem Flds.fds {w' : World} {g : Nat} {l : List Fd} (hl : l.length = 6) (h : Lies w' g (fCells l)) : FdsAt w' (.slice (some ⟨g, 0, none⟩) 6 6) l := by
  refine ⟨some ⟨g, 0, none⟩, 6, by rw [hl], .inr ⟨g, 0, rfl, fun k hk => ?_⟩⟩
  obtain ⟨c1, c2⟩ := fCells_get l k hk
  rw [Nat.zero_add]
  exact ⟨h.cell _ c1, h.cell _ c2⟩
theorem FldT.fds {w w' : World} {e : Ending} {au : L} {ip : Bool} {a n : Int} (h : FldT w w' e au ip a n) : ∃ v, e = .returned v ∧ FdsAt w' v (fldT au ip a n) ∧ Below w.heap.size w w' := by
  unfold fldT
  rcases h with ⟨q, g, rfl, h1, _, h3⟩ | ⟨q, rfl, h2⟩
  · rw [if_pos q]
    exact ⟨_, rfl, Flds.fds rfl h1, h3⟩
  · rw [if_neg (by rw [q]; decide)]
    exact ⟨_, rfl, FdsAt.nil _, h2⟩
theorem fldT_len (au : L) (ip : Bool) (a n : Int) : (fldT au ip a n).length ≤ 6 := by
  unfold fldT
  split
  · exact Nat.le_refl _
  · exact Nat.zero_le _
set_option maxHeartbeats 16000000 in
theorem writes17_ok (au : L) (ip : Bool) (a n : Int) (w : World) (t : TabP w) (a0 : 0 ≤ a) (a1 : a < 4294967296) :
    Calls Tryd.prog 4 #[.string (strL au), tgV ip a n] w fun e w' => e = .returned (.bool true) ∧ Below w.heap.size w w' := by
  have lA := tbox w ip a n
  have bA := bx w (.cells #[.bool ip, .int .u32 a, .int .i64 n] 25)
  obtain ⟨wa, hwa⟩ : ∃ wa, wa = w.alloc (.cells #[.bool ip, .int .u32 a, .int .i64 n] 25) := ⟨_, rfl⟩
  rw [← hwa] at lA bA
  have tA := t.keep bA
  obtain ⟨K, hK⟩ : ∃ K, K = w.heap.size := ⟨_, rfl⟩
  rw [← hK] at lA
  have LD : Hid (∀ w', Below wa.heap.size wa w' → w'.cell? ⟨K, 0, none⟩ = some (.bool ip) ∧ w'.cell? ⟨K, 1, none⟩ = some (.int .u32 a) ∧ w'.cell? ⟨K, 2, none⟩ = some (.int .i64 n)) := fun w' b => by
    have l2 := lA.keep (by show 0 < 3; decide) b
    exact ⟨l2.cell 0 rfl, l2.cell 1 rfl, l2.cell 2 rfl⟩
  have PP : Hid (∀ w', Below wa.heap.size wa w' → Calls Tryd.prog 11 #[tgV ip a n] w' fun e w'' => e = .returned (.string (strL (pthT ip a n))) ∧ Below w'.heap.size w' w'') := fun w' b => path_ok ip a n w' (tA.keep b) a0 a1
  have PR : Hid (∀ w', Below wa.heap.size wa w' → Calls Tryd.prog 12 #[tgV ip a n] w' fun e w'' => e = .returned (.string (strL (pthT ip a n))) ∧ Below w'.heap.size w' w'') := fun w' _ => rpath_ok ip a n w' a0 a1
  have FP : Hid (∀ w', Below wa.heap.size wa w' → Calls Tryd.prog 13 #[.string (strL au), tgV ip a n] w' fun e w'' => ∃ v, e = .returned v ∧ FdsAt w'' v (fldT au ip a n) ∧ Below w'.heap.size w' w'') := fun w' b => (flds_ok au ip a n w' (tA.keep b) a0 a1).mono fun _ _ h => h.fds
  have FR : Hid (∀ w', Below wa.heap.size wa w' → Calls Tryd.prog 14 #[.string (strL au), tgV ip a n] w' fun e w'' => ∃ v, e = .returned v ∧ FdsAt w'' v (fldT au ip a n) ∧ Below w'.heap.size w' w'') := fun w' _ => (rflds_ok au ip a n w' a0 a1).mono fun _ _ h => h.fds
  have SM : Hid (∀ (w' : World) (v u : Value), FdsAt w' v (fldT au ip a n) → FdsAt w' u (fldT au ip a n) → Calls Tryd.prog 10 #[v, u] w' fun e w'' => e = .returned (.bool true) ∧ Below w'.heap.size w' w'') := fun w' v u h1 h2 => by
    have hl := fldT_len au ip a n
    have := rsame14_ok _ _ v u w' h1 h2 (by unfold maxLen; omega) (by unfold maxLen; omega)
    rwa [decide_eq_true rfl] at this
  have Z := Lib.hid bA
  unfold tgV at PP PR FP FR ⊢
  generalize strL (pthT ip a n) = PQ at *
  generalize strL au = SA at *
  generalize fldT au ip a n = FL at *
  clear lA bA tA t
  go_enter Tryd.func4, Tryd.ntmps4
  go_upto_region 1 with fail
  rw [← hwa, ← hK]
  clear hwa
  replace hK := Lib.hid hK
  have hS : Below wa.heap.size wa wa.drew := ⟨rfl, rfl, rfl, Nat.le_refl _, fun _ _ => rfl⟩
  refine wp_region_held (S := fun w' => Below wa.heap.size wa w') (by kernel_rfl) ?_
  change wpAnyH _ .any _ _ _ 15 (Array.replicate 15 false) _ wa.drew
  generalize wa.drew = wd at *
  refine obTakeH (i := 0) (d := 5) (v := .agg #[.bool ip, .int .u32 a, .int .i64 n]) rfl rfl (by kernel_rfl) (by kernel_rfl) (by kernel_rfl) (fun _ _ _ h => h) rfl (fun w hS => by have hS' := LD.out w hS; obtain ⟨s0, s1, s2⟩ := hS'; go_simp) hS ?_
  refine obTakeH (i := 2) (d := 7) (v := .agg #[.bool ip, .int .u32 a, .int .i64 n]) rfl rfl (by kernel_rfl) (by kernel_rfl) (by kernel_rfl) (fun _ _ _ h => h) rfl (fun w hS => by have hS' := LD.out w hS; obtain ⟨s0, s1, s2⟩ := hS'; go_simp) hS ?_
  try simp only [Act.put, List.setIfInBounds_toArray, List.set_cons_succ, List.set_cons_zero]
  refine wpAnyH_all (rs := [1]) (by kernel_rfl) (by simp) (fun y hy => ?_)
  obtain rfl : y = 1 := by simpa using hy
  clear hy
  refine wpOp_step rfl (fun K' hK => ?_)
  refine obCall1g (k1 := 5) (d := 6) (x1 := .agg #[.bool ip, .int .u32 a, .int .i64 n]) 11 _ rfl rfl _ _ _ _ (fun _ => rfl) rfl (PP.out _ hS) (fun e wc1 hR => ?_)
  obtain ⟨rfl, b1⟩ := hR
  have hS1 := hS.trans (b1.mono hS.size)
  refine ⟨_, rfl, hK _ _ ⟨hS1, ?_⟩⟩
  replace hS := hS1
  clear hK K' b1 hS1
  try simp only [Act.put, List.setIfInBounds_toArray, List.set_cons_succ, List.set_cons_zero]
  refine wpAnyH_all (rs := [3]) (by kernel_rfl) (by simp) (fun y hy => ?_)
  obtain rfl : y = 3 := by simpa using hy
  clear hy
  refine wpOp_step rfl (fun K' hK => ?_)
  refine obCall1g (k1 := 7) (d := 8) (x1 := .agg #[.bool ip, .int .u32 a, .int .i64 n]) 12 _ rfl rfl _ _ _ _ (fun _ => rfl) rfl (PR.out _ hS) (fun e wc2 hR => ?_)
  obtain ⟨rfl, b2⟩ := hR
  have hS2 := hS.trans (b2.mono hS.size)
  refine ⟨_, rfl, hK _ _ ⟨hS2, ?_⟩⟩
  replace hS := hS2
  clear hK K' b2 hS2
  try simp only [Act.put, List.setIfInBounds_toArray, List.set_cons_succ, List.set_cons_zero]
  refine obTakeH (i := 4) (d := 9) (v := .bool true) rfl rfl (by kernel_rfl) (by kernel_rfl) (by kernel_rfl) (fun _ _ _ h => h) rfl (fun w hS => by have hS' := LD.out w hS; obtain ⟨s0, s1, s2⟩ := hS'; go_simp) hS ?_
  refine obTakeH (i := 5) (d := 10) (v := .bool true) rfl rfl (by kernel_rfl) (by kernel_rfl) (by kernel_rfl) (fun _ _ _ h => h) rfl (fun w hS => by have hS' := LD.out w hS; obtain ⟨s0, s1, s2⟩ := hS'; go_simp) hS ?_
  try simp only [Act.put, List.setIfInBounds_toArray, List.set_cons_succ, List.set_cons_zero]
  refine obTakeHG (i := 6) (d := 11) (v := .string SA) rfl rfl (by kernel_rfl) (by kernel_rfl) (by kernel_rfl) (fun _ _ _ h => h) (by kernel_rfl) (fun w hS => by have hS' := LD.out w hS; obtain ⟨s0, s1, s2⟩ := hS'; go_simp) hS ?_
  try simp only [Act.put, List.setIfInBounds_toArray, List.set_cons_succ, List.set_cons_zero]
  refine obTakeHG (i := 7) (d := 12) (v := .agg #[.bool ip, .int .u32 a, .int .i64 n]) rfl rfl (by kernel_rfl) (by kernel_rfl) (by kernel_rfl) (fun _ _ _ h => h) (by kernel_rfl) (fun w hS => by have hS' := LD.out w hS; obtain ⟨s0, s1, s2⟩ := hS'; go_simp) hS ?_
  try simp only [Act.put, List.setIfInBounds_toArray, List.set_cons_succ, List.set_cons_zero]
  refine obTakeHG (i := 9) (d := 14) (v := .string SA) rfl rfl (by kernel_rfl) (by kernel_rfl) (by kernel_rfl) (fun _ _ _ h => h) (by kernel_rfl) (fun w hS => by have hS' := LD.out w hS; obtain ⟨s0, s1, s2⟩ := hS'; go_simp) hS ?_
  try simp only [Act.put, List.setIfInBounds_toArray, List.set_cons_succ, List.set_cons_zero]
  refine obTakeHG (i := 10) (d := 15) (v := .agg #[.bool ip, .int .u32 a, .int .i64 n]) rfl rfl (by kernel_rfl) (by kernel_rfl) (by kernel_rfl) (fun _ _ _ h => h) (by kernel_rfl) (fun w hS => by have hS' := LD.out w hS; obtain ⟨s0, s1, s2⟩ := hS'; go_simp) hS ?_
  try simp only [Act.put, List.setIfInBounds_toArray, List.set_cons_succ, List.set_cons_zero]
  refine wpAnyH_all (rs := [8]) (by kernel_rfl) (by simp) (fun y hy => ?_)
  obtain rfl : y = 8 := by simpa using hy
  clear hy
  refine obStepG rfl (by kernel_rfl) (fun K' hK => ?_)
  refine obCall2 (k1 := 11) (k2 := 12) (d := 13) (x1 := .string SA) (x2 := .agg #[.bool ip, .int .u32 a, .int .i64 n]) 13 _ rfl rfl _ _ _ _ (fun _ => rfl) rfl rfl (FP.out _ hS) (fun e wc3 hR => ?_)
  obtain ⟨vA, rfl, hA, b3⟩ := hR
  have hS3 := hS.trans (b3.mono hS.size)
  refine ⟨_, rfl, hK _ _ ⟨hS3, ?_⟩⟩
  replace hS := hS3
  have FA := Lib.hid hA
  clear hK K' b3 hS3 hA
  try simp only [Act.put, List.setIfInBounds_toArray, List.set_cons_succ, List.set_cons_zero]
  refine wpAnyH_all (rs := [11]) (by kernel_rfl) (by simp) (fun y hy => ?_)
  obtain rfl : y = 11 := by simpa using hy
  clear hy
  refine obStepG rfl (by kernel_rfl) (fun K' hK => ?_)
  refine obCall2 (k1 := 14) (k2 := 15) (d := 16) (x1 := .string SA) (x2 := .agg #[.bool ip, .int .u32 a, .int .i64 n]) 14 _ rfl rfl _ _ _ _ (fun _ => rfl) rfl rfl (FR.out _ hS) (fun e wc4 hR => ?_)
  obtain ⟨vB, rfl, hB, b4⟩ := hR
  have hS4 := hS.trans (b4.mono hS.size)
  refine ⟨_, rfl, hK _ _ ⟨hS4, ?_⟩⟩
  replace hS := hS4
  replace FA := Lib.hid (FA.out.keep b4)
  have FB := Lib.hid hB
  clear hK K' b4 hS4 hB
  try simp only [Act.put, List.setIfInBounds_toArray, List.set_cons_succ, List.set_cons_zero]
  refine wpAnyH_all (rs := [12]) (by kernel_rfl) (by simp) (fun y hy => ?_)
  obtain rfl : y = 12 := by simpa using hy
  clear hy
  refine obStepG rfl (by kernel_rfl) (fun K' hK => ?_)
  refine obCall2 (k1 := 13) (k2 := 16) (d := 17) (x1 := vA) (x2 := vB) 10 _ rfl rfl _ _ _ _ (fun _ => rfl) rfl rfl (SM.out _ _ _ FA.out FB.out) (fun e wc5 hR => ?_)
  obtain ⟨rfl, b5⟩ := hR
  have hS5 := hS.trans (b5.mono hS.size)
  refine ⟨_, rfl, hK _ _ ⟨hS5, ?_⟩⟩
  replace hS := hS5
  clear hK K' b5 hS5
  try simp only [Act.put, List.setIfInBounds_toArray, List.set_cons_succ, List.set_cons_zero]
  refine obTakeH (i := 13) (d := 18) (v := .bool true) rfl rfl (by kernel_rfl) (by kernel_rfl) (by kernel_rfl) (fun _ _ _ h => h) rfl (fun w hS => by have hS' := LD.out w hS; obtain ⟨s0, s1, s2⟩ := hS'; go_simp) hS ?_
  refine obTakeH (i := 14) (d := 4) (v := .bool true) rfl rfl (by kernel_rfl) (by kernel_rfl) (by kernel_rfl) (fun _ _ _ h => h) rfl (fun w hS => by have hS' := LD.out w hS; obtain ⟨s0, s1, s2⟩ := hS'; go_simp) hS ?_
  try simp only [Act.put, List.setIfInBounds_toArray, List.set_cons_succ, List.set_cons_zero]
  refine wpAnyH_done (by kernel_rfl) ?_ 0
  go_wp2_with fail
  go_ret
  exact ⟨rfl, Z.out.trans (hS.mono Z.out.size)⟩
theorem writes17_v (s : ByteArray) (ip : Bool) (a n : Int) (w : World) (t : TabP w) (a0 : 0 ≤ a) (a1 : a < 4294967296) :
    Calls Tryd.prog 4 #[.string s, tgV ip a n] w fun e w' => e = .returned (.bool true) ∧ Below w.heap.size w w' := by
  have := writes17_ok (toL s) ip a n w t a0 a1
  rwa [strL_toL] at this
end Go.Proofs.YtojfcflkanohoaaDoor
