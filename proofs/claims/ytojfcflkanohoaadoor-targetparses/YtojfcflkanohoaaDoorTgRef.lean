/-
  What the document's own Parse answers of any fields: the target that they ask for and 200, or no target and a status. No condition but the row's own length.
-/
import Derived.Test.YtojfcflkanohoaaDoorTgUdp
import Derived.Test.YtojfcflkanohoaaDoorTgFace
import Derived.Test.YtojfcflkanohoaaDoorTgGet
namespace Go.Proofs.YtojfcflkanohoaaDoor
set_option maxRecDepth 100000
open Go.RowKit Go.Sort

theorem getV_opt (l : List Fd) (n : L) : ∃ (x : L) (b : Bool), getV l n = .tuple #[.string (strL x), .bool b] ∧ (b = true → getS l n = some x) ∧ (b = false → getS l n = none) := by
  unfold getV
  cases e : getS l n with
  | some v => exact ⟨v, true, rfl, (fun _ => rfl), (fun c => by cases c)⟩
  | none => exact ⟨[], false, rfl, (fun c => by cases c), (fun _ => rfl)⟩
theorem ans_bad {l : List Fd} {x : Int} (h : pre l = x) (hx : x ≠ 0) : Ans l (.returned (.tuple #[tgV false 0 0, .int .i64 x])) := ⟨false, 0, 0, x, .inl ⟨by rw [h]; exact hx, h.symm, rfl, rfl, rfl⟩, rfl⟩
theorem names_some {l : List Fd} (h : chkS l = 0) : ∀ i, i < l.length → (l.getD i nF).1 ≠ [] := fun i hi => by
  have hm : l.getD i nF ∈ l := by rw [List.getD, List.getElem?_eq_getElem hi]; exact List.getElem_mem hi
  exact (rt_lens (fst_len (chk_fst h).1 _ hm)).2.2
set_option maxHeartbeats 16000000 in
theorem ref17_ok (l : List Fd) (v : Value) (w : World) (h : FdsAt w v l) (hl : l.length ≤ maxLen) :
    Calls Tryd.prog 9 #[v] w fun e w' => Ans l e ∧ Below w.heap.size w w' := by
  obtain ⟨a, c, rfl⟩ := h.slice
  have HK : Hid (∀ w2, Below w.heap.size w w2 → FdsAt w2 (.slice a l.length c) l) := fun w2 b => h.keep b
  have CK : Hid (∀ w2, Below w.heap.size w w2 → Calls Tryd.prog 16 #[.slice a l.length c] w2 fun e w' => e = .returned (.int .i64 (chkS l)) ∧ Below w2.heap.size w2 w') := fun w2 b => rcheck_ok l _ w2 (HK.out w2 b) hl
  have SH : Hid (chkS l = 0 → ∀ w2, Below w.heap.size w w2 → Calls Tryd.prog 19 #[.slice a l.length c] w2 fun e w' => e = .returned (.bool (marked l)) ∧ Below w2.heap.size w2 w') := fun q w2 b => shaped_ok l _ w2 (HK.out w2 b) hl (names_some q)
  have PP : Hid (∀ w2, Calls Tryd.prog 12 #[.agg #[.bool true, .int .u32 0, .int .i64 0]] w2 fun e w' => e = .returned (.string (strL ipL)) ∧ Below w2.heap.size w2 w') := fun w2 => rpath_ip w2
  obtain ⟨m, Bm, gm, tm, fm⟩ := getV_opt l nMeth
  have Vm : Hid (∀ w2, Below w.heap.size w w2 → Calls Tryd.prog 20 #[.slice a l.length c, .string ⟨#[58, 109, 101, 116, 104, 111, 100]⟩] w2 fun e w' => e = .returned (.tuple #[.string (strL m), .bool Bm]) ∧ w2 = w') := fun w2 b => by rw [← gm]; exact rget14_ok l nMeth _ w2 (HK.out w2 b) hl
  clear gm
  replace tm := Lib.hid tm
  replace fm := Lib.hid fm
  obtain ⟨s, Bs, gs, ts, fs⟩ := getV_opt l nSchm
  have Vs : Hid (∀ w2, Below w.heap.size w w2 → Calls Tryd.prog 20 #[.slice a l.length c, .string ⟨#[58, 115, 99, 104, 101, 109, 101]⟩] w2 fun e w' => e = .returned (.tuple #[.string (strL s), .bool Bs]) ∧ w2 = w') := fun w2 b => by rw [← gs]; exact rget14_ok l nSchm _ w2 (HK.out w2 b) hl
  clear gs
  replace ts := Lib.hid ts
  replace fs := Lib.hid fs
  obtain ⟨au, Bau, gau, tau, fau⟩ := getV_opt l nAuth
  have Vau : Hid (∀ w2, Below w.heap.size w w2 → Calls Tryd.prog 20 #[.slice a l.length c, .string ⟨#[58, 97, 117, 116, 104, 111, 114, 105, 116, 121]⟩] w2 fun e w' => e = .returned (.tuple #[.string (strL au), .bool Bau]) ∧ w2 = w') := fun w2 b => by rw [← gau]; exact rget14_ok l nAuth _ w2 (HK.out w2 b) hl
  clear gau
  replace tau := Lib.hid tau
  replace fau := Lib.hid fau
  obtain ⟨p, Bp, gp, tp, fp⟩ := getV_opt l nPath
  have Vp : Hid (∀ w2, Below w.heap.size w w2 → Calls Tryd.prog 20 #[.slice a l.length c, .string ⟨#[58, 112, 97, 116, 104]⟩] w2 fun e w' => e = .returned (.tuple #[.string (strL p), .bool Bp]) ∧ w2 = w') := fun w2 b => by rw [← gp]; exact rget14_ok l nPath _ w2 (HK.out w2 b) hl
  clear gp
  replace tp := Lib.hid tp
  replace fp := Lib.hid fp
  obtain ⟨pr, Bpr, gpr, tpr, fpr⟩ := getV_opt l nProt
  have Vpr : Hid (∀ w2, Below w.heap.size w w2 → Calls Tryd.prog 20 #[.slice a l.length c, .string ⟨#[58, 112, 114, 111, 116, 111, 99, 111, 108]⟩] w2 fun e w' => e = .returned (.tuple #[.string (strL pr), .bool Bpr]) ∧ w2 = w') := fun w2 b => by rw [← gpr]; exact rget14_ok l nProt _ w2 (HK.out w2 b) hl
  clear gpr
  replace tpr := Lib.hid tpr
  replace fpr := Lib.hid fpr
  obtain ⟨cp, Bcp, gcp, tcp, fcp⟩ := getV_opt l nCaps
  have Vcp : Hid (∀ w2, Below w.heap.size w w2 → Calls Tryd.prog 20 #[.slice a l.length c, .string ⟨#[99, 97, 112, 115, 117, 108, 101, 45, 112, 114, 111, 116, 111, 99, 111, 108]⟩] w2 fun e w' => e = .returned (.tuple #[.string (strL cp), .bool Bcp]) ∧ w2 = w') := fun w2 b => by rw [← gcp]; exact rget14_ok l nCaps _ w2 (HK.out w2 b) hl
  clear gcp
  replace tcp := Lib.hid tcp
  replace fcp := Lib.hid fcp
  have lA := Lies.new w [.bool false, .int .u32 0, .int .i64 0] 25
  have bA := bx1 w (.cells #[.bool false, .int .u32 0, .int .i64 0] 25)
  obtain ⟨wa, hwa⟩ : ∃ wa, wa = w.alloc (.cells #[.bool false, .int .u32 0, .int .i64 0] 25) := ⟨_, rfl⟩
  have LA0 : Hid (Lies wa w.heap.size [.bool false, .int .u32 0, .int .i64 0]) := by unfold Hid; rw [hwa]; exact lA
  rw [← hwa] at bA
  have B0 := Lib.hid bA
  obtain ⟨J, hJ⟩ : ∃ J, J = w.heap.size := ⟨_, rfl⟩
  rw [← hJ] at LA0
  replace hJ := Lib.hid hJ
  clear lA bA h hl HK
  generalize l.length = n at *
  go_enter Tryd.func9, Tryd.ntmps9
  go_upto_region 1 with fail
  rw [← hwa, ← hJ.out]
  clear hwa
  go_wp2_with fail
  refine (CK.out wa B0.out).mono ?_
  rintro e w1 ⟨rfl, b1⟩
  have B1 := Lib.hid (B0.out.trans (b1.mono B0.out.size))
  have LA1 := Lib.hid (LA0.out.keep (by show 0 < 3; decide) b1)
  clear b1 B0 LA0
  clear CK
  by_cases qc : chkS l = 0
  rotate_left
  · skip
    have z : (chkS l != 0) = true := by rw [bne_iff_ne]; exact qc
    have P0 := pre_chk qc
    generalize chkS l = ck at *
    have ANS : Hid (Ans l (.returned (.tuple #[.agg #[.bool false, .int .u32 0, .int .i64 0], .int .i64 400]))) := ans_bad P0 (by decide)
    have d0 := LA1.out.cell 0 (v := .bool false) rfl
    have d1 := LA1.out.cell 1 (v := .int .u32 0) rfl
    have d2 := LA1.out.cell 2 (v := .int .i64 0) rfl
    have r0 := LA1.out.free 0 (by show 0 < 3; decide)
    have r1 := LA1.out.free 1 (by show 1 < 3; decide)
    have r2 := LA1.out.free 2 (by show 2 < 3; decide)
    have M4 := ((LA1.out.put 0 (by show 0 < 3; decide) (.bool false)).put 1 (by show 1 < 3; decide) (.int .u32 0)).put 2 (by show 2 < 3; decide) (.int .i64 0)
    have k0 := M4.cell 0 (v := .bool false) rfl
    have k1 := M4.cell 1 (v := .int .u32 0) rfl
    have k2 := M4.cell 2 (v := .int .i64 0) rfl
    have jj : w.heap.size ≤ J := by rw [hJ.out]; exact Nat.le_refl _
    have BE : Hid (Below w.heap.size w (((w1.setCell ⟨J, 0, none⟩ (.bool false)).setCell ⟨J, 1, none⟩ (.int .u32 0)).setCell ⟨J, 2, none⟩ (.int .i64 0))) := ((B1.out.setCell (p := ⟨J, 0, none⟩) jj _).setCell (p := ⟨J, 1, none⟩) jj _).setCell (p := ⟨J, 2, none⟩) jj _
    clear M4 B1 LA1 jj qc P0 SH PP Vm Vs Vau Vp Vpr Vcp tm fm ts fs tau fau tp fp tpr fpr tcp fcp
    go_wp2_with fail
    refine bodyPost_ret (v := .tuple #[.agg #[.bool false, .int .u32 0, .int .i64 0], .int .i64 400]) (by simp [results, Tryd.results9, go_sem, *]) rfl ?_
    exact ⟨ANS.out, BE.out⟩
  have SH1 := Lib.hid (SH.out qc)
  have zc : (chkS l != 0) = false := by rw [qc]; rfl
  rw [qc]
  go_wp2_with fail
  refine (SH1.out w1 B1.out).mono ?_
  rintro e w2 ⟨rfl, b2⟩
  have B2 := Lib.hid (B1.out.trans (b2.mono B1.out.size))
  have LA2 := Lib.hid (LA1.out.keep (by show 0 < 3; decide) b2)
  clear b2 B1 LA1 SH SH1 zc
  rcases qm : marked l with _ | _
  · skip
    have ANS : Hid (Ans l (.returned (.tuple #[.agg #[.bool false, .int .u32 0, .int .i64 0], .int .i64 400]))) := ans_bad (pre_mark qm) (by decide)
    have d0 := LA2.out.cell 0 (v := .bool false) rfl
    have d1 := LA2.out.cell 1 (v := .int .u32 0) rfl
    have d2 := LA2.out.cell 2 (v := .int .i64 0) rfl
    have r0 := LA2.out.free 0 (by show 0 < 3; decide)
    have r1 := LA2.out.free 1 (by show 1 < 3; decide)
    have r2 := LA2.out.free 2 (by show 2 < 3; decide)
    have M4 := ((LA2.out.put 0 (by show 0 < 3; decide) (.bool false)).put 1 (by show 1 < 3; decide) (.int .u32 0)).put 2 (by show 2 < 3; decide) (.int .i64 0)
    have k0 := M4.cell 0 (v := .bool false) rfl
    have k1 := M4.cell 1 (v := .int .u32 0) rfl
    have k2 := M4.cell 2 (v := .int .i64 0) rfl
    have jj : w.heap.size ≤ J := by rw [hJ.out]; exact Nat.le_refl _
    have BE : Hid (Below w.heap.size w (((w2.setCell ⟨J, 0, none⟩ (.bool false)).setCell ⟨J, 1, none⟩ (.int .u32 0)).setCell ⟨J, 2, none⟩ (.int .i64 0))) := ((B2.out.setCell (p := ⟨J, 0, none⟩) jj _).setCell (p := ⟨J, 1, none⟩) jj _).setCell (p := ⟨J, 2, none⟩) jj _
    clear M4 B2 LA2 jj qc qm PP Vm Vs Vau Vp Vpr Vcp tm fm ts fs tau fau tp fp tpr fpr tcp fcp
    go_wp2_with fail
    refine bodyPost_ret (v := .tuple #[.agg #[.bool false, .int .u32 0, .int .i64 0], .int .i64 400]) (by simp [results, Tryd.results9, go_sem, *]) rfl ?_
    exact ⟨ANS.out, BE.out⟩
  replace qm := Lib.hid qm
  replace qc := Lib.hid qc
  go_wp2_with fail
  refine (Vm.out w2 B2.out).mono ?_
  rintro e w' ⟨rfl, rfl⟩
  clear Vm
  go_wp2_with fail
  refine (Vs.out w2 B2.out).mono ?_
  rintro e w' ⟨rfl, rfl⟩
  clear Vs
  go_wp2_with fail
  refine (Vau.out w2 B2.out).mono ?_
  rintro e w' ⟨rfl, rfl⟩
  clear Vau
  go_wp2_with fail
  refine (Vp.out w2 B2.out).mono ?_
  rintro e w' ⟨rfl, rfl⟩
  clear Vp
  go_wp2_with fail
  refine (Vpr.out w2 B2.out).mono ?_
  rintro e w' ⟨rfl, rfl⟩
  clear Vpr
  go_wp2_with fail
  refine (Vcp.out w2 B2.out).mono ?_
  rintro e w' ⟨rfl, rfl⟩
  clear Vcp
  obtain ⟨Sm, hSm⟩ : ∃ S, S = strL m := ⟨_, rfl⟩
  rw [← hSm]
  replace hSm := Lib.hid hSm
  obtain ⟨Ss, hSs⟩ : ∃ S, S = strL s := ⟨_, rfl⟩
  rw [← hSs]
  replace hSs := Lib.hid hSs
  obtain ⟨Sau, hSau⟩ : ∃ S, S = strL au := ⟨_, rfl⟩
  rw [← hSau]
  replace hSau := Lib.hid hSau
  obtain ⟨Sp, hSp⟩ : ∃ S, S = strL p := ⟨_, rfl⟩
  rw [← hSp]
  replace hSp := Lib.hid hSp
  obtain ⟨Spr, hSpr⟩ : ∃ S, S = strL pr := ⟨_, rfl⟩
  rw [← hSpr]
  replace hSpr := Lib.hid hSpr
  obtain ⟨Scp, hScp⟩ : ∃ S, S = strL cp := ⟨_, rfl⟩
  rw [← hScp]
  replace hScp := Lib.hid hScp
  cases Bm
  · skip
    have ANS : Hid (Ans l (.returned (.tuple #[.agg #[.bool false, .int .u32 0, .int .i64 0], .int .i64 400]))) := ans_bad (pre_none (.inl (fm.out rfl))) (by decide)
    have d0 := LA2.out.cell 0 (v := .bool false) rfl
    have d1 := LA2.out.cell 1 (v := .int .u32 0) rfl
    have d2 := LA2.out.cell 2 (v := .int .i64 0) rfl
    have r0 := LA2.out.free 0 (by show 0 < 3; decide)
    have r1 := LA2.out.free 1 (by show 1 < 3; decide)
    have r2 := LA2.out.free 2 (by show 2 < 3; decide)
    have M4 := ((LA2.out.put 0 (by show 0 < 3; decide) (.bool false)).put 1 (by show 1 < 3; decide) (.int .u32 0)).put 2 (by show 2 < 3; decide) (.int .i64 0)
    have k0 := M4.cell 0 (v := .bool false) rfl
    have k1 := M4.cell 1 (v := .int .u32 0) rfl
    have k2 := M4.cell 2 (v := .int .i64 0) rfl
    have jj : w.heap.size ≤ J := by rw [hJ.out]; exact Nat.le_refl _
    have BE : Hid (Below w.heap.size w (((w2.setCell ⟨J, 0, none⟩ (.bool false)).setCell ⟨J, 1, none⟩ (.int .u32 0)).setCell ⟨J, 2, none⟩ (.int .i64 0))) := ((B2.out.setCell (p := ⟨J, 0, none⟩) jj _).setCell (p := ⟨J, 1, none⟩) jj _).setCell (p := ⟨J, 2, none⟩) jj _
    clear M4 B2 LA2 jj PP tm fm ts fs tau fau tp fp tpr fpr tcp fcp
    go_wp2_with fail
    refine bodyPost_ret (v := .tuple #[.agg #[.bool false, .int .u32 0, .int .i64 0], .int .i64 400]) (by simp [results, Tryd.results9, go_sem, *]) rfl ?_
    exact ⟨ANS.out, BE.out⟩
  cases Bs
  · skip
    have ANS : Hid (Ans l (.returned (.tuple #[.agg #[.bool false, .int .u32 0, .int .i64 0], .int .i64 400]))) := ans_bad (pre_none (.inr (.inl (fs.out rfl)))) (by decide)
    have d0 := LA2.out.cell 0 (v := .bool false) rfl
    have d1 := LA2.out.cell 1 (v := .int .u32 0) rfl
    have d2 := LA2.out.cell 2 (v := .int .i64 0) rfl
    have r0 := LA2.out.free 0 (by show 0 < 3; decide)
    have r1 := LA2.out.free 1 (by show 1 < 3; decide)
    have r2 := LA2.out.free 2 (by show 2 < 3; decide)
    have M4 := ((LA2.out.put 0 (by show 0 < 3; decide) (.bool false)).put 1 (by show 1 < 3; decide) (.int .u32 0)).put 2 (by show 2 < 3; decide) (.int .i64 0)
    have k0 := M4.cell 0 (v := .bool false) rfl
    have k1 := M4.cell 1 (v := .int .u32 0) rfl
    have k2 := M4.cell 2 (v := .int .i64 0) rfl
    have jj : w.heap.size ≤ J := by rw [hJ.out]; exact Nat.le_refl _
    have BE : Hid (Below w.heap.size w (((w2.setCell ⟨J, 0, none⟩ (.bool false)).setCell ⟨J, 1, none⟩ (.int .u32 0)).setCell ⟨J, 2, none⟩ (.int .i64 0))) := ((B2.out.setCell (p := ⟨J, 0, none⟩) jj _).setCell (p := ⟨J, 1, none⟩) jj _).setCell (p := ⟨J, 2, none⟩) jj _
    clear M4 B2 LA2 jj PP tm fm ts fs tau fau tp fp tpr fpr tcp fcp
    go_wp2_with fail
    refine bodyPost_ret (v := .tuple #[.agg #[.bool false, .int .u32 0, .int .i64 0], .int .i64 400]) (by simp [results, Tryd.results9, go_sem, *]) rfl ?_
    exact ⟨ANS.out, BE.out⟩
  cases Bau
  · skip
    have ANS : Hid (Ans l (.returned (.tuple #[.agg #[.bool false, .int .u32 0, .int .i64 0], .int .i64 400]))) := ans_bad (pre_none (.inr (.inr (.inl (fau.out rfl))))) (by decide)
    have d0 := LA2.out.cell 0 (v := .bool false) rfl
    have d1 := LA2.out.cell 1 (v := .int .u32 0) rfl
    have d2 := LA2.out.cell 2 (v := .int .i64 0) rfl
    have r0 := LA2.out.free 0 (by show 0 < 3; decide)
    have r1 := LA2.out.free 1 (by show 1 < 3; decide)
    have r2 := LA2.out.free 2 (by show 2 < 3; decide)
    have M4 := ((LA2.out.put 0 (by show 0 < 3; decide) (.bool false)).put 1 (by show 1 < 3; decide) (.int .u32 0)).put 2 (by show 2 < 3; decide) (.int .i64 0)
    have k0 := M4.cell 0 (v := .bool false) rfl
    have k1 := M4.cell 1 (v := .int .u32 0) rfl
    have k2 := M4.cell 2 (v := .int .i64 0) rfl
    have jj : w.heap.size ≤ J := by rw [hJ.out]; exact Nat.le_refl _
    have BE : Hid (Below w.heap.size w (((w2.setCell ⟨J, 0, none⟩ (.bool false)).setCell ⟨J, 1, none⟩ (.int .u32 0)).setCell ⟨J, 2, none⟩ (.int .i64 0))) := ((B2.out.setCell (p := ⟨J, 0, none⟩) jj _).setCell (p := ⟨J, 1, none⟩) jj _).setCell (p := ⟨J, 2, none⟩) jj _
    clear M4 B2 LA2 jj PP tm fm ts fs tau fau tp fp tpr fpr tcp fcp
    go_wp2_with fail
    refine bodyPost_ret (v := .tuple #[.agg #[.bool false, .int .u32 0, .int .i64 0], .int .i64 400]) (by simp [results, Tryd.results9, go_sem, *]) rfl ?_
    exact ⟨ANS.out, BE.out⟩
  cases Bp
  · skip
    have ANS : Hid (Ans l (.returned (.tuple #[.agg #[.bool false, .int .u32 0, .int .i64 0], .int .i64 400]))) := ans_bad (pre_none (.inr (.inr (.inr (fp.out rfl))))) (by decide)
    have d0 := LA2.out.cell 0 (v := .bool false) rfl
    have d1 := LA2.out.cell 1 (v := .int .u32 0) rfl
    have d2 := LA2.out.cell 2 (v := .int .i64 0) rfl
    have r0 := LA2.out.free 0 (by show 0 < 3; decide)
    have r1 := LA2.out.free 1 (by show 1 < 3; decide)
    have r2 := LA2.out.free 2 (by show 2 < 3; decide)
    have M4 := ((LA2.out.put 0 (by show 0 < 3; decide) (.bool false)).put 1 (by show 1 < 3; decide) (.int .u32 0)).put 2 (by show 2 < 3; decide) (.int .i64 0)
    have k0 := M4.cell 0 (v := .bool false) rfl
    have k1 := M4.cell 1 (v := .int .u32 0) rfl
    have k2 := M4.cell 2 (v := .int .i64 0) rfl
    have jj : w.heap.size ≤ J := by rw [hJ.out]; exact Nat.le_refl _
    have BE : Hid (Below w.heap.size w (((w2.setCell ⟨J, 0, none⟩ (.bool false)).setCell ⟨J, 1, none⟩ (.int .u32 0)).setCell ⟨J, 2, none⟩ (.int .i64 0))) := ((B2.out.setCell (p := ⟨J, 0, none⟩) jj _).setCell (p := ⟨J, 1, none⟩) jj _).setCell (p := ⟨J, 2, none⟩) jj _
    clear M4 B2 LA2 jj PP tm fm ts fs tau fau tp fp tpr fpr tcp fcp
    go_wp2_with fail
    refine bodyPost_ret (v := .tuple #[.agg #[.bool false, .int .u32 0, .int .i64 0], .int .i64 400]) (by simp [results, Tryd.results9, go_sem, *]) rfl ?_
    exact ⟨ANS.out, BE.out⟩
  have PA := pre_all qc.out qm.out (tm.out rfl) (ts.out rfl) (tau.out rfl) (tp.out rfl)
  have em : (Sm.toList == [67, 79, 78, 78, 69, 67, 84]) = decide (m = cConn) := by rw [hSm.out]; exact eq_lit _ _
  by_cases q1 : m = cConn
  rotate_left
  · skip
    rw [decide_eq_false q1] at em
    rw [if_neg q1] at PA
    have ANS : Hid (Ans l (.returned (.tuple #[.agg #[.bool false, .int .u32 0, .int .i64 0], .int .i64 405]))) := ans_bad PA (by decide)
    have d0 := LA2.out.cell 0 (v := .bool false) rfl
    have d1 := LA2.out.cell 1 (v := .int .u32 0) rfl
    have d2 := LA2.out.cell 2 (v := .int .i64 0) rfl
    have r0 := LA2.out.free 0 (by show 0 < 3; decide)
    have r1 := LA2.out.free 1 (by show 1 < 3; decide)
    have r2 := LA2.out.free 2 (by show 2 < 3; decide)
    have M4 := ((LA2.out.put 0 (by show 0 < 3; decide) (.bool false)).put 1 (by show 1 < 3; decide) (.int .u32 0)).put 2 (by show 2 < 3; decide) (.int .i64 0)
    have k0 := M4.cell 0 (v := .bool false) rfl
    have k1 := M4.cell 1 (v := .int .u32 0) rfl
    have k2 := M4.cell 2 (v := .int .i64 0) rfl
    have jj : w.heap.size ≤ J := by rw [hJ.out]; exact Nat.le_refl _
    have BE : Hid (Below w.heap.size w (((w2.setCell ⟨J, 0, none⟩ (.bool false)).setCell ⟨J, 1, none⟩ (.int .u32 0)).setCell ⟨J, 2, none⟩ (.int .i64 0))) := ((B2.out.setCell (p := ⟨J, 0, none⟩) jj _).setCell (p := ⟨J, 1, none⟩) jj _).setCell (p := ⟨J, 2, none⟩) jj _
    clear M4 B2 LA2 jj q1 PA PP tm fm ts fs tau fau tp fp tpr fpr tcp fcp
    go_wp2_with fail
    refine bodyPost_ret (v := .tuple #[.agg #[.bool false, .int .u32 0, .int .i64 0], .int .i64 405]) (by simp [results, Tryd.results9, go_sem, *]) rfl ?_
    exact ⟨ANS.out, BE.out⟩
  rw [decide_eq_true q1] at em
  rw [if_pos q1] at PA
  cases Bpr
  · skip
    rw [fpr.out rfl] at PA
    simp only at PA
    have ANS : Hid (Ans l (.returned (.tuple #[.agg #[.bool false, .int .u32 0, .int .i64 0], .int .i64 400]))) := ans_bad PA (by decide)
    have d0 := LA2.out.cell 0 (v := .bool false) rfl
    have d1 := LA2.out.cell 1 (v := .int .u32 0) rfl
    have d2 := LA2.out.cell 2 (v := .int .i64 0) rfl
    have r0 := LA2.out.free 0 (by show 0 < 3; decide)
    have r1 := LA2.out.free 1 (by show 1 < 3; decide)
    have r2 := LA2.out.free 2 (by show 2 < 3; decide)
    have M4 := ((LA2.out.put 0 (by show 0 < 3; decide) (.bool false)).put 1 (by show 1 < 3; decide) (.int .u32 0)).put 2 (by show 2 < 3; decide) (.int .i64 0)
    have k0 := M4.cell 0 (v := .bool false) rfl
    have k1 := M4.cell 1 (v := .int .u32 0) rfl
    have k2 := M4.cell 2 (v := .int .i64 0) rfl
    have jj : w.heap.size ≤ J := by rw [hJ.out]; exact Nat.le_refl _
    have BE : Hid (Below w.heap.size w (((w2.setCell ⟨J, 0, none⟩ (.bool false)).setCell ⟨J, 1, none⟩ (.int .u32 0)).setCell ⟨J, 2, none⟩ (.int .i64 0))) := ((B2.out.setCell (p := ⟨J, 0, none⟩) jj _).setCell (p := ⟨J, 1, none⟩) jj _).setCell (p := ⟨J, 2, none⟩) jj _
    clear M4 B2 LA2 jj q1 PA PP tm fm ts fs tau fau tp fp tpr fpr tcp fcp
    go_wp2_with fail
    refine bodyPost_ret (v := .tuple #[.agg #[.bool false, .int .u32 0, .int .i64 0], .int .i64 400]) (by simp [results, Tryd.results9, go_sem, *]) rfl ?_
    exact ⟨ANS.out, BE.out⟩
  rw [tpr.out rfl] at PA
  simp only at PA
  have eu : (Spr.toList == [99, 111, 110, 110, 101, 99, 116, 45, 117, 100, 112]) = decide (pr = cUdp) := by rw [hSpr.out]; exact eq_lit _ _
  have ei : (Spr.toList == [99, 111, 110, 110, 101, 99, 116, 45, 105, 112]) = decide (pr = cIp) := by rw [hSpr.out]; exact eq_lit _ _
  have es : (Ss.toList == [104, 116, 116, 112, 115]) = decide (s = cHttps) := by rw [hSs.out]; exact eq_lit _ _
  have ea : Sau.toList.isEmpty = au.isEmpty := by rw [hSau.out]; exact emp_strL au
  have ec : (Scp.toList == [63, 49]) = decide (cp = cYes) := by rw [hScp.out]; exact eq_lit _ _
  replace q1 := Lib.hid q1
  by_cases q2 : pr = cUdp ∨ pr = cIp
  rotate_left
  · skip
    rw [if_neg q2] at PA
    rw [decide_eq_false fun e => q2 (.inl e)] at eu
    rw [decide_eq_false fun e => q2 (.inr e)] at ei
    have ANS : Hid (Ans l (.returned (.tuple #[.agg #[.bool false, .int .u32 0, .int .i64 0], .int .i64 501]))) := ans_bad PA (by decide)
    have d0 := LA2.out.cell 0 (v := .bool false) rfl
    have d1 := LA2.out.cell 1 (v := .int .u32 0) rfl
    have d2 := LA2.out.cell 2 (v := .int .i64 0) rfl
    have r0 := LA2.out.free 0 (by show 0 < 3; decide)
    have r1 := LA2.out.free 1 (by show 1 < 3; decide)
    have r2 := LA2.out.free 2 (by show 2 < 3; decide)
    have M4 := ((LA2.out.put 0 (by show 0 < 3; decide) (.bool false)).put 1 (by show 1 < 3; decide) (.int .u32 0)).put 2 (by show 2 < 3; decide) (.int .i64 0)
    have k0 := M4.cell 0 (v := .bool false) rfl
    have k1 := M4.cell 1 (v := .int .u32 0) rfl
    have k2 := M4.cell 2 (v := .int .i64 0) rfl
    have jj : w.heap.size ≤ J := by rw [hJ.out]; exact Nat.le_refl _
    have BE : Hid (Below w.heap.size w (((w2.setCell ⟨J, 0, none⟩ (.bool false)).setCell ⟨J, 1, none⟩ (.int .u32 0)).setCell ⟨J, 2, none⟩ (.int .i64 0))) := ((B2.out.setCell (p := ⟨J, 0, none⟩) jj _).setCell (p := ⟨J, 1, none⟩) jj _).setCell (p := ⟨J, 2, none⟩) jj _
    clear M4 B2 LA2 jj q1 q2 PA PP es ea ec tm fm ts fs tau fau tp fp tpr fpr tcp fcp
    go_wp2_with fail
    refine bodyPost_ret (v := .tuple #[.agg #[.bool false, .int .u32 0, .int .i64 0], .int .i64 501]) (by simp [results, Tryd.results9, go_sem, *]) rfl ?_
    exact ⟨ANS.out, BE.out⟩
  rw [if_pos q2] at PA
  have UD : Hid (∀ w2, Calls Tryd.prog 21 #[.string Sp] w2 fun e w' => UdpE p w2 w' e) := fun w2 => by rw [hSp.out]; exact rudp_ok p w2 (by have := get_len qc.out (tp.out rfl); omega)
  have FIN : Hid (pre l = 0 → ∀ ip a n, TAt p (decide (pr = cUdp)) ip a n → Ans l (.returned (.tuple #[tgV ip a n, .int .i64 200]))) := fun q ip a n h => ⟨ip, a, n, 200, .inr ⟨q, .inl ⟨rfl, by rw [tp.out rfl, tpr.out rfl]; simpa only [Option.getD_some, Option.some.injEq] using h⟩⟩, rfl⟩
  have FNO : Hid (pre l = 0 → (∀ ip a n, ¬ TAt p (decide (pr = cUdp)) ip a n) → Ans l (.returned (.tuple #[tgV false 0 0, .int .i64 404]))) := fun q h => ⟨false, 0, 0, 404, .inr ⟨q, .inr ⟨rfl, rfl, rfl, rfl, by rw [tp.out rfl, tpr.out rfl]; simpa only [Option.getD_some, Option.some.injEq] using h⟩⟩, rfl⟩
  have PB : Hid (∀ x : Int, pre l = x → x ≠ 0 → Ans l (.returned (.tuple #[.agg #[.bool false, .int .u32 0, .int .i64 0], .int .i64 x]))) := fun x h hx => ans_bad h hx
  have PQ : Hid (pre l = if s = cHttps ∧ au ≠ [] ∧ getS l nCaps = some cYes then 0 else 400) := PA
  clear PA qc qm tm fm ts fs tau fau tp fp tpr fpr q1 hSm hSs hSau hSpr hScp
  by_cases q : pr = cUdp
  · skip
    have qi : ¬ pr = cIp := fun e => by rw [q] at e; exact absurd e (by decide)
    rw [decide_eq_true q] at eu FIN FNO
    rw [decide_eq_false qi] at ei
    clear q qi q2
    by_cases q3 : s = cHttps
    rotate_left
    · skip
      rw [decide_eq_false q3] at es
      have PA := PQ.out
      rw [if_neg (fun c => q3 c.1)] at PA
      have ANS : Hid (Ans l (.returned (.tuple #[.agg #[.bool false, .int .u32 0, .int .i64 0], .int .i64 400]))) := PB.out _ PA (by decide)
      have d0 := LA2.out.cell 0 (v := .bool false) rfl
      have d1 := LA2.out.cell 1 (v := .int .u32 0) rfl
      have d2 := LA2.out.cell 2 (v := .int .i64 0) rfl
      have r0 := LA2.out.free 0 (by show 0 < 3; decide)
      have r1 := LA2.out.free 1 (by show 1 < 3; decide)
      have r2 := LA2.out.free 2 (by show 2 < 3; decide)
      have M4 := ((LA2.out.put 0 (by show 0 < 3; decide) (.bool false)).put 1 (by show 1 < 3; decide) (.int .u32 0)).put 2 (by show 2 < 3; decide) (.int .i64 0)
      have k0 := M4.cell 0 (v := .bool false) rfl
      have k1 := M4.cell 1 (v := .int .u32 0) rfl
      have k2 := M4.cell 2 (v := .int .i64 0) rfl
      have jj : w.heap.size ≤ J := by rw [hJ.out]; exact Nat.le_refl _
      have BE : Hid (Below w.heap.size w (((w2.setCell ⟨J, 0, none⟩ (.bool false)).setCell ⟨J, 1, none⟩ (.int .u32 0)).setCell ⟨J, 2, none⟩ (.int .i64 0))) := ((B2.out.setCell (p := ⟨J, 0, none⟩) jj _).setCell (p := ⟨J, 1, none⟩) jj _).setCell (p := ⟨J, 2, none⟩) jj _
      clear M4 B2 LA2 jj q3 PA PQ PB UD FIN FNO PP ea ec tcp fcp
      go_wp2_with fail
      refine bodyPost_ret (v := .tuple #[.agg #[.bool false, .int .u32 0, .int .i64 0], .int .i64 400]) (by simp [results, Tryd.results9, go_sem, *]) rfl ?_
      exact ⟨ANS.out, BE.out⟩
    rw [decide_eq_true q3] at es
    cases au with
    | nil =>
      have ea2 : Sau.toList.isEmpty = true := ea
      have PA := PQ.out
      rw [if_neg (fun c => c.2.1 rfl)] at PA
      have ANS : Hid (Ans l (.returned (.tuple #[.agg #[.bool false, .int .u32 0, .int .i64 0], .int .i64 400]))) := PB.out _ PA (by decide)
      have d0 := LA2.out.cell 0 (v := .bool false) rfl
      have d1 := LA2.out.cell 1 (v := .int .u32 0) rfl
      have d2 := LA2.out.cell 2 (v := .int .i64 0) rfl
      have r0 := LA2.out.free 0 (by show 0 < 3; decide)
      have r1 := LA2.out.free 1 (by show 1 < 3; decide)
      have r2 := LA2.out.free 2 (by show 2 < 3; decide)
      have M4 := ((LA2.out.put 0 (by show 0 < 3; decide) (.bool false)).put 1 (by show 1 < 3; decide) (.int .u32 0)).put 2 (by show 2 < 3; decide) (.int .i64 0)
      have k0 := M4.cell 0 (v := .bool false) rfl
      have k1 := M4.cell 1 (v := .int .u32 0) rfl
      have k2 := M4.cell 2 (v := .int .i64 0) rfl
      have jj : w.heap.size ≤ J := by rw [hJ.out]; exact Nat.le_refl _
      have BE : Hid (Below w.heap.size w (((w2.setCell ⟨J, 0, none⟩ (.bool false)).setCell ⟨J, 1, none⟩ (.int .u32 0)).setCell ⟨J, 2, none⟩ (.int .i64 0))) := ((B2.out.setCell (p := ⟨J, 0, none⟩) jj _).setCell (p := ⟨J, 1, none⟩) jj _).setCell (p := ⟨J, 2, none⟩) jj _
      clear M4 B2 LA2 jj ea PA PQ PB UD FIN FNO PP ec tcp fcp q3
      go_wp2_with fail
      refine bodyPost_ret (v := .tuple #[.agg #[.bool false, .int .u32 0, .int .i64 0], .int .i64 400]) (by simp [results, Tryd.results9, go_sem, *]) rfl ?_
      exact ⟨ANS.out, BE.out⟩
    | cons x y =>
      have ea2 : Sau.toList.isEmpty = false := ea
      clear ea
      cases Bcp
      · skip
        have PA := PQ.out
        rw [if_neg (fun c => by have := c.2.2; rw [fcp.out rfl] at this; cases this)] at PA
        have ANS : Hid (Ans l (.returned (.tuple #[.agg #[.bool false, .int .u32 0, .int .i64 0], .int .i64 400]))) := PB.out _ PA (by decide)
        have d0 := LA2.out.cell 0 (v := .bool false) rfl
        have d1 := LA2.out.cell 1 (v := .int .u32 0) rfl
        have d2 := LA2.out.cell 2 (v := .int .i64 0) rfl
        have r0 := LA2.out.free 0 (by show 0 < 3; decide)
        have r1 := LA2.out.free 1 (by show 1 < 3; decide)
        have r2 := LA2.out.free 2 (by show 2 < 3; decide)
        have M4 := ((LA2.out.put 0 (by show 0 < 3; decide) (.bool false)).put 1 (by show 1 < 3; decide) (.int .u32 0)).put 2 (by show 2 < 3; decide) (.int .i64 0)
        have k0 := M4.cell 0 (v := .bool false) rfl
        have k1 := M4.cell 1 (v := .int .u32 0) rfl
        have k2 := M4.cell 2 (v := .int .i64 0) rfl
        have jj : w.heap.size ≤ J := by rw [hJ.out]; exact Nat.le_refl _
        have BE : Hid (Below w.heap.size w (((w2.setCell ⟨J, 0, none⟩ (.bool false)).setCell ⟨J, 1, none⟩ (.int .u32 0)).setCell ⟨J, 2, none⟩ (.int .i64 0))) := ((B2.out.setCell (p := ⟨J, 0, none⟩) jj _).setCell (p := ⟨J, 1, none⟩) jj _).setCell (p := ⟨J, 2, none⟩) jj _
        clear M4 B2 LA2 jj PA PQ PB UD FIN FNO PP ec tcp fcp q3
        go_wp2_with fail
        refine bodyPost_ret (v := .tuple #[.agg #[.bool false, .int .u32 0, .int .i64 0], .int .i64 400]) (by simp [results, Tryd.results9, go_sem, *]) rfl ?_
        exact ⟨ANS.out, BE.out⟩
      by_cases q5 : cp = cYes
      rotate_left
      · skip
        rw [decide_eq_false q5] at ec
        have PA := PQ.out
        rw [if_neg (fun c => q5 (by have := c.2.2; rw [tcp.out rfl] at this; injection this))] at PA
        have ANS : Hid (Ans l (.returned (.tuple #[.agg #[.bool false, .int .u32 0, .int .i64 0], .int .i64 400]))) := PB.out _ PA (by decide)
        have d0 := LA2.out.cell 0 (v := .bool false) rfl
        have d1 := LA2.out.cell 1 (v := .int .u32 0) rfl
        have d2 := LA2.out.cell 2 (v := .int .i64 0) rfl
        have r0 := LA2.out.free 0 (by show 0 < 3; decide)
        have r1 := LA2.out.free 1 (by show 1 < 3; decide)
        have r2 := LA2.out.free 2 (by show 2 < 3; decide)
        have M4 := ((LA2.out.put 0 (by show 0 < 3; decide) (.bool false)).put 1 (by show 1 < 3; decide) (.int .u32 0)).put 2 (by show 2 < 3; decide) (.int .i64 0)
        have k0 := M4.cell 0 (v := .bool false) rfl
        have k1 := M4.cell 1 (v := .int .u32 0) rfl
        have k2 := M4.cell 2 (v := .int .i64 0) rfl
        have jj : w.heap.size ≤ J := by rw [hJ.out]; exact Nat.le_refl _
        have BE : Hid (Below w.heap.size w (((w2.setCell ⟨J, 0, none⟩ (.bool false)).setCell ⟨J, 1, none⟩ (.int .u32 0)).setCell ⟨J, 2, none⟩ (.int .i64 0))) := ((B2.out.setCell (p := ⟨J, 0, none⟩) jj _).setCell (p := ⟨J, 1, none⟩) jj _).setCell (p := ⟨J, 2, none⟩) jj _
        clear M4 B2 LA2 jj PA PQ PB UD FIN FNO PP tcp fcp q3 q5
        go_wp2_with fail
        refine bodyPost_ret (v := .tuple #[.agg #[.bool false, .int .u32 0, .int .i64 0], .int .i64 400]) (by simp [results, Tryd.results9, go_sem, *]) rfl ?_
        exact ⟨ANS.out, BE.out⟩
      rw [decide_eq_true q5] at ec
      have PA := PQ.out
      rw [if_pos ⟨q3, by simp, by rw [tcp.out rfl, q5]⟩] at PA
      replace FIN := Lib.hid (FIN.out PA)
      replace FNO := Lib.hid (FNO.out PA)
      clear q3 q5 tcp fcp PA PQ PB
      go_wp2_with fail
      refine (UD.out w2).mono ?_
      rintro e w3 ⟨a', n', ok, rfl, hy, hn, b3⟩
      have B3 := B2.out.trans (b3.mono B2.out.size)
      have LA3 := LA2.out.keep (by show 0 < 3; decide) b3
      have JK : J < w3.heap.size := LA3.lt (by show 0 < 3; decide)
      clear b3 B2 LA2 PP UD
      have lZ := Lies.new w3 [.bool false, .int .u32 a', .int .i64 n'] 25
      have bZ := bx1 w3 (.cells #[.bool false, .int .u32 a', .int .i64 n'] 25)
      obtain ⟨w4, hw4⟩ : ∃ w4, w4 = w3.alloc (.cells #[.bool false, .int .u32 a', .int .i64 n'] 25) := ⟨_, rfl⟩
      have lZ' : Lies w4 w3.heap.size [.bool false, .int .u32 a', .int .i64 n'] := by rw [hw4]; exact lZ
      rw [← hw4] at bZ
      have B4 := Lib.hid (B3.trans (bZ.mono B3.size))
      have LA4 := Lib.hid (LA3.keep (by show 0 < 3; decide) bZ)
      obtain ⟨Z, hZ⟩ : ∃ Z, Z = w3.heap.size := ⟨_, rfl⟩
      rw [← hZ] at lZ' JK
      have nZ : ¬ Z = J := by omega
      have nJ : ¬ J = Z := by omega
      have z0 := lZ'.cell 0 (v := .bool false) rfl
      have z1 := lZ'.cell 1 (v := .int .u32 a') rfl
      have z2 := lZ'.cell 2 (v := .int .i64 n') rfl
      clear lZ bZ B3 LA3 JK lZ'
      unfold tgV
      go_upto_region 22 with fail
      rw [← hw4, ← hZ]
      clear hw4
      replace hZ := Lib.hid hZ
      cases ok
      · skip
        have ANS : Hid (Ans l (.returned (.tuple #[.agg #[.bool false, .int .u32 0, .int .i64 0], .int .i64 404]))) := FNO.out fun _ a2 n2 c => hn rfl a2 n2 (c.q rfl)
        have d0 := LA4.out.cell 0 (v := .bool false) rfl
        have d1 := LA4.out.cell 1 (v := .int .u32 0) rfl
        have d2 := LA4.out.cell 2 (v := .int .i64 0) rfl
        have r0 := LA4.out.free 0 (by show 0 < 3; decide)
        have r1 := LA4.out.free 1 (by show 1 < 3; decide)
        have r2 := LA4.out.free 2 (by show 2 < 3; decide)
        have M4 := ((LA4.out.put 0 (by show 0 < 3; decide) (.bool false)).put 1 (by show 1 < 3; decide) (.int .u32 0)).put 2 (by show 2 < 3; decide) (.int .i64 0)
        have k0 := M4.cell 0 (v := .bool false) rfl
        have k1 := M4.cell 1 (v := .int .u32 0) rfl
        have k2 := M4.cell 2 (v := .int .i64 0) rfl
        have jj : w.heap.size ≤ J := by rw [hJ.out]; exact Nat.le_refl _
        have BE : Hid (Below w.heap.size w (((w4.setCell ⟨J, 0, none⟩ (.bool false)).setCell ⟨J, 1, none⟩ (.int .u32 0)).setCell ⟨J, 2, none⟩ (.int .i64 0))) := ((B4.out.setCell (p := ⟨J, 0, none⟩) jj _).setCell (p := ⟨J, 1, none⟩) jj _).setCell (p := ⟨J, 2, none⟩) jj _
        clear M4 B4 LA4 jj FIN FNO hSp hy hn
        go_wp2_with fail
        refine bodyPost_ret (v := .tuple #[.agg #[.bool false, .int .u32 0, .int .i64 0], .int .i64 404]) (by simp [results, Tryd.results9, go_sem, *]) rfl ?_
        exact ⟨ANS.out, BE.out⟩
      · skip
        have ANS : Hid (Ans l (.returned (.tuple #[.agg #[.bool false, .int .u32 a', .int .i64 n'], .int .i64 200]))) := FIN.out false a' n' ⟨rfl, (fun _ => hy rfl), (fun c => by cases c)⟩
        have d0 := LA4.out.cell 0 (v := .bool false) rfl
        have d1 := LA4.out.cell 1 (v := .int .u32 0) rfl
        have d2 := LA4.out.cell 2 (v := .int .i64 0) rfl
        have r0 := LA4.out.free 0 (by show 0 < 3; decide)
        have r1 := LA4.out.free 1 (by show 1 < 3; decide)
        have r2 := LA4.out.free 2 (by show 2 < 3; decide)
        have M4 := ((LA4.out.put 0 (by show 0 < 3; decide) (.bool false)).put 1 (by show 1 < 3; decide) (.int .u32 a')).put 2 (by show 2 < 3; decide) (.int .i64 n')
        have k0 := M4.cell 0 (v := .bool false) rfl
        have k1 := M4.cell 1 (v := .int .u32 a') rfl
        have k2 := M4.cell 2 (v := .int .i64 n') rfl
        have jj : w.heap.size ≤ J := by rw [hJ.out]; exact Nat.le_refl _
        have BE : Hid (Below w.heap.size w (((w4.setCell ⟨J, 0, none⟩ (.bool false)).setCell ⟨J, 1, none⟩ (.int .u32 a')).setCell ⟨J, 2, none⟩ (.int .i64 n'))) := ((B4.out.setCell (p := ⟨J, 0, none⟩) jj _).setCell (p := ⟨J, 1, none⟩) jj _).setCell (p := ⟨J, 2, none⟩) jj _
        clear M4 B4 LA4 jj FIN FNO hSp hy hn
        go_wp2_with fail
        refine bodyPost_ret (v := .tuple #[.agg #[.bool false, .int .u32 a', .int .i64 n'], .int .i64 200]) (by simp [results, Tryd.results9, go_sem, *]) rfl ?_
        exact ⟨ANS.out, BE.out⟩
  · skip
    have qi : pr = cIp := q2.resolve_left q
    rw [decide_eq_false q] at eu FIN FNO
    rw [decide_eq_true qi] at ei
    clear q qi q2
    by_cases q3 : s = cHttps
    rotate_left
    · skip
      rw [decide_eq_false q3] at es
      have PA := PQ.out
      rw [if_neg (fun c => q3 c.1)] at PA
      have ANS : Hid (Ans l (.returned (.tuple #[.agg #[.bool false, .int .u32 0, .int .i64 0], .int .i64 400]))) := PB.out _ PA (by decide)
      have d0 := LA2.out.cell 0 (v := .bool false) rfl
      have d1 := LA2.out.cell 1 (v := .int .u32 0) rfl
      have d2 := LA2.out.cell 2 (v := .int .i64 0) rfl
      have r0 := LA2.out.free 0 (by show 0 < 3; decide)
      have r1 := LA2.out.free 1 (by show 1 < 3; decide)
      have r2 := LA2.out.free 2 (by show 2 < 3; decide)
      have M4 := ((LA2.out.put 0 (by show 0 < 3; decide) (.bool false)).put 1 (by show 1 < 3; decide) (.int .u32 0)).put 2 (by show 2 < 3; decide) (.int .i64 0)
      have k0 := M4.cell 0 (v := .bool false) rfl
      have k1 := M4.cell 1 (v := .int .u32 0) rfl
      have k2 := M4.cell 2 (v := .int .i64 0) rfl
      have jj : w.heap.size ≤ J := by rw [hJ.out]; exact Nat.le_refl _
      have BE : Hid (Below w.heap.size w (((w2.setCell ⟨J, 0, none⟩ (.bool false)).setCell ⟨J, 1, none⟩ (.int .u32 0)).setCell ⟨J, 2, none⟩ (.int .i64 0))) := ((B2.out.setCell (p := ⟨J, 0, none⟩) jj _).setCell (p := ⟨J, 1, none⟩) jj _).setCell (p := ⟨J, 2, none⟩) jj _
      clear M4 B2 LA2 jj q3 PA PQ PB UD FIN FNO PP ea ec tcp fcp
      go_wp2_with fail
      refine bodyPost_ret (v := .tuple #[.agg #[.bool false, .int .u32 0, .int .i64 0], .int .i64 400]) (by simp [results, Tryd.results9, go_sem, *]) rfl ?_
      exact ⟨ANS.out, BE.out⟩
    rw [decide_eq_true q3] at es
    cases au with
    | nil =>
      have ea2 : Sau.toList.isEmpty = true := ea
      have PA := PQ.out
      rw [if_neg (fun c => c.2.1 rfl)] at PA
      have ANS : Hid (Ans l (.returned (.tuple #[.agg #[.bool false, .int .u32 0, .int .i64 0], .int .i64 400]))) := PB.out _ PA (by decide)
      have d0 := LA2.out.cell 0 (v := .bool false) rfl
      have d1 := LA2.out.cell 1 (v := .int .u32 0) rfl
      have d2 := LA2.out.cell 2 (v := .int .i64 0) rfl
      have r0 := LA2.out.free 0 (by show 0 < 3; decide)
      have r1 := LA2.out.free 1 (by show 1 < 3; decide)
      have r2 := LA2.out.free 2 (by show 2 < 3; decide)
      have M4 := ((LA2.out.put 0 (by show 0 < 3; decide) (.bool false)).put 1 (by show 1 < 3; decide) (.int .u32 0)).put 2 (by show 2 < 3; decide) (.int .i64 0)
      have k0 := M4.cell 0 (v := .bool false) rfl
      have k1 := M4.cell 1 (v := .int .u32 0) rfl
      have k2 := M4.cell 2 (v := .int .i64 0) rfl
      have jj : w.heap.size ≤ J := by rw [hJ.out]; exact Nat.le_refl _
      have BE : Hid (Below w.heap.size w (((w2.setCell ⟨J, 0, none⟩ (.bool false)).setCell ⟨J, 1, none⟩ (.int .u32 0)).setCell ⟨J, 2, none⟩ (.int .i64 0))) := ((B2.out.setCell (p := ⟨J, 0, none⟩) jj _).setCell (p := ⟨J, 1, none⟩) jj _).setCell (p := ⟨J, 2, none⟩) jj _
      clear M4 B2 LA2 jj ea PA PQ PB UD FIN FNO PP ec tcp fcp q3
      go_wp2_with fail
      refine bodyPost_ret (v := .tuple #[.agg #[.bool false, .int .u32 0, .int .i64 0], .int .i64 400]) (by simp [results, Tryd.results9, go_sem, *]) rfl ?_
      exact ⟨ANS.out, BE.out⟩
    | cons x y =>
      have ea2 : Sau.toList.isEmpty = false := ea
      clear ea
      cases Bcp
      · skip
        have PA := PQ.out
        rw [if_neg (fun c => by have := c.2.2; rw [fcp.out rfl] at this; cases this)] at PA
        have ANS : Hid (Ans l (.returned (.tuple #[.agg #[.bool false, .int .u32 0, .int .i64 0], .int .i64 400]))) := PB.out _ PA (by decide)
        have d0 := LA2.out.cell 0 (v := .bool false) rfl
        have d1 := LA2.out.cell 1 (v := .int .u32 0) rfl
        have d2 := LA2.out.cell 2 (v := .int .i64 0) rfl
        have r0 := LA2.out.free 0 (by show 0 < 3; decide)
        have r1 := LA2.out.free 1 (by show 1 < 3; decide)
        have r2 := LA2.out.free 2 (by show 2 < 3; decide)
        have M4 := ((LA2.out.put 0 (by show 0 < 3; decide) (.bool false)).put 1 (by show 1 < 3; decide) (.int .u32 0)).put 2 (by show 2 < 3; decide) (.int .i64 0)
        have k0 := M4.cell 0 (v := .bool false) rfl
        have k1 := M4.cell 1 (v := .int .u32 0) rfl
        have k2 := M4.cell 2 (v := .int .i64 0) rfl
        have jj : w.heap.size ≤ J := by rw [hJ.out]; exact Nat.le_refl _
        have BE : Hid (Below w.heap.size w (((w2.setCell ⟨J, 0, none⟩ (.bool false)).setCell ⟨J, 1, none⟩ (.int .u32 0)).setCell ⟨J, 2, none⟩ (.int .i64 0))) := ((B2.out.setCell (p := ⟨J, 0, none⟩) jj _).setCell (p := ⟨J, 1, none⟩) jj _).setCell (p := ⟨J, 2, none⟩) jj _
        clear M4 B2 LA2 jj PA PQ PB UD FIN FNO PP ec tcp fcp q3
        go_wp2_with fail
        refine bodyPost_ret (v := .tuple #[.agg #[.bool false, .int .u32 0, .int .i64 0], .int .i64 400]) (by simp [results, Tryd.results9, go_sem, *]) rfl ?_
        exact ⟨ANS.out, BE.out⟩
      by_cases q5 : cp = cYes
      rotate_left
      · skip
        rw [decide_eq_false q5] at ec
        have PA := PQ.out
        rw [if_neg (fun c => q5 (by have := c.2.2; rw [tcp.out rfl] at this; injection this))] at PA
        have ANS : Hid (Ans l (.returned (.tuple #[.agg #[.bool false, .int .u32 0, .int .i64 0], .int .i64 400]))) := PB.out _ PA (by decide)
        have d0 := LA2.out.cell 0 (v := .bool false) rfl
        have d1 := LA2.out.cell 1 (v := .int .u32 0) rfl
        have d2 := LA2.out.cell 2 (v := .int .i64 0) rfl
        have r0 := LA2.out.free 0 (by show 0 < 3; decide)
        have r1 := LA2.out.free 1 (by show 1 < 3; decide)
        have r2 := LA2.out.free 2 (by show 2 < 3; decide)
        have M4 := ((LA2.out.put 0 (by show 0 < 3; decide) (.bool false)).put 1 (by show 1 < 3; decide) (.int .u32 0)).put 2 (by show 2 < 3; decide) (.int .i64 0)
        have k0 := M4.cell 0 (v := .bool false) rfl
        have k1 := M4.cell 1 (v := .int .u32 0) rfl
        have k2 := M4.cell 2 (v := .int .i64 0) rfl
        have jj : w.heap.size ≤ J := by rw [hJ.out]; exact Nat.le_refl _
        have BE : Hid (Below w.heap.size w (((w2.setCell ⟨J, 0, none⟩ (.bool false)).setCell ⟨J, 1, none⟩ (.int .u32 0)).setCell ⟨J, 2, none⟩ (.int .i64 0))) := ((B2.out.setCell (p := ⟨J, 0, none⟩) jj _).setCell (p := ⟨J, 1, none⟩) jj _).setCell (p := ⟨J, 2, none⟩) jj _
        clear M4 B2 LA2 jj PA PQ PB UD FIN FNO PP tcp fcp q3 q5
        go_wp2_with fail
        refine bodyPost_ret (v := .tuple #[.agg #[.bool false, .int .u32 0, .int .i64 0], .int .i64 400]) (by simp [results, Tryd.results9, go_sem, *]) rfl ?_
        exact ⟨ANS.out, BE.out⟩
      rw [decide_eq_true q5] at ec
      have PA := PQ.out
      rw [if_pos ⟨q3, by simp, by rw [tcp.out rfl, q5]⟩] at PA
      replace FIN := Lib.hid (FIN.out PA)
      replace FNO := Lib.hid (FNO.out PA)
      clear q3 q5 tcp fcp PA PQ PB
      go_wp2_with fail
      refine (PP.out w2).mono ?_
      rintro e w3 ⟨rfl, b3⟩
      have B3 := Lib.hid (B2.out.trans (b3.mono B2.out.size))
      have LA3 := Lib.hid (LA2.out.keep (by show 0 < 3; decide) b3)
      clear b3 B2 LA2 PP UD
      have ep : (Sp.toList == (strL ipL).toList) = decide (p = ipL) := by rw [hSp.out]; exact eq_strL _ _
      obtain ⟨SI, hSI⟩ : ∃ S, S = strL ipL := ⟨_, rfl⟩
      rw [← hSI] at ep ⊢
      clear hSI
      by_cases q6 : p = ipL
      · skip
        rw [decide_eq_true q6] at ep
        have ANS : Hid (Ans l (.returned (.tuple #[.agg #[.bool true, .int .u32 0, .int .i64 0], .int .i64 200]))) := FIN.out true 0 0 ⟨rfl, (fun c => by cases c), (fun _ => ⟨q6, rfl, rfl⟩)⟩
        have d0 := LA3.out.cell 0 (v := .bool false) rfl
        have d1 := LA3.out.cell 1 (v := .int .u32 0) rfl
        have d2 := LA3.out.cell 2 (v := .int .i64 0) rfl
        have r0 := LA3.out.free 0 (by show 0 < 3; decide)
        have r1 := LA3.out.free 1 (by show 1 < 3; decide)
        have r2 := LA3.out.free 2 (by show 2 < 3; decide)
        have M4 := ((LA3.out.put 0 (by show 0 < 3; decide) (.bool true)).put 1 (by show 1 < 3; decide) (.int .u32 0)).put 2 (by show 2 < 3; decide) (.int .i64 0)
        have k0 := M4.cell 0 (v := .bool true) rfl
        have k1 := M4.cell 1 (v := .int .u32 0) rfl
        have k2 := M4.cell 2 (v := .int .i64 0) rfl
        have jj : w.heap.size ≤ J := by rw [hJ.out]; exact Nat.le_refl _
        have BE : Hid (Below w.heap.size w (((w3.setCell ⟨J, 0, none⟩ (.bool true)).setCell ⟨J, 1, none⟩ (.int .u32 0)).setCell ⟨J, 2, none⟩ (.int .i64 0))) := ((B3.out.setCell (p := ⟨J, 0, none⟩) jj _).setCell (p := ⟨J, 1, none⟩) jj _).setCell (p := ⟨J, 2, none⟩) jj _
        clear M4 B3 LA3 jj q6 FIN FNO hSp
        go_wp2_with fail
        refine bodyPost_ret (v := .tuple #[.agg #[.bool true, .int .u32 0, .int .i64 0], .int .i64 200]) (by simp [results, Tryd.results9, go_sem, *]) rfl ?_
        exact ⟨ANS.out, BE.out⟩
      · skip
        rw [decide_eq_false q6] at ep
        have ANS : Hid (Ans l (.returned (.tuple #[.agg #[.bool false, .int .u32 0, .int .i64 0], .int .i64 404]))) := FNO.out fun _ _ _ c => q6 (c.i rfl).1
        have d0 := LA3.out.cell 0 (v := .bool false) rfl
        have d1 := LA3.out.cell 1 (v := .int .u32 0) rfl
        have d2 := LA3.out.cell 2 (v := .int .i64 0) rfl
        have r0 := LA3.out.free 0 (by show 0 < 3; decide)
        have r1 := LA3.out.free 1 (by show 1 < 3; decide)
        have r2 := LA3.out.free 2 (by show 2 < 3; decide)
        have M4 := ((LA3.out.put 0 (by show 0 < 3; decide) (.bool false)).put 1 (by show 1 < 3; decide) (.int .u32 0)).put 2 (by show 2 < 3; decide) (.int .i64 0)
        have k0 := M4.cell 0 (v := .bool false) rfl
        have k1 := M4.cell 1 (v := .int .u32 0) rfl
        have k2 := M4.cell 2 (v := .int .i64 0) rfl
        have jj : w.heap.size ≤ J := by rw [hJ.out]; exact Nat.le_refl _
        have BE : Hid (Below w.heap.size w (((w3.setCell ⟨J, 0, none⟩ (.bool false)).setCell ⟨J, 1, none⟩ (.int .u32 0)).setCell ⟨J, 2, none⟩ (.int .i64 0))) := ((B3.out.setCell (p := ⟨J, 0, none⟩) jj _).setCell (p := ⟨J, 1, none⟩) jj _).setCell (p := ⟨J, 2, none⟩) jj _
        clear M4 B3 LA3 jj q6 FIN FNO hSp
        go_wp2_with fail
        refine bodyPost_ret (v := .tuple #[.agg #[.bool false, .int .u32 0, .int .i64 0], .int .i64 404]) (by simp [results, Tryd.results9, go_sem, *]) rfl ?_
        exact ⟨ANS.out, BE.out⟩
end Go.Proofs.YtojfcflkanohoaaDoor
