/-
  The walk of TargetStatus, for each of the six things. The tables of Go's library lie as the row's list gives them.
-/
import Derived.Test.YtojfcflkanohoaaDoorTgStP
namespace Go.Proofs.YtojfcflkanohoaaDoor
set_option maxRecDepth 100000
open Go.RowKit Go.Sort

set_option maxHeartbeats 16000000 in
theorem stat0 (ip : Bool) (a n x : Int) (w : World) (t : Tab w) (a0 : 0 ≤ a) (a1 : a < 4294967296) (_ : wrap64 ((IntKind.u64.wrap x).tmod 6) = 0) (i2 : IntKind.i64.wrap ((IntKind.u64.wrap x).tmod 6) = 0) :
    Calls Tryd.prog 6 #[tgV ip a n, .int .i64 x] w fun e w' => e = .returned (.bool true) ∧ Below w.heap.size w w' := by
  have lA := tbox w ip a n
  have bA := bx w (.cells #[.bool ip, .int .u32 a, .int .i64 n] 25)
  obtain ⟨wa, hwa⟩ : ∃ wa, wa = w.alloc (.cells #[.bool ip, .int .u32 a, .int .i64 n] 25) := ⟨_, rfl⟩
  rw [← hwa] at lA bA
  obtain ⟨K, hK⟩ : ∃ K, K = w.heap.size := ⟨_, rfl⟩
  rw [← hK] at lA
  have tK : Hid (∀ w', Below w.heap.size w w' → Tab w') := fun w' b => t.keep b
  have BX := Lib.hid bA
  have LD := Lib.hid lA
  clear lA bA t
  have WK : Hid (∀ w', Below w.heap.size w w' → _) := fun w' b => works_ok w' (tK.out w' b)
  have FD : Hid (∀ w', Below w.heap.size w w' → Calls Tryd.prog 13 #[.string ⟨#[112, 114, 111, 120, 121]⟩, tgV ip a n] w' fun e w'' => FldT w' w'' e cProxy ip a n) := fun w' b => flds_ok cProxy ip a n w' (tK.out w' b).p a0 a1
  have PS : Hid (∀ w' v l, Below w.heap.size w w' → FdsAt w' v l → l.length ≤ maxLen → Calls Tryd.prog 8 #[v] w' fun e w'' => Ans l e ∧ Below w'.heap.size w' w'') := fun w' v l b h hl => parse17_ok l v w' (tK.out w' b) h hl
  unfold tgV at FD ⊢
  go_enter Tryd.func6, Tryd.ntmps6
  go_upto_region 1 with fail
  rw [← hwa, ← hK]
  clear hwa
  replace hK := Lib.hid hK
  go_wp2_with fail
  refine (WK.out wa BX.out).mono ?_
  rintro e w1 ⟨rfl, b1⟩
  have B1 := Lib.hid (BX.out.trans (b1.mono BX.out.size))
  have L1 := LD.out.keep (by show 0 < 3; decide) b1
  have c0 := L1.cell 0 (v := .bool ip) rfl
  have c1 := L1.cell 1 (v := .int .u32 a) rfl
  have c2 := L1.cell 2 (v := .int .i64 n) rfl
  clear b1 BX LD WK L1
  go_wp2_with fail
  refine (FD.out w1 B1.out).mono ?_
  rintro e w2 (⟨hr, g, rfl, l2, hg, b2⟩ | ⟨hr, rfl, b2⟩)
  · have B2 := Lib.hid (B1.out.trans (b2.mono B1.out.size))
    clear b2 B1 FD c0 c1 c2 hg
    -- the tables
    have lC := Lies.new w2 [.string ⟨#[71, 69, 84]⟩, .string ⟨#[99, 111, 110, 110, 101, 99, 116, 45, 116, 99, 112]⟩, .string ⟨#[104, 116, 116, 112]⟩, .string ⟨#[]⟩, .string ⟨#[47]⟩, .string ⟨#[63, 48]⟩] 9
    have bC := bx w2 (.cells #[.string ⟨#[71, 69, 84]⟩, .string ⟨#[99, 111, 110, 110, 101, 99, 116, 45, 116, 99, 112]⟩, .string ⟨#[104, 116, 116, 112]⟩, .string ⟨#[]⟩, .string ⟨#[47]⟩, .string ⟨#[63, 48]⟩] 9)
    obtain ⟨w3, hw3⟩ : ∃ w3, w3 = w2.alloc (.cells #[.string ⟨#[71, 69, 84]⟩, .string ⟨#[99, 111, 110, 110, 101, 99, 116, 45, 116, 99, 112]⟩, .string ⟨#[104, 116, 116, 112]⟩, .string ⟨#[]⟩, .string ⟨#[47]⟩, .string ⟨#[63, 48]⟩] 9) := ⟨_, rfl⟩
    have lC' : Lies w3 w2.heap.size [.string ⟨#[71, 69, 84]⟩, .string ⟨#[99, 111, 110, 110, 101, 99, 116, 45, 116, 99, 112]⟩, .string ⟨#[104, 116, 116, 112]⟩, .string ⟨#[]⟩, .string ⟨#[47]⟩, .string ⟨#[63, 48]⟩] := by rw [hw3]; exact lC
    rw [← hw3] at bC
    have l3 := l2.keep (by show 0 < 12; decide) bC
    have B3 := B2.out.trans (bC.mono B2.out.size)
    have lD := Lies.new w3 [.int .i64 405, .int .i64 501, .int .i64 400, .int .i64 400, .int .i64 404, .int .i64 400] 3
    have bD := bx w3 (.cells #[.int .i64 405, .int .i64 501, .int .i64 400, .int .i64 400, .int .i64 404, .int .i64 400] 3)
    obtain ⟨w4, hw4⟩ : ∃ w4, w4 = w3.alloc (.cells #[.int .i64 405, .int .i64 501, .int .i64 400, .int .i64 400, .int .i64 404, .int .i64 400] 3) := ⟨_, rfl⟩
    have lD' : Lies w4 w3.heap.size [.int .i64 405, .int .i64 501, .int .i64 400, .int .i64 400, .int .i64 404, .int .i64 400] := by rw [hw4]; exact lD
    rw [← hw4] at bD
    have l4 := l3.keep (by show 0 < 12; decide) bD
    have C4 := lC'.keep (by show 0 < 6; decide) bD
    have B4 := B3.trans (bD.mono B3.size)
    obtain ⟨CB, hCB⟩ : ∃ CB, CB = w2.heap.size := ⟨_, rfl⟩
    obtain ⟨DB, hDB⟩ : ∃ DB, DB = w3.heap.size := ⟨_, rfl⟩
    rw [← hCB] at C4
    rw [← hDB] at lD'
    replace hCB := Lib.hid hCB
    replace hDB := Lib.hid hDB
    replace hw4 := Lib.hid hw4
    have F4 := Flds0 (l := fld6 cProxy ip a n) rfl l4
    obtain ⟨v5, w5, hap, o5, n5, b5⟩ := copy_fds w4 F4 (by show 6 * 32 ≤ _; decide) 22
    obtain ⟨gm, cm, rfl, hgm, l5⟩ := o5.lies n5
    have G5 := Lib.hid (l4.keep (by show 0 < 12; decide) b5)
    have D5 := Lib.hid (lD'.keep (by show 0 < 6; decide) b5)
    have C5 := C4.keep (by show 0 < 6; decide) b5
    have B5 := Lib.hid (B4.trans (b5.mono B4.size))
    have gm0 : Hid (w.heap.size ≤ gm) := Nat.le_trans B4.size hgm
    have gmD : Hid (DB < gm ∧ g < gm) := ⟨Nat.lt_of_lt_of_le (lD'.lt (by show 0 < 6; decide)) hgm, Nat.lt_of_lt_of_le (l4.lt (by show 0 < 12; decide)) hgm⟩
    replace hap : Hid (∀ z, (builtin .append #[22, 22] 22 z #[.slice (some ⟨w4.heap.size, 0, none⟩) 0 0, .slice (some ⟨g, 0, none⟩) 6 6]).run Tryd.prog (w4.alloc (.cells #[] 35)) = .ok (.value (.slice (some ⟨gm, 0, none⟩) 6 cm)) w5) := hap
    have cc := C5.cell 0 (v := .string ⟨#[71, 69, 84]⟩) rfl
    have mc := l5.cell 1 (v := .string (strL ((fld6 cProxy ip a n).getD 0 nF).2)) rfl
    have mf := l5.free 1 (by show 1 < 12; decide)
    have l6 := l5.put 1 (by show 1 < 12; decide) (.string ⟨#[71, 69, 84]⟩)
    have B6 := B5.out.setCell (p := ⟨gm, 1, none⟩) gm0.out (.string ⟨#[71, 69, 84]⟩)
    have G6 := G5.out.of_block (w' := w5.setCell ⟨gm, 1, none⟩ (.string ⟨#[71, 69, 84]⟩)) (Below.heap_setCell _ _ _ _ (by show g ≠ gm; have := gmD.out; omega))
    have D6 := D5.out.of_block (w' := w5.setCell ⟨gm, 1, none⟩ (.string ⟨#[71, 69, 84]⟩)) (Below.heap_setCell _ _ _ _ (by show DB ≠ gm; have := gmD.out; omega))
    have F6 : FdsAt (w5.setCell ⟨gm, 1, none⟩ (.string ⟨#[71, 69, 84]⟩)) (.slice (some ⟨gm, 0, none⟩) 6 cm) ((fld6 cProxy ip a n).set 0 (nMeth, [71, 69, 84])) := fds_sub (i := 0) (l := (fld6 cProxy ip a n).set 0 (nMeth, [71, 69, 84])) l6 6 cm (by show 0 + 6 ≤ 6; decide)
    obtain ⟨w6, hw6⟩ : ∃ w6, w6 = w5.setCell ⟨gm, 1, none⟩ (.string ⟨#[71, 69, 84]⟩) := ⟨_, rfl⟩
    rw [← hw6] at B6 G6 D6 F6
    replace hw6 := Lib.hid hw6
    replace B6 := Lib.hid B6
    replace G6 := Lib.hid G6
    replace D6 := Lib.hid D6
    replace F6 := Lib.hid F6
    generalize strL ((fld6 cProxy ip a n).getD 0 nF).2 = OLD at *
    clear lC lC' bC lD lD' bD l2 l3 l4 l5 l6 B2 B3 B4 o5 n5 b5 F4 C4 C5 G5 D5 B5 hgm gm0 gmD
    go_upto_region 7 with fail
    rw [← hw3, ← hCB.out]
    clear hw3
    go_upto_region 8 with fail
    rw [← hw4.out, ← hDB.out]
    clear hw4
    go_upto_region 10 with (refine obB2L _ rfl .append _ _ 22 22 rfl (.slice (some ⟨w4.heap.size, 0, none⟩) 0 0) (.slice (some ⟨g, 0, none⟩) 6 6) rfl rfl hap.out ?_)
    clear hap
    go_upto_region 11 with fail
    rw [← hw6.out]
    clear hw6 cc mc mf
    go_wp2_with fail
    refine (PS.out w6 _ _ B6.out F6.out (by show 6 ≤ _; decide)).mono ?_
    rintro e w7 ⟨⟨ip', b, m', st, hA, rfl⟩, b7⟩
    obtain ⟨rfl, rfl, rfl, rfl⟩ := chg0 ip a n a0 a1 hA
    have B7 := B6.out.trans (b7.mono B6.out.size)
    have G7 := G6.out.keep (by show 0 < 12; decide) b7
    have D7 := D6.out.keep (by show 0 < 6; decide) b7
    clear hA b7 B6 G6 D6 F6
    have lX := Lies.new w7 [.bool false, .int .u32 0, .int .i64 0] 25
    have bX := bx w7 (.cells #[.bool false, .int .u32 0, .int .i64 0] 25)
    obtain ⟨w9, hw9⟩ : ∃ w9, w9 = w7.alloc (.cells #[.bool false, .int .u32 0, .int .i64 0] 25) := ⟨_, rfl⟩
    have lX' : Lies w9 w7.heap.size [.bool false, .int .u32 0, .int .i64 0] := by rw [hw9]; exact lX
    rw [← hw9] at bX
    have B9 := Lib.hid (B7.trans (bX.mono B7.size))
    have G9 := Lib.hid (G7.keep (by show 0 < 12; decide) bX)
    have DD9 := Lib.hid (D7.keep (by show 0 < 6; decide) bX)
    obtain ⟨XB, hXB⟩ : ∃ XB, XB = w7.heap.size := ⟨_, rfl⟩
    rw [← hXB] at lX'
    have XX9 := Lib.hid lX'
    clear lX lX' bX B7 G7 D7
    unfold tgV
    go_upto_region 12 with fail
    rw [← hw9, ← hXB]
    clear hw9
    replace hXB := Lib.hid hXB
    refine wp_region_held (S := fun _ => True) (by kernel_rfl) ?_
    change wpAnyH _ .any _ _ _ 11 (Array.replicate 11 false) _ w9.drew
    have dr : Below w9.heap.size w9 w9.drew := ⟨rfl, rfl, rfl, Nat.le_refl _, fun _ _ => rfl⟩
    have Q9 := G9.out.keep (by show 0 < 12; decide) dr
    have B9d := B9.out.trans (dr.mono B9.out.size)
    have X9 := XX9.out.keep (by show 0 < 3; decide) dr
    have D9 := DD9.out.keep (by show 0 < 6; decide) dr
    clear dr
    generalize w9.drew = wd at *
    obtain ⟨vA, wA, hapA, oA, nA, bA⟩ := copy_fds wd (fds_sub Q9 0 0 6 (by show 0 + 0 ≤ 6; decide)) (by show _ * 32 ≤ _; simp [fld6]) 22
    obtain ⟨vB, wB, hapB, oB, nB, gB⟩ := oA.cat nA (Nat.le_trans (Nat.le_refl _) bA.size) ((fds_sub Q9 1 5 5 (by show 1 + 5 ≤ 6; decide)).keep bA) (by simp [fld6]) 22
    have bB : Below wd.heap.size wd wB := bA.grown gB bA.size fun k hk => (oA.lt k hk).1
    obtain ⟨aA, cA, rfl⟩ := oA.form
    obtain ⟨aB, cB, rfl⟩ := oB.form
    have B10 := Lib.hid (B9d.trans (bB.mono B9d.size))
    have X10 := Lib.hid (X9.keep (by show 0 < 3; decide) bB)
    have D10 := Lib.hid (D9.keep (by show 0 < 6; decide) bB)
    have F10 := oB.fds
    clear oA oB nA nB gB bA bB Q9 B9d X9 D9
    refine obTakeH (i := 1) (d := 48) (v := .slice (some ⟨g, 0, none⟩) 6 6) rfl rfl (by kernel_rfl) (by kernel_rfl) (by kernel_rfl) (fun _ _ _ h => h) rfl (fun w _ => by go_simp) trivial ?_
    refine obTakeH (i := 2) (d := 49) (v := .int .i64 0) rfl rfl (by kernel_rfl) (by kernel_rfl) (by kernel_rfl) (fun _ _ _ h => h) rfl (fun w _ => by go_simp) trivial ?_
    refine obTakeH (i := 3) (d := 50) (v := .slice (some ⟨g, 0, none⟩) 0 6) rfl rfl (by kernel_rfl) (by kernel_rfl) (by kernel_rfl) (fun _ _ _ h => h) rfl (fun w _ => by go_simp) trivial ?_
    try simp only [Act.put, List.setIfInBounds_toArray, List.set_cons_succ, List.set_cons_zero]
    refine obTakeH (i := 5) (d := 52) (v := .slice (some ⟨g, 0, none⟩) 6 6) rfl rfl (by kernel_rfl) (by kernel_rfl) (by kernel_rfl) (fun _ _ _ h => h) rfl (fun w _ => by go_simp) trivial ?_
    refine obTakeH (i := 6) (d := 53) (v := .int .i64 0) rfl rfl (by kernel_rfl) (by kernel_rfl) (by kernel_rfl) (fun _ _ _ h => h) rfl (fun w _ => by go_simp) trivial ?_
    refine obTakeH (i := 7) (d := 54) (v := .int .i64 1) rfl rfl (by kernel_rfl) (by kernel_rfl) (by kernel_rfl) (fun _ _ _ h => h) rfl (fun w _ => by go_simp; rfl) trivial ?_
    refine obTakeH (i := 8) (d := 55) (v := .slice (some ⟨g, 2, none⟩) 5 5) rfl rfl (by kernel_rfl) (by kernel_rfl) (by kernel_rfl) (fun _ _ _ h => h) rfl (fun w _ => by go_simp) trivial ?_
    try simp only [Act.put, List.setIfInBounds_toArray, List.set_cons_succ, List.set_cons_zero]
    refine wpAnyH_all (rs := [0]) (by kernel_rfl) (by simp) (fun y hy => ?_)
    obtain rfl : y = 0 := by simpa using hy
    clear hy
    refine wpOp_step rfl (fun K' hK => ?_)
    go_simp
    refine hK _ _ ⟨trivial, ?_⟩
    clear hK K'
    try simp only [Act.put]
    refine wpAnyH_all (rs := [4]) (by kernel_rfl) (by simp) (fun y hy => ?_)
    obtain rfl : y = 4 := by simpa using hy
    clear hy
    refine wpOp_step rfl (fun K' hK => ?_)
    refine obB2 _ .append _ _ 22 22 rfl (.slice (some ⟨wd.heap.size, 0, none⟩) 0 0) (.slice (some ⟨g, 0, none⟩) 0 6) rfl rfl hapA ?_
    refine hK _ _ ⟨trivial, ?_⟩
    clear hK K'
    try simp only [Act.put]
    refine wpAnyH_all (rs := [9]) (by kernel_rfl) (by simp) (fun y hy => ?_)
    obtain rfl : y = 9 := by simpa using hy
    clear hy
    refine wpOp_step rfl (fun K' hK => ?_)
    refine obB2 _ .append _ _ 22 22 rfl _ (.slice (some ⟨g, 2, none⟩) 5 5) rfl rfl hapB ?_
    refine hK _ _ ⟨trivial, ?_⟩
    clear hK K'
    try simp only [Act.put]
    obtain ⟨NB, hNB⟩ : ∃ NB, NB = (List.take 0 (List.drop 0 (fld6 cProxy ip a n)) ++ List.take 5 (List.drop 1 (fld6 cProxy ip a n))).length := ⟨_, rfl⟩
    rw [← hNB] at F10
    refine obTakeH (i := 10) (d := 12) (v := .slice aB NB cB) rfl rfl (by kernel_rfl) (by kernel_rfl) (by kernel_rfl) (fun _ _ _ h => h) rfl (fun w _ => by rw [hNB]; go_simp) trivial ?_
    try simp only [Act.put]
    refine wpAnyH_done (by kernel_rfl) ?_ 0
    clear hapA hapB
    replace hNB := Lib.hid hNB
    replace F10 := Lib.hid F10
    go_wp2_with fail
    refine (PS.out wB _ _ B10.out (by have := F10.out; rwa [hNB.out] at this ⊢) (by simp [fld6, maxLen])).mono ?_
    rintro e w11 ⟨⟨ip', b, m', st, hA, rfl⟩, b11⟩
    obtain rfl := mis0 ip a n hA
    have B11 := B10.out.trans (b11.mono B10.out.size)
    have X11 := X10.out.keep (by show 0 < 3; decide) b11
    have D11 := D10.out.keep (by show 0 < 6; decide) b11
    clear hA b11 B10 X10 D10 F10 hNB PS
    have bY := bx w11 (.cells #[.bool ip', .int .u32 b, .int .i64 m'] 25)
    obtain ⟨w12, hw12⟩ : ∃ w12, w12 = w11.alloc (.cells #[.bool ip', .int .u32 b, .int .i64 m'] 25) := ⟨_, rfl⟩
    rw [← hw12] at bY
    have B12 := Lib.hid (B11.trans (bY.mono B11.size))
    have X12 := X11.keep (by show 0 < 3; decide) bY
    have D12 := D11.keep (by show 0 < 6; decide) bY
    have x0 := X12.cell 0 (v := .bool false) rfl
    have x1 := X12.cell 1 (v := .int .u32 0) rfl
    have x2 := X12.cell 2 (v := .int .i64 0) rfl
    have y0 := D12.cell 0 (v := .int .i64 405) rfl
    clear bY B11 X11 D11 X12 D12
    unfold tgV
    go_upto_region 14 with fail
    rw [← hw12]
    clear hw12
    go_wp2_with fail
    go_ret
    exact ⟨rfl, B12.out⟩
  · have B2 := Lib.hid (B1.out.trans (b2.mono B1.out.size))
    clear b2 B1 FD c0 c1 c2
    go_wp2_with fail
    go_ret
    exact ⟨rfl, B2.out⟩
set_option maxHeartbeats 16000000 in
theorem stat1 (ip : Bool) (a n x : Int) (w : World) (t : Tab w) (a0 : 0 ≤ a) (a1 : a < 4294967296) (_ : wrap64 ((IntKind.u64.wrap x).tmod 6) = 1) (i2 : IntKind.i64.wrap ((IntKind.u64.wrap x).tmod 6) = 1) :
    Calls Tryd.prog 6 #[tgV ip a n, .int .i64 x] w fun e w' => e = .returned (.bool true) ∧ Below w.heap.size w w' := by
  have lA := tbox w ip a n
  have bA := bx w (.cells #[.bool ip, .int .u32 a, .int .i64 n] 25)
  obtain ⟨wa, hwa⟩ : ∃ wa, wa = w.alloc (.cells #[.bool ip, .int .u32 a, .int .i64 n] 25) := ⟨_, rfl⟩
  rw [← hwa] at lA bA
  obtain ⟨K, hK⟩ : ∃ K, K = w.heap.size := ⟨_, rfl⟩
  rw [← hK] at lA
  have tK : Hid (∀ w', Below w.heap.size w w' → Tab w') := fun w' b => t.keep b
  have BX := Lib.hid bA
  have LD := Lib.hid lA
  clear lA bA t
  have WK : Hid (∀ w', Below w.heap.size w w' → _) := fun w' b => works_ok w' (tK.out w' b)
  have FD : Hid (∀ w', Below w.heap.size w w' → Calls Tryd.prog 13 #[.string ⟨#[112, 114, 111, 120, 121]⟩, tgV ip a n] w' fun e w'' => FldT w' w'' e cProxy ip a n) := fun w' b => flds_ok cProxy ip a n w' (tK.out w' b).p a0 a1
  have PS : Hid (∀ w' v l, Below w.heap.size w w' → FdsAt w' v l → l.length ≤ maxLen → Calls Tryd.prog 8 #[v] w' fun e w'' => Ans l e ∧ Below w'.heap.size w' w'') := fun w' v l b h hl => parse17_ok l v w' (tK.out w' b) h hl
  unfold tgV at FD ⊢
  go_enter Tryd.func6, Tryd.ntmps6
  go_upto_region 1 with fail
  rw [← hwa, ← hK]
  clear hwa
  replace hK := Lib.hid hK
  go_wp2_with fail
  refine (WK.out wa BX.out).mono ?_
  rintro e w1 ⟨rfl, b1⟩
  have B1 := Lib.hid (BX.out.trans (b1.mono BX.out.size))
  have L1 := LD.out.keep (by show 0 < 3; decide) b1
  have c0 := L1.cell 0 (v := .bool ip) rfl
  have c1 := L1.cell 1 (v := .int .u32 a) rfl
  have c2 := L1.cell 2 (v := .int .i64 n) rfl
  clear b1 BX LD WK L1
  go_wp2_with fail
  refine (FD.out w1 B1.out).mono ?_
  rintro e w2 (⟨hr, g, rfl, l2, hg, b2⟩ | ⟨hr, rfl, b2⟩)
  · have B2 := Lib.hid (B1.out.trans (b2.mono B1.out.size))
    clear b2 B1 FD c0 c1 c2 hg
    -- the tables
    have lC := Lies.new w2 [.string ⟨#[71, 69, 84]⟩, .string ⟨#[99, 111, 110, 110, 101, 99, 116, 45, 116, 99, 112]⟩, .string ⟨#[104, 116, 116, 112]⟩, .string ⟨#[]⟩, .string ⟨#[47]⟩, .string ⟨#[63, 48]⟩] 9
    have bC := bx w2 (.cells #[.string ⟨#[71, 69, 84]⟩, .string ⟨#[99, 111, 110, 110, 101, 99, 116, 45, 116, 99, 112]⟩, .string ⟨#[104, 116, 116, 112]⟩, .string ⟨#[]⟩, .string ⟨#[47]⟩, .string ⟨#[63, 48]⟩] 9)
    obtain ⟨w3, hw3⟩ : ∃ w3, w3 = w2.alloc (.cells #[.string ⟨#[71, 69, 84]⟩, .string ⟨#[99, 111, 110, 110, 101, 99, 116, 45, 116, 99, 112]⟩, .string ⟨#[104, 116, 116, 112]⟩, .string ⟨#[]⟩, .string ⟨#[47]⟩, .string ⟨#[63, 48]⟩] 9) := ⟨_, rfl⟩
    have lC' : Lies w3 w2.heap.size [.string ⟨#[71, 69, 84]⟩, .string ⟨#[99, 111, 110, 110, 101, 99, 116, 45, 116, 99, 112]⟩, .string ⟨#[104, 116, 116, 112]⟩, .string ⟨#[]⟩, .string ⟨#[47]⟩, .string ⟨#[63, 48]⟩] := by rw [hw3]; exact lC
    rw [← hw3] at bC
    have l3 := l2.keep (by show 0 < 12; decide) bC
    have B3 := B2.out.trans (bC.mono B2.out.size)
    have lD := Lies.new w3 [.int .i64 405, .int .i64 501, .int .i64 400, .int .i64 400, .int .i64 404, .int .i64 400] 3
    have bD := bx w3 (.cells #[.int .i64 405, .int .i64 501, .int .i64 400, .int .i64 400, .int .i64 404, .int .i64 400] 3)
    obtain ⟨w4, hw4⟩ : ∃ w4, w4 = w3.alloc (.cells #[.int .i64 405, .int .i64 501, .int .i64 400, .int .i64 400, .int .i64 404, .int .i64 400] 3) := ⟨_, rfl⟩
    have lD' : Lies w4 w3.heap.size [.int .i64 405, .int .i64 501, .int .i64 400, .int .i64 400, .int .i64 404, .int .i64 400] := by rw [hw4]; exact lD
    rw [← hw4] at bD
    have l4 := l3.keep (by show 0 < 12; decide) bD
    have C4 := lC'.keep (by show 0 < 6; decide) bD
    have B4 := B3.trans (bD.mono B3.size)
    obtain ⟨CB, hCB⟩ : ∃ CB, CB = w2.heap.size := ⟨_, rfl⟩
    obtain ⟨DB, hDB⟩ : ∃ DB, DB = w3.heap.size := ⟨_, rfl⟩
    rw [← hCB] at C4
    rw [← hDB] at lD'
    replace hCB := Lib.hid hCB
    replace hDB := Lib.hid hDB
    replace hw4 := Lib.hid hw4
    have F4 := Flds0 (l := fld6 cProxy ip a n) rfl l4
    obtain ⟨v5, w5, hap, o5, n5, b5⟩ := copy_fds w4 F4 (by show 6 * 32 ≤ _; decide) 22
    obtain ⟨gm, cm, rfl, hgm, l5⟩ := o5.lies n5
    have G5 := Lib.hid (l4.keep (by show 0 < 12; decide) b5)
    have D5 := Lib.hid (lD'.keep (by show 0 < 6; decide) b5)
    have C5 := C4.keep (by show 0 < 6; decide) b5
    have B5 := Lib.hid (B4.trans (b5.mono B4.size))
    have gm0 : Hid (w.heap.size ≤ gm) := Nat.le_trans B4.size hgm
    have gmD : Hid (DB < gm ∧ g < gm) := ⟨Nat.lt_of_lt_of_le (lD'.lt (by show 0 < 6; decide)) hgm, Nat.lt_of_lt_of_le (l4.lt (by show 0 < 12; decide)) hgm⟩
    replace hap : Hid (∀ z, (builtin .append #[22, 22] 22 z #[.slice (some ⟨w4.heap.size, 0, none⟩) 0 0, .slice (some ⟨g, 0, none⟩) 6 6]).run Tryd.prog (w4.alloc (.cells #[] 35)) = .ok (.value (.slice (some ⟨gm, 0, none⟩) 6 cm)) w5) := hap
    have cc := C5.cell 1 (v := .string ⟨#[99, 111, 110, 110, 101, 99, 116, 45, 116, 99, 112]⟩) rfl
    have mc := l5.cell 3 (v := .string (strL ((fld6 cProxy ip a n).getD 1 nF).2)) rfl
    have mf := l5.free 3 (by show 3 < 12; decide)
    have l6 := l5.put 3 (by show 3 < 12; decide) (.string ⟨#[99, 111, 110, 110, 101, 99, 116, 45, 116, 99, 112]⟩)
    have B6 := B5.out.setCell (p := ⟨gm, 3, none⟩) gm0.out (.string ⟨#[99, 111, 110, 110, 101, 99, 116, 45, 116, 99, 112]⟩)
    have G6 := G5.out.of_block (w' := w5.setCell ⟨gm, 3, none⟩ (.string ⟨#[99, 111, 110, 110, 101, 99, 116, 45, 116, 99, 112]⟩)) (Below.heap_setCell _ _ _ _ (by show g ≠ gm; have := gmD.out; omega))
    have D6 := D5.out.of_block (w' := w5.setCell ⟨gm, 3, none⟩ (.string ⟨#[99, 111, 110, 110, 101, 99, 116, 45, 116, 99, 112]⟩)) (Below.heap_setCell _ _ _ _ (by show DB ≠ gm; have := gmD.out; omega))
    have F6 : FdsAt (w5.setCell ⟨gm, 3, none⟩ (.string ⟨#[99, 111, 110, 110, 101, 99, 116, 45, 116, 99, 112]⟩)) (.slice (some ⟨gm, 0, none⟩) 6 cm) ((fld6 cProxy ip a n).set 1 (nProt, [99, 111, 110, 110, 101, 99, 116, 45, 116, 99, 112])) := fds_sub (i := 0) (l := (fld6 cProxy ip a n).set 1 (nProt, [99, 111, 110, 110, 101, 99, 116, 45, 116, 99, 112])) l6 6 cm (by show 0 + 6 ≤ 6; decide)
    obtain ⟨w6, hw6⟩ : ∃ w6, w6 = w5.setCell ⟨gm, 3, none⟩ (.string ⟨#[99, 111, 110, 110, 101, 99, 116, 45, 116, 99, 112]⟩) := ⟨_, rfl⟩
    rw [← hw6] at B6 G6 D6 F6
    replace hw6 := Lib.hid hw6
    replace B6 := Lib.hid B6
    replace G6 := Lib.hid G6
    replace D6 := Lib.hid D6
    replace F6 := Lib.hid F6
    generalize strL ((fld6 cProxy ip a n).getD 1 nF).2 = OLD at *
    clear lC lC' bC lD lD' bD l2 l3 l4 l5 l6 B2 B3 B4 o5 n5 b5 F4 C4 C5 G5 D5 B5 hgm gm0 gmD
    go_upto_region 7 with fail
    rw [← hw3, ← hCB.out]
    clear hw3
    go_upto_region 8 with fail
    rw [← hw4.out, ← hDB.out]
    clear hw4
    go_upto_region 10 with (refine obB2L _ rfl .append _ _ 22 22 rfl (.slice (some ⟨w4.heap.size, 0, none⟩) 0 0) (.slice (some ⟨g, 0, none⟩) 6 6) rfl rfl hap.out ?_)
    clear hap
    go_upto_region 11 with fail
    rw [← hw6.out]
    clear hw6 cc mc mf
    go_wp2_with fail
    refine (PS.out w6 _ _ B6.out F6.out (by show 6 ≤ _; decide)).mono ?_
    rintro e w7 ⟨⟨ip', b, m', st, hA, rfl⟩, b7⟩
    obtain ⟨rfl, rfl, rfl, rfl⟩ := chg1 ip a n a0 a1 hA
    have B7 := B6.out.trans (b7.mono B6.out.size)
    have G7 := G6.out.keep (by show 0 < 12; decide) b7
    have D7 := D6.out.keep (by show 0 < 6; decide) b7
    clear hA b7 B6 G6 D6 F6
    have lX := Lies.new w7 [.bool false, .int .u32 0, .int .i64 0] 25
    have bX := bx w7 (.cells #[.bool false, .int .u32 0, .int .i64 0] 25)
    obtain ⟨w9, hw9⟩ : ∃ w9, w9 = w7.alloc (.cells #[.bool false, .int .u32 0, .int .i64 0] 25) := ⟨_, rfl⟩
    have lX' : Lies w9 w7.heap.size [.bool false, .int .u32 0, .int .i64 0] := by rw [hw9]; exact lX
    rw [← hw9] at bX
    have B9 := Lib.hid (B7.trans (bX.mono B7.size))
    have G9 := Lib.hid (G7.keep (by show 0 < 12; decide) bX)
    have DD9 := Lib.hid (D7.keep (by show 0 < 6; decide) bX)
    obtain ⟨XB, hXB⟩ : ∃ XB, XB = w7.heap.size := ⟨_, rfl⟩
    rw [← hXB] at lX'
    have XX9 := Lib.hid lX'
    clear lX lX' bX B7 G7 D7
    unfold tgV
    go_upto_region 12 with fail
    rw [← hw9, ← hXB]
    clear hw9
    replace hXB := Lib.hid hXB
    refine wp_region_held (S := fun _ => True) (by kernel_rfl) ?_
    change wpAnyH _ .any _ _ _ 11 (Array.replicate 11 false) _ w9.drew
    have dr : Below w9.heap.size w9 w9.drew := ⟨rfl, rfl, rfl, Nat.le_refl _, fun _ _ => rfl⟩
    have Q9 := G9.out.keep (by show 0 < 12; decide) dr
    have B9d := B9.out.trans (dr.mono B9.out.size)
    have X9 := XX9.out.keep (by show 0 < 3; decide) dr
    have D9 := DD9.out.keep (by show 0 < 6; decide) dr
    clear dr
    generalize w9.drew = wd at *
    obtain ⟨vA, wA, hapA, oA, nA, bA⟩ := copy_fds wd (fds_sub Q9 0 1 6 (by show 0 + 1 ≤ 6; decide)) (by show _ * 32 ≤ _; simp [fld6]) 22
    obtain ⟨vB, wB, hapB, oB, nB, gB⟩ := oA.cat nA (Nat.le_trans (Nat.le_refl _) bA.size) ((fds_sub Q9 2 4 4 (by show 2 + 4 ≤ 6; decide)).keep bA) (by simp [fld6]) 22
    have bB : Below wd.heap.size wd wB := bA.grown gB bA.size fun k hk => (oA.lt k hk).1
    obtain ⟨aA, cA, rfl⟩ := oA.form
    obtain ⟨aB, cB, rfl⟩ := oB.form
    have B10 := Lib.hid (B9d.trans (bB.mono B9d.size))
    have X10 := Lib.hid (X9.keep (by show 0 < 3; decide) bB)
    have D10 := Lib.hid (D9.keep (by show 0 < 6; decide) bB)
    have F10 := oB.fds
    clear oA oB nA nB gB bA bB Q9 B9d X9 D9
    refine obTakeH (i := 1) (d := 48) (v := .slice (some ⟨g, 0, none⟩) 6 6) rfl rfl (by kernel_rfl) (by kernel_rfl) (by kernel_rfl) (fun _ _ _ h => h) rfl (fun w _ => by go_simp) trivial ?_
    refine obTakeH (i := 2) (d := 49) (v := .int .i64 1) rfl rfl (by kernel_rfl) (by kernel_rfl) (by kernel_rfl) (fun _ _ _ h => h) rfl (fun w _ => by go_simp) trivial ?_
    refine obTakeH (i := 3) (d := 50) (v := .slice (some ⟨g, 0, none⟩) 1 6) rfl rfl (by kernel_rfl) (by kernel_rfl) (by kernel_rfl) (fun _ _ _ h => h) rfl (fun w _ => by go_simp) trivial ?_
    try simp only [Act.put, List.setIfInBounds_toArray, List.set_cons_succ, List.set_cons_zero]
    refine obTakeH (i := 5) (d := 52) (v := .slice (some ⟨g, 0, none⟩) 6 6) rfl rfl (by kernel_rfl) (by kernel_rfl) (by kernel_rfl) (fun _ _ _ h => h) rfl (fun w _ => by go_simp) trivial ?_
    refine obTakeH (i := 6) (d := 53) (v := .int .i64 1) rfl rfl (by kernel_rfl) (by kernel_rfl) (by kernel_rfl) (fun _ _ _ h => h) rfl (fun w _ => by go_simp) trivial ?_
    refine obTakeH (i := 7) (d := 54) (v := .int .i64 2) rfl rfl (by kernel_rfl) (by kernel_rfl) (by kernel_rfl) (fun _ _ _ h => h) rfl (fun w _ => by go_simp; rfl) trivial ?_
    refine obTakeH (i := 8) (d := 55) (v := .slice (some ⟨g, 4, none⟩) 4 4) rfl rfl (by kernel_rfl) (by kernel_rfl) (by kernel_rfl) (fun _ _ _ h => h) rfl (fun w _ => by go_simp) trivial ?_
    try simp only [Act.put, List.setIfInBounds_toArray, List.set_cons_succ, List.set_cons_zero]
    refine wpAnyH_all (rs := [0]) (by kernel_rfl) (by simp) (fun y hy => ?_)
    obtain rfl : y = 0 := by simpa using hy
    clear hy
    refine wpOp_step rfl (fun K' hK => ?_)
    go_simp
    refine hK _ _ ⟨trivial, ?_⟩
    clear hK K'
    try simp only [Act.put]
    refine wpAnyH_all (rs := [4]) (by kernel_rfl) (by simp) (fun y hy => ?_)
    obtain rfl : y = 4 := by simpa using hy
    clear hy
    refine wpOp_step rfl (fun K' hK => ?_)
    refine obB2 _ .append _ _ 22 22 rfl (.slice (some ⟨wd.heap.size, 0, none⟩) 0 0) (.slice (some ⟨g, 0, none⟩) 1 6) rfl rfl hapA ?_
    refine hK _ _ ⟨trivial, ?_⟩
    clear hK K'
    try simp only [Act.put]
    refine wpAnyH_all (rs := [9]) (by kernel_rfl) (by simp) (fun y hy => ?_)
    obtain rfl : y = 9 := by simpa using hy
    clear hy
    refine wpOp_step rfl (fun K' hK => ?_)
    refine obB2 _ .append _ _ 22 22 rfl _ (.slice (some ⟨g, 4, none⟩) 4 4) rfl rfl hapB ?_
    refine hK _ _ ⟨trivial, ?_⟩
    clear hK K'
    try simp only [Act.put]
    obtain ⟨NB, hNB⟩ : ∃ NB, NB = (List.take 1 (List.drop 0 (fld6 cProxy ip a n)) ++ List.take 4 (List.drop 2 (fld6 cProxy ip a n))).length := ⟨_, rfl⟩
    rw [← hNB] at F10
    refine obTakeH (i := 10) (d := 12) (v := .slice aB NB cB) rfl rfl (by kernel_rfl) (by kernel_rfl) (by kernel_rfl) (fun _ _ _ h => h) rfl (fun w _ => by rw [hNB]; go_simp) trivial ?_
    try simp only [Act.put]
    refine wpAnyH_done (by kernel_rfl) ?_ 0
    clear hapA hapB
    replace hNB := Lib.hid hNB
    replace F10 := Lib.hid F10
    go_wp2_with fail
    refine (PS.out wB _ _ B10.out (by have := F10.out; rwa [hNB.out] at this ⊢) (by simp [fld6, maxLen])).mono ?_
    rintro e w11 ⟨⟨ip', b, m', st, hA, rfl⟩, b11⟩
    obtain rfl := mis1 ip a n hA
    have B11 := B10.out.trans (b11.mono B10.out.size)
    have X11 := X10.out.keep (by show 0 < 3; decide) b11
    have D11 := D10.out.keep (by show 0 < 6; decide) b11
    clear hA b11 B10 X10 D10 F10 hNB PS
    have bY := bx w11 (.cells #[.bool ip', .int .u32 b, .int .i64 m'] 25)
    obtain ⟨w12, hw12⟩ : ∃ w12, w12 = w11.alloc (.cells #[.bool ip', .int .u32 b, .int .i64 m'] 25) := ⟨_, rfl⟩
    rw [← hw12] at bY
    have B12 := Lib.hid (B11.trans (bY.mono B11.size))
    have X12 := X11.keep (by show 0 < 3; decide) bY
    have D12 := D11.keep (by show 0 < 6; decide) bY
    have x0 := X12.cell 0 (v := .bool false) rfl
    have x1 := X12.cell 1 (v := .int .u32 0) rfl
    have x2 := X12.cell 2 (v := .int .i64 0) rfl
    have y0 := D12.cell 1 (v := .int .i64 501) rfl
    clear bY B11 X11 D11 X12 D12
    unfold tgV
    go_upto_region 14 with fail
    rw [← hw12]
    clear hw12
    go_wp2_with fail
    go_ret
    exact ⟨rfl, B12.out⟩
  · have B2 := Lib.hid (B1.out.trans (b2.mono B1.out.size))
    clear b2 B1 FD c0 c1 c2
    go_wp2_with fail
    go_ret
    exact ⟨rfl, B2.out⟩
set_option maxHeartbeats 16000000 in
theorem stat2 (ip : Bool) (a n x : Int) (w : World) (t : Tab w) (a0 : 0 ≤ a) (a1 : a < 4294967296) (_ : wrap64 ((IntKind.u64.wrap x).tmod 6) = 2) (i2 : IntKind.i64.wrap ((IntKind.u64.wrap x).tmod 6) = 2) :
    Calls Tryd.prog 6 #[tgV ip a n, .int .i64 x] w fun e w' => e = .returned (.bool true) ∧ Below w.heap.size w w' := by
  have lA := tbox w ip a n
  have bA := bx w (.cells #[.bool ip, .int .u32 a, .int .i64 n] 25)
  obtain ⟨wa, hwa⟩ : ∃ wa, wa = w.alloc (.cells #[.bool ip, .int .u32 a, .int .i64 n] 25) := ⟨_, rfl⟩
  rw [← hwa] at lA bA
  obtain ⟨K, hK⟩ : ∃ K, K = w.heap.size := ⟨_, rfl⟩
  rw [← hK] at lA
  have tK : Hid (∀ w', Below w.heap.size w w' → Tab w') := fun w' b => t.keep b
  have BX := Lib.hid bA
  have LD := Lib.hid lA
  clear lA bA t
  have WK : Hid (∀ w', Below w.heap.size w w' → _) := fun w' b => works_ok w' (tK.out w' b)
  have FD : Hid (∀ w', Below w.heap.size w w' → Calls Tryd.prog 13 #[.string ⟨#[112, 114, 111, 120, 121]⟩, tgV ip a n] w' fun e w'' => FldT w' w'' e cProxy ip a n) := fun w' b => flds_ok cProxy ip a n w' (tK.out w' b).p a0 a1
  have PS : Hid (∀ w' v l, Below w.heap.size w w' → FdsAt w' v l → l.length ≤ maxLen → Calls Tryd.prog 8 #[v] w' fun e w'' => Ans l e ∧ Below w'.heap.size w' w'') := fun w' v l b h hl => parse17_ok l v w' (tK.out w' b) h hl
  unfold tgV at FD ⊢
  go_enter Tryd.func6, Tryd.ntmps6
  go_upto_region 1 with fail
  rw [← hwa, ← hK]
  clear hwa
  replace hK := Lib.hid hK
  go_wp2_with fail
  refine (WK.out wa BX.out).mono ?_
  rintro e w1 ⟨rfl, b1⟩
  have B1 := Lib.hid (BX.out.trans (b1.mono BX.out.size))
  have L1 := LD.out.keep (by show 0 < 3; decide) b1
  have c0 := L1.cell 0 (v := .bool ip) rfl
  have c1 := L1.cell 1 (v := .int .u32 a) rfl
  have c2 := L1.cell 2 (v := .int .i64 n) rfl
  clear b1 BX LD WK L1
  go_wp2_with fail
  refine (FD.out w1 B1.out).mono ?_
  rintro e w2 (⟨hr, g, rfl, l2, hg, b2⟩ | ⟨hr, rfl, b2⟩)
  · have B2 := Lib.hid (B1.out.trans (b2.mono B1.out.size))
    clear b2 B1 FD c0 c1 c2 hg
    -- the tables
    have lC := Lies.new w2 [.string ⟨#[71, 69, 84]⟩, .string ⟨#[99, 111, 110, 110, 101, 99, 116, 45, 116, 99, 112]⟩, .string ⟨#[104, 116, 116, 112]⟩, .string ⟨#[]⟩, .string ⟨#[47]⟩, .string ⟨#[63, 48]⟩] 9
    have bC := bx w2 (.cells #[.string ⟨#[71, 69, 84]⟩, .string ⟨#[99, 111, 110, 110, 101, 99, 116, 45, 116, 99, 112]⟩, .string ⟨#[104, 116, 116, 112]⟩, .string ⟨#[]⟩, .string ⟨#[47]⟩, .string ⟨#[63, 48]⟩] 9)
    obtain ⟨w3, hw3⟩ : ∃ w3, w3 = w2.alloc (.cells #[.string ⟨#[71, 69, 84]⟩, .string ⟨#[99, 111, 110, 110, 101, 99, 116, 45, 116, 99, 112]⟩, .string ⟨#[104, 116, 116, 112]⟩, .string ⟨#[]⟩, .string ⟨#[47]⟩, .string ⟨#[63, 48]⟩] 9) := ⟨_, rfl⟩
    have lC' : Lies w3 w2.heap.size [.string ⟨#[71, 69, 84]⟩, .string ⟨#[99, 111, 110, 110, 101, 99, 116, 45, 116, 99, 112]⟩, .string ⟨#[104, 116, 116, 112]⟩, .string ⟨#[]⟩, .string ⟨#[47]⟩, .string ⟨#[63, 48]⟩] := by rw [hw3]; exact lC
    rw [← hw3] at bC
    have l3 := l2.keep (by show 0 < 12; decide) bC
    have B3 := B2.out.trans (bC.mono B2.out.size)
    have lD := Lies.new w3 [.int .i64 405, .int .i64 501, .int .i64 400, .int .i64 400, .int .i64 404, .int .i64 400] 3
    have bD := bx w3 (.cells #[.int .i64 405, .int .i64 501, .int .i64 400, .int .i64 400, .int .i64 404, .int .i64 400] 3)
    obtain ⟨w4, hw4⟩ : ∃ w4, w4 = w3.alloc (.cells #[.int .i64 405, .int .i64 501, .int .i64 400, .int .i64 400, .int .i64 404, .int .i64 400] 3) := ⟨_, rfl⟩
    have lD' : Lies w4 w3.heap.size [.int .i64 405, .int .i64 501, .int .i64 400, .int .i64 400, .int .i64 404, .int .i64 400] := by rw [hw4]; exact lD
    rw [← hw4] at bD
    have l4 := l3.keep (by show 0 < 12; decide) bD
    have C4 := lC'.keep (by show 0 < 6; decide) bD
    have B4 := B3.trans (bD.mono B3.size)
    obtain ⟨CB, hCB⟩ : ∃ CB, CB = w2.heap.size := ⟨_, rfl⟩
    obtain ⟨DB, hDB⟩ : ∃ DB, DB = w3.heap.size := ⟨_, rfl⟩
    rw [← hCB] at C4
    rw [← hDB] at lD'
    replace hCB := Lib.hid hCB
    replace hDB := Lib.hid hDB
    replace hw4 := Lib.hid hw4
    have F4 := Flds0 (l := fld6 cProxy ip a n) rfl l4
    obtain ⟨v5, w5, hap, o5, n5, b5⟩ := copy_fds w4 F4 (by show 6 * 32 ≤ _; decide) 22
    obtain ⟨gm, cm, rfl, hgm, l5⟩ := o5.lies n5
    have G5 := Lib.hid (l4.keep (by show 0 < 12; decide) b5)
    have D5 := Lib.hid (lD'.keep (by show 0 < 6; decide) b5)
    have C5 := C4.keep (by show 0 < 6; decide) b5
    have B5 := Lib.hid (B4.trans (b5.mono B4.size))
    have gm0 : Hid (w.heap.size ≤ gm) := Nat.le_trans B4.size hgm
    have gmD : Hid (DB < gm ∧ g < gm) := ⟨Nat.lt_of_lt_of_le (lD'.lt (by show 0 < 6; decide)) hgm, Nat.lt_of_lt_of_le (l4.lt (by show 0 < 12; decide)) hgm⟩
    replace hap : Hid (∀ z, (builtin .append #[22, 22] 22 z #[.slice (some ⟨w4.heap.size, 0, none⟩) 0 0, .slice (some ⟨g, 0, none⟩) 6 6]).run Tryd.prog (w4.alloc (.cells #[] 35)) = .ok (.value (.slice (some ⟨gm, 0, none⟩) 6 cm)) w5) := hap
    have cc := C5.cell 2 (v := .string ⟨#[104, 116, 116, 112]⟩) rfl
    have mc := l5.cell 5 (v := .string (strL ((fld6 cProxy ip a n).getD 2 nF).2)) rfl
    have mf := l5.free 5 (by show 5 < 12; decide)
    have l6 := l5.put 5 (by show 5 < 12; decide) (.string ⟨#[104, 116, 116, 112]⟩)
    have B6 := B5.out.setCell (p := ⟨gm, 5, none⟩) gm0.out (.string ⟨#[104, 116, 116, 112]⟩)
    have G6 := G5.out.of_block (w' := w5.setCell ⟨gm, 5, none⟩ (.string ⟨#[104, 116, 116, 112]⟩)) (Below.heap_setCell _ _ _ _ (by show g ≠ gm; have := gmD.out; omega))
    have D6 := D5.out.of_block (w' := w5.setCell ⟨gm, 5, none⟩ (.string ⟨#[104, 116, 116, 112]⟩)) (Below.heap_setCell _ _ _ _ (by show DB ≠ gm; have := gmD.out; omega))
    have F6 : FdsAt (w5.setCell ⟨gm, 5, none⟩ (.string ⟨#[104, 116, 116, 112]⟩)) (.slice (some ⟨gm, 0, none⟩) 6 cm) ((fld6 cProxy ip a n).set 2 (nSchm, [104, 116, 116, 112])) := fds_sub (i := 0) (l := (fld6 cProxy ip a n).set 2 (nSchm, [104, 116, 116, 112])) l6 6 cm (by show 0 + 6 ≤ 6; decide)
    obtain ⟨w6, hw6⟩ : ∃ w6, w6 = w5.setCell ⟨gm, 5, none⟩ (.string ⟨#[104, 116, 116, 112]⟩) := ⟨_, rfl⟩
    rw [← hw6] at B6 G6 D6 F6
    replace hw6 := Lib.hid hw6
    replace B6 := Lib.hid B6
    replace G6 := Lib.hid G6
    replace D6 := Lib.hid D6
    replace F6 := Lib.hid F6
    generalize strL ((fld6 cProxy ip a n).getD 2 nF).2 = OLD at *
    clear lC lC' bC lD lD' bD l2 l3 l4 l5 l6 B2 B3 B4 o5 n5 b5 F4 C4 C5 G5 D5 B5 hgm gm0 gmD
    go_upto_region 7 with fail
    rw [← hw3, ← hCB.out]
    clear hw3
    go_upto_region 8 with fail
    rw [← hw4.out, ← hDB.out]
    clear hw4
    go_upto_region 10 with (refine obB2L _ rfl .append _ _ 22 22 rfl (.slice (some ⟨w4.heap.size, 0, none⟩) 0 0) (.slice (some ⟨g, 0, none⟩) 6 6) rfl rfl hap.out ?_)
    clear hap
    go_upto_region 11 with fail
    rw [← hw6.out]
    clear hw6 cc mc mf
    go_wp2_with fail
    refine (PS.out w6 _ _ B6.out F6.out (by show 6 ≤ _; decide)).mono ?_
    rintro e w7 ⟨⟨ip', b, m', st, hA, rfl⟩, b7⟩
    obtain ⟨rfl, rfl, rfl, rfl⟩ := chg2 ip a n a0 a1 hA
    have B7 := B6.out.trans (b7.mono B6.out.size)
    have G7 := G6.out.keep (by show 0 < 12; decide) b7
    have D7 := D6.out.keep (by show 0 < 6; decide) b7
    clear hA b7 B6 G6 D6 F6
    have lX := Lies.new w7 [.bool false, .int .u32 0, .int .i64 0] 25
    have bX := bx w7 (.cells #[.bool false, .int .u32 0, .int .i64 0] 25)
    obtain ⟨w9, hw9⟩ : ∃ w9, w9 = w7.alloc (.cells #[.bool false, .int .u32 0, .int .i64 0] 25) := ⟨_, rfl⟩
    have lX' : Lies w9 w7.heap.size [.bool false, .int .u32 0, .int .i64 0] := by rw [hw9]; exact lX
    rw [← hw9] at bX
    have B9 := Lib.hid (B7.trans (bX.mono B7.size))
    have G9 := Lib.hid (G7.keep (by show 0 < 12; decide) bX)
    have DD9 := Lib.hid (D7.keep (by show 0 < 6; decide) bX)
    obtain ⟨XB, hXB⟩ : ∃ XB, XB = w7.heap.size := ⟨_, rfl⟩
    rw [← hXB] at lX'
    have XX9 := Lib.hid lX'
    clear lX lX' bX B7 G7 D7
    unfold tgV
    go_upto_region 12 with fail
    rw [← hw9, ← hXB]
    clear hw9
    replace hXB := Lib.hid hXB
    refine wp_region_held (S := fun _ => True) (by kernel_rfl) ?_
    change wpAnyH _ .any _ _ _ 11 (Array.replicate 11 false) _ w9.drew
    have dr : Below w9.heap.size w9 w9.drew := ⟨rfl, rfl, rfl, Nat.le_refl _, fun _ _ => rfl⟩
    have Q9 := G9.out.keep (by show 0 < 12; decide) dr
    have B9d := B9.out.trans (dr.mono B9.out.size)
    have X9 := XX9.out.keep (by show 0 < 3; decide) dr
    have D9 := DD9.out.keep (by show 0 < 6; decide) dr
    clear dr
    generalize w9.drew = wd at *
    obtain ⟨vA, wA, hapA, oA, nA, bA⟩ := copy_fds wd (fds_sub Q9 0 2 6 (by show 0 + 2 ≤ 6; decide)) (by show _ * 32 ≤ _; simp [fld6]) 22
    obtain ⟨vB, wB, hapB, oB, nB, gB⟩ := oA.cat nA (Nat.le_trans (Nat.le_refl _) bA.size) ((fds_sub Q9 3 3 3 (by show 3 + 3 ≤ 6; decide)).keep bA) (by simp [fld6]) 22
    have bB : Below wd.heap.size wd wB := bA.grown gB bA.size fun k hk => (oA.lt k hk).1
    obtain ⟨aA, cA, rfl⟩ := oA.form
    obtain ⟨aB, cB, rfl⟩ := oB.form
    have B10 := Lib.hid (B9d.trans (bB.mono B9d.size))
    have X10 := Lib.hid (X9.keep (by show 0 < 3; decide) bB)
    have D10 := Lib.hid (D9.keep (by show 0 < 6; decide) bB)
    have F10 := oB.fds
    clear oA oB nA nB gB bA bB Q9 B9d X9 D9
    refine obTakeH (i := 1) (d := 48) (v := .slice (some ⟨g, 0, none⟩) 6 6) rfl rfl (by kernel_rfl) (by kernel_rfl) (by kernel_rfl) (fun _ _ _ h => h) rfl (fun w _ => by go_simp) trivial ?_
    refine obTakeH (i := 2) (d := 49) (v := .int .i64 2) rfl rfl (by kernel_rfl) (by kernel_rfl) (by kernel_rfl) (fun _ _ _ h => h) rfl (fun w _ => by go_simp) trivial ?_
    refine obTakeH (i := 3) (d := 50) (v := .slice (some ⟨g, 0, none⟩) 2 6) rfl rfl (by kernel_rfl) (by kernel_rfl) (by kernel_rfl) (fun _ _ _ h => h) rfl (fun w _ => by go_simp) trivial ?_
    try simp only [Act.put, List.setIfInBounds_toArray, List.set_cons_succ, List.set_cons_zero]
    refine obTakeH (i := 5) (d := 52) (v := .slice (some ⟨g, 0, none⟩) 6 6) rfl rfl (by kernel_rfl) (by kernel_rfl) (by kernel_rfl) (fun _ _ _ h => h) rfl (fun w _ => by go_simp) trivial ?_
    refine obTakeH (i := 6) (d := 53) (v := .int .i64 2) rfl rfl (by kernel_rfl) (by kernel_rfl) (by kernel_rfl) (fun _ _ _ h => h) rfl (fun w _ => by go_simp) trivial ?_
    refine obTakeH (i := 7) (d := 54) (v := .int .i64 3) rfl rfl (by kernel_rfl) (by kernel_rfl) (by kernel_rfl) (fun _ _ _ h => h) rfl (fun w _ => by go_simp; rfl) trivial ?_
    refine obTakeH (i := 8) (d := 55) (v := .slice (some ⟨g, 6, none⟩) 3 3) rfl rfl (by kernel_rfl) (by kernel_rfl) (by kernel_rfl) (fun _ _ _ h => h) rfl (fun w _ => by go_simp) trivial ?_
    try simp only [Act.put, List.setIfInBounds_toArray, List.set_cons_succ, List.set_cons_zero]
    refine wpAnyH_all (rs := [0]) (by kernel_rfl) (by simp) (fun y hy => ?_)
    obtain rfl : y = 0 := by simpa using hy
    clear hy
    refine wpOp_step rfl (fun K' hK => ?_)
    go_simp
    refine hK _ _ ⟨trivial, ?_⟩
    clear hK K'
    try simp only [Act.put]
    refine wpAnyH_all (rs := [4]) (by kernel_rfl) (by simp) (fun y hy => ?_)
    obtain rfl : y = 4 := by simpa using hy
    clear hy
    refine wpOp_step rfl (fun K' hK => ?_)
    refine obB2 _ .append _ _ 22 22 rfl (.slice (some ⟨wd.heap.size, 0, none⟩) 0 0) (.slice (some ⟨g, 0, none⟩) 2 6) rfl rfl hapA ?_
    refine hK _ _ ⟨trivial, ?_⟩
    clear hK K'
    try simp only [Act.put]
    refine wpAnyH_all (rs := [9]) (by kernel_rfl) (by simp) (fun y hy => ?_)
    obtain rfl : y = 9 := by simpa using hy
    clear hy
    refine wpOp_step rfl (fun K' hK => ?_)
    refine obB2 _ .append _ _ 22 22 rfl _ (.slice (some ⟨g, 6, none⟩) 3 3) rfl rfl hapB ?_
    refine hK _ _ ⟨trivial, ?_⟩
    clear hK K'
    try simp only [Act.put]
    obtain ⟨NB, hNB⟩ : ∃ NB, NB = (List.take 2 (List.drop 0 (fld6 cProxy ip a n)) ++ List.take 3 (List.drop 3 (fld6 cProxy ip a n))).length := ⟨_, rfl⟩
    rw [← hNB] at F10
    refine obTakeH (i := 10) (d := 12) (v := .slice aB NB cB) rfl rfl (by kernel_rfl) (by kernel_rfl) (by kernel_rfl) (fun _ _ _ h => h) rfl (fun w _ => by rw [hNB]; go_simp) trivial ?_
    try simp only [Act.put]
    refine wpAnyH_done (by kernel_rfl) ?_ 0
    clear hapA hapB
    replace hNB := Lib.hid hNB
    replace F10 := Lib.hid F10
    go_wp2_with fail
    refine (PS.out wB _ _ B10.out (by have := F10.out; rwa [hNB.out] at this ⊢) (by simp [fld6, maxLen])).mono ?_
    rintro e w11 ⟨⟨ip', b, m', st, hA, rfl⟩, b11⟩
    obtain rfl := mis2 ip a n hA
    have B11 := B10.out.trans (b11.mono B10.out.size)
    have X11 := X10.out.keep (by show 0 < 3; decide) b11
    have D11 := D10.out.keep (by show 0 < 6; decide) b11
    clear hA b11 B10 X10 D10 F10 hNB PS
    have bY := bx w11 (.cells #[.bool ip', .int .u32 b, .int .i64 m'] 25)
    obtain ⟨w12, hw12⟩ : ∃ w12, w12 = w11.alloc (.cells #[.bool ip', .int .u32 b, .int .i64 m'] 25) := ⟨_, rfl⟩
    rw [← hw12] at bY
    have B12 := Lib.hid (B11.trans (bY.mono B11.size))
    have X12 := X11.keep (by show 0 < 3; decide) bY
    have D12 := D11.keep (by show 0 < 6; decide) bY
    have x0 := X12.cell 0 (v := .bool false) rfl
    have x1 := X12.cell 1 (v := .int .u32 0) rfl
    have x2 := X12.cell 2 (v := .int .i64 0) rfl
    have y0 := D12.cell 2 (v := .int .i64 400) rfl
    clear bY B11 X11 D11 X12 D12
    unfold tgV
    go_upto_region 14 with fail
    rw [← hw12]
    clear hw12
    go_wp2_with fail
    go_ret
    exact ⟨rfl, B12.out⟩
  · have B2 := Lib.hid (B1.out.trans (b2.mono B1.out.size))
    clear b2 B1 FD c0 c1 c2
    go_wp2_with fail
    go_ret
    exact ⟨rfl, B2.out⟩
set_option maxHeartbeats 16000000 in
theorem stat3 (ip : Bool) (a n x : Int) (w : World) (t : Tab w) (a0 : 0 ≤ a) (a1 : a < 4294967296) (_ : wrap64 ((IntKind.u64.wrap x).tmod 6) = 3) (i2 : IntKind.i64.wrap ((IntKind.u64.wrap x).tmod 6) = 3) :
    Calls Tryd.prog 6 #[tgV ip a n, .int .i64 x] w fun e w' => e = .returned (.bool true) ∧ Below w.heap.size w w' := by
  have lA := tbox w ip a n
  have bA := bx w (.cells #[.bool ip, .int .u32 a, .int .i64 n] 25)
  obtain ⟨wa, hwa⟩ : ∃ wa, wa = w.alloc (.cells #[.bool ip, .int .u32 a, .int .i64 n] 25) := ⟨_, rfl⟩
  rw [← hwa] at lA bA
  obtain ⟨K, hK⟩ : ∃ K, K = w.heap.size := ⟨_, rfl⟩
  rw [← hK] at lA
  have tK : Hid (∀ w', Below w.heap.size w w' → Tab w') := fun w' b => t.keep b
  have BX := Lib.hid bA
  have LD := Lib.hid lA
  clear lA bA t
  have WK : Hid (∀ w', Below w.heap.size w w' → _) := fun w' b => works_ok w' (tK.out w' b)
  have FD : Hid (∀ w', Below w.heap.size w w' → Calls Tryd.prog 13 #[.string ⟨#[112, 114, 111, 120, 121]⟩, tgV ip a n] w' fun e w'' => FldT w' w'' e cProxy ip a n) := fun w' b => flds_ok cProxy ip a n w' (tK.out w' b).p a0 a1
  have PS : Hid (∀ w' v l, Below w.heap.size w w' → FdsAt w' v l → l.length ≤ maxLen → Calls Tryd.prog 8 #[v] w' fun e w'' => Ans l e ∧ Below w'.heap.size w' w'') := fun w' v l b h hl => parse17_ok l v w' (tK.out w' b) h hl
  unfold tgV at FD ⊢
  go_enter Tryd.func6, Tryd.ntmps6
  go_upto_region 1 with fail
  rw [← hwa, ← hK]
  clear hwa
  replace hK := Lib.hid hK
  go_wp2_with fail
  refine (WK.out wa BX.out).mono ?_
  rintro e w1 ⟨rfl, b1⟩
  have B1 := Lib.hid (BX.out.trans (b1.mono BX.out.size))
  have L1 := LD.out.keep (by show 0 < 3; decide) b1
  have c0 := L1.cell 0 (v := .bool ip) rfl
  have c1 := L1.cell 1 (v := .int .u32 a) rfl
  have c2 := L1.cell 2 (v := .int .i64 n) rfl
  clear b1 BX LD WK L1
  go_wp2_with fail
  refine (FD.out w1 B1.out).mono ?_
  rintro e w2 (⟨hr, g, rfl, l2, hg, b2⟩ | ⟨hr, rfl, b2⟩)
  · have B2 := Lib.hid (B1.out.trans (b2.mono B1.out.size))
    clear b2 B1 FD c0 c1 c2 hg
    -- the tables
    have lC := Lies.new w2 [.string ⟨#[71, 69, 84]⟩, .string ⟨#[99, 111, 110, 110, 101, 99, 116, 45, 116, 99, 112]⟩, .string ⟨#[104, 116, 116, 112]⟩, .string ⟨#[]⟩, .string ⟨#[47]⟩, .string ⟨#[63, 48]⟩] 9
    have bC := bx w2 (.cells #[.string ⟨#[71, 69, 84]⟩, .string ⟨#[99, 111, 110, 110, 101, 99, 116, 45, 116, 99, 112]⟩, .string ⟨#[104, 116, 116, 112]⟩, .string ⟨#[]⟩, .string ⟨#[47]⟩, .string ⟨#[63, 48]⟩] 9)
    obtain ⟨w3, hw3⟩ : ∃ w3, w3 = w2.alloc (.cells #[.string ⟨#[71, 69, 84]⟩, .string ⟨#[99, 111, 110, 110, 101, 99, 116, 45, 116, 99, 112]⟩, .string ⟨#[104, 116, 116, 112]⟩, .string ⟨#[]⟩, .string ⟨#[47]⟩, .string ⟨#[63, 48]⟩] 9) := ⟨_, rfl⟩
    have lC' : Lies w3 w2.heap.size [.string ⟨#[71, 69, 84]⟩, .string ⟨#[99, 111, 110, 110, 101, 99, 116, 45, 116, 99, 112]⟩, .string ⟨#[104, 116, 116, 112]⟩, .string ⟨#[]⟩, .string ⟨#[47]⟩, .string ⟨#[63, 48]⟩] := by rw [hw3]; exact lC
    rw [← hw3] at bC
    have l3 := l2.keep (by show 0 < 12; decide) bC
    have B3 := B2.out.trans (bC.mono B2.out.size)
    have lD := Lies.new w3 [.int .i64 405, .int .i64 501, .int .i64 400, .int .i64 400, .int .i64 404, .int .i64 400] 3
    have bD := bx w3 (.cells #[.int .i64 405, .int .i64 501, .int .i64 400, .int .i64 400, .int .i64 404, .int .i64 400] 3)
    obtain ⟨w4, hw4⟩ : ∃ w4, w4 = w3.alloc (.cells #[.int .i64 405, .int .i64 501, .int .i64 400, .int .i64 400, .int .i64 404, .int .i64 400] 3) := ⟨_, rfl⟩
    have lD' : Lies w4 w3.heap.size [.int .i64 405, .int .i64 501, .int .i64 400, .int .i64 400, .int .i64 404, .int .i64 400] := by rw [hw4]; exact lD
    rw [← hw4] at bD
    have l4 := l3.keep (by show 0 < 12; decide) bD
    have C4 := lC'.keep (by show 0 < 6; decide) bD
    have B4 := B3.trans (bD.mono B3.size)
    obtain ⟨CB, hCB⟩ : ∃ CB, CB = w2.heap.size := ⟨_, rfl⟩
    obtain ⟨DB, hDB⟩ : ∃ DB, DB = w3.heap.size := ⟨_, rfl⟩
    rw [← hCB] at C4
    rw [← hDB] at lD'
    replace hCB := Lib.hid hCB
    replace hDB := Lib.hid hDB
    replace hw4 := Lib.hid hw4
    have F4 := Flds0 (l := fld6 cProxy ip a n) rfl l4
    obtain ⟨v5, w5, hap, o5, n5, b5⟩ := copy_fds w4 F4 (by show 6 * 32 ≤ _; decide) 22
    obtain ⟨gm, cm, rfl, hgm, l5⟩ := o5.lies n5
    have G5 := Lib.hid (l4.keep (by show 0 < 12; decide) b5)
    have D5 := Lib.hid (lD'.keep (by show 0 < 6; decide) b5)
    have C5 := C4.keep (by show 0 < 6; decide) b5
    have B5 := Lib.hid (B4.trans (b5.mono B4.size))
    have gm0 : Hid (w.heap.size ≤ gm) := Nat.le_trans B4.size hgm
    have gmD : Hid (DB < gm ∧ g < gm) := ⟨Nat.lt_of_lt_of_le (lD'.lt (by show 0 < 6; decide)) hgm, Nat.lt_of_lt_of_le (l4.lt (by show 0 < 12; decide)) hgm⟩
    replace hap : Hid (∀ z, (builtin .append #[22, 22] 22 z #[.slice (some ⟨w4.heap.size, 0, none⟩) 0 0, .slice (some ⟨g, 0, none⟩) 6 6]).run Tryd.prog (w4.alloc (.cells #[] 35)) = .ok (.value (.slice (some ⟨gm, 0, none⟩) 6 cm)) w5) := hap
    have cc := C5.cell 3 (v := .string ⟨#[]⟩) rfl
    have mc := l5.cell 7 (v := .string (strL ((fld6 cProxy ip a n).getD 3 nF).2)) rfl
    have mf := l5.free 7 (by show 7 < 12; decide)
    have l6 := l5.put 7 (by show 7 < 12; decide) (.string ⟨#[]⟩)
    have B6 := B5.out.setCell (p := ⟨gm, 7, none⟩) gm0.out (.string ⟨#[]⟩)
    have G6 := G5.out.of_block (w' := w5.setCell ⟨gm, 7, none⟩ (.string ⟨#[]⟩)) (Below.heap_setCell _ _ _ _ (by show g ≠ gm; have := gmD.out; omega))
    have D6 := D5.out.of_block (w' := w5.setCell ⟨gm, 7, none⟩ (.string ⟨#[]⟩)) (Below.heap_setCell _ _ _ _ (by show DB ≠ gm; have := gmD.out; omega))
    have F6 : FdsAt (w5.setCell ⟨gm, 7, none⟩ (.string ⟨#[]⟩)) (.slice (some ⟨gm, 0, none⟩) 6 cm) ((fld6 cProxy ip a n).set 3 (nAuth, [])) := fds_sub (i := 0) (l := (fld6 cProxy ip a n).set 3 (nAuth, [])) l6 6 cm (by show 0 + 6 ≤ 6; decide)
    obtain ⟨w6, hw6⟩ : ∃ w6, w6 = w5.setCell ⟨gm, 7, none⟩ (.string ⟨#[]⟩) := ⟨_, rfl⟩
    rw [← hw6] at B6 G6 D6 F6
    replace hw6 := Lib.hid hw6
    replace B6 := Lib.hid B6
    replace G6 := Lib.hid G6
    replace D6 := Lib.hid D6
    replace F6 := Lib.hid F6
    generalize strL ((fld6 cProxy ip a n).getD 3 nF).2 = OLD at *
    clear lC lC' bC lD lD' bD l2 l3 l4 l5 l6 B2 B3 B4 o5 n5 b5 F4 C4 C5 G5 D5 B5 hgm gm0 gmD
    go_upto_region 7 with fail
    rw [← hw3, ← hCB.out]
    clear hw3
    go_upto_region 8 with fail
    rw [← hw4.out, ← hDB.out]
    clear hw4
    go_upto_region 10 with (refine obB2L _ rfl .append _ _ 22 22 rfl (.slice (some ⟨w4.heap.size, 0, none⟩) 0 0) (.slice (some ⟨g, 0, none⟩) 6 6) rfl rfl hap.out ?_)
    clear hap
    go_upto_region 11 with fail
    rw [← hw6.out]
    clear hw6 cc mc mf
    go_wp2_with fail
    refine (PS.out w6 _ _ B6.out F6.out (by show 6 ≤ _; decide)).mono ?_
    rintro e w7 ⟨⟨ip', b, m', st, hA, rfl⟩, b7⟩
    obtain ⟨rfl, rfl, rfl, rfl⟩ := chg3 ip a n a0 a1 hA
    have B7 := B6.out.trans (b7.mono B6.out.size)
    have G7 := G6.out.keep (by show 0 < 12; decide) b7
    have D7 := D6.out.keep (by show 0 < 6; decide) b7
    clear hA b7 B6 G6 D6 F6
    have lX := Lies.new w7 [.bool false, .int .u32 0, .int .i64 0] 25
    have bX := bx w7 (.cells #[.bool false, .int .u32 0, .int .i64 0] 25)
    obtain ⟨w9, hw9⟩ : ∃ w9, w9 = w7.alloc (.cells #[.bool false, .int .u32 0, .int .i64 0] 25) := ⟨_, rfl⟩
    have lX' : Lies w9 w7.heap.size [.bool false, .int .u32 0, .int .i64 0] := by rw [hw9]; exact lX
    rw [← hw9] at bX
    have B9 := Lib.hid (B7.trans (bX.mono B7.size))
    have G9 := Lib.hid (G7.keep (by show 0 < 12; decide) bX)
    have DD9 := Lib.hid (D7.keep (by show 0 < 6; decide) bX)
    obtain ⟨XB, hXB⟩ : ∃ XB, XB = w7.heap.size := ⟨_, rfl⟩
    rw [← hXB] at lX'
    have XX9 := Lib.hid lX'
    clear lX lX' bX B7 G7 D7
    unfold tgV
    go_upto_region 12 with fail
    rw [← hw9, ← hXB]
    clear hw9
    replace hXB := Lib.hid hXB
    refine wp_region_held (S := fun _ => True) (by kernel_rfl) ?_
    change wpAnyH _ .any _ _ _ 11 (Array.replicate 11 false) _ w9.drew
    have dr : Below w9.heap.size w9 w9.drew := ⟨rfl, rfl, rfl, Nat.le_refl _, fun _ _ => rfl⟩
    have Q9 := G9.out.keep (by show 0 < 12; decide) dr
    have B9d := B9.out.trans (dr.mono B9.out.size)
    have X9 := XX9.out.keep (by show 0 < 3; decide) dr
    have D9 := DD9.out.keep (by show 0 < 6; decide) dr
    clear dr
    generalize w9.drew = wd at *
    obtain ⟨vA, wA, hapA, oA, nA, bA⟩ := copy_fds wd (fds_sub Q9 0 3 6 (by show 0 + 3 ≤ 6; decide)) (by show _ * 32 ≤ _; simp [fld6]) 22
    obtain ⟨vB, wB, hapB, oB, nB, gB⟩ := oA.cat nA (Nat.le_trans (Nat.le_refl _) bA.size) ((fds_sub Q9 4 2 2 (by show 4 + 2 ≤ 6; decide)).keep bA) (by simp [fld6]) 22
    have bB : Below wd.heap.size wd wB := bA.grown gB bA.size fun k hk => (oA.lt k hk).1
    obtain ⟨aA, cA, rfl⟩ := oA.form
    obtain ⟨aB, cB, rfl⟩ := oB.form
    have B10 := Lib.hid (B9d.trans (bB.mono B9d.size))
    have X10 := Lib.hid (X9.keep (by show 0 < 3; decide) bB)
    have D10 := Lib.hid (D9.keep (by show 0 < 6; decide) bB)
    have F10 := oB.fds
    clear oA oB nA nB gB bA bB Q9 B9d X9 D9
    refine obTakeH (i := 1) (d := 48) (v := .slice (some ⟨g, 0, none⟩) 6 6) rfl rfl (by kernel_rfl) (by kernel_rfl) (by kernel_rfl) (fun _ _ _ h => h) rfl (fun w _ => by go_simp) trivial ?_
    refine obTakeH (i := 2) (d := 49) (v := .int .i64 3) rfl rfl (by kernel_rfl) (by kernel_rfl) (by kernel_rfl) (fun _ _ _ h => h) rfl (fun w _ => by go_simp) trivial ?_
    refine obTakeH (i := 3) (d := 50) (v := .slice (some ⟨g, 0, none⟩) 3 6) rfl rfl (by kernel_rfl) (by kernel_rfl) (by kernel_rfl) (fun _ _ _ h => h) rfl (fun w _ => by go_simp) trivial ?_
    try simp only [Act.put, List.setIfInBounds_toArray, List.set_cons_succ, List.set_cons_zero]
    refine obTakeH (i := 5) (d := 52) (v := .slice (some ⟨g, 0, none⟩) 6 6) rfl rfl (by kernel_rfl) (by kernel_rfl) (by kernel_rfl) (fun _ _ _ h => h) rfl (fun w _ => by go_simp) trivial ?_
    refine obTakeH (i := 6) (d := 53) (v := .int .i64 3) rfl rfl (by kernel_rfl) (by kernel_rfl) (by kernel_rfl) (fun _ _ _ h => h) rfl (fun w _ => by go_simp) trivial ?_
    refine obTakeH (i := 7) (d := 54) (v := .int .i64 4) rfl rfl (by kernel_rfl) (by kernel_rfl) (by kernel_rfl) (fun _ _ _ h => h) rfl (fun w _ => by go_simp; rfl) trivial ?_
    refine obTakeH (i := 8) (d := 55) (v := .slice (some ⟨g, 8, none⟩) 2 2) rfl rfl (by kernel_rfl) (by kernel_rfl) (by kernel_rfl) (fun _ _ _ h => h) rfl (fun w _ => by go_simp) trivial ?_
    try simp only [Act.put, List.setIfInBounds_toArray, List.set_cons_succ, List.set_cons_zero]
    refine wpAnyH_all (rs := [0]) (by kernel_rfl) (by simp) (fun y hy => ?_)
    obtain rfl : y = 0 := by simpa using hy
    clear hy
    refine wpOp_step rfl (fun K' hK => ?_)
    go_simp
    refine hK _ _ ⟨trivial, ?_⟩
    clear hK K'
    try simp only [Act.put]
    refine wpAnyH_all (rs := [4]) (by kernel_rfl) (by simp) (fun y hy => ?_)
    obtain rfl : y = 4 := by simpa using hy
    clear hy
    refine wpOp_step rfl (fun K' hK => ?_)
    refine obB2 _ .append _ _ 22 22 rfl (.slice (some ⟨wd.heap.size, 0, none⟩) 0 0) (.slice (some ⟨g, 0, none⟩) 3 6) rfl rfl hapA ?_
    refine hK _ _ ⟨trivial, ?_⟩
    clear hK K'
    try simp only [Act.put]
    refine wpAnyH_all (rs := [9]) (by kernel_rfl) (by simp) (fun y hy => ?_)
    obtain rfl : y = 9 := by simpa using hy
    clear hy
    refine wpOp_step rfl (fun K' hK => ?_)
    refine obB2 _ .append _ _ 22 22 rfl _ (.slice (some ⟨g, 8, none⟩) 2 2) rfl rfl hapB ?_
    refine hK _ _ ⟨trivial, ?_⟩
    clear hK K'
    try simp only [Act.put]
    obtain ⟨NB, hNB⟩ : ∃ NB, NB = (List.take 3 (List.drop 0 (fld6 cProxy ip a n)) ++ List.take 2 (List.drop 4 (fld6 cProxy ip a n))).length := ⟨_, rfl⟩
    rw [← hNB] at F10
    refine obTakeH (i := 10) (d := 12) (v := .slice aB NB cB) rfl rfl (by kernel_rfl) (by kernel_rfl) (by kernel_rfl) (fun _ _ _ h => h) rfl (fun w _ => by rw [hNB]; go_simp) trivial ?_
    try simp only [Act.put]
    refine wpAnyH_done (by kernel_rfl) ?_ 0
    clear hapA hapB
    replace hNB := Lib.hid hNB
    replace F10 := Lib.hid F10
    go_wp2_with fail
    refine (PS.out wB _ _ B10.out (by have := F10.out; rwa [hNB.out] at this ⊢) (by simp [fld6, maxLen])).mono ?_
    rintro e w11 ⟨⟨ip', b, m', st, hA, rfl⟩, b11⟩
    obtain rfl := mis3 ip a n hA
    have B11 := B10.out.trans (b11.mono B10.out.size)
    have X11 := X10.out.keep (by show 0 < 3; decide) b11
    have D11 := D10.out.keep (by show 0 < 6; decide) b11
    clear hA b11 B10 X10 D10 F10 hNB PS
    have bY := bx w11 (.cells #[.bool ip', .int .u32 b, .int .i64 m'] 25)
    obtain ⟨w12, hw12⟩ : ∃ w12, w12 = w11.alloc (.cells #[.bool ip', .int .u32 b, .int .i64 m'] 25) := ⟨_, rfl⟩
    rw [← hw12] at bY
    have B12 := Lib.hid (B11.trans (bY.mono B11.size))
    have X12 := X11.keep (by show 0 < 3; decide) bY
    have D12 := D11.keep (by show 0 < 6; decide) bY
    have x0 := X12.cell 0 (v := .bool false) rfl
    have x1 := X12.cell 1 (v := .int .u32 0) rfl
    have x2 := X12.cell 2 (v := .int .i64 0) rfl
    have y0 := D12.cell 3 (v := .int .i64 400) rfl
    clear bY B11 X11 D11 X12 D12
    unfold tgV
    go_upto_region 14 with fail
    rw [← hw12]
    clear hw12
    go_wp2_with fail
    go_ret
    exact ⟨rfl, B12.out⟩
  · have B2 := Lib.hid (B1.out.trans (b2.mono B1.out.size))
    clear b2 B1 FD c0 c1 c2
    go_wp2_with fail
    go_ret
    exact ⟨rfl, B2.out⟩
set_option maxHeartbeats 16000000 in
theorem stat4 (ip : Bool) (a n x : Int) (w : World) (t : Tab w) (a0 : 0 ≤ a) (a1 : a < 4294967296) (_ : wrap64 ((IntKind.u64.wrap x).tmod 6) = 4) (i2 : IntKind.i64.wrap ((IntKind.u64.wrap x).tmod 6) = 4) :
    Calls Tryd.prog 6 #[tgV ip a n, .int .i64 x] w fun e w' => e = .returned (.bool true) ∧ Below w.heap.size w w' := by
  have lA := tbox w ip a n
  have bA := bx w (.cells #[.bool ip, .int .u32 a, .int .i64 n] 25)
  obtain ⟨wa, hwa⟩ : ∃ wa, wa = w.alloc (.cells #[.bool ip, .int .u32 a, .int .i64 n] 25) := ⟨_, rfl⟩
  rw [← hwa] at lA bA
  obtain ⟨K, hK⟩ : ∃ K, K = w.heap.size := ⟨_, rfl⟩
  rw [← hK] at lA
  have tK : Hid (∀ w', Below w.heap.size w w' → Tab w') := fun w' b => t.keep b
  have BX := Lib.hid bA
  have LD := Lib.hid lA
  clear lA bA t
  have WK : Hid (∀ w', Below w.heap.size w w' → _) := fun w' b => works_ok w' (tK.out w' b)
  have FD : Hid (∀ w', Below w.heap.size w w' → Calls Tryd.prog 13 #[.string ⟨#[112, 114, 111, 120, 121]⟩, tgV ip a n] w' fun e w'' => FldT w' w'' e cProxy ip a n) := fun w' b => flds_ok cProxy ip a n w' (tK.out w' b).p a0 a1
  have PS : Hid (∀ w' v l, Below w.heap.size w w' → FdsAt w' v l → l.length ≤ maxLen → Calls Tryd.prog 8 #[v] w' fun e w'' => Ans l e ∧ Below w'.heap.size w' w'') := fun w' v l b h hl => parse17_ok l v w' (tK.out w' b) h hl
  unfold tgV at FD ⊢
  go_enter Tryd.func6, Tryd.ntmps6
  go_upto_region 1 with fail
  rw [← hwa, ← hK]
  clear hwa
  replace hK := Lib.hid hK
  go_wp2_with fail
  refine (WK.out wa BX.out).mono ?_
  rintro e w1 ⟨rfl, b1⟩
  have B1 := Lib.hid (BX.out.trans (b1.mono BX.out.size))
  have L1 := LD.out.keep (by show 0 < 3; decide) b1
  have c0 := L1.cell 0 (v := .bool ip) rfl
  have c1 := L1.cell 1 (v := .int .u32 a) rfl
  have c2 := L1.cell 2 (v := .int .i64 n) rfl
  clear b1 BX LD WK L1
  go_wp2_with fail
  refine (FD.out w1 B1.out).mono ?_
  rintro e w2 (⟨hr, g, rfl, l2, hg, b2⟩ | ⟨hr, rfl, b2⟩)
  · have B2 := Lib.hid (B1.out.trans (b2.mono B1.out.size))
    clear b2 B1 FD c0 c1 c2 hg
    -- the tables
    have lC := Lies.new w2 [.string ⟨#[71, 69, 84]⟩, .string ⟨#[99, 111, 110, 110, 101, 99, 116, 45, 116, 99, 112]⟩, .string ⟨#[104, 116, 116, 112]⟩, .string ⟨#[]⟩, .string ⟨#[47]⟩, .string ⟨#[63, 48]⟩] 9
    have bC := bx w2 (.cells #[.string ⟨#[71, 69, 84]⟩, .string ⟨#[99, 111, 110, 110, 101, 99, 116, 45, 116, 99, 112]⟩, .string ⟨#[104, 116, 116, 112]⟩, .string ⟨#[]⟩, .string ⟨#[47]⟩, .string ⟨#[63, 48]⟩] 9)
    obtain ⟨w3, hw3⟩ : ∃ w3, w3 = w2.alloc (.cells #[.string ⟨#[71, 69, 84]⟩, .string ⟨#[99, 111, 110, 110, 101, 99, 116, 45, 116, 99, 112]⟩, .string ⟨#[104, 116, 116, 112]⟩, .string ⟨#[]⟩, .string ⟨#[47]⟩, .string ⟨#[63, 48]⟩] 9) := ⟨_, rfl⟩
    have lC' : Lies w3 w2.heap.size [.string ⟨#[71, 69, 84]⟩, .string ⟨#[99, 111, 110, 110, 101, 99, 116, 45, 116, 99, 112]⟩, .string ⟨#[104, 116, 116, 112]⟩, .string ⟨#[]⟩, .string ⟨#[47]⟩, .string ⟨#[63, 48]⟩] := by rw [hw3]; exact lC
    rw [← hw3] at bC
    have l3 := l2.keep (by show 0 < 12; decide) bC
    have B3 := B2.out.trans (bC.mono B2.out.size)
    have lD := Lies.new w3 [.int .i64 405, .int .i64 501, .int .i64 400, .int .i64 400, .int .i64 404, .int .i64 400] 3
    have bD := bx w3 (.cells #[.int .i64 405, .int .i64 501, .int .i64 400, .int .i64 400, .int .i64 404, .int .i64 400] 3)
    obtain ⟨w4, hw4⟩ : ∃ w4, w4 = w3.alloc (.cells #[.int .i64 405, .int .i64 501, .int .i64 400, .int .i64 400, .int .i64 404, .int .i64 400] 3) := ⟨_, rfl⟩
    have lD' : Lies w4 w3.heap.size [.int .i64 405, .int .i64 501, .int .i64 400, .int .i64 400, .int .i64 404, .int .i64 400] := by rw [hw4]; exact lD
    rw [← hw4] at bD
    have l4 := l3.keep (by show 0 < 12; decide) bD
    have C4 := lC'.keep (by show 0 < 6; decide) bD
    have B4 := B3.trans (bD.mono B3.size)
    obtain ⟨CB, hCB⟩ : ∃ CB, CB = w2.heap.size := ⟨_, rfl⟩
    obtain ⟨DB, hDB⟩ : ∃ DB, DB = w3.heap.size := ⟨_, rfl⟩
    rw [← hCB] at C4
    rw [← hDB] at lD'
    replace hCB := Lib.hid hCB
    replace hDB := Lib.hid hDB
    replace hw4 := Lib.hid hw4
    have F4 := Flds0 (l := fld6 cProxy ip a n) rfl l4
    obtain ⟨v5, w5, hap, o5, n5, b5⟩ := copy_fds w4 F4 (by show 6 * 32 ≤ _; decide) 22
    obtain ⟨gm, cm, rfl, hgm, l5⟩ := o5.lies n5
    have G5 := Lib.hid (l4.keep (by show 0 < 12; decide) b5)
    have D5 := Lib.hid (lD'.keep (by show 0 < 6; decide) b5)
    have C5 := C4.keep (by show 0 < 6; decide) b5
    have B5 := Lib.hid (B4.trans (b5.mono B4.size))
    have gm0 : Hid (w.heap.size ≤ gm) := Nat.le_trans B4.size hgm
    have gmD : Hid (DB < gm ∧ g < gm) := ⟨Nat.lt_of_lt_of_le (lD'.lt (by show 0 < 6; decide)) hgm, Nat.lt_of_lt_of_le (l4.lt (by show 0 < 12; decide)) hgm⟩
    replace hap : Hid (∀ z, (builtin .append #[22, 22] 22 z #[.slice (some ⟨w4.heap.size, 0, none⟩) 0 0, .slice (some ⟨g, 0, none⟩) 6 6]).run Tryd.prog (w4.alloc (.cells #[] 35)) = .ok (.value (.slice (some ⟨gm, 0, none⟩) 6 cm)) w5) := hap
    have cc := C5.cell 4 (v := .string ⟨#[47]⟩) rfl
    have mc := l5.cell 9 (v := .string (strL ((fld6 cProxy ip a n).getD 4 nF).2)) rfl
    have mf := l5.free 9 (by show 9 < 12; decide)
    have l6 := l5.put 9 (by show 9 < 12; decide) (.string ⟨#[47]⟩)
    have B6 := B5.out.setCell (p := ⟨gm, 9, none⟩) gm0.out (.string ⟨#[47]⟩)
    have G6 := G5.out.of_block (w' := w5.setCell ⟨gm, 9, none⟩ (.string ⟨#[47]⟩)) (Below.heap_setCell _ _ _ _ (by show g ≠ gm; have := gmD.out; omega))
    have D6 := D5.out.of_block (w' := w5.setCell ⟨gm, 9, none⟩ (.string ⟨#[47]⟩)) (Below.heap_setCell _ _ _ _ (by show DB ≠ gm; have := gmD.out; omega))
    have F6 : FdsAt (w5.setCell ⟨gm, 9, none⟩ (.string ⟨#[47]⟩)) (.slice (some ⟨gm, 0, none⟩) 6 cm) ((fld6 cProxy ip a n).set 4 (nPath, [47])) := fds_sub (i := 0) (l := (fld6 cProxy ip a n).set 4 (nPath, [47])) l6 6 cm (by show 0 + 6 ≤ 6; decide)
    obtain ⟨w6, hw6⟩ : ∃ w6, w6 = w5.setCell ⟨gm, 9, none⟩ (.string ⟨#[47]⟩) := ⟨_, rfl⟩
    rw [← hw6] at B6 G6 D6 F6
    replace hw6 := Lib.hid hw6
    replace B6 := Lib.hid B6
    replace G6 := Lib.hid G6
    replace D6 := Lib.hid D6
    replace F6 := Lib.hid F6
    generalize strL ((fld6 cProxy ip a n).getD 4 nF).2 = OLD at *
    clear lC lC' bC lD lD' bD l2 l3 l4 l5 l6 B2 B3 B4 o5 n5 b5 F4 C4 C5 G5 D5 B5 hgm gm0 gmD
    go_upto_region 7 with fail
    rw [← hw3, ← hCB.out]
    clear hw3
    go_upto_region 8 with fail
    rw [← hw4.out, ← hDB.out]
    clear hw4
    go_upto_region 10 with (refine obB2L _ rfl .append _ _ 22 22 rfl (.slice (some ⟨w4.heap.size, 0, none⟩) 0 0) (.slice (some ⟨g, 0, none⟩) 6 6) rfl rfl hap.out ?_)
    clear hap
    go_upto_region 11 with fail
    rw [← hw6.out]
    clear hw6 cc mc mf
    go_wp2_with fail
    refine (PS.out w6 _ _ B6.out F6.out (by show 6 ≤ _; decide)).mono ?_
    rintro e w7 ⟨⟨ip', b, m', st, hA, rfl⟩, b7⟩
    obtain ⟨rfl, rfl, rfl, rfl⟩ := chg4 ip a n a0 a1 hA
    have B7 := B6.out.trans (b7.mono B6.out.size)
    have G7 := G6.out.keep (by show 0 < 12; decide) b7
    have D7 := D6.out.keep (by show 0 < 6; decide) b7
    clear hA b7 B6 G6 D6 F6
    have lX := Lies.new w7 [.bool false, .int .u32 0, .int .i64 0] 25
    have bX := bx w7 (.cells #[.bool false, .int .u32 0, .int .i64 0] 25)
    obtain ⟨w9, hw9⟩ : ∃ w9, w9 = w7.alloc (.cells #[.bool false, .int .u32 0, .int .i64 0] 25) := ⟨_, rfl⟩
    have lX' : Lies w9 w7.heap.size [.bool false, .int .u32 0, .int .i64 0] := by rw [hw9]; exact lX
    rw [← hw9] at bX
    have B9 := Lib.hid (B7.trans (bX.mono B7.size))
    have G9 := Lib.hid (G7.keep (by show 0 < 12; decide) bX)
    have DD9 := Lib.hid (D7.keep (by show 0 < 6; decide) bX)
    obtain ⟨XB, hXB⟩ : ∃ XB, XB = w7.heap.size := ⟨_, rfl⟩
    rw [← hXB] at lX'
    have XX9 := Lib.hid lX'
    clear lX lX' bX B7 G7 D7
    unfold tgV
    go_upto_region 12 with fail
    rw [← hw9, ← hXB]
    clear hw9
    replace hXB := Lib.hid hXB
    refine wp_region_held (S := fun _ => True) (by kernel_rfl) ?_
    change wpAnyH _ .any _ _ _ 11 (Array.replicate 11 false) _ w9.drew
    have dr : Below w9.heap.size w9 w9.drew := ⟨rfl, rfl, rfl, Nat.le_refl _, fun _ _ => rfl⟩
    have Q9 := G9.out.keep (by show 0 < 12; decide) dr
    have B9d := B9.out.trans (dr.mono B9.out.size)
    have X9 := XX9.out.keep (by show 0 < 3; decide) dr
    have D9 := DD9.out.keep (by show 0 < 6; decide) dr
    clear dr
    generalize w9.drew = wd at *
    obtain ⟨vA, wA, hapA, oA, nA, bA⟩ := copy_fds wd (fds_sub Q9 0 4 6 (by show 0 + 4 ≤ 6; decide)) (by show _ * 32 ≤ _; simp [fld6]) 22
    obtain ⟨vB, wB, hapB, oB, nB, gB⟩ := oA.cat nA (Nat.le_trans (Nat.le_refl _) bA.size) ((fds_sub Q9 5 1 1 (by show 5 + 1 ≤ 6; decide)).keep bA) (by simp [fld6]) 22
    have bB : Below wd.heap.size wd wB := bA.grown gB bA.size fun k hk => (oA.lt k hk).1
    obtain ⟨aA, cA, rfl⟩ := oA.form
    obtain ⟨aB, cB, rfl⟩ := oB.form
    have B10 := Lib.hid (B9d.trans (bB.mono B9d.size))
    have X10 := Lib.hid (X9.keep (by show 0 < 3; decide) bB)
    have D10 := Lib.hid (D9.keep (by show 0 < 6; decide) bB)
    have F10 := oB.fds
    clear oA oB nA nB gB bA bB Q9 B9d X9 D9
    refine obTakeH (i := 1) (d := 48) (v := .slice (some ⟨g, 0, none⟩) 6 6) rfl rfl (by kernel_rfl) (by kernel_rfl) (by kernel_rfl) (fun _ _ _ h => h) rfl (fun w _ => by go_simp) trivial ?_
    refine obTakeH (i := 2) (d := 49) (v := .int .i64 4) rfl rfl (by kernel_rfl) (by kernel_rfl) (by kernel_rfl) (fun _ _ _ h => h) rfl (fun w _ => by go_simp) trivial ?_
    refine obTakeH (i := 3) (d := 50) (v := .slice (some ⟨g, 0, none⟩) 4 6) rfl rfl (by kernel_rfl) (by kernel_rfl) (by kernel_rfl) (fun _ _ _ h => h) rfl (fun w _ => by go_simp) trivial ?_
    try simp only [Act.put, List.setIfInBounds_toArray, List.set_cons_succ, List.set_cons_zero]
    refine obTakeH (i := 5) (d := 52) (v := .slice (some ⟨g, 0, none⟩) 6 6) rfl rfl (by kernel_rfl) (by kernel_rfl) (by kernel_rfl) (fun _ _ _ h => h) rfl (fun w _ => by go_simp) trivial ?_
    refine obTakeH (i := 6) (d := 53) (v := .int .i64 4) rfl rfl (by kernel_rfl) (by kernel_rfl) (by kernel_rfl) (fun _ _ _ h => h) rfl (fun w _ => by go_simp) trivial ?_
    refine obTakeH (i := 7) (d := 54) (v := .int .i64 5) rfl rfl (by kernel_rfl) (by kernel_rfl) (by kernel_rfl) (fun _ _ _ h => h) rfl (fun w _ => by go_simp; rfl) trivial ?_
    refine obTakeH (i := 8) (d := 55) (v := .slice (some ⟨g, 10, none⟩) 1 1) rfl rfl (by kernel_rfl) (by kernel_rfl) (by kernel_rfl) (fun _ _ _ h => h) rfl (fun w _ => by go_simp) trivial ?_
    try simp only [Act.put, List.setIfInBounds_toArray, List.set_cons_succ, List.set_cons_zero]
    refine wpAnyH_all (rs := [0]) (by kernel_rfl) (by simp) (fun y hy => ?_)
    obtain rfl : y = 0 := by simpa using hy
    clear hy
    refine wpOp_step rfl (fun K' hK => ?_)
    go_simp
    refine hK _ _ ⟨trivial, ?_⟩
    clear hK K'
    try simp only [Act.put]
    refine wpAnyH_all (rs := [4]) (by kernel_rfl) (by simp) (fun y hy => ?_)
    obtain rfl : y = 4 := by simpa using hy
    clear hy
    refine wpOp_step rfl (fun K' hK => ?_)
    refine obB2 _ .append _ _ 22 22 rfl (.slice (some ⟨wd.heap.size, 0, none⟩) 0 0) (.slice (some ⟨g, 0, none⟩) 4 6) rfl rfl hapA ?_
    refine hK _ _ ⟨trivial, ?_⟩
    clear hK K'
    try simp only [Act.put]
    refine wpAnyH_all (rs := [9]) (by kernel_rfl) (by simp) (fun y hy => ?_)
    obtain rfl : y = 9 := by simpa using hy
    clear hy
    refine wpOp_step rfl (fun K' hK => ?_)
    refine obB2 _ .append _ _ 22 22 rfl _ (.slice (some ⟨g, 10, none⟩) 1 1) rfl rfl hapB ?_
    refine hK _ _ ⟨trivial, ?_⟩
    clear hK K'
    try simp only [Act.put]
    obtain ⟨NB, hNB⟩ : ∃ NB, NB = (List.take 4 (List.drop 0 (fld6 cProxy ip a n)) ++ List.take 1 (List.drop 5 (fld6 cProxy ip a n))).length := ⟨_, rfl⟩
    rw [← hNB] at F10
    refine obTakeH (i := 10) (d := 12) (v := .slice aB NB cB) rfl rfl (by kernel_rfl) (by kernel_rfl) (by kernel_rfl) (fun _ _ _ h => h) rfl (fun w _ => by rw [hNB]; go_simp) trivial ?_
    try simp only [Act.put]
    refine wpAnyH_done (by kernel_rfl) ?_ 0
    clear hapA hapB
    replace hNB := Lib.hid hNB
    replace F10 := Lib.hid F10
    go_wp2_with fail
    refine (PS.out wB _ _ B10.out (by have := F10.out; rwa [hNB.out] at this ⊢) (by simp [fld6, maxLen])).mono ?_
    rintro e w11 ⟨⟨ip', b, m', st, hA, rfl⟩, b11⟩
    obtain rfl := mis4 ip a n hA
    have B11 := B10.out.trans (b11.mono B10.out.size)
    have X11 := X10.out.keep (by show 0 < 3; decide) b11
    have D11 := D10.out.keep (by show 0 < 6; decide) b11
    clear hA b11 B10 X10 D10 F10 hNB PS
    have bY := bx w11 (.cells #[.bool ip', .int .u32 b, .int .i64 m'] 25)
    obtain ⟨w12, hw12⟩ : ∃ w12, w12 = w11.alloc (.cells #[.bool ip', .int .u32 b, .int .i64 m'] 25) := ⟨_, rfl⟩
    rw [← hw12] at bY
    have B12 := Lib.hid (B11.trans (bY.mono B11.size))
    have X12 := X11.keep (by show 0 < 3; decide) bY
    have D12 := D11.keep (by show 0 < 6; decide) bY
    have x0 := X12.cell 0 (v := .bool false) rfl
    have x1 := X12.cell 1 (v := .int .u32 0) rfl
    have x2 := X12.cell 2 (v := .int .i64 0) rfl
    have y0 := D12.cell 4 (v := .int .i64 404) rfl
    clear bY B11 X11 D11 X12 D12
    unfold tgV
    go_upto_region 14 with fail
    rw [← hw12]
    clear hw12
    go_wp2_with fail
    go_ret
    exact ⟨rfl, B12.out⟩
  · have B2 := Lib.hid (B1.out.trans (b2.mono B1.out.size))
    clear b2 B1 FD c0 c1 c2
    go_wp2_with fail
    go_ret
    exact ⟨rfl, B2.out⟩
set_option maxHeartbeats 16000000 in
theorem stat5 (ip : Bool) (a n x : Int) (w : World) (t : Tab w) (a0 : 0 ≤ a) (a1 : a < 4294967296) (_ : wrap64 ((IntKind.u64.wrap x).tmod 6) = 5) (i2 : IntKind.i64.wrap ((IntKind.u64.wrap x).tmod 6) = 5) :
    Calls Tryd.prog 6 #[tgV ip a n, .int .i64 x] w fun e w' => e = .returned (.bool true) ∧ Below w.heap.size w w' := by
  have lA := tbox w ip a n
  have bA := bx w (.cells #[.bool ip, .int .u32 a, .int .i64 n] 25)
  obtain ⟨wa, hwa⟩ : ∃ wa, wa = w.alloc (.cells #[.bool ip, .int .u32 a, .int .i64 n] 25) := ⟨_, rfl⟩
  rw [← hwa] at lA bA
  obtain ⟨K, hK⟩ : ∃ K, K = w.heap.size := ⟨_, rfl⟩
  rw [← hK] at lA
  have tK : Hid (∀ w', Below w.heap.size w w' → Tab w') := fun w' b => t.keep b
  have BX := Lib.hid bA
  have LD := Lib.hid lA
  clear lA bA t
  have WK : Hid (∀ w', Below w.heap.size w w' → _) := fun w' b => works_ok w' (tK.out w' b)
  have FD : Hid (∀ w', Below w.heap.size w w' → Calls Tryd.prog 13 #[.string ⟨#[112, 114, 111, 120, 121]⟩, tgV ip a n] w' fun e w'' => FldT w' w'' e cProxy ip a n) := fun w' b => flds_ok cProxy ip a n w' (tK.out w' b).p a0 a1
  have PS : Hid (∀ w' v l, Below w.heap.size w w' → FdsAt w' v l → l.length ≤ maxLen → Calls Tryd.prog 8 #[v] w' fun e w'' => Ans l e ∧ Below w'.heap.size w' w'') := fun w' v l b h hl => parse17_ok l v w' (tK.out w' b) h hl
  unfold tgV at FD ⊢
  go_enter Tryd.func6, Tryd.ntmps6
  go_upto_region 1 with fail
  rw [← hwa, ← hK]
  clear hwa
  replace hK := Lib.hid hK
  go_wp2_with fail
  refine (WK.out wa BX.out).mono ?_
  rintro e w1 ⟨rfl, b1⟩
  have B1 := Lib.hid (BX.out.trans (b1.mono BX.out.size))
  have L1 := LD.out.keep (by show 0 < 3; decide) b1
  have c0 := L1.cell 0 (v := .bool ip) rfl
  have c1 := L1.cell 1 (v := .int .u32 a) rfl
  have c2 := L1.cell 2 (v := .int .i64 n) rfl
  clear b1 BX LD WK L1
  go_wp2_with fail
  refine (FD.out w1 B1.out).mono ?_
  rintro e w2 (⟨hr, g, rfl, l2, hg, b2⟩ | ⟨hr, rfl, b2⟩)
  · have B2 := Lib.hid (B1.out.trans (b2.mono B1.out.size))
    clear b2 B1 FD c0 c1 c2 hg
    -- the tables
    have lC := Lies.new w2 [.string ⟨#[71, 69, 84]⟩, .string ⟨#[99, 111, 110, 110, 101, 99, 116, 45, 116, 99, 112]⟩, .string ⟨#[104, 116, 116, 112]⟩, .string ⟨#[]⟩, .string ⟨#[47]⟩, .string ⟨#[63, 48]⟩] 9
    have bC := bx w2 (.cells #[.string ⟨#[71, 69, 84]⟩, .string ⟨#[99, 111, 110, 110, 101, 99, 116, 45, 116, 99, 112]⟩, .string ⟨#[104, 116, 116, 112]⟩, .string ⟨#[]⟩, .string ⟨#[47]⟩, .string ⟨#[63, 48]⟩] 9)
    obtain ⟨w3, hw3⟩ : ∃ w3, w3 = w2.alloc (.cells #[.string ⟨#[71, 69, 84]⟩, .string ⟨#[99, 111, 110, 110, 101, 99, 116, 45, 116, 99, 112]⟩, .string ⟨#[104, 116, 116, 112]⟩, .string ⟨#[]⟩, .string ⟨#[47]⟩, .string ⟨#[63, 48]⟩] 9) := ⟨_, rfl⟩
    have lC' : Lies w3 w2.heap.size [.string ⟨#[71, 69, 84]⟩, .string ⟨#[99, 111, 110, 110, 101, 99, 116, 45, 116, 99, 112]⟩, .string ⟨#[104, 116, 116, 112]⟩, .string ⟨#[]⟩, .string ⟨#[47]⟩, .string ⟨#[63, 48]⟩] := by rw [hw3]; exact lC
    rw [← hw3] at bC
    have l3 := l2.keep (by show 0 < 12; decide) bC
    have B3 := B2.out.trans (bC.mono B2.out.size)
    have lD := Lies.new w3 [.int .i64 405, .int .i64 501, .int .i64 400, .int .i64 400, .int .i64 404, .int .i64 400] 3
    have bD := bx w3 (.cells #[.int .i64 405, .int .i64 501, .int .i64 400, .int .i64 400, .int .i64 404, .int .i64 400] 3)
    obtain ⟨w4, hw4⟩ : ∃ w4, w4 = w3.alloc (.cells #[.int .i64 405, .int .i64 501, .int .i64 400, .int .i64 400, .int .i64 404, .int .i64 400] 3) := ⟨_, rfl⟩
    have lD' : Lies w4 w3.heap.size [.int .i64 405, .int .i64 501, .int .i64 400, .int .i64 400, .int .i64 404, .int .i64 400] := by rw [hw4]; exact lD
    rw [← hw4] at bD
    have l4 := l3.keep (by show 0 < 12; decide) bD
    have C4 := lC'.keep (by show 0 < 6; decide) bD
    have B4 := B3.trans (bD.mono B3.size)
    obtain ⟨CB, hCB⟩ : ∃ CB, CB = w2.heap.size := ⟨_, rfl⟩
    obtain ⟨DB, hDB⟩ : ∃ DB, DB = w3.heap.size := ⟨_, rfl⟩
    rw [← hCB] at C4
    rw [← hDB] at lD'
    replace hCB := Lib.hid hCB
    replace hDB := Lib.hid hDB
    replace hw4 := Lib.hid hw4
    have F4 := Flds0 (l := fld6 cProxy ip a n) rfl l4
    obtain ⟨v5, w5, hap, o5, n5, b5⟩ := copy_fds w4 F4 (by show 6 * 32 ≤ _; decide) 22
    obtain ⟨gm, cm, rfl, hgm, l5⟩ := o5.lies n5
    have G5 := Lib.hid (l4.keep (by show 0 < 12; decide) b5)
    have D5 := Lib.hid (lD'.keep (by show 0 < 6; decide) b5)
    have C5 := C4.keep (by show 0 < 6; decide) b5
    have B5 := Lib.hid (B4.trans (b5.mono B4.size))
    have gm0 : Hid (w.heap.size ≤ gm) := Nat.le_trans B4.size hgm
    have gmD : Hid (DB < gm ∧ g < gm) := ⟨Nat.lt_of_lt_of_le (lD'.lt (by show 0 < 6; decide)) hgm, Nat.lt_of_lt_of_le (l4.lt (by show 0 < 12; decide)) hgm⟩
    replace hap : Hid (∀ z, (builtin .append #[22, 22] 22 z #[.slice (some ⟨w4.heap.size, 0, none⟩) 0 0, .slice (some ⟨g, 0, none⟩) 6 6]).run Tryd.prog (w4.alloc (.cells #[] 35)) = .ok (.value (.slice (some ⟨gm, 0, none⟩) 6 cm)) w5) := hap
    have cc := C5.cell 5 (v := .string ⟨#[63, 48]⟩) rfl
    have mc := l5.cell 11 (v := .string (strL ((fld6 cProxy ip a n).getD 5 nF).2)) rfl
    have mf := l5.free 11 (by show 11 < 12; decide)
    have l6 := l5.put 11 (by show 11 < 12; decide) (.string ⟨#[63, 48]⟩)
    have B6 := B5.out.setCell (p := ⟨gm, 11, none⟩) gm0.out (.string ⟨#[63, 48]⟩)
    have G6 := G5.out.of_block (w' := w5.setCell ⟨gm, 11, none⟩ (.string ⟨#[63, 48]⟩)) (Below.heap_setCell _ _ _ _ (by show g ≠ gm; have := gmD.out; omega))
    have D6 := D5.out.of_block (w' := w5.setCell ⟨gm, 11, none⟩ (.string ⟨#[63, 48]⟩)) (Below.heap_setCell _ _ _ _ (by show DB ≠ gm; have := gmD.out; omega))
    have F6 : FdsAt (w5.setCell ⟨gm, 11, none⟩ (.string ⟨#[63, 48]⟩)) (.slice (some ⟨gm, 0, none⟩) 6 cm) ((fld6 cProxy ip a n).set 5 (nCaps, [63, 48])) := fds_sub (i := 0) (l := (fld6 cProxy ip a n).set 5 (nCaps, [63, 48])) l6 6 cm (by show 0 + 6 ≤ 6; decide)
    obtain ⟨w6, hw6⟩ : ∃ w6, w6 = w5.setCell ⟨gm, 11, none⟩ (.string ⟨#[63, 48]⟩) := ⟨_, rfl⟩
    rw [← hw6] at B6 G6 D6 F6
    replace hw6 := Lib.hid hw6
    replace B6 := Lib.hid B6
    replace G6 := Lib.hid G6
    replace D6 := Lib.hid D6
    replace F6 := Lib.hid F6
    generalize strL ((fld6 cProxy ip a n).getD 5 nF).2 = OLD at *
    clear lC lC' bC lD lD' bD l2 l3 l4 l5 l6 B2 B3 B4 o5 n5 b5 F4 C4 C5 G5 D5 B5 hgm gm0 gmD
    go_upto_region 7 with fail
    rw [← hw3, ← hCB.out]
    clear hw3
    go_upto_region 8 with fail
    rw [← hw4.out, ← hDB.out]
    clear hw4
    go_upto_region 10 with (refine obB2L _ rfl .append _ _ 22 22 rfl (.slice (some ⟨w4.heap.size, 0, none⟩) 0 0) (.slice (some ⟨g, 0, none⟩) 6 6) rfl rfl hap.out ?_)
    clear hap
    go_upto_region 11 with fail
    rw [← hw6.out]
    clear hw6 cc mc mf
    go_wp2_with fail
    refine (PS.out w6 _ _ B6.out F6.out (by show 6 ≤ _; decide)).mono ?_
    rintro e w7 ⟨⟨ip', b, m', st, hA, rfl⟩, b7⟩
    obtain ⟨rfl, rfl, rfl, rfl⟩ := chg5 ip a n a0 a1 hA
    have B7 := B6.out.trans (b7.mono B6.out.size)
    have G7 := G6.out.keep (by show 0 < 12; decide) b7
    have D7 := D6.out.keep (by show 0 < 6; decide) b7
    clear hA b7 B6 G6 D6 F6
    have lX := Lies.new w7 [.bool false, .int .u32 0, .int .i64 0] 25
    have bX := bx w7 (.cells #[.bool false, .int .u32 0, .int .i64 0] 25)
    obtain ⟨w9, hw9⟩ : ∃ w9, w9 = w7.alloc (.cells #[.bool false, .int .u32 0, .int .i64 0] 25) := ⟨_, rfl⟩
    have lX' : Lies w9 w7.heap.size [.bool false, .int .u32 0, .int .i64 0] := by rw [hw9]; exact lX
    rw [← hw9] at bX
    have B9 := Lib.hid (B7.trans (bX.mono B7.size))
    have G9 := Lib.hid (G7.keep (by show 0 < 12; decide) bX)
    have DD9 := Lib.hid (D7.keep (by show 0 < 6; decide) bX)
    obtain ⟨XB, hXB⟩ : ∃ XB, XB = w7.heap.size := ⟨_, rfl⟩
    rw [← hXB] at lX'
    have XX9 := Lib.hid lX'
    clear lX lX' bX B7 G7 D7
    unfold tgV
    go_upto_region 12 with fail
    rw [← hw9, ← hXB]
    clear hw9
    replace hXB := Lib.hid hXB
    refine wp_region_held (S := fun _ => True) (by kernel_rfl) ?_
    change wpAnyH _ .any _ _ _ 11 (Array.replicate 11 false) _ w9.drew
    have dr : Below w9.heap.size w9 w9.drew := ⟨rfl, rfl, rfl, Nat.le_refl _, fun _ _ => rfl⟩
    have Q9 := G9.out.keep (by show 0 < 12; decide) dr
    have B9d := B9.out.trans (dr.mono B9.out.size)
    have X9 := XX9.out.keep (by show 0 < 3; decide) dr
    have D9 := DD9.out.keep (by show 0 < 6; decide) dr
    clear dr
    generalize w9.drew = wd at *
    obtain ⟨vA, wA, hapA, oA, nA, bA⟩ := copy_fds wd (fds_sub Q9 0 5 6 (by show 0 + 5 ≤ 6; decide)) (by show _ * 32 ≤ _; simp [fld6]) 22
    obtain ⟨vB, wB, hapB, oB, nB, gB⟩ := oA.cat nA (Nat.le_trans (Nat.le_refl _) bA.size) ((fds_sub Q9 0 0 0 (by show 0 + 0 ≤ 6; decide)).keep bA) (by simp [fld6]) 22
    have bB : Below wd.heap.size wd wB := bA.grown gB bA.size fun k hk => (oA.lt k hk).1
    obtain ⟨aA, cA, rfl⟩ := oA.form
    obtain ⟨aB, cB, rfl⟩ := oB.form
    have B10 := Lib.hid (B9d.trans (bB.mono B9d.size))
    have X10 := Lib.hid (X9.keep (by show 0 < 3; decide) bB)
    have D10 := Lib.hid (D9.keep (by show 0 < 6; decide) bB)
    have F10 := oB.fds
    clear oA oB nA nB gB bA bB Q9 B9d X9 D9
    refine obTakeH (i := 1) (d := 48) (v := .slice (some ⟨g, 0, none⟩) 6 6) rfl rfl (by kernel_rfl) (by kernel_rfl) (by kernel_rfl) (fun _ _ _ h => h) rfl (fun w _ => by go_simp) trivial ?_
    refine obTakeH (i := 2) (d := 49) (v := .int .i64 5) rfl rfl (by kernel_rfl) (by kernel_rfl) (by kernel_rfl) (fun _ _ _ h => h) rfl (fun w _ => by go_simp) trivial ?_
    refine obTakeH (i := 3) (d := 50) (v := .slice (some ⟨g, 0, none⟩) 5 6) rfl rfl (by kernel_rfl) (by kernel_rfl) (by kernel_rfl) (fun _ _ _ h => h) rfl (fun w _ => by go_simp) trivial ?_
    try simp only [Act.put, List.setIfInBounds_toArray, List.set_cons_succ, List.set_cons_zero]
    refine obTakeH (i := 5) (d := 52) (v := .slice (some ⟨g, 0, none⟩) 6 6) rfl rfl (by kernel_rfl) (by kernel_rfl) (by kernel_rfl) (fun _ _ _ h => h) rfl (fun w _ => by go_simp) trivial ?_
    refine obTakeH (i := 6) (d := 53) (v := .int .i64 5) rfl rfl (by kernel_rfl) (by kernel_rfl) (by kernel_rfl) (fun _ _ _ h => h) rfl (fun w _ => by go_simp) trivial ?_
    refine obTakeH (i := 7) (d := 54) (v := .int .i64 6) rfl rfl (by kernel_rfl) (by kernel_rfl) (by kernel_rfl) (fun _ _ _ h => h) rfl (fun w _ => by go_simp; rfl) trivial ?_
    refine obTakeH (i := 8) (d := 55) (v := .slice (some ⟨g, 0, none⟩) 0 0) rfl rfl (by kernel_rfl) (by kernel_rfl) (by kernel_rfl) (fun _ _ _ h => h) rfl (fun w _ => by go_simp) trivial ?_
    try simp only [Act.put, List.setIfInBounds_toArray, List.set_cons_succ, List.set_cons_zero]
    refine wpAnyH_all (rs := [0]) (by kernel_rfl) (by simp) (fun y hy => ?_)
    obtain rfl : y = 0 := by simpa using hy
    clear hy
    refine wpOp_step rfl (fun K' hK => ?_)
    go_simp
    refine hK _ _ ⟨trivial, ?_⟩
    clear hK K'
    try simp only [Act.put]
    refine wpAnyH_all (rs := [4]) (by kernel_rfl) (by simp) (fun y hy => ?_)
    obtain rfl : y = 4 := by simpa using hy
    clear hy
    refine wpOp_step rfl (fun K' hK => ?_)
    refine obB2 _ .append _ _ 22 22 rfl (.slice (some ⟨wd.heap.size, 0, none⟩) 0 0) (.slice (some ⟨g, 0, none⟩) 5 6) rfl rfl hapA ?_
    refine hK _ _ ⟨trivial, ?_⟩
    clear hK K'
    try simp only [Act.put]
    refine wpAnyH_all (rs := [9]) (by kernel_rfl) (by simp) (fun y hy => ?_)
    obtain rfl : y = 9 := by simpa using hy
    clear hy
    refine wpOp_step rfl (fun K' hK => ?_)
    refine obB2 _ .append _ _ 22 22 rfl _ (.slice (some ⟨g, 0, none⟩) 0 0) rfl rfl hapB ?_
    refine hK _ _ ⟨trivial, ?_⟩
    clear hK K'
    try simp only [Act.put]
    obtain ⟨NB, hNB⟩ : ∃ NB, NB = (List.take 5 (List.drop 0 (fld6 cProxy ip a n)) ++ List.take 0 (List.drop 0 (fld6 cProxy ip a n))).length := ⟨_, rfl⟩
    rw [← hNB] at F10
    refine obTakeH (i := 10) (d := 12) (v := .slice aB NB cB) rfl rfl (by kernel_rfl) (by kernel_rfl) (by kernel_rfl) (fun _ _ _ h => h) rfl (fun w _ => by rw [hNB]; go_simp) trivial ?_
    try simp only [Act.put]
    refine wpAnyH_done (by kernel_rfl) ?_ 0
    clear hapA hapB
    replace hNB := Lib.hid hNB
    replace F10 := Lib.hid F10
    go_wp2_with fail
    refine (PS.out wB _ _ B10.out (by have := F10.out; rwa [hNB.out] at this ⊢) (by simp [fld6, maxLen])).mono ?_
    rintro e w11 ⟨⟨ip', b, m', st, hA, rfl⟩, b11⟩
    obtain rfl := mis5 ip a n hA
    have B11 := B10.out.trans (b11.mono B10.out.size)
    have X11 := X10.out.keep (by show 0 < 3; decide) b11
    have D11 := D10.out.keep (by show 0 < 6; decide) b11
    clear hA b11 B10 X10 D10 F10 hNB PS
    have bY := bx w11 (.cells #[.bool ip', .int .u32 b, .int .i64 m'] 25)
    obtain ⟨w12, hw12⟩ : ∃ w12, w12 = w11.alloc (.cells #[.bool ip', .int .u32 b, .int .i64 m'] 25) := ⟨_, rfl⟩
    rw [← hw12] at bY
    have B12 := Lib.hid (B11.trans (bY.mono B11.size))
    have X12 := X11.keep (by show 0 < 3; decide) bY
    have D12 := D11.keep (by show 0 < 6; decide) bY
    have x0 := X12.cell 0 (v := .bool false) rfl
    have x1 := X12.cell 1 (v := .int .u32 0) rfl
    have x2 := X12.cell 2 (v := .int .i64 0) rfl
    have y0 := D12.cell 5 (v := .int .i64 400) rfl
    clear bY B11 X11 D11 X12 D12
    unfold tgV
    go_upto_region 14 with fail
    rw [← hw12]
    clear hw12
    go_wp2_with fail
    go_ret
    exact ⟨rfl, B12.out⟩
  · have B2 := Lib.hid (B1.out.trans (b2.mono B1.out.size))
    clear b2 B1 FD c0 c1 c2
    go_wp2_with fail
    go_ret
    exact ⟨rfl, B2.out⟩
theorem status17_ok (ip : Bool) (a n x : Int) (w : World) (t : Tab w) (a0 : 0 ≤ a) (a1 : a < 4294967296) :
    Calls Tryd.prog 6 #[tgV ip a n, .int .i64 x] w fun e w' => e = .returned (.bool true) ∧ Below w.heap.size w w' := by
  obtain ⟨i, i1, i2, i3⟩ := place6 x
  rcases six i i3 with rfl | rfl | rfl | rfl | rfl | rfl
  · exact stat0 ip a n x w t a0 a1 i1 i2
  · exact stat1 ip a n x w t a0 a1 i1 i2
  · exact stat2 ip a n x w t a0 a1 i1 i2
  · exact stat3 ip a n x w t a0 a1 i1 i2
  · exact stat4 ip a n x w t a0 a1 i1 i2
  · exact stat5 ip a n x w t a0 a1 i1 i2
end Go.Proofs.YtojfcflkanohoaaDoor
