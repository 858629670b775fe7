/-
  The walk of TargetParses: of any fields it is told what they ask for, or which status they get. The tables of Go's library lie as the row's list gives them; no other condition but the form's own reach.
-/
import Derived.Test.YtojfcflkanohoaaDoorTgRef
import Derived.Test.YtojfcflkanohoaaDoorTgApp
import Derived.Test.YtojfcflkanohoaaDoorTgSame
namespace Go.Proofs.YtojfcflkanohoaaDoor
set_option maxRecDepth 100000
open Go.RowKit Go.Sort

set_option maxHeartbeats 16000000 in
theorem parses17_ok (l : List Fd) (v : Value) (w : World) (t : Tab w) (h : FdsAt w v l) (h32 : l.length * 32 ≤ 140737488351232) :
    Calls Tryd.prog 3 #[v] w fun e w' => e = .returned (.bool true) ∧ Below w.heap.size w w' := by
  have hl : l.length ≤ maxLen := by unfold maxLen; omega
  obtain ⟨v3, w3, hap, o3, n3, b3⟩ := copy_fds w h h32 22
  obtain ⟨va, vc, rfl⟩ := h.slice
  obtain ⟨a3, c3, rfl⟩ := o3.form
  have F3 := o3.fds
  have B3 := Lib.hid b3
  have PS := Lib.hid (parse17_ok l _ w3 (t.keep b3) F3 hl)
  have RS : Hid (∀ w', Below w.heap.size w w' → Calls Tryd.prog 9 #[.slice va l.length vc] w' fun e w'' => Ans l e ∧ Below w'.heap.size w' w'') := fun w' b => ref17_ok l _ w' (h.keep b) hl
  have SM : Hid (∀ w', Below w3.heap.size w3 w' → Calls Tryd.prog 10 #[.slice a3 l.length c3, .slice va l.length vc] w' fun e w'' => e = .returned (.bool (decide (l = l))) ∧ Below w'.heap.size w' w'') := fun w' b => rsame14_ok l l _ _ w' (F3.keep b) ((h.keep b3).keep b) hl hl
  rw [decide_eq_true (rfl : l = l)] at SM
  have ONE : Hid (∀ ip ip' a a' n n' st st', Asks l ip a n st → Asks l ip' a' n' st' → ip = ip' ∧ a = a' ∧ n = n' ∧ st = st') := fun _ _ _ _ _ _ _ _ h k => h.one k
  replace hap := Lib.hid hap
  clear o3 n3 F3 b3 t h hl h32
  generalize l.length = n at *
  go_enter Tryd.func3, Tryd.ntmps3
  go_wp2_with (refine obB2L _ rfl .append _ _ 22 22 rfl (.slice (some ⟨w.heap.size, 0, none⟩) 0 0) (.slice va n vc) rfl rfl hap.out ?_)
  clear hap
  refine PS.out.mono ?_
  rintro e w4 ⟨⟨ip, a, k, st, hA, rfl⟩, b4⟩
  clear PS
  have lZ := Lies.new w4 [.bool ip, .int .u32 a, .int .i64 k] 25
  have bZ := bx1 w4 (.cells #[.bool ip, .int .u32 a, .int .i64 k] 25)
  obtain ⟨w5, hw5⟩ : ∃ w5, w5 = w4.alloc (.cells #[.bool ip, .int .u32 a, .int .i64 k] 25) := ⟨_, rfl⟩
  have lZ' : Lies w5 w4.heap.size [.bool ip, .int .u32 a, .int .i64 k] := by rw [hw5]; exact lZ
  rw [← hw5] at bZ
  have C5 : Below w3.heap.size w3 w5 := b4.trans (bZ.mono b4.size)
  have B5 : Below w.heap.size w w5 := B3.out.trans (C5.mono B3.out.size)
  obtain ⟨Z, hZ⟩ : ∃ Z, Z = w4.heap.size := ⟨_, rfl⟩
  rw [← hZ] at lZ'
  replace lZ' := Lib.hid lZ'
  replace C5 := Lib.hid C5
  replace B5 := Lib.hid B5
  replace hA := Lib.hid hA
  clear lZ bZ b4 B3
  unfold tgV
  go_upto_region 3 with fail
  rw [← hw5, ← hZ]
  clear hw5
  replace hZ := Lib.hid hZ
  go_wp2_with fail
  refine (RS.out w5 B5.out).mono ?_
  rintro e w6 ⟨⟨ip', a', k', st', hB, rfl⟩, b6⟩
  obtain ⟨rfl, rfl, rfl, rfl⟩ := ONE.out _ _ _ _ _ _ _ _ hA.out hB
  have D6 := lZ'.out.keep (by show 0 < 3; decide) b6
  have C6 := C5.out.trans (b6.mono C5.out.size)
  have B6 := B5.out.trans (b6.mono B5.out.size)
  clear RS ONE hA hB lZ' b6 C5 B5
  have lY := Lies.new w6 [.bool ip, .int .u32 a, .int .i64 k] 25
  have bY := bx1 w6 (.cells #[.bool ip, .int .u32 a, .int .i64 k] 25)
  obtain ⟨w7, hw7⟩ : ∃ w7, w7 = w6.alloc (.cells #[.bool ip, .int .u32 a, .int .i64 k] 25) := ⟨_, rfl⟩
  have lY' : Lies w7 w6.heap.size [.bool ip, .int .u32 a, .int .i64 k] := by rw [hw7]; exact lY
  rw [← hw7] at bY
  have C7 := Lib.hid (C6.trans (bY.mono C6.size))
  have B7 := Lib.hid (B6.trans (bY.mono B6.size))
  have D7 := D6.keep (by show 0 < 3; decide) bY
  obtain ⟨Y, hY⟩ : ∃ Y, Y = w6.heap.size := ⟨_, rfl⟩
  rw [← hY] at lY'
  have d0 := D7.cell 0 (v := .bool ip) rfl
  have d1 := D7.cell 1 (v := .int .u32 a) rfl
  have d2 := D7.cell 2 (v := .int .i64 k) rfl
  have y0 := lY'.cell 0 (v := .bool ip) rfl
  have y1 := lY'.cell 1 (v := .int .u32 a) rfl
  have y2 := lY'.cell 2 (v := .int .i64 k) rfl
  clear lY bY C6 B6 D6 D7 lY'
  unfold tgV
  go_upto_region 4 with fail
  rw [← hw7, ← hY]
  clear hw7
  replace hY := Lib.hid hY
  have SM7 := Lib.hid (SM.out w7 C7.out)
  clear SM C7
  go_wp2_with fail
  refine SM7.out.mono ?_
  rintro e w8 ⟨rfl, b8⟩
  have B8 := Lib.hid (B7.out.trans (b8.mono B7.out.size))
  clear b8 B7 SM7
  go_wp2_with fail
  go_ret
  exact ⟨rfl, B8.out⟩
end Go.Proofs.YtojfcflkanohoaaDoor
