/-
  The law FieldsWrites returns true for all fields and names, by what is asked of the program's calls (FiFace). No condition but the statements' own bound of an argument's bytes.
-/
import Derived.Test.YtphmoieaddjanaaDoorFiApp
namespace Go.Proofs.YtphmoieaddjanaaDoor
set_option maxRecDepth 100000
open Go.RowKit Go.Sort

theorem getV_form (l : List Fd) (n : L) : ∃ G b, getV l n = .tuple #[.string G, .bool b] := by
  unfold getV
  split
  · exact ⟨_, _, rfl⟩
  · exact ⟨_, _, rfl⟩
theorem wrV_form (l : List Fd) : ∃ G, wrV l = .tuple #[.string G, .int .i64 (chkS l)] := ⟨_, rfl⟩
theorem tl_refl (s : ByteArray) : (s.toList == s.toList) = true := by simp
set_option maxHeartbeats 8000000 in
theorem writes_walk {T : World → Prop} (fc : FiFace T) (l : List Fd) (nm : L) (v : Value) (w : World) (t : T w) (h : FdsAt w v l) (hd : l.length * 32 ≤ 140737488351232) :
    Calls Tryd.prog 3 #[v, .string (strL nm)] w fun e w' => e = .returned (.bool true) ∧ Below w.heap.size w w' := by
  have hl : l.length ≤ maxLen := by unfold maxLen; omega
  obtain ⟨x, w1, hap, ow, hx, b1⟩ := copy_fds w h hd 22
  replace ow := ow.fds
  have KT : Hid (∀ w', Below w1.heap.size w1 w' → T w') := fun w' b => fc.keep t (b1.trans (b.mono b1.size))
  have WP : Hid (∀ w', Below w1.heap.size w1 w' → _) := fun w' b => fc.write w' x l (KT.out w' b) (ow.keep b) hl
  have WR : Hid (∀ w', Below w1.heap.size w1 w' → _) := fun w' b => rwrite14_ok l v w' ((h.keep b1).keep b) hl
  have GP : Hid (∀ w', Below w1.heap.size w1 w' → _) := fun w' b => fc.get w' x l nm (KT.out w' b) (ow.keep b) hl
  have GR : Hid (∀ w', Below w1.heap.size w1 w' → _) := fun w' b => rget14_ok l nm v w' ((h.keep b1).keep b) hl
  have CP : Hid (∀ w', Below w1.heap.size w1 w' → _) := fun w' b => fc.check w' x l (KT.out w' b) (ow.keep b) hl
  have CR : Hid (∀ w', Below w1.heap.size w1 w' → _) := fun w' b => rcheck_ok l v w' ((h.keep b1).keep b) hl
  have SM : Hid (∀ w', Below w1.heap.size w1 w' → _) := fun w' b => rsame14_ok l l x v w' (ow.keep b) ((h.keep b1).keep b) hl hl
  simp only [decide_true] at SM
  obtain ⟨S, hS⟩ := wrV_form l
  obtain ⟨G, gb, hG⟩ := getV_form l nm
  rw [hS] at WP WR
  rw [hG] at GP GR
  obtain ⟨a, c, rfl⟩ := h.slice
  obtain ⟨xa, xc, rfl⟩ := ow.slice
  have e1 := tl_refl S
  have e2 := tl_refl G
  have e3 : (gb == gb) = true := by simp
  have e4 : (chkS l == chkS l) = true := by simp
  generalize chkS l = ce at *
  generalize strL nm = N at *
  clear t h hl ow hd hx hS hG KT
  replace hap := Lib.hid hap
  have B1 := Lib.hid b1
  have R1 := Lib.hid (Below.refl w1.heap.size w1)
  clear b1
  go_enter Tryd.func3, Tryd.ntmps3
  go_wp2_with (refine obB2L _ rfl .append _ _ 22 22 rfl (.slice (some ⟨w.heap.size, 0, none⟩) 0 0) (.slice a l.length c) rfl rfl hap.out ?_)
  clear hap
  refine (WP.out w1 R1.out).mono ?_
  rintro e w2 ⟨rfl, b2⟩
  have R2 := Lib.hid b2
  clear b2 R1 WP
  go_wp2_with fail
  refine (WR.out w2 R2.out).mono ?_
  rintro e w3 ⟨rfl, b3⟩
  have R3 := Lib.hid (R2.out.trans (b3.mono R2.out.size))
  clear b3 R2 WR
  go_wp2_with fail
  refine (GP.out w3 R3.out).mono ?_
  rintro e w4 ⟨rfl, b4⟩
  have R4 := Lib.hid (R3.out.trans (b4.mono R3.out.size))
  clear b4 R3 GP
  go_wp2_with fail
  refine (GR.out w4 R4.out).mono ?_
  rintro e w5 ⟨rfl, rfl⟩
  clear GR
  go_wp2_with fail
  refine (CP.out w4 R4.out).mono ?_
  rintro e w5 ⟨rfl, b5⟩
  have R5 := Lib.hid (R4.out.trans (b5.mono R4.out.size))
  clear b5 R4 CP
  go_wp2_with fail
  refine (CR.out w5 R5.out).mono ?_
  rintro e w6 ⟨rfl, b6⟩
  have R6 := Lib.hid (R5.out.trans (b6.mono R5.out.size))
  clear b6 R5 CR
  go_wp2_with fail
  refine (SM.out w6 R6.out).mono ?_
  rintro e w7 ⟨rfl, b7⟩
  have R7 := Lib.hid (R6.out.trans (b7.mono R6.out.size))
  clear b7 R6 SM
  go_wp2_with fail
  go_ret
  exact ⟨rfl, B1.out.trans (R7.out.mono B1.out.size)⟩
end Go.Proofs.YtphmoieaddjanaaDoor
