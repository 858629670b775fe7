/-
  What the laws ask of the program's calls: they are stated here, not shown; what the laws' works answers by them. No condition.
-/
import Derived.Test.YtphmoieaddjanaaDoorFiRead
namespace Go.Proofs.YtphmoieaddjanaaDoor
set_option maxRecDepth 100000
open Go.RowKit Go.Sort

def entV (i : Int) : Value := if 0 ≤ i ∧ i < 20 then .tuple #[fbV (tab.getD i.toNat nF), .bool true] else .tuple #[fbV nF, .bool false]
/-- What the laws ask; T: what the program's calls want of the world. -/
structure FiFace (T : World → Prop) : Prop where
  keep : ∀ {w w' : World}, T w → Below w.heap.size w w' → T w'
  check : ∀ w v l, T w → FdsAt w v l → l.length ≤ maxLen → Calls Tryd.prog 12 #[v] w fun e w' => e = .returned (.int .i64 (chkS l)) ∧ Below w.heap.size w w'
  write : ∀ w v l, T w → FdsAt w v l → l.length ≤ maxLen → Calls Tryd.prog 8 #[v] w fun e w' => e = .returned (wrV l) ∧ Below w.heap.size w w'
  read : ∀ w (s : ByteArray), T w → s.size ≤ 100000 → Calls Tryd.prog 15 #[.string s] w fun e w' => RdA s w' e ∧ Below w.heap.size w w'
  get : ∀ w v l n, T w → FdsAt w v l → l.length ≤ maxLen → Calls Tryd.prog 10 #[v, .string (strL n)] w fun e w' => e = .returned (getV l n) ∧ Below w.heap.size w w'
  entry : ∀ w (i : Int), T w → -9223372036854775808 ≤ i ∧ i ≤ 9223372036854775807 → Calls Tryd.prog 17 #[.int .i64 i] w fun e w' => e = .returned (entV i) ∧ Below w.heap.size w w'
def l3 : List Fd := [(bs [58, 109, 101, 116, 104, 111, 100], bs [67, 79, 78, 78, 69, 67, 84]), (bs [58, 112, 97, 116, 104], bs [47, 97]), (bs [120], bs [121])]
theorem l3_cells : (fCells l3).toArray = #[.string ⟨#[58, 109, 101, 116, 104, 111, 100]⟩, .string ⟨#[67, 79, 78, 78, 69, 67, 84]⟩, .string ⟨#[58, 112, 97, 116, 104]⟩, .string ⟨#[47, 97]⟩, .string ⟨#[120]⟩, .string ⟨#[121]⟩] := by kernel_rfl
theorem l3_wr : wrV l3 = .tuple #[.string ⟨#[130, 65, 2, 47, 97, 0, 1, 120, 1, 121]⟩, .int .i64 0] := by kernel_rfl
theorem c1_rd : readS (toL ⟨#[193]⟩) = .error 5 := by kernel_rfl
set_option maxHeartbeats 4000000 in
theorem works_ok {T : World → Prop} (fc : FiFace T) (w : World) (t : T w) : Calls Tryd.prog 19 #[] w fun e w' => e = .returned (.bool true) ∧ Below w.heap.size w w' := by
  have F := fds_new w l3 3
  have ba : Below w.heap.size w (w.alloc (.cells (fCells l3).toArray 34)) := (Below.refl _ _).alloc (Nat.le_refl _) _
  have W := Lib.hid (fc.write _ _ l3 (fc.keep t ba) F (by decide))
  have R : Hid (∀ w', T w' → _) := fun w' t' => fc.read w' ⟨#[193]⟩ t' (by decide)
  rw [l3_wr] at W
  rw [l3_cells] at W ba
  have TA : Hid (T (w.alloc (.cells #[.string ⟨#[58, 109, 101, 116, 104, 111, 100]⟩, .string ⟨#[67, 79, 78, 78, 69, 67, 84]⟩, .string ⟨#[58, 112, 97, 116, 104]⟩, .string ⟨#[47, 97]⟩, .string ⟨#[120]⟩, .string ⟨#[121]⟩] 34))) := fc.keep t ba
  have BA := Lib.hid ba
  change Hid (Calls Tryd.prog 8 #[.slice (some ⟨w.heap.size, 0, none⟩) 3 3] _ _) at W
  clear F ba t
  go_enter Tryd.func19, Tryd.ntmps19
  go_wp2_with fail
  refine W.out.mono ?_
  rintro e w1 ⟨rfl, b1⟩
  have T1 := Lib.hid (fc.keep TA.out b1)
  have B1 := Lib.hid (BA.out.trans (b1.mono BA.out.size))
  clear b1 W TA BA
  go_wp2_with fail
  refine (R.out w1 T1.out).mono ?_
  rintro e w2 ⟨⟨v, rfl, hf⟩, b2⟩
  have B2 := Lib.hid (B1.out.trans (b2.mono B1.out.size))
  have e5 : rdE (readS (toL ⟨#[193]⟩)) = 5 := by rw [c1_rd]; rfl
  rw [e5]
  clear b2 R T1 B1 hf
  go_wp2_with fail
  go_ret
  exact ⟨rfl, B2.out⟩
end Go.Proofs.YtphmoieaddjanaaDoor
