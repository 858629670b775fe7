/-
  What the laws' own trial of the program's tunnels answers. No condition.
-/
import Derived.Test.YtndaohiecpdmlaaTuFace
import Derived.Test.YtndaohiecpdmlaaObRowB
namespace Go.Proofs.Ytndaohiecpdmlaa
set_option maxRecDepth 100000
open Go.RowKit Go.Sort

def ruW : List Ru := [⟨true, 0, 0, 0, 0, 65535⟩]
def tuW : Tu := ⟨false, 167772162, 53, 0, 40000, ruW, false⟩
theorem ruWB : ∀ r ∈ ruW, RuB r := fun r hr => by
  have : r = ⟨true, 0, 0, 0, 0, 65535⟩ := by simpa [ruW] using hr
  rw [this]
  constructor <;> decide
theorem tuWB : TuB tuW := ⟨by decide, by decide, by unfold In64; decide, by decide, by decide, by unfold In64; decide, ruWB, by decide⟩
set_option maxHeartbeats 4000000 in
theorem works22_ok (fa : TuFace) (w : World) : Calls Try.prog 10 #[] w fun e w' => e = .returned (.bool true) ∧ Below w.heap.size w w' := by
  obtain ⟨w0, hw0⟩ : ∃ x, x = w.alloc (.cells #[.bool true, .int .i64 0, .int .u32 0, .int .i64 0, .int .i64 0, .int .i64 65535] 57) := ⟨_, rfl⟩
  have R0 : RusAt w0 (.slice (some ⟨w.heap.size, 0, none⟩) 1 1) ruW := by rw [hw0]; exact row_lit kr_ok w ruW 57
  have b0 : Below w.heap.size w w0 := by rw [hw0]; exact (Below.refl _ _).alloc (Nat.le_refl _) _
  obtain ⟨t0, bt⟩ := TL.new (T := tuW) R0 36
  obtain ⟨w1, hw1⟩ : ∃ x, x = w0.alloc (.cells #[.bool false, .int .u32 167772162, .int .i64 53, .int .u32 0, .int .i64 40000, .slice (some ⟨w.heap.size, 0, none⟩) 1 1] 36) := ⟨_, rfl⟩
  have hx1 := hw1
  change w1 = w0.alloc (.cells #[.bool (Tu.ip tuW), .int .u32 (Tu.addr tuW), .int .i64 (Tu.tp tuW), .int .u32 (Tu.own tuW), .int .i64 (Tu.port tuW), .slice (some ⟨w.heap.size, 0, none⟩) 1 1] 36) at hx1
  rw [← hx1] at t0 bt
  have sz : w0.heap.size = w.heap.size + 1 := by rw [hw0]; simp
  have tX : TL w1 (w.heap.size + 1) tuW (.slice (some ⟨w.heap.size, 0, none⟩) 1 1) := by rw [← sz]; exact t0
  have bX := Lib.hid (b0.trans (bt.mono b0.size))
  have UP := Lib.hid fun w' (hr : RusAt w' (.slice (some ⟨w.heap.size, 0, none⟩) 1 1) ruW) => fa.up tuW _ w' hr tuWB ⟨#[113]⟩ (by decide)
  have D1 := Lib.hid fun w' (hr : RusAt w' (.slice (some ⟨w.heap.size, 0, none⟩) 1 1) ruW) => fa.dn tuW _ w' hr tuWB 167772162 53 ⟨#[97]⟩ (by decide)
  have D2 := Lib.hid fun w' (hr : RusAt w' (.slice (some ⟨w.heap.size, 0, none⟩) 1 1) ruW) => fa.dn tuW _ w' hr tuWB 167772163 53 ⟨#[97]⟩ (by decide)
  have al : alw ruW 17 167772162 53 = true := by decide
  have ue : upE tuW ⟨#[113]⟩ = 0 := by
    unfold upE
    rw [if_neg (by decide), if_pos (show tuW.ip = false from rfl)]
    unfold openE
    rw [if_neg (by decide)]
    show (if alw ruW 17 167772162 53 = true then (0 : Int) else 15) = 0
    rw [al]
    rfl
  have um : upM tuW ⟨#[113]⟩ = ⟨false, 40000, 167772162, 53, ⟨#[113]⟩⟩ := by unfold upM; rw [if_neg (by rw [ue]; decide), if_pos (show tuW.ip = false from rfl)]; rfl
  have e1 : dnE tuW 167772162 53 ⟨#[97]⟩ = 0 := by decide
  have s1 : dnS tuW 167772162 53 ⟨#[97]⟩ = ⟨#[97]⟩ := by unfold dnS; rw [if_neg (by rw [e1]; decide), if_pos (show tuW.ip = false from rfl)]
  have e2 : dnE tuW 167772163 53 ⟨#[97]⟩ = 15 := by decide
  have s2 : dnS tuW 167772163 53 ⟨#[97]⟩ = ⟨#[]⟩ := by unfold dnS; rw [if_pos (by rw [e2]; decide)]
  rw [um, ue] at UP
  rw [s1, e1] at D1
  rw [s2, e2] at D2
  replace hw0 := Lib.hid hw0
  replace hw1 := Lib.hid hw1
  clear fa al ue um e1 s1 e2 s2 t0 bt b0 hx1 R0
  unfold tuV emV tuW at *
  simp only at *
  go_enter Try.func10, Try.ntmps10
  go_upto_region 2 with fail
  rw [← hw0.out, ← hw1.out]
  clear hw0 hw1 sz
  have x0 := tX.c.cell 0 rfl
  have x1 := tX.c.cell 1 rfl
  have x2 := tX.c.cell 2 rfl
  have x3 := tX.c.cell 3 rfl
  have x4 := tX.c.cell 4 rfl
  have x5 := tX.c.cell 5 rfl
  go_wp2_with fail
  refine (UP.out w1 tX.r).mono ?_
  rintro e w2 ⟨rfl, b⟩
  clear UP x0 x1 x2 x3 x4 x5
  go_upto_region 3 with fail
  have bz : Below w2.heap.size w2 (w2.alloc (.cells #[.bool false, .int .i64 40000, .int .u32 167772162, .int .i64 53, .string ⟨#[113]⟩] 24)) := (Below.refl _ _).alloc (Nat.le_refl _) _
  have E1 : Lies (w2.alloc (.cells #[.bool false, .int .i64 40000, .int .u32 167772162, .int .i64 53, .string ⟨#[113]⟩] 24)) w2.heap.size [.bool false, .int .i64 40000, .int .u32 167772162, .int .i64 53, .string ⟨#[113]⟩] := Lies.new w2 [.bool false, .int .i64 40000, .int .u32 167772162, .int .i64 53, .string ⟨#[113]⟩] _
  have bs := b.trans (bz.mono b.size)
  generalize w2.alloc (.cells #[.bool false, .int .i64 40000, .int .u32 167772162, .int .i64 53, .string ⟨#[113]⟩] 24) = w3 at *
  generalize w2.heap.size = gE at *
  clear bz b
  replace tX := tX.keep bs
  replace bX := Lib.hid (bX.out.trans (bs.mono bX.out.size))
  clear bs
  have x0 := tX.c.cell 0 rfl
  have x1 := tX.c.cell 1 rfl
  have x2 := tX.c.cell 2 rfl
  have x3 := tX.c.cell 3 rfl
  have x4 := tX.c.cell 4 rfl
  have x5 := tX.c.cell 5 rfl
  go_wp2_with fail
  refine (D1.out w3 tX.r).mono ?_
  rintro e w4 ⟨rfl, bs⟩
  clear D1 x0 x1 x2 x3 x4 x5
  replace tX := tX.keep bs
  replace E1 := E1.keep (by show 0 < 5; decide) bs
  replace bX := Lib.hid (bX.out.trans (bs.mono bX.out.size))
  clear bs
  have x0 := tX.c.cell 0 rfl
  have x1 := tX.c.cell 1 rfl
  have x2 := tX.c.cell 2 rfl
  have x3 := tX.c.cell 3 rfl
  have x4 := tX.c.cell 4 rfl
  have x5 := tX.c.cell 5 rfl
  go_wp2_with fail
  refine (D2.out w4 tX.r).mono ?_
  rintro e w5 ⟨rfl, bs⟩
  clear D2 x0 x1 x2 x3 x4 x5 tX
  replace E1 := E1.keep (by show 0 < 5; decide) bs
  replace bX := Lib.hid (bX.out.trans (bs.mono bX.out.size))
  clear bs
  have e0 := E1.cell 0 rfl; have e1 := E1.cell 1 rfl; have e2 := E1.cell 2 rfl; have e3 := E1.cell 3 rfl; have e4 := E1.cell 4 rfl
  clear E1
  go_wp2_with fail
  go_ret
  exact ⟨rfl, bX.out⟩
end Go.Proofs.Ytndaohiecpdmlaa
