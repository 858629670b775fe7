/-
  What works of layer 11 answers, by what is asked of the program's calls (InFace). No other condition.
-/
import Derived.Test.YtpendchkalagnaaInFace
import Derived.Laws.MakeOwn
namespace Go.Proofs.Ytpendchkalagnaa
set_option maxRecDepth 100000
open Go.RowKit Go.Sort

/-- So many bytes 0. -/
def zerB (n : Nat) : ByteArray := strOfNums (List.replicate n 0)
theorem zerB_size (n : Nat) : (zerB n).size = n := by unfold zerB; rw [strOfNums_size, List.length_replicate]
theorem made_zer (n : Nat) : madeCells (Value.int .u8 0).cells (n * 1) = Array.replicate n (.int .u8 0) := by
  rw [Nat.mul_one]
  apply Array.ext_getElem?
  intro i
  by_cases h : i < n
  · simp [madeCells, h, Nat.mod_one, Value.cells]
  · simp [madeCells, h]
theorem mk_zer (n : Nat) (h : n < 1000000) (w : World) : (Instr.makeSlice 48 (.int .i64 (n : Int)) (.int .i64 (n : Int))).run Try.prog w = .ok (.slice (some ⟨w.heap.size, 0, none⟩) n n) (w.alloc (.cells (Array.replicate n (.int .u8 0)) 5)) := by
  obtain ⟨i, hi, hz, h2, h3⟩ := info_u8
  have := run_make (P := Try.prog) w 48 5 i _ Try.underlying48 hi hz .i64 .i64 n n (by omega) (by omega) (by rw [h3]; omega) (by omega)
  rw [this, h2, Int.toNat_natCast, made_zer n]
theorem cv_zer (n : Nat) (w : World) : (convert 48 9 (.slice (some ⟨w.heap.size, 0, none⟩) n n)).run Try.prog (w.alloc (.cells (Array.replicate n (.int .u8 0)) 5)) = .ok (.string (zerB n)) (w.alloc (.cells (Array.replicate n (.int .u8 0)) 5)) := by
  refine run_convert_bytes_arg (P := Try.prog) _ 48 5 Try.underlying48 Try.underlying5 w.heap.size 0 n n (List.replicate n 0) (by simp) (fun i hi => ?_) 9 Try.underlying9
  rw [Nat.zero_add, World.cell?_alloc_new]
  simp [List.getD, hi]
theorem zero_below (w : World) (n : Nat) : Below w.heap.size w (w.alloc (.cells (Array.replicate n (.int .u8 0)) 5)) := (Below.refl _ _).alloc (Nat.le_refl _) _
def wk1 : Bx := putB bx0 2 ⟨#[99, 100]⟩ false
def wk2 : Bx := takeB wk1 9
def wk3 : Bx := putB wk2 0 ⟨#[97, 98, 99]⟩ false
def wk4 : Bx := takeB wk3 9
theorem wk_1 : putE bx0 2 (⟨#[99, 100]⟩ : ByteArray).size false = 0 := by decide
theorem wk_2 : takeL wk1 9 = [] := by decide
theorem wk_3 : takeL wk3 9 = [97, 98, 99, 100] := by decide
theorem wk_4 : putE wk4 0 5000 false = 12 := by
  have e : wk4.rd = 4 := by unfold wk4 takeB; rw [wk_3]; decide
  unfold putE lim
  rw [e]
  decide
theorem wk_n : wk1.rd = 0 ∧ wk1.cnt = 2 ∧ wk2.rd = 0 ∧ wk2.cnt = 2 ∧ wk3.rd = 0 ∧ wk3.cnt = 5 ∧ wk4.cnt = 5 := by decide
set_option maxHeartbeats 4000000 in
theorem inworks_ok {LS : BSt} (fc : InFace LS) (w : World) :
    Calls Try.prog 18 #[] w fun e w' => e = .returned (.bool true) ∧ Below w.heap.size w w' := by
  obtain ⟨n1, n2, n3, n4, n5, n6, n7⟩ := wk_n
  have NP : Hid (∀ w', Below w.heap.size w w' → _) := fun w' b => pi_new fc w w' b
  have P1 : Hid (∀ w' B F, PI LS w w' B F bx0 → _) := fun w' B F h => pi_put fc 2 ⟨#[99, 100]⟩ false h (by decide) (by decide) (by decide)
  rw [wk_1] at P1
  have P2 : Hid (∀ w' B F, PI LS w w' B F wk1 → _) := fun w' B F h => pi_read fc 9 h (by decide) (by rw [n1]; decide)
  rw [wk_2] at P2
  have P3 : Hid (∀ w' B F, PI LS w w' B F wk2 → _) := fun w' B F h => pi_put fc 0 ⟨#[97, 98, 99]⟩ false h (by decide) (by decide) (by rw [n4]; decide)
  have P4 : Hid (∀ w' B F, PI LS w w' B F wk3 → _) := fun w' B F h => pi_read fc 9 h (by decide) (by rw [n5]; decide)
  rw [wk_3] at P4
  have P5 : Hid (∀ w' B F, PI LS w w' B F wk4 → Calls Try.prog 9 #[ptr B, .int .i64 0, .string (zerB 5000), .bool false] w' fun e w'' => e = .returned (.int .i64 12) ∧ Below w.heap.size w w'') := fun w' B F h => by
    have := pi_put fc 0 (zerB 5000) false h (by decide) (by rw [zerB_size]; decide) (by rw [n7]; decide)
    rw [zerB_size, wk_4] at this
    refine this.mono ?_
    rintro e w'' ⟨rfl, F', hp, -, -⟩
    exact ⟨rfl, hp.bel⟩
  have hmk := fun w => mk_zer 5000 (by decide) w
  have hcv := fun w => cv_zer 5000 w
  have e5 : ((5000 : Nat) : Int) = 5000 := rfl
  rw [e5] at hmk
  have ES : strOfNums [] = ⟨#[]⟩ := rfl
  have EA : strOfNums [97, 98, 99, 100] = ⟨#[97, 98, 99, 100]⟩ := rfl
  rw [ES] at P2
  rw [EA] at P4
  clear n1 n2 n3 n4 n5 n6 n7 e5 ES EA
  generalize zerB 5000 = z at *
  go_enter Try.func18, Try.ntmps18
  go_wp2_with fail
  refine (NP.out _ (Below.refl _ _)).mono ?_
  rintro e w1 ⟨B, F1, rfl, h1, -⟩
  have N1 := Lib.hid h1
  clear h1 NP
  go_wp2_with fail
  refine (P1.out _ _ _ N1.out).mono ?_
  rintro e w2 ⟨rfl, F2, h2, -, -⟩
  have N2 : Hid (PI LS w w2 B F2 wk1) := h2
  clear h2 N1 P1
  go_wp2_with fail
  refine (P2.out _ _ _ N2.out).mono ?_
  rintro e w3 ⟨rfl, F3, h3, -, -⟩
  have N3 : Hid (PI LS w w3 B F3 wk2) := h3
  clear h3 N2 P2
  go_wp2_with fail
  refine (P3.out _ _ _ N3.out).mono ?_
  rintro e w4 ⟨rfl, F4, h4, -, -⟩
  have N4 : Hid (PI LS w w4 B F4 wk3) := h4
  clear h4 N3 P3
  go_wp2_with fail
  refine (P4.out _ _ _ N4.out).mono ?_
  rintro e w5 ⟨rfl, F5, h5, -, -⟩
  have N5 : Hid (PI LS w w5 B F5 wk4) := h5
  clear h5 N4 P4
  have N6 : Hid (PI LS w (w5.alloc (.cells (Array.replicate 5000 (.int .u8 0)) 5)) B F5 wk4) := N5.out.keep fc (zero_below w5 5000)
  clear N5
  go_wp2_with fail
  refine (P5.out _ _ _ N6.out).mono ?_
  rintro e w7 ⟨rfl, b7⟩
  have B7 := Lib.hid b7
  clear b7 P5 N6 hmk hcv
  go_wp2_with fail
  go_ret
  exact ⟨rfl, B7.out⟩
end Go.Proofs.Ytpendchkalagnaa
