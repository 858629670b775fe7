/-
  The law InboxFlow returns true for every row of numbers, by what is asked of the program's calls (InFace). No other condition.
-/
import Derived.Test.YtpendchkalagnaaInWorks
import Derived.Test.YtpendchkalagnaaInText
import Derived.Test.YtpendchkalagnaaInOpen
import Derived.Deep.Cut
namespace Go.Proofs.Ytpendchkalagnaa
set_option maxRecDepth 100000
open Go.RowKit Go.Sort

/-- A stream of which all bytes up to a place came, by so many rounds. -/
structure Fl (d : Bx) (A i : Nat) : Prop where
  rst : d.rst = false
  size : d.size = -1
  lo : 0 ≤ d.rd ∧ d.rd ≤ A
  hi : (A : Int) ≤ d.rd + 4096
  most : d.most ≤ A
  full : ∀ x, d.rd ≤ x → x < A → d.got x ≠ none
  few : d.rd ≤ 4096 * i ∧ d.cnt ≤ 4096 * i
theorem Fl.new : Fl bx0 0 0 := ⟨rfl, rfl, by decide, by decide, by decide, fun x h1 h2 => by have h1' : (0 : Int) ≤ x := h1; omega, by decide⟩
theorem Fl.flow {d : Bx} {A i : Nat} (h : Fl d A i) (hi : i ≤ 12) : putE d (lim d) (⟨#[120]⟩ : ByteArray).size false = 12 := by
  obtain ⟨h1, h2⟩ := h.few
  have h3 := h.lo
  have e : (⟨#[120]⟩ : ByteArray).size = 1 := rfl
  unfold putE lim
  rw [if_neg (by omega), if_pos (by rw [e]; omega)]
theorem flow_stay {d : Bx} {off : Int} {s : ByteArray} {fin : Bool} (h : putE d off s.size fin = 12) : putB d off s fin = d := by
  unfold putB
  rw [if_neg (fun q => by rw [h] at q; cases q.1)]
/-- How many bytes may still come. -/
def room (d : Bx) (A : Nat) : Nat := (lim d - A).toNat
theorem Fl.room {d : Bx} {A i : Nat} (h : Fl d A i) : lim d = ((A + room d A : Nat) : Int) ∧ lim d - A = (room d A : Int) ∧ room d A ≤ 4096 := by
  have h3 := h.lo
  have h4 := h.hi
  unfold Proofs.Ytpendchkalagnaa.room lim
  omega
theorem Fl.fill {d : Bx} {A i : Nat} (h : Fl d A i) (hi : i ≤ 12) : putE d A (zerB (Proofs.Ytpendchkalagnaa.room d A)).size false = 0 := by
  obtain ⟨h1, h2⟩ := h.few
  have h3 := h.lo
  have h4 := h.hi
  have hs := h.size
  obtain ⟨r1, r2, r3⟩ := h.room
  unfold putE
  rw [zerB_size, if_neg (by omega), if_neg (by omega), if_neg (by omega), if_neg (fun q => by cases q.1)]
def flD (d : Bx) (A : Nat) : Bx := putB d A (zerB (room d A)) false
theorem Fl.full2 {d : Bx} {A i : Nat} (h : Fl d A i) (hi : i ≤ 12) : (flD d A).rst = false ∧ (flD d A).size = -1 ∧ (flD d A).rd = d.rd ∧ (flD d A).cnt ≤ 4096 * (i + 1) ∧ (flD d A).most ≤ lim d ∧ ∀ x, d.rd ≤ x → x < lim d → (flD d A).got x ≠ none := by
  obtain ⟨r1, r2, r3⟩ := h.room
  have h4 := h.hi
  have hf := h.few
  have e := put_zero (h.fill hi) h.rst
  rw [zerB_size] at e
  have e' : flD d A = _ := e
  rw [e']
  refine ⟨h.rst, h.size, rfl, ?_, ?_, fun x h1 h2 => ?_⟩
  · show d.cnt + _ ≤ _
    omega
  · show (if _ then max d.most _ else d.most) ≤ _
    have := h.most
    split
    · exact Int.max_le.2 ⟨by omega, by omega⟩
    · omega
  · show lay d A (bt (zerB (Proofs.Ytpendchkalagnaa.room d A))) (Proofs.Ytpendchkalagnaa.room d A) x ≠ none
    unfold lay
    split
    · simp
    · rename_i q
      by_cases hx : x < A
      · exact h.full x h1 hx
      · exact fun c => q ⟨h1, by omega, by omega, c⟩
theorem Fl.read {d : Bx} {A i : Nat} (h : Fl d A i) (hi : i ≤ 12) (k : Nat) (hk : k ≤ 4096) : (takeL (flD d A) k).length = k ∧ Fl (takeB (flD d A) k) (A + Proofs.Ytpendchkalagnaa.room d A) (i + 1) := by
  obtain ⟨f1, f2, f3, f4, f5, f6⟩ := h.full2 hi
  obtain ⟨r1, r2, r3⟩ := h.room
  have hf := h.few
  have h3 := h.lo
  have hl : (takeL (flD d A) k).length = k := by
    rw [take_not f1, f3, Int.toNat_natCast]
    have hle := runB_len (flD d A).got k d.rd
    rcases runB_end (flD d A).got k d.rd with q | q
    · exact q
    · rcases Nat.lt_or_ge (runB (flD d A).got d.rd k).length k with z | z
      · exact absurd q (f6 _ (by omega) (by unfold lim; omega))
      · omega
  refine ⟨hl, f1, f2, ⟨?_, ?_⟩, ?_, ?_, fun x h1 h2 => ?_, ?_, ?_⟩
  · show 0 ≤ (flD d A).rd + _
    rw [f3, hl]; omega
  · show (flD d A).rd + _ ≤ _
    rw [f3, hl, ← r1]; unfold lim; omega
  · show _ ≤ (flD d A).rd + _ + 4096
    rw [f3, hl, ← r1]; unfold lim; omega
  · rw [← r1]; exact f5
  · have h1' : (flD d A).rd + ((takeL (flD d A) k).length : Int) ≤ x := h1
    rw [f3, hl] at h1'
    exact f6 x (by omega) (by omega)
  · show (flD d A).rd + _ ≤ _
    rw [f3, hl]; omega
  · exact f4
theorem rem_of (a : Int) (c : Int) (hc : 0 < c) (hc2 : c < 4611686018427387904) : ∃ x : Nat, wrap64 ((IntKind.u64.wrap a).tmod c) = x ∧ (x : Int) < c := by
  have h : 0 ≤ IntKind.u64.wrap a := by rw [IntKind.wrap_u64]; omega
  rw [Int.tmod_eq_emod_of_nonneg h]
  have h1 := Int.emod_nonneg (IntKind.u64.wrap a) (by omega : c ≠ 0)
  have h2 := Int.emod_lt_of_pos (IntKind.u64.wrap a) hc
  refine ⟨(IntKind.u64.wrap a % c).toNat, ?_, by omega⟩
  unfold wrap64
  omega
theorem at_rds (B o N cap i : Nat) (w : World) (h : i < N) (z : Int) (hz : z = i) (p : Nat) (hp : p = o + i) :
    (Instr.indexAt 42 (.slice (some ⟨B, o, none⟩) N cap) (.int .i64 z)).run Try.prog w = .ok (.pointer (some ⟨B, p, none⟩)) w := by
  subst hz hp
  have e : Try.prog.elem 42 = 3 := by kernel_rfl
  rw [run_indexAt_slice (P := Try.prog) w 42 ⟨B, o, none⟩ N cap .i64 i (by rw [e]; exact Try.underlying42), if_pos (by omega), e]
  have s : (sizeOf 3).run Try.prog w = .ok 1 w := Try.sizeOf3 w
  rw [s]
  simp [Addr.add_mid]
set_option maxHeartbeats 8000000 in
theorem flow_any {LS : BSt} (fc : InFace LS) (f : Nat → Int) (a : Option Addr) (m cap M : Nat) (w : World) (hm : m ≤ 9223372036854775807) (hM : (M = m ∧ m ≤ 12) ∨ (M = 12 ∧ 12 < m)) (hs : Nums w a m f) :
    Calls Try.prog 5 #[.slice a m cap] w fun e w' => e = .returned (.bool true) ∧ Below w.heap.size w w' := by
  have hMn : M ≤ m ∧ M ≤ 12 := by omega
  replace hs := Lib.hid hs
  have WO : Hid (∀ _ : Unit, _) := fun _ => inworks_ok fc w
  have NP : Hid (∀ w', Below w.heap.size w w' → _) := fun w' b => pi_new fc w w' b
  go_enter Try.func5, Try.ntmps5
  go_wp2_with fail
  refine (WO.out ()).mono ?_
  rintro e w1 ⟨rfl, b1⟩
  have Z1 := Lib.hid b1
  clear b1 WO
  go_wp2_with fail
  refine (NP.out _ Z1.out).mono ?_
  rintro e w2 ⟨B, F0, rfl, h2, -⟩
  have N2 := Lib.hid h2
  clear h2 NP Z1
  go_wp2_with fail
  go_loopg [4, 5] M (fun g av iv wr => ∃ (i A : Nat) (F : Nat → Prop) (d : Bx), i + g = M ∧ iv = .int .i64 i ∧ av = .int .i64 A ∧ Hid (Fl d A i) ∧ Hid (PI LS w wr B F d))
  case atStart => exact ⟨0, 0, F0, bx0, by omega, rfl, rfl, Fl.new, N2⟩
  case round =>
    clear N2
    obtain ⟨i, A, F, d, hi, rfl, rfl, hf, N⟩ := hrel
    by_cases hlt : i < M
    · have q1 : decide (i < m) = true := decide_eq_true (by omega)
      have q2 : decide ((i : Int) < 12) = true := decide_eq_true (by omega)
      have q3 : decide (i < 12) = true := decide_eq_true (by omega)
      rcases hs.out with h0 | ⟨b, off, rfl, hb, hc⟩
      · omega
      · have ia := fun w' => at_rds b off m cap i w' (by omega) (i : Int) rfl (off + i) rfl
        have cc := Lib.hid (hc i (by omega))
        obtain ⟨k, hk1, hk2⟩ := rem_of (f i) 4097 (by decide) (by decide)
        obtain ⟨r1, r2, r3⟩ := hf.out.room
        have lo := hf.out.lo
        have hi4 := hf.out.hi
        obtain ⟨fw, fw2⟩ := hf.out.few
        have FLW := hf.out.flow (by omega)
        have FIL := hf.out.fill (by omega)
        obtain ⟨RL, RF⟩ := hf.out.read (by omega) k (by omega)
        have ST : Hid (∀ _ : Unit, _) := fun _ => pi_state fc N.out
        have P1 : Hid (∀ w', PI LS w w' B F d → Calls Try.prog 9 #[ptr B, .int .i64 (lim d), .string ⟨#[120]⟩, .bool false] w' fun e w'' => e = .returned (.int .i64 12) ∧ ∃ F', PI LS w w'' B F' d) := fun w' h => by
          have := pi_put fc (lim d) ⟨#[120]⟩ false h (by unfold In64 lim; omega) (by decide) (by omega)
          rw [FLW, flow_stay FLW] at this
          refine this.mono ?_
          rintro e w'' ⟨rfl, F', hp, -, -⟩
          exact ⟨rfl, F', hp⟩
        have P2 : Hid (∀ w' F', PI LS w w' B F' d → Calls Try.prog 9 #[ptr B, .int .i64 (A : Int), .string (zerB (Proofs.Ytpendchkalagnaa.room d A)), .bool false] w' fun e w'' => e = .returned (.int .i64 0) ∧ ∃ F', PI LS w w'' B F' (flD d A)) := fun w' F' h => by
          have := pi_put fc (A : Int) (zerB (Proofs.Ytpendchkalagnaa.room d A)) false h (by unfold In64; omega) (by rw [zerB_size]; omega) (by omega)
          rw [FIL] at this
          refine this.mono ?_
          rintro e w'' ⟨rfl, F', hp, -, -⟩
          exact ⟨rfl, F', hp⟩
        have P3 : Hid (∀ w' F', PI LS w w' B F' (flD d A) → Calls Try.prog 13 #[ptr B, .int .i64 (k : Int)] w' fun e w'' => e = .returned (.string (strOfNums (takeL (flD d A) k))) ∧ ∃ F', PI LS w w'' B F' (takeB (flD d A) k)) := fun w' F' h => by
          refine (pi_read fc (k : Int) h (by unfold In64; omega) (by unfold flD; rw [(put_rd _ _ _ _).1]; omega)).mono ?_
          rintro e w'' ⟨rfl, F', hp, -, -⟩
          exact ⟨rfl, F', hp⟩
        have SZ : (strOfNums (takeL (flD d A) k)).size = k := by rw [strOfNums_size, RL]
        have RF2 := Lib.hid RF
        have hmk := fun w => mk_zer (Proofs.Ytpendchkalagnaa.room d A) (by omega) w
        have hcv := fun w => cv_zer (Proofs.Ytpendchkalagnaa.room d A) w
        have g1 : (lim d != d.rd + 4096) = false := by unfold lim; simp
        have g2 : decide (lim d < (A : Int)) = false := decide_eq_false (by omega)
        have g3 : decide ((A : Int) + 4096 < lim d) = false := decide_eq_false (by unfold lim; omega)
        have gk : ((k : Int) != (k : Int)) = false := by simp
        have bL : 0 ≤ lim d ∧ lim d ≤ 1000000 := by unfold lim; omega
        have bR : 0 ≤ d.rd ∧ d.rd ≤ 1000000 := by omega
        have bA : A ≤ 1000000 := by omega
        have zb := fun w => Lib.hid (zero_below w (Proofs.Ytpendchkalagnaa.room d A))
        have KP : Hid (∀ w' F', PI LS w w' B F' d → PI LS w (w'.alloc (.cells (Array.replicate (Proofs.Ytpendchkalagnaa.room d A) (.int .u8 0)) 5)) B F' d) := fun w' F' h => h.keep fc (zero_below w' _)
        replace r1 := Lib.hid r1
        clear RL RF FLW FIL lo hi4 fw fw2 zb hf hc
        generalize strOfNums (takeL (flD d A) k) = rs at *
        generalize zerB (Proofs.Ytpendchkalagnaa.room d A) = zs at *
        generalize Proofs.Ytpendchkalagnaa.room d A = rm at *
        generalize lim d = L at *
        generalize d.rd = x1 at *
        generalize ended d = x3 at *
        go_wp2_with fail
        refine (ST.out ()).mono ?_
        rintro e w3 ⟨rfl, b3⟩
        have N3 := Lib.hid (N.out.keep fc b3)
        clear b3 ST N
        go_wp2_with fail
        refine (P1.out _ N3.out).mono ?_
        rintro e w4 ⟨rfl, F4, h4⟩
        have N4 := Lib.hid h4
        have N5 := Lib.hid (KP.out _ _ h4)
        clear h4 P1 N3 N4
        go_wp2_with fail
        refine (P2.out _ _ N5.out).mono ?_
        rintro e w6 ⟨rfl, F6, h6⟩
        have N6 := Lib.hid h6
        have c6 := (h6.bel.cell (p := ⟨b, off + i, none⟩) hb).trans cc.out
        clear h6 P2 N5
        go_wp2_with fail
        refine (P3.out _ _ N6.out).mono ?_
        rintro e w7 ⟨rfl, F7, h7⟩
        have N7 := Lib.hid h7
        clear h7 P3 N6 c6
        go_wp2_with fail
        go_roundg (M - (i + 1))
        case measure => omega
        case rel => exact ⟨i + 1, A + rm, F7, _, by omega, by go_num, by rw [r1.out], RF2, N7⟩
    · by_cases hin : i < m
      · have q1 : decide (i < m) = true := decide_eq_true hin
        have q2 : decide ((i : Int) < 12) = false := decide_eq_false (by omega)
        have q3 : decide (i < 12) = false := decide_eq_false (by omega)
        go_wp2_with fail
        go_ret
        exact ⟨rfl, N.out.bel⟩
      · have q1 : decide (i < m) = false := decide_eq_false hin
        go_wp2_with fail
        go_ret
        exact ⟨rfl, N.out.bel⟩
theorem flow_walk {LS : BSt} (fc : InFace LS) (a : Option Addr) (m cap : Nat) (f : Nat → Int) (w : World) (hm : m ≤ maxLen) (hs : Nums w a m f) :
    Calls Try.prog 5 #[.slice a m cap] w fun e w' => e = .returned (.bool true) ∧ Below w.heap.size w w' := by
  have hm' : m ≤ 9223372036854775807 := by unfold maxLen at hm; omega
  by_cases h : m ≤ 12
  · exact flow_any fc f a m cap m w hm' (.inl ⟨rfl, h⟩) hs
  · exact flow_any fc f a m cap 12 w hm' (.inr ⟨rfl, by omega⟩) hs
end Go.Proofs.Ytpendchkalagnaa
