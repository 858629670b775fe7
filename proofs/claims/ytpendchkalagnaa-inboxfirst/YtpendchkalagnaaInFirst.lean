/-
  The law InboxFirst returns true for every two texts and every place, by what is asked of the program's calls (InFace). No other condition.
-/
import Derived.Test.YtpendchkalagnaaInWorks
import Derived.Test.YtpendchkalagnaaInText
namespace Go.Proofs.Ytpendchkalagnaa
set_option maxRecDepth 100000
open Go.RowKit Go.Sort

theorem rem_place (a : Int) (N : Nat) (hN : N < 1000000000) : ∃ k : Nat, wrap64 ((IntKind.u64.wrap a).tmod ((N : Int) + 1)) = (k : Int) ∧ k ≤ N := by
  have h : 0 ≤ IntKind.u64.wrap a := by rw [IntKind.wrap_u64]; omega
  rw [Int.tmod_eq_emod_of_nonneg h]
  have h1 := Int.emod_nonneg (IntKind.u64.wrap a) (by omega : (N : Int) + 1 ≠ 0)
  have h2 := Int.emod_lt_of_pos (IntKind.u64.wrap a) (by omega : (0 : Int) < (N : Int) + 1)
  refine ⟨(IntKind.u64.wrap a % ((N : Int) + 1)).toNat, ?_, by omega⟩
  unfold wrap64
  omega
def fst1 (a : ByteArray) : Bx := putB bx0 0 a false
def fst2 (a b : ByteArray) (k : Nat) : Bx := putB (fst1 a) k b false
theorem fst1_e (a : ByteArray) (ha : a.size ≤ 500) : putE bx0 0 a.size false = 0 := by
  unfold putE lim bx0
  rw [if_neg (by omega), if_neg (by simp only; omega), if_neg (by simp only; omega), if_neg (fun q => by cases q.1)]
theorem fst1_is (a : ByteArray) (ha : a.size ≤ 500) : fst1 a = { bx0 with got := lay bx0 0 (bt a) a.size, most := if 0 < a.size then max 0 (0 + (a.size : Int)) else 0, size := -1, cnt := 0 + a.size } := by
  unfold fst1
  rw [put_zero (fst1_e a ha) rfl]
  rfl
theorem fst2_e (a b : ByteArray) (k : Nat) (ha : a.size ≤ 500) (hb : b.size ≤ 500) (hk : k ≤ a.size) : putE (fst1 a) k b.size false = 0 := by
  rw [fst1_is a ha]
  unfold putE lim bx0
  rw [if_neg (by omega), if_neg (by simp only; omega), if_neg (by simp only; omega), if_neg (fun q => by cases q.1)]
theorem fst1_got (a : ByteArray) (ha : a.size ≤ 500) (x : Nat) : (fst1 a).got x = if x < a.size then some (bt a x) else none := by
  rw [fst1_is a ha]
  show lay bx0 0 (bt a) a.size x = _
  unfold lay
  by_cases h : x < a.size
  · rw [if_pos h, if_pos ⟨by show (0 : Int) ≤ _; omega, by omega, by omega, rfl⟩]
    congr 2
  · rw [if_neg h, if_neg (by omega)]
    rfl
theorem fst2_got (a b : ByteArray) (k : Nat) (ha : a.size ≤ 500) (hb : b.size ≤ 500) (hk : k ≤ a.size) (x : Nat) : (fst2 a b k).got x = if x < a.size then some (bt a x) else if x < k + b.size then some (bt b (x - k)) else none := by
  have e : fst2 a b k = { fst1 a with got := lay (fst1 a) k (bt b) b.size, most := if 0 < b.size then max (fst1 a).most (k + (b.size : Int)) else (fst1 a).most, size := (fst1 a).size, cnt := (fst1 a).cnt + b.size } := by
    unfold fst2
    rw [put_zero (fst2_e a b k ha hb hk) (by rw [fst1_is a ha]; rfl)]
    rfl
  rw [e]
  show lay (fst1 a) k (bt b) b.size x = _
  have hrd : (fst1 a).rd = 0 := by rw [fst1_is a ha]; rfl
  have hg := fst1_got a ha x
  unfold lay
  rw [hg, hrd]
  by_cases h1 : x < a.size
  · rw [if_pos h1, if_neg (fun q => by cases q.2.2.2), if_pos h1]
  · rw [if_neg h1, if_neg h1]
    by_cases h2 : x < k + b.size
    · rw [if_pos h2, if_pos ⟨by omega, by omega, by omega, rfl⟩]
      congr 2
      omega
    · rw [if_neg h2, if_neg (by omega)]
def wantB (a b : ByteArray) (k : Nat) : ByteArray := if a.size < k + b.size then a ++ b.extract (a.size - k) b.size else a
theorem fst_take (a b : ByteArray) (k : Nat) (ha : a.size ≤ 500) (hb : b.size ≤ 500) (hk : k ≤ a.size) : strOfNums (takeL (fst2 a b k) 2000) = wantB a b k := by
  have hr : (fst2 a b k).rst = false := by
    unfold fst2
    rw [put_zero (fst2_e a b k ha hb hk) (by rw [fst1_is a ha]; rfl), fst1_is a ha]
    rfl
  have hrd : (fst2 a b k).rd = 0 := by
    unfold fst2
    rw [(put_rd _ _ _ _).1, fst1_is a ha]
    rfl
  rw [take_not hr, hrd]
  have hg := fst2_got a b k ha hb hk
  unfold wantB
  by_cases h : a.size < k + b.size
  · rw [if_pos h]
    have hs : (a ++ b.extract (a.size - k) b.size).size = k + b.size := by rw [app_size, ext_size _ _ _ (Nat.le_refl _)]; omega
    refine (run_text _ 0 _ _ (by rw [hs]; show _ ≤ 2000; omega) (fun i hi => ?_) (.inr ?_)).1
    · rw [hs] at hi
      rw [Int.zero_add, hg i, bt_app]
      by_cases h1 : i < a.size
      · rw [if_pos h1, if_pos h1]
      · rw [if_neg h1, if_neg h1, if_pos hi, bt_ext _ _ _ _ (by omega)]
        congr 2
        omega
    · rw [hs, Int.zero_add, hg (k + b.size), if_neg (by omega), if_neg (by omega)]
  · rw [if_neg h]
    refine (run_text _ 0 _ _ (by show _ ≤ 2000; omega) (fun i hi => ?_) (.inr ?_)).1
    · rw [Int.zero_add, hg i, if_pos hi]
    · rw [Int.zero_add, hg a.size, if_neg (by omega), if_neg (by omega)]
set_option maxHeartbeats 4000000 in
theorem first_walk {LS : BSt} (fc : InFace LS) (a b : ByteArray) (off : Int) (w : World) (ha64 : a.size ≤ 140737488355328) (hb64 : b.size ≤ 140737488355328) :
    Calls Try.prog 6 #[.string a, .string b, .int .i64 off] w fun e w' => e = .returned (.bool true) ∧ Below w.heap.size w w' := by
  have WO : Hid (∀ _ : Unit, _) := fun _ => inworks_ok fc w
  by_cases ha : 500 < a.size
  · have g1 : decide ((500 : Int) < (a.size : Int)) = true := decide_eq_true (by omega)
    have g1' : decide (500 < a.size) = true := decide_eq_true ha
    go_enter Try.func6, Try.ntmps6
    go_wp2_with fail
    refine (WO.out ()).mono ?_
    rintro e w1 ⟨rfl, b1⟩
    have Z1 := Lib.hid b1
    clear b1 WO
    go_wp2_with fail
    go_ret
    exact ⟨rfl, Z1.out⟩
  · have g1 : decide ((500 : Int) < (a.size : Int)) = false := decide_eq_false (by omega)
    have g1' : decide (500 < a.size) = false := decide_eq_false ha
    by_cases hb : 500 < b.size
    · have g2 : decide ((500 : Int) < (b.size : Int)) = true := decide_eq_true (by omega)
      have g2' : decide (500 < b.size) = true := decide_eq_true hb
      go_enter Try.func6, Try.ntmps6
      go_wp2_with fail
      refine (WO.out ()).mono ?_
      rintro e w1 ⟨rfl, b1⟩
      have Z1 := Lib.hid b1
      clear b1 WO
      go_wp2_with fail
      go_ret
      exact ⟨rfl, Z1.out⟩
    · have g2 : decide ((500 : Int) < (b.size : Int)) = false := decide_eq_false (by omega)
      have g2' : decide (500 < b.size) = false := decide_eq_false hb
      obtain ⟨k, hk, hka⟩ := rem_place off a.size (by omega)
      have NP : Hid (∀ w', Below w.heap.size w w' → _) := fun w' b => pi_new fc w w' b
      have P1 : Hid (∀ w' B F, PI LS w w' B F bx0 → _) := fun w' B F h => pi_put fc 0 a false h (by decide) (by omega) (by decide)
      rw [fst1_e a (by omega)] at P1
      have P2 : Hid (∀ w' B F, PI LS w w' B F (fst1 a) → _) := fun w' B F h => pi_put fc (k : Int) b false h (by unfold In64; omega) (by omega) (by rw [fst1_is a (by omega)]; show 0 + a.size ≤ _; omega)
      rw [fst2_e a b k (by omega) (by omega) hka] at P2
      have P3 : Hid (∀ w' B F, PI LS w w' B F (fst2 a b k) → _) := fun w' B F h => pi_read fc 2000 h (by decide) (by unfold fst2; rw [(put_rd _ _ _ _).1, fst1_is a (by omega)]; show (0 : Int) ≤ _; decide)
      rw [fst_take a b k (by omega) (by omega) hka] at P3
      go_enter Try.func6, Try.ntmps6
      go_wp2_with fail
      refine (WO.out ()).mono ?_
      rintro e w1 ⟨rfl, b1⟩
      have Z1 := Lib.hid b1
      clear b1 WO
      go_wp2_with fail
      refine (NP.out _ Z1.out).mono ?_
      rintro e w2 ⟨B, F1, rfl, h1, -⟩
      have N1 := Lib.hid h1
      clear h1 NP Z1
      go_wp2_with fail
      refine (P1.out _ _ _ N1.out).mono ?_
      rintro e w3 ⟨rfl, F2, h2, -, -⟩
      have N2 : Hid (PI LS w w3 B F2 (fst1 a)) := h2
      clear h2 N1 P1
      go_wp2_with fail
      refine (P2.out _ _ _ N2.out).mono ?_
      rintro e w4 ⟨rfl, F3, h3, -, -⟩
      have N3 : Hid (PI LS w w4 B F3 (fst2 a b k)) := h3
      clear h3 N2 P2
      unfold wantB at P3
      by_cases hq : a.size < k + b.size
      · rw [if_pos hq] at P3
        have z1 : decide ((a.size : Int) < (k : Int) + (b.size : Int)) = true := decide_eq_true (by omega)
        have z2 : decide (a.size < k + b.size) = true := decide_eq_true hq
        have z3 : (a.size : Int) - (k : Int) = ((a.size - k : Nat) : Int) := by omega
        obtain ⟨j, hj⟩ : ∃ j, j = a.size - k := ⟨_, rfl⟩
        rw [← hj] at P3 z3
        have hjb : j ≤ b.size := by omega
        replace hj := Lib.hid hj
        go_wp2_with fail
        refine (P3.out _ _ _ N3.out).mono ?_
        rintro e w5 ⟨rfl, F4, h4, -, -⟩
        have B5 := Lib.hid h4.bel
        clear h4 N3 P3
        go_wp2_with fail
        go_ret
        exact ⟨rfl, B5.out⟩
      · rw [if_neg hq] at P3
        have z1 : decide ((a.size : Int) < (k : Int) + (b.size : Int)) = false := decide_eq_false (by omega)
        have z2 : decide (a.size < k + b.size) = false := decide_eq_false hq
        go_wp2_with fail
        refine (P3.out _ _ _ N3.out).mono ?_
        rintro e w5 ⟨rfl, F4, h4, -, -⟩
        have B5 := Lib.hid h4.bel
        clear h4 N3 P3
        go_wp2_with fail
        go_ret
        exact ⟨rfl, B5.out⟩
end Go.Proofs.Ytpendchkalagnaa
