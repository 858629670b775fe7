/-
  What the document's own Gram and Open answer; a number of four bytes. No condition but the form's own reach.
-/
import Derived.Test.YtihkbakbciejiaaDoorCpRef
import Derived.Test.YtihkbakbciejiaaDoorTxRef
namespace Go.Proofs.YtihkbakbciejiaaDoor
set_option maxRecDepth 100000
open Go.RowKit

theorem rnum_ok (n : Int) (w : World) : Calls Tryd.prog 34 #[.int .i64 n] w fun e w' => e = .returned (.bool (decide (numI n))) ∧ w = w' := by
  by_cases h0 : 0 ≤ n
  · have q0 : decide (0 ≤ n) = true := decide_eq_true h0
    by_cases h1 : n ≤ 4611686018427387903
    · have q1 : decide (n ≤ 4611686018427387903) = true := decide_eq_true h1
      rw [decide_eq_true (show numI n from ⟨h0, h1⟩)]
      go_enter Tryd.func34, Tryd.ntmps34
      go_wp2
      go_ret
      exact ⟨rfl, rfl⟩
    · have q1 : decide (n ≤ 4611686018427387903) = false := decide_eq_false h1
      rw [decide_eq_false (show ¬ numI n from fun c => h1 c.2)]
      go_enter Tryd.func34, Tryd.ntmps34
      go_wp2
      go_ret
      exact ⟨rfl, rfl⟩
  · have q0 : decide (0 ≤ n) = false := decide_eq_false h0
    rw [decide_eq_false (show ¬ numI n from fun c => h0 c.1)]
    go_enter Tryd.func34, Tryd.ntmps34
    go_wp2
    go_ret
    exact ⟨rfl, rfl⟩
/-- What Open answers. -/
def opnV (s : L) : Value := match opnL s with
  | .ok (a, b, d) => .tuple #[.int .i64 (a : Int), .int .i64 (b : Int), .string (strL d), .int .i64 0]
  | .error e => .tuple #[.int .i64 0, .int .i64 0, .string ⟨#[]⟩, .int .i64 e]
set_option maxHeartbeats 2000000 in
theorem ropn_ok (s : ByteArray) (w : World) (hs : s.size ≤ 4611686018427387903) :
    Calls Tryd.prog 30 #[.string s] w fun e w' => e = .returned (opnV (toL s)) ∧ Below w.heap.size w w' := by
  unfold opnV opnL
  cases h1 : getL (toL s) with
  | none =>
    have G := Lib.hid (rget_none s w (by omega) h1)
    clear h1
    go_enter Tryd.func30, Tryd.ntmps30
    go_wp2_with fail
    refine G.out.mono ?_
    rintro e w1 ⟨rfl, b1⟩
    have Z := Lib.hid b1
    clear b1 G
    go_wp2_with fail
    exact bodyPost_ret (v := .tuple #[.int .i64 0, .int .i64 0, .string ⟨#[]⟩, .int .i64 1]) (by simp [results, Tryd.results30]) rfl ⟨rfl, Z.out⟩
  | some p =>
    obtain ⟨a, n⟩ := p
    simp only
    have hk := get_len h1
    have hkb := (getL_bound h1).1
    have G := Lib.hid (rget_some s w (by omega) h1)
    have e2 : toL (s.extract n s.size) = (toL s).drop n := toL_extract s n
    have z2 : (s.extract n s.size).size = s.size - n := by rw [ByteArray.size_extract]; omega
    rw [← e2]
    cases h2 : getL (toL (s.extract n s.size)) with
    | none =>
      have G2 : Hid (∀ w', _) := fun w' => rget_none (s.extract n s.size) w' (by omega) h2
      clear h1 h2 e2
      go_enter Tryd.func30, Tryd.ntmps30
      go_wp2_with fail
      refine G.out.mono ?_
      rintro e w1 ⟨rfl, b1⟩
      have B1 := Lib.hid b1
      clear b1 G
      go_wp2_with fail
      refine (G2.out w1).mono ?_
      rintro e w2 ⟨rfl, b2⟩
      have Z := Lib.hid (B1.out.trans (b2.mono B1.out.size))
      clear b2 G2 B1
      go_wp2_with fail
      exact bodyPost_ret (v := .tuple #[.int .i64 0, .int .i64 0, .string ⟨#[]⟩, .int .i64 1]) (by simp [results, Tryd.results30]) rfl ⟨rfl, Z.out⟩
    | some q =>
      obtain ⟨b, m⟩ := q
      simp only
      have hk2 := get_len h2
      have hbb := (getL_bound h2).1
      have G2 : Hid (∀ w', _) := fun w' => rget_some (s.extract n s.size) w' (by omega) h2
      obtain ⟨nm, hnm⟩ : ∃ nm, nm = n + m := ⟨_, rfl⟩
      have sumE : (n : Int) + (m : Int) = (nm : Int) := by omega
      have hnms : nm ≤ s.size := by omega
      have eD : Hid (s.extract nm s.size = strL ((toL s).drop nm)) := toL_inj (by rw [toL_strL, toL_extract])
      rw [← hnm]
      replace hnm := Lib.hid hnm
      clear h1 h2 e2
      by_cases h7 : 7 < a
      · rw [if_pos h7]
        have q7 : decide ((7 : Int) < (a : Int)) = true := decide_eq_true (by omega)
        go_enter Tryd.func30, Tryd.ntmps30
        go_wp2_with fail
        refine G.out.mono ?_
        rintro e w1 ⟨rfl, b1⟩
        have B1 := Lib.hid b1
        clear b1 G
        go_wp2_with fail
        refine (G2.out w1).mono ?_
        rintro e w2 ⟨rfl, b2⟩
        have Z := Lib.hid (B1.out.trans (b2.mono B1.out.size))
        clear b2 G2 B1
        go_wp2_with fail
        exact bodyPost_ret (v := .tuple #[.int .i64 0, .int .i64 0, .string ⟨#[]⟩, .int .i64 2]) (by simp [results, Tryd.results30]) rfl ⟨rfl, Z.out⟩
      · rw [if_neg h7]
        simp only
        have q7 : decide ((7 : Int) < (a : Int)) = false := decide_eq_false (by omega)
        have ha7 : a ≤ 7 := by omega
        rw [← eD.out]
        obtain ⟨a4, ha4⟩ : ∃ a4, a4 = 4 * a := ⟨_, rfl⟩
        have mulE : (4 : Int) * (a : Int) = (a4 : Int) := by omega
        rw [← ha4]
        replace ha4 := Lib.hid ha4
        go_enter Tryd.func30, Tryd.ntmps30
        go_wp2_with fail
        refine G.out.mono ?_
        rintro e w1 ⟨rfl, b1⟩
        have B1 := Lib.hid b1
        clear b1 G
        go_wp2_with fail
        refine (G2.out w1).mono ?_
        rintro e w2 ⟨rfl, b2⟩
        have Z := Lib.hid ((B1.out.trans (b2.mono B1.out.size)).trans (drewB _ _))
        clear b2 G2 B1
        go_wp2_with fail
        go_region
        all_goals
          go_wp2_with fail
          exact bodyPost_ret (v := .tuple #[.int .i64 (a4 : Int), .int .i64 (b : Int), .string (s.extract nm s.size), .int .i64 0]) (by simp [results, Tryd.results30]) rfl ⟨rfl, Z.out⟩
/-- What Gram answers. -/
def grmV (st cx : Int) (d : L) : Value := match grmL st cx d with
  | .ok s => .tuple #[.string (strL s), .int .i64 0]
  | .error e => .tuple #[.string ⟨#[]⟩, .int .i64 e]
/-- A number of four bytes. -/
theorem rnum4 (t : ByteArray) (w : World) (hs : t.size = 4) :
    Calls Tryd.prog 43 #[.string t] w fun e w' => e = .returned (.int .i64 (w4 (toL t) : Int)) ∧ w = w' := by
  have hb := byt_bd t
  have e : ((w4 (toL t) : Nat) : Int) = ((byt t 0 * 256 + byt t 1) * 256 + byt t 2) * 256 + byt t 3 := by
    have hl : (toL t).length = 4 := by rw [toL_len, hs]
    unfold w4 fold byt
    match h : toL t, hl with
    | [a, b, c, d], _ =>
      have h' : t.data.toList = [a, b, c, d] := h
      rw [h']
      simp
  have e0 := byt_eq t 0 (by omega); have b0 := hb 0; have e1 := byt_eq t 1 (by omega); have b1 := hb 1; have e2 := byt_eq t 2 (by omega); have b2 := hb 2; have e3 := byt_eq t 3 (by omega); have b3 := hb 3
  rw [e]
  clear hb e
  go_enter Tryd.func43, Tryd.ntmps43
  go_wp2
  go_rounds 5
  go_ret
  exact ⟨ret_int (by omega), rfl⟩
end Go.Proofs.YtihkbakbciejiaaDoor
