/-
  What the program's require, valueOf and isKnown do; the document's own pseudo. No condition.
-/
import Derived.Test.YtojfcflkanohoaaDoorTgMath
import Derived.Test.YtojfcflkanohoaaDoorTgChk
import Derived.Deep.DeepCutAuto
namespace Go.Proofs.YtojfcflkanohoaaDoor
set_option maxRecDepth 100000
open Go.RowKit Go.Sort

theorem eq_lit (a b : L) : ((strL a).toList == b) = decide (a = b) := by
  have e : (strL a).toList = a := by rw [ByteArray.toList_eq]; rfl
  rw [e, Bool.eq_iff_iff, beq_iff_eq, decide_eq_true_eq]
/-- What is thrown. -/
def thrown (e : Int) : List PanicEntry := [{ v := .iface 44 (.int .i64 e), recovered := false }]
theorem req_yes (x : Int) (w : World) : Calls Tryd.prog 28 #[.bool true, .int .i64 x] w fun e w' => e = .returned (.tuple #[]) ∧ w = w' := by
  go_enter Tryd.func28, Tryd.ntmps28
  go_wp2
  go_end0
  exact ⟨rfl, rfl⟩
theorem req_no (x : Int) (w : World) : Calls Tryd.prog 28 #[.bool false, .int .i64 x] w fun e w' => e = .panicked (thrown x) ∧ w = w' := by
  go_enter Tryd.func28, Tryd.ntmps28
  go_wp2
  exact ⟨rfl, rfl, rfl⟩
/-- A call that may throw: what it answers if something holds, else a status. -/
def ReqE (b : Bool) (x : Int) : Ending := if b = true then .returned (.tuple #[]) else .panicked (thrown x)
theorem req_ok (b : Bool) (x : Int) (w : World) : Calls Tryd.prog 28 #[.bool b, .int .i64 x] w fun e w' => e = ReqE b x ∧ w = w' := by
  cases b
  · exact req_no x w
  · exact req_yes x w
set_option maxHeartbeats 4000000 in
theorem isKnown_ok (n : L) (w : World) : Calls Tryd.prog 40 #[.string (strL n)] w fun e w' => e = .returned (.bool (known n)) ∧ w = w' := by
  have e0 : ((strL n).toList == [58, 109, 101, 116, 104, 111, 100]) = decide (n = nMeth) := eq_lit n nMeth
  have e1 : ((strL n).toList == [58, 112, 114, 111, 116, 111, 99, 111, 108]) = decide (n = nProt) := eq_lit n nProt
  have e2 : ((strL n).toList == [58, 115, 99, 104, 101, 109, 101]) = decide (n = nSchm) := eq_lit n nSchm
  have e3 : ((strL n).toList == [58, 97, 117, 116, 104, 111, 114, 105, 116, 121]) = decide (n = nAuth) := eq_lit n nAuth
  have e4 : ((strL n).toList == [58, 112, 97, 116, 104]) = decide (n = nPath) := eq_lit n nPath
  obtain ⟨E, hE⟩ : ∃ E, E = known n := ⟨_, rfl⟩
  rw [← hE]
  unfold known at hE
  by_cases q0 : n = nMeth
  · rw [decide_eq_true q0] at e0
    have E0 : Hid (E = true) := by unfold Hid; rw [hE, decide_eq_true q0]; simp
    clear hE q0 e1 e2 e3 e4
    generalize strL n = S at *
    go_enter Tryd.func40, Tryd.ntmps40
    go_wp2_with fail
    go_ret
    exact ⟨by rw [E0.out]; rfl, rfl⟩
  · rw [decide_eq_false q0] at e0
    by_cases q1 : n = nProt
    · rw [decide_eq_true q1] at e1
      have E0 : Hid (E = true) := by unfold Hid; rw [hE, decide_eq_true q1]; simp
      clear hE q0 q1 e2 e3 e4
      generalize strL n = S at *
      go_enter Tryd.func40, Tryd.ntmps40
      go_wp2_with fail
      go_ret
      exact ⟨by rw [E0.out]; rfl, rfl⟩
    · rw [decide_eq_false q1] at e1
      by_cases q2 : n = nSchm
      · rw [decide_eq_true q2] at e2
        have E0 : Hid (E = true) := by unfold Hid; rw [hE, decide_eq_true q2]; simp
        clear hE q0 q1 q2 e3 e4
        generalize strL n = S at *
        go_enter Tryd.func40, Tryd.ntmps40
        go_wp2_with fail
        go_ret
        exact ⟨by rw [E0.out]; rfl, rfl⟩
      · rw [decide_eq_false q2] at e2
        by_cases q3 : n = nAuth
        · rw [decide_eq_true q3] at e3
          have E0 : Hid (E = true) := by unfold Hid; rw [hE, decide_eq_true q3]; simp
          clear hE q0 q1 q2 q3 e4
          generalize strL n = S at *
          go_enter Tryd.func40, Tryd.ntmps40
          go_wp2_with fail
          go_ret
          exact ⟨by rw [E0.out]; rfl, rfl⟩
        · rw [decide_eq_false q3] at e3
          by_cases q4 : n = nPath
          · rw [decide_eq_true q4] at e4
            have E0 : Hid (E = true) := by unfold Hid; rw [hE, decide_eq_true q4]; simp
            clear hE q0 q1 q2 q3 q4 
            generalize strL n = S at *
            go_enter Tryd.func40, Tryd.ntmps40
            go_wp2_with fail
            go_ret
            exact ⟨by rw [E0.out]; rfl, rfl⟩
          · rw [decide_eq_false q4] at e4
            have E0 : Hid (E = false) := by unfold Hid; rw [hE, decide_eq_false q0, decide_eq_false q1, decide_eq_false q2, decide_eq_false q3, decide_eq_false q4]; rfl
            clear hE q0 q1 q2 q3 q4
            generalize strL n = S at *
            go_enter Tryd.func40, Tryd.ntmps40
            go_wp2_with fail
            go_ret
            exact ⟨by rw [E0.out]; rfl, rfl⟩
set_option maxHeartbeats 4000000 in
theorem pseudo_ok (n : L) (w : World) : Calls Tryd.prog 33 #[.string (strL n)] w fun e w' => e = .returned (.bool (known n)) ∧ w = w' := by
  have e0 : ((strL n).toList == [58, 109, 101, 116, 104, 111, 100]) = decide (n = nMeth) := eq_lit n nMeth
  have e1 : ((strL n).toList == [58, 115, 99, 104, 101, 109, 101]) = decide (n = nSchm) := eq_lit n nSchm
  have e2 : ((strL n).toList == [58, 97, 117, 116, 104, 111, 114, 105, 116, 121]) = decide (n = nAuth) := eq_lit n nAuth
  have e3 : ((strL n).toList == [58, 112, 97, 116, 104]) = decide (n = nPath) := eq_lit n nPath
  have e4 : ((strL n).toList == [58, 112, 114, 111, 116, 111, 99, 111, 108]) = decide (n = nProt) := eq_lit n nProt
  obtain ⟨E, hE⟩ : ∃ E, E = known n := ⟨_, rfl⟩
  rw [← hE]
  unfold known at hE
  by_cases q0 : n = nMeth
  · rw [decide_eq_true q0] at e0
    have E0 : Hid (E = true) := by unfold Hid; rw [hE, decide_eq_true q0]; simp
    clear hE q0 e1 e2 e3 e4
    generalize strL n = S at *
    go_enter Tryd.func33, Tryd.ntmps33
    go_wp2_with fail
    go_ret
    exact ⟨by rw [E0.out]; rfl, rfl⟩
  · rw [decide_eq_false q0] at e0
    by_cases q1 : n = nSchm
    · rw [decide_eq_true q1] at e1
      have E0 : Hid (E = true) := by unfold Hid; rw [hE, decide_eq_true q1]; simp
      clear hE q0 q1 e2 e3 e4
      generalize strL n = S at *
      go_enter Tryd.func33, Tryd.ntmps33
      go_wp2_with fail
      go_ret
      exact ⟨by rw [E0.out]; rfl, rfl⟩
    · rw [decide_eq_false q1] at e1
      by_cases q2 : n = nAuth
      · rw [decide_eq_true q2] at e2
        have E0 : Hid (E = true) := by unfold Hid; rw [hE, decide_eq_true q2]; simp
        clear hE q0 q1 q2 e3 e4
        generalize strL n = S at *
        go_enter Tryd.func33, Tryd.ntmps33
        go_wp2_with fail
        go_ret
        exact ⟨by rw [E0.out]; rfl, rfl⟩
      · rw [decide_eq_false q2] at e2
        by_cases q3 : n = nPath
        · rw [decide_eq_true q3] at e3
          have E0 : Hid (E = true) := by unfold Hid; rw [hE, decide_eq_true q3]; simp
          clear hE q0 q1 q2 q3 e4
          generalize strL n = S at *
          go_enter Tryd.func33, Tryd.ntmps33
          go_wp2_with fail
          go_ret
          exact ⟨by rw [E0.out]; rfl, rfl⟩
        · rw [decide_eq_false q3] at e3
          by_cases q4 : n = nProt
          · rw [decide_eq_true q4] at e4
            have E0 : Hid (E = true) := by unfold Hid; rw [hE, decide_eq_true q4]; simp
            clear hE q0 q1 q2 q3 q4 
            generalize strL n = S at *
            go_enter Tryd.func33, Tryd.ntmps33
            go_wp2_with fail
            go_ret
            exact ⟨by rw [E0.out]; rfl, rfl⟩
          · rw [decide_eq_false q4] at e4
            have E0 : Hid (E = false) := by unfold Hid; rw [hE, decide_eq_false q0, decide_eq_false q1, decide_eq_false q2, decide_eq_false q3, decide_eq_false q4]; rfl
            clear hE q0 q1 q2 q3 q4
            generalize strL n = S at *
            go_enter Tryd.func33, Tryd.ntmps33
            go_wp2_with fail
            go_ret
            exact ⟨by rw [E0.out]; rfl, rfl⟩
/-- What valueOf answers. -/
def ValE (l : List Fd) (n : L) : Ending := match getS l n with
  | some v => .returned (.string (strL v))
  | none => .panicked (thrown 400)
set_option maxHeartbeats 4000000 in
theorem valueOf_ok (l : List Fd) (n : L) (v : Value) (w : World) (h : FdsAt w v l) (hl : l.length ≤ maxLen) : Calls Tryd.prog 30 #[v, .string (strL n)] w fun e w' => e = ValE l n ∧ Below w.heap.size w w' := by
  have G : Hid (∀ _ : Unit, _) := fun _ => pget14_ok l n v w h hl
  obtain ⟨a, c, rfl⟩ := h.slice
  clear h hl
  unfold getV at G
  unfold ValE
  cases q : getS l n with
  | none =>
    rw [q] at G
    simp only at G ⊢
    have R : Hid (∀ w, _) := fun w => req_no 400 w
    clear q
    generalize l.length = k at *
    generalize strL n = S at *
    go_enter Tryd.func30, Tryd.ntmps30
    go_wp2_with fail
    refine (G.out ()).mono ?_
    rintro e w1 ⟨rfl, b1⟩
    replace b1 := Lib.hid b1
    go_wp2_with fail
    refine (R.out w1).mono ?_
    rintro e w2 ⟨rfl, rfl⟩
    exact ⟨rfl, rfl, b1.out⟩
  | some x =>
    rw [q] at G
    simp only at G ⊢
    have R : Hid (∀ w, _) := fun w => req_yes 400 w
    clear q
    generalize l.length = k at *
    generalize strL n = S at *
    generalize strL x = Y at *
    go_enter Tryd.func30, Tryd.ntmps30
    go_wp2_with fail
    refine (G.out ()).mono ?_
    rintro e w1 ⟨rfl, b1⟩
    replace b1 := Lib.hid b1
    go_wp2_with fail
    refine (R.out w1).mono ?_
    rintro e w2 ⟨rfl, rfl⟩
    go_wp2_with fail
    go_ret
    exact ⟨rfl, b1.out⟩
end Go.Proofs.YtojfcflkanohoaaDoor
