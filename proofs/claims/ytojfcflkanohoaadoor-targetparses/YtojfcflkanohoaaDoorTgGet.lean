/-
  What the document's own Check, Get and Same answer of fields in memory. No condition.
-/
import Derived.Test.YtojfcflkanohoaaDoorTgMem
namespace Go.Proofs.YtojfcflkanohoaaDoor
set_option maxRecDepth 100000
open Go.RowKit Go.Sort

/-- How many right ones stand at the front. -/
def ldF : List Fd → Nat
  | [] => 0
  | f :: l => if rtE f = 0 then ldF l + 1 else 0
theorem ldF_le : ∀ l, ldF l ≤ l.length
  | [] => Nat.le_refl _
  | f :: l => by
    unfold ldF
    have := ldF_le l
    split
    · rw [List.length_cons]; omega
    · omega
theorem ldF_yes : ∀ (l : List Fd) (i : Nat), i < ldF l → rtE (l.getD i nF) = 0
  | [], i, h => by simp [ldF] at h
  | f :: l, i, h => by
    unfold ldF at h
    split at h
    · rename_i q
      cases i with
      | zero => simpa using q
      | succ i => simpa using ldF_yes l i (by omega)
    · omega
theorem ldF_no : ∀ l : List Fd, ldF l < l.length → rtE (l.getD (ldF l) nF) ≠ 0 ∧ fstE l = rtE (l.getD (ldF l) nF)
  | [], h => by simp at h
  | f :: l, h => by
    unfold ldF fstE at *
    by_cases q : rtE f = 0
    · rw [if_pos q] at h ⊢
      rw [if_pos q]
      simpa using ldF_no l (by simpa using h)
    · rw [if_neg q, if_neg q]
      exact ⟨by simpa using q, by simp⟩
theorem ldF_all : ∀ l : List Fd, ldF l = l.length → fstE l = 0
  | [], _ => rfl
  | f :: l, h => by
    unfold ldF at h
    unfold fstE
    by_cases q : rtE f = 0
    · rw [if_pos q] at h ⊢
      exact ldF_all l (by simpa using h)
    · rw [if_neg q] at h
      simp at h
set_option maxHeartbeats 4000000 in
theorem rcheck_ok (l : List Fd) (v : Value) (w : World) (h : FdsAt w v l) (hl : l.length ≤ maxLen) : Calls Tryd.prog 16 #[v] w fun e w' => e = .returned (.int .i64 (chkS l)) ∧ Below w.heap.size w w' := by
  have H := Lib.hid h
  obtain ⟨a, c, rfl⟩ := h.slice
  clear h
  have hl2 : l.length ≤ 9223372036854775807 := by unfold maxLen at hl; omega
  clear hl
  obtain ⟨n, hn⟩ : ∃ n, n = l.length := ⟨_, rfl⟩
  by_cases q : 16 < l.length
  · have e : chkS l = 8 := by unfold chkS; rw [if_pos q]
    rw [e]
    rw [← hn] at q hl2 ⊢
    have z : decide ((16 : Int) < (n : Int)) = true := decide_eq_true (by omega)
    have z' : decide (16 < n) = true := decide_eq_true q
    clear H hn
    go_enter Tryd.func16, Tryd.ntmps16
    go_wp2_with fail
    go_ret
    exact ⟨rfl, Below.refl _ _⟩
  · have e : Hid (chkS l = fstE l) := by unfold Hid chkS; rw [if_neg q]
    have h1 := ldF_le l
    have h2 := Lib.hid (ldF_yes l)
    have h3 := Lib.hid (ldF_no l)
    have h4 := Lib.hid (ldF_all l)
    obtain ⟨A, hA⟩ : ∃ A, A = ldF l := ⟨_, rfl⟩
    rw [← hA] at h1 h2 h3 h4
    have RT : Hid (∀ f w, _) := fun f w => rright_ok f w
    obtain ⟨E, hE⟩ : ∃ E, E = chkS l := ⟨_, rfl⟩
    rw [← hE]
    replace hE := Lib.hid hE
    rw [← hn] at h1 h3 h4 q hl2 ⊢
    replace hn := Lib.hid hn
    have z : decide ((16 : Int) < (n : Int)) = false := decide_eq_false (by omega)
    have z' : decide (16 < n) = false := decide_eq_false q
    clear hA
    go_enter Tryd.func16, Tryd.ntmps16
    go_wp2_with fail
    go_loopg [3] A (fun g' iv wr => ∃ k : Nat, k + g' = A ∧ iv = .int .i64 k ∧ Hid (Below w.heap.size w wr))
    case atStart => exact ⟨0, by omega, rfl, Below.refl _ _⟩
    case round =>
      obtain ⟨k, hk, rfl, b⟩ := hrel
      by_cases hlt : k < n
      · have g1 : decide ((k : Int) < (n : Int)) = true := decide_eq_true (by omega)
        have g1' : decide (k < n) = true := decide_eq_true hlt
        obtain ⟨g, o, rfl, c1, c2⟩ := (H.out.keep b.out).at (k := k) (by rw [← hn.out]; exact hlt)
        have ia := fun w' => at_fds g o n c k w' hlt (k : Int) rfl (o + 2 * k) rfl
        have R1 := Lib.hid (RT.out (l.getD k nF) wr)
        unfold fbV at R1
        by_cases hkA : k < A
        · have hr := h2.out k hkA
          generalize l.getD k nF = f at *
          rw [hr] at R1
          replace hr := Lib.hid hr
          go_wp2_with fail
          refine R1.out.mono ?_
          rintro e w1 ⟨rfl, b1⟩
          have B1 := Lib.hid (b.out.trans (b1.mono b.out.size))
          clear b1 R1
          go_wp2_with fail
          go_roundg (A - (k + 1))
          case measure => omega
          case rel => exact ⟨k + 1, by omega, by go_num, B1⟩
        · obtain rfl : k = A := by omega
          obtain ⟨r1, r2⟩ := h3.out hlt
          have E0 : Hid (E = rtE (l.getD k nF)) := hE.out.trans (e.out.trans r2)
          have z1 : (rtE (l.getD k nF) != 0) = true := bne_iff_ne.2 r1
          generalize l.getD k nF = f at *
          generalize rtE f = x at *
          clear r1 r2
          go_wp2_with fail
          refine R1.out.mono ?_
          rintro e w1 ⟨rfl, b1⟩
          have B1 := Lib.hid (b.out.trans (b1.mono b.out.size))
          clear b1 R1
          go_wp2_with fail
          go_ret
          exact ⟨by rw [E0.out]; rfl, B1.out⟩
      · have g1 : decide ((k : Int) < (n : Int)) = false := decide_eq_false (by omega)
        have g1' : decide (k < n) = false := decide_eq_false hlt
        have E0 : Hid (E = 0) := hE.out.trans (e.out.trans (h4.out (by omega)))
        go_wp2_with fail
        go_ret
        exact ⟨by rw [E0.out]; rfl, b.out⟩
theorem eq_strL (a b : L) : ((strL a).toList == (strL b).toList) = decide (a = b) := by
  have e : ∀ l : L, (strL l).toList = l := fun l => by rw [ByteArray.toList_eq]; rfl
  rw [e, e, Bool.eq_iff_iff, beq_iff_eq, decide_eq_true_eq]
def lastV (l : List Fd) : L := (l.getLast?.map (·.2)).getD []
theorem lastV_snoc (l : List Fd) (f : Fd) : lastV (l ++ [f]) = f.2 := by simp [lastV]
def getV (l : List Fd) (n : L) : Value := match getS l n with
  | some v => .tuple #[.string (strL v), .bool true]
  | none => .tuple #[.string ⟨#[]⟩, .bool false]
theorem getV_of (l : List Fd) (n : L) : getV l n = if (l.filter (isN n)).length = 1 then .tuple #[.string (strL (lastV (l.filter (isN n)))), .bool true] else .tuple #[.string ⟨#[]⟩, .bool false] := by
  unfold getV getS
  generalize l.filter (isN n) = m
  match m with
  | [] => rfl
  | [f] => rfl
  | f :: g :: m => simp
theorem take_filter (l : List Fd) (p : Fd → Bool) (k : Nat) (h : k < l.length) : (l.take (k + 1)).filter p = (l.take k).filter p ++ if p (l.getD k nF) = true then [l.getD k nF] else [] := by
  rw [List.take_succ_eq_append_getElem h, List.filter_append]
  have e : l.getD k nF = l[k] := by simp [List.getD, List.getElem?_eq_getElem h]
  rw [e, List.filter_cons]
  split <;> simp
set_option maxHeartbeats 4000000 in
theorem rget14_ok (l : List Fd) (nm : L) (v : Value) (w : World) (h : FdsAt w v l) (hl : l.length ≤ maxLen) : Calls Tryd.prog 20 #[v, .string (strL nm)] w fun e w' => e = .returned (getV l nm) ∧ w = w' := by
  have H := Lib.hid h
  obtain ⟨a, c, rfl⟩ := h.slice
  clear h
  have hl2 : l.length ≤ 9223372036854775807 := by unfold maxLen at hl; omega
  clear hl
  obtain ⟨n, hn⟩ : ∃ n, n = l.length := ⟨_, rfl⟩
  obtain ⟨E, hE⟩ : ∃ E, E = getV l nm := ⟨_, rfl⟩
  rw [← hE]
  replace hE := Lib.hid (hE.trans (getV_of l nm))
  rw [← hn] at hl2 ⊢
  replace hn := Lib.hid hn
  go_enter Tryd.func20, Tryd.ntmps20
  go_wp2_with fail
  go_loopg [6, 7, 8] n (fun g' cv vv iv wr => ∃ (k : Nat) (m : List Fd) (j : Nat) (u : L), Hid (k + g' = n) ∧ Hid (m = (l.take k).filter (isN nm) ∧ j = m.length ∧ u = lastV m ∧ j ≤ k) ∧ iv = .int .i64 k ∧ cv = .int .i64 j ∧ vv = .string (strL u) ∧ w = wr)
  case atStart => exact ⟨0, [], 0, [], Lib.hid (by omega), ⟨by simp, rfl, rfl, Nat.le_refl _⟩, rfl, rfl, rfl, rfl⟩
  case round =>
    obtain ⟨k, m, j, u, hk, hm, rfl, rfl, rfl, rfl⟩ := hrel
    obtain ⟨m1, m2, m3, m4⟩ := hm.out
    have hk0 := hk.out
    by_cases hlt : k < n
    · have g1 : decide ((k : Int) < (n : Int)) = true := decide_eq_true (by omega)
      have g1' : decide (k < n) = true := decide_eq_true hlt
      obtain ⟨g, o, rfl, c1, c2⟩ := H.out.at (k := k) (by rw [← hn.out]; exact hlt)
      have ia := fun w' => at_fds g o n c k w' hlt (k : Int) rfl (o + 2 * k) rfl
      have eq := eq_strL (l.getD k nF).1 nm
      have tf := take_filter l (isN nm) k (by rw [← hn.out]; exact hlt)
      have hms : Hid (n - (k + 1) < gk) := by unfold Hid; omega
      have hk1 : Hid (k + 1 + (n - (k + 1)) = n) := by unfold Hid; omega
      have hj : j < 9223372036854775807 := by omega
      by_cases qn : (l.getD k nF).1 = nm
      · rw [decide_eq_true qn] at eq
        rw [show isN nm (l.getD k nF) = true from decide_eq_true qn, if_pos rfl, ← m1] at tf
        have M2 : Hid (m ++ [l.getD k nF] = (l.take (k + 1)).filter (isN nm) ∧ j + 1 = (m ++ [l.getD k nF]).length ∧ (l.getD k nF).2 = lastV (m ++ [l.getD k nF]) ∧ j + 1 ≤ k + 1) := ⟨tf.symm, by rw [List.length_append, ← m2]; rfl, (lastV_snoc _ _).symm, by omega⟩
        generalize l.getD k nF = f at *
        obtain ⟨f1, f2⟩ := f
        simp only at eq c1 c2 M2
        replace qn := Lib.hid qn
        clear tf hm m1 m2 m3 m4 hk hk0
        go_wp2_with fail
        go_roundg (n - (k + 1))
        case measure => exact hms.out
        case rel => exact ⟨k + 1, m ++ [(f1, f2)], j + 1, f2, hk1, M2, by go_num, by go_num, rfl, rfl⟩
      · rw [decide_eq_false qn] at eq
        rw [show isN nm (l.getD k nF) = false from decide_eq_false qn, if_neg (by decide), List.append_nil, ← m1] at tf
        have M2 : Hid (m = (l.take (k + 1)).filter (isN nm) ∧ j = m.length ∧ u = lastV m ∧ j ≤ k + 1) := ⟨tf.symm, m2, m3, by omega⟩
        generalize l.getD k nF = f at *
        obtain ⟨f1, f2⟩ := f
        simp only at eq c1 c2
        replace qn := Lib.hid qn
        clear tf hm m1 m2 m3 m4 hk hk0
        go_wp2_with fail
        go_roundg (n - (k + 1))
        case measure => exact hms.out
        case rel => exact ⟨k + 1, m, j, u, hk1, M2, by go_num, rfl, rfl, rfl⟩
    · have g1 : decide ((k : Int) < (n : Int)) = false := decide_eq_false (by omega)
      have g1' : decide (k < n) = false := decide_eq_false hlt
      obtain rfl : k = n := by omega
      have hm5 : m = l.filter (isN nm) := by rw [m1, List.take_of_length_le (by rw [← hn.out]; omega)]
      rw [← hm5] at hE
      by_cases qj : j = 1
      · have E0 : Hid (E = .tuple #[.string (strL u), .bool true]) := by
          unfold Hid
          rw [hE.out, if_pos (by omega), ← m3]
        subst qj
        clear hm m1 m2 m3 m4 hm5 hE hk hk0
        go_wp2_with fail
        go_ret2
        exact ⟨by rw [E0.out]; rfl, rfl⟩
      · have E0 : Hid (E = .tuple #[.string ⟨#[]⟩, .bool false]) := by
          unfold Hid
          rw [hE.out, if_neg (by omega)]
        have z1 : ((j : Int) != 1) = true := by rw [bne_iff_ne]; omega
        clear hm m1 m2 m3 m4 hm5 hE hk hk0
        go_wp2_with fail
        go_ret2
        exact ⟨by rw [E0.out]; rfl, rfl⟩
end Go.Proofs.YtojfcflkanohoaaDoor
