/-
  What the program's Check and Get answer of fields in memory. No condition.
-/
import Derived.Test.YtojfcflkanohoaaDoorTgName
namespace Go.Proofs.YtojfcflkanohoaaDoor
set_option maxRecDepth 100000
open Go.RowKit Go.Sort

theorem box_below (w : World) (o : Obj) : Below w.heap.size w (w.alloc o) := (Below.refl _ _).alloc (Nat.le_refl _) _
set_option maxHeartbeats 4000000 in
theorem pcheck14_ok (l : List Fd) (v : Value) (w : World) (h : FdsAt w v l) (hl : l.length ≤ maxLen) : Calls Tryd.prog 29 #[v] w fun e w' => e = .returned (.int .i64 (chkS l)) ∧ Below w.heap.size w w' := by
  have H := Lib.hid h
  obtain ⟨a, c, rfl⟩ := h.slice
  clear h
  have hl2 : l.length ≤ 9223372036854775807 := by unfold maxLen at hl; omega
  clear hl
  obtain ⟨n, hn⟩ : ∃ n, n = l.length := ⟨_, rfl⟩
  by_cases q : 16 < l.length
  · have e : chkS l = 8 := by unfold chkS; rw [if_pos q]
    rw [e]
    rw [← hn] at q hl2 ⊢
    have z : decide ((16 : Int) < (n : Int)) = true := decide_eq_true (by omega)
    have z' : decide (16 < n) = true := decide_eq_true q
    clear H hn
    go_enter Tryd.func29, Tryd.ntmps29
    go_wp2_with fail
    go_ret
    exact ⟨rfl, Below.refl _ _⟩
  · have e : Hid (chkS l = fstE l) := by unfold Hid chkS; rw [if_neg q]
    have h1 := ldF_le l
    have h2 := Lib.hid (ldF_yes l)
    have h3 := Lib.hid (ldF_no l)
    have h4 := Lib.hid (ldF_all l)
    obtain ⟨A, hA⟩ : ∃ A, A = ldF l := ⟨_, rfl⟩
    rw [← hA] at h1 h2 h3 h4
    have RT : Hid (∀ f w, _) := fun f w => cfield_ok f w
    obtain ⟨E, hE⟩ : ∃ E, E = chkS l := ⟨_, rfl⟩
    rw [← hE]
    replace hE := Lib.hid hE
    rw [← hn] at h1 h3 h4 q hl2 ⊢
    replace hn := Lib.hid hn
    have z : decide ((16 : Int) < (n : Int)) = false := decide_eq_false (by omega)
    have z' : decide (16 < n) = false := decide_eq_false q
    clear hA
    go_enter Tryd.func29, Tryd.ntmps29
    go_wp2_with fail
    go_loopg [11] A (fun g' iv wr => ∃ k : Nat, k + g' = A ∧ iv = .int .i64 k ∧ Hid (Below w.heap.size w wr))
    case atStart => exact ⟨0, by omega, rfl, Below.refl _ _⟩
    case round =>
      obtain ⟨k, hk, rfl, b⟩ := hrel
      by_cases hlt : k < n
      · have g1 : decide ((k : Int) < (n : Int)) = true := decide_eq_true (by omega)
        have g1' : decide (k < n) = true := decide_eq_true hlt
        obtain ⟨g, o, rfl, c1, c2⟩ := (H.out.keep b.out).at (k := k) (by rw [← hn.out]; exact hlt)
        have ia := fun w' => at_fds g o n c k w' hlt (k : Int) rfl (o + 2 * k) rfl
        have R0 := RT.out (l.getD k nF)
        by_cases hkA : k < A
        · have hr := h2.out k hkA
          rw [hr] at R0
          generalize l.getD k nF = f at *
          obtain ⟨f1, f2⟩ := f
          unfold fbV at R0
          simp only at c1 c2 R0
          replace hr := Lib.hid hr
          have bx := box_below wr (.cells #[.string (strL f1), .string (strL f2)] 35)
          have R1 := Lib.hid (R0 (wr.alloc (.cells #[.string (strL f1), .string (strL f2)] 35)))
          have B0 := Lib.hid (b.out.trans (bx.mono b.out.size))
          clear bx R0
          go_wp2_with fail
          refine R1.out.mono ?_
          rintro e w1 ⟨rfl, b1⟩
          have B1 := Lib.hid (B0.out.trans (b1.mono B0.out.size))
          clear b1 R1 B0
          go_wp2_with fail
          go_roundg (A - (k + 1))
          case measure => omega
          case rel => exact ⟨k + 1, by omega, by go_num, B1⟩
        · obtain rfl : k = A := by omega
          obtain ⟨r1, r2⟩ := h3.out hlt
          have E0 : Hid (E = rtE (l.getD k nF)) := hE.out.trans (e.out.trans r2)
          have z1 : (rtE (l.getD k nF) != 0) = true := bne_iff_ne.2 r1
          generalize l.getD k nF = f at *
          generalize rtE f = x at *
          obtain ⟨f1, f2⟩ := f
          unfold fbV at R0
          simp only at c1 c2 R0
          have bx := box_below wr (.cells #[.string (strL f1), .string (strL f2)] 35)
          have R1 := Lib.hid (R0 (wr.alloc (.cells #[.string (strL f1), .string (strL f2)] 35)))
          have B0 := Lib.hid (b.out.trans (bx.mono b.out.size))
          clear r1 r2 bx R0
          go_wp2_with fail
          refine R1.out.mono ?_
          rintro e w1 ⟨rfl, b1⟩
          have B1 := Lib.hid (B0.out.trans (b1.mono B0.out.size))
          clear b1 R1 B0
          go_wp2_with fail
          go_ret
          exact ⟨by rw [E0.out]; rfl, B1.out⟩
      · have g1 : decide ((k : Int) < (n : Int)) = false := decide_eq_false (by omega)
        have g1' : decide (k < n) = false := decide_eq_false hlt
        have E0 : Hid (E = 0) := hE.out.trans (e.out.trans (h4.out (by omega)))
        go_wp2_with fail
        go_ret
        exact ⟨by rw [E0.out]; rfl, b.out⟩
theorem two_of {l : List Fd} {p : Fd → Bool} {k : Nat} (h : 2 ≤ ((l.take k).filter p).length) : ¬ (l.filter p).length = 1 := by
  intro c
  have e : (l.filter p).length = ((l.take k).filter p).length + ((l.drop k).filter p).length := by
    rw [← List.length_append, ← List.filter_append, List.take_append_drop]
  omega
set_option maxHeartbeats 4000000 in
theorem pget14_ok (l : List Fd) (nm : L) (v : Value) (w : World) (h : FdsAt w v l) (hl : l.length ≤ maxLen) : Calls Tryd.prog 38 #[v, .string (strL nm)] w fun e w' => e = .returned (getV l nm) ∧ Below w.heap.size w w' := by
  have H := Lib.hid h
  obtain ⟨a, c, rfl⟩ := h.slice
  clear h
  have hl2 : l.length ≤ 9223372036854775807 := by unfold maxLen at hl; omega
  clear hl
  obtain ⟨n, hn⟩ : ∃ n, n = l.length := ⟨_, rfl⟩
  obtain ⟨E, hE⟩ : ∃ E, E = getV l nm := ⟨_, rfl⟩
  rw [← hE]
  replace hE := Lib.hid (hE.trans (getV_of l nm))
  rw [← hn] at hl2 ⊢
  replace hn := Lib.hid hn
  go_enter Tryd.func38, Tryd.ntmps38
  go_wp2_with fail
  go_loopg [6, 7, 12] n (fun g' vv fv iv wr => ∃ (k : Nat) (m : List Fd) (fo : Bool) (u : L), Hid (k + g' = n) ∧ Hid (m = (l.take k).filter (isN nm) ∧ fo = decide (m.length = 1) ∧ u = lastV m ∧ m.length ≤ 1) ∧ iv = .int .i64 k ∧ fv = .bool fo ∧ vv = .string (strL u) ∧ Hid (Below w.heap.size w wr))
  case atStart => exact ⟨0, [], false, [], Lib.hid (by omega), ⟨by simp, rfl, rfl, Nat.zero_le _⟩, rfl, rfl, rfl, Below.refl _ _⟩
  case round =>
    obtain ⟨k, m, fo, u, hk, hm, rfl, rfl, rfl, b⟩ := hrel
    obtain ⟨m1, m2, m3, m4⟩ := hm.out
    have hk0 := hk.out
    by_cases hlt : k < n
    · have g1 : decide ((k : Int) < (n : Int)) = true := decide_eq_true (by omega)
      have g1' : decide (k < n) = true := decide_eq_true hlt
      obtain ⟨g, o, rfl, c1, c2⟩ := (H.out.keep b.out).at (k := k) (by rw [← hn.out]; exact hlt)
      have ia := fun w' => at_fds g o n c k w' hlt (k : Int) rfl (o + 2 * k) rfl
      have eq := eq_strL (l.getD k nF).1 nm
      have tf := take_filter l (isN nm) k (by rw [← hn.out]; exact hlt)
      have hms : Hid (n - (k + 1) < gk) := by unfold Hid; omega
      have hk1 : Hid (k + 1 + (n - (k + 1)) = n) := by unfold Hid; omega
      by_cases qn : (l.getD k nF).1 = nm
      · rw [decide_eq_true qn] at eq
        rw [show isN nm (l.getD k nF) = true from decide_eq_true qn, if_pos rfl, ← m1] at tf
        by_cases q1 : m.length = 1
        · have hf : fo = true := by rw [m2]; exact decide_eq_true q1
          subst hf
          have E0 : Hid (E = .tuple #[.string ⟨#[]⟩, .bool false]) := by
            unfold Hid
            rw [hE.out, if_neg (two_of (k := k + 1) (by rw [tf, List.length_append]; simp; omega))]
          generalize l.getD k nF = f at *
          obtain ⟨f1, f2⟩ := f
          simp only at eq c1 c2
          have bx := box_below wr (.cells #[.string (strL f1), .string (strL f2)] 35)
          have B0 := Lib.hid (b.out.trans (bx.mono b.out.size))
          replace qn := Lib.hid qn
          clear tf hm m1 m2 m3 m4 hk hk0 q1 bx hE
          go_wp2_with fail
          go_ret2
          exact ⟨by rw [E0.out]; rfl, B0.out⟩
        · have hf : fo = false := by rw [m2]; exact decide_eq_false q1
          subst hf
          have hm0 : m = [] := List.eq_nil_of_length_eq_zero (by omega)
          have M2 : Hid (m ++ [l.getD k nF] = (l.take (k + 1)).filter (isN nm) ∧ true = decide ((m ++ [l.getD k nF]).length = 1) ∧ (l.getD k nF).2 = lastV (m ++ [l.getD k nF]) ∧ (m ++ [l.getD k nF]).length ≤ 1) := ⟨tf.symm, by rw [hm0]; simp, (lastV_snoc _ _).symm, by rw [hm0]; simp⟩
          generalize l.getD k nF = f at *
          obtain ⟨f1, f2⟩ := f
          simp only at eq c1 c2 M2
          have bx := box_below wr (.cells #[.string (strL f1), .string (strL f2)] 35)
          have B0 := Lib.hid (b.out.trans (bx.mono b.out.size))
          replace qn := Lib.hid qn
          clear tf hm m1 m2 m3 m4 hk hk0 q1 bx hm0
          go_wp2_with fail
          go_roundg (n - (k + 1))
          case measure => exact hms.out
          case rel => exact ⟨k + 1, m ++ [(f1, f2)], true, f2, hk1, M2, by go_num, rfl, rfl, B0⟩
      · rw [decide_eq_false qn] at eq
        rw [show isN nm (l.getD k nF) = false from decide_eq_false qn, if_neg (by decide), List.append_nil, ← m1] at tf
        have M2 : Hid (m = (l.take (k + 1)).filter (isN nm) ∧ fo = decide (m.length = 1) ∧ u = lastV m ∧ m.length ≤ 1) := ⟨tf.symm, m2, m3, m4⟩
        generalize l.getD k nF = f at *
        obtain ⟨f1, f2⟩ := f
        simp only at eq c1 c2
        have bx := box_below wr (.cells #[.string (strL f1), .string (strL f2)] 35)
        have B0 := Lib.hid (b.out.trans (bx.mono b.out.size))
        replace qn := Lib.hid qn
        clear tf hm m1 m2 m3 m4 hk hk0 bx
        go_wp2_with fail
        go_roundg (n - (k + 1))
        case measure => exact hms.out
        case rel => exact ⟨k + 1, m, fo, u, hk1, M2, by go_num, rfl, rfl, B0⟩
    · have g1 : decide ((k : Int) < (n : Int)) = false := decide_eq_false (by omega)
      have g1' : decide (k < n) = false := decide_eq_false hlt
      have hm5 : m = l.filter (isN nm) := by rw [m1, List.take_of_length_le (by rw [← hn.out]; omega)]
      rw [← hm5] at hE
      have E0 : Hid (E = .tuple #[.string (strL u), .bool fo]) := by
        unfold Hid
        rw [hE.out, m3, m2]
        by_cases q1 : m.length = 1
        · rw [if_pos q1, decide_eq_true q1]
        · rw [if_neg q1, decide_eq_false q1, List.eq_nil_of_length_eq_zero (show m.length = 0 by omega)]
          rfl
      clear hm m1 m2 m3 m4 hm5 hE hk hk0
      go_wp2_with fail
      go_ret2
      exact ⟨by rw [E0.out]; rfl, b.out⟩
end Go.Proofs.YtojfcflkanohoaaDoor
