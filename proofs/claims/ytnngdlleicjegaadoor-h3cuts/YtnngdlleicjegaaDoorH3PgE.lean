/-
  What the program's Frame, dataFault, placeFault and headFault answer. No condition but the table of sizes and the form's own reach.
-/
import Derived.Test.YtnngdlleicjegaaDoorH3PgD
namespace Go.Proofs.YtnngdlleicjegaaDoor
set_option maxRecDepth 100000
open Go.RowKit

theorem str_emp {s : ByteArray} (h : toL s ≠ []) : s.toList.isEmpty = false := by
  rw [toL_emp]
  cases hx : toL s with
  | nil => exact absurd hx h
  | cons _ _ => rfl
set_option maxHeartbeats 2000000 in
theorem pframe15_ok (k : Int) (d : ByteArray) (w : World) (t : VTab w) (hs : d.size ≤ 4611686018427387000) :
    Calls Tryd.prog 17 #[.int .i64 k, .string d] w fun e w' => e = .returned (.string (strL (frI k (toL d)))) ∧ Below w.heap.size w w' := by
  obtain ⟨X, hX⟩ : ∃ X, X = strL (frI k (toL d)) := ⟨_, rfl⟩
  rw [← hX]
  unfold frI at hX
  by_cases h : 0 ≤ k ∧ k ≤ 4611686018427387903
  · rw [if_pos h] at hX
    have e : X = strL (putI k) ++ strL (putL d.size ++ toL d) := by
      rw [hX, strL_append]
      unfold frm putI
      rw [toL_len]
    have P := Lib.hid (pputI_ok k w t h)
    have T : Hid (∀ w1, Below w.heap.size w w1 → _) := fun w1 b => ptxtL_ok d w1 (t.below b) (by omega)
    have z1 : (strL (putI k)).size ≤ 8 := by rw [strL_size]; exact put_len _
    have n1 : (strL (putI k)).toList.isEmpty = false := str_emp (by
      rw [toL_strL]
      intro c
      have := put_pos k.toNat
      unfold putI at c
      rw [c] at this
      simp at this)
    have z2 : (strL (putL d.size ++ toL d)).size ≤ 8 + d.size := by
      rw [strL_size, List.length_append, toL_len]
      have := put_len d.size
      omega
    rw [e]
    clear e hX t
    generalize strL (putI k) = A at *
    generalize strL (putL d.size ++ toL d) = B at *
    go_enter Tryd.func17, Tryd.ntmps17
    go_wp2_with fail
    refine P.out.mono ?_
    rintro e w1 ⟨rfl, b1⟩
    have Z1 : Hid (Below w.heap.size w w1) := b1
    clear b1 P
    go_wp2_with fail
    refine (T.out _ Z1.out).mono ?_
    rintro e w2 ⟨rfl, b2⟩
    have Z2 : Hid (Below w.heap.size w w2) := Z1.out.trans (b2.mono Z1.out.size)
    clear b2 T Z1
    go_wp2_with fail
    go_ret
    exact ⟨rfl, Z2.out⟩
  · rw [if_neg h] at hX
    have e : X = ⟨#[]⟩ := hX
    rw [e]
    have P : Hid (Calls Tryd.prog 31 #[.int .i64 k] w fun e w' => e = .returned (.string ⟨#[]⟩) ∧ Below w.heap.size w w') := by
      rcases cl_or_no k with ⟨m, j, hc⟩ | hn
      · exfalso
        apply h
        unfold Cl at hc
        omega
      · exact put_no k w t hn
    clear hX e t h
    go_enter Tryd.func17, Tryd.ntmps17
    go_wp2_with fail
    refine P.out.mono ?_
    rintro e w1 ⟨rfl, b1⟩
    have Z1 : Hid (Below w.heap.size w w1) := b1
    clear b1 P
    go_wp2_with fail
    go_ret
    exact ⟨rfl, Z1.out⟩
theorem pgetB_none (s : ByteArray) (w : World) (t : VTab w) (hs : s.size ≤ 9223372036854775807) (h : getL (toL s) = none) :
    Calls Tryd.prog 39 #[.string s] w fun e w' => e = .returned (.tuple #[.int .i64 0, .int .i64 0, .int .i64 1]) ∧ Below w.heap.size w w' := (pget_none s w t hs h).mono fun _ _ ⟨h1, h2⟩ => ⟨h1, h2 ▸ Below.refl _ _⟩
theorem pgetB_some (s : ByteArray) (w : World) (t : VTab w) (hs : s.size ≤ 9223372036854775807) {n k : Nat} (h : getL (toL s) = some (n, k)) :
    Calls Tryd.prog 39 #[.string s] w fun e w' => e = .returned (.tuple #[.int .i64 (n : Int), .int .i64 (k : Int), .int .i64 0]) ∧ Below w.heap.size w w' := (pget_some s w t hs h).mono fun _ _ ⟨h1, h2⟩ => ⟨h1, h2 ▸ Below.refl _ _⟩
set_option maxHeartbeats 2000000 in
theorem pcont_ok (k : Nat) (d : ByteArray) (w : World) (t : VTab w) (hs : d.size ≤ 4611686018427387903) :
    Calls Tryd.prog 55 #[.int .i64 (k : Int), .string d] w fun e w' => e = .returned (.int .i64 (contC k (toL d))) ∧ Below w.heap.size w w' := by
  obtain ⟨E, hE⟩ : ∃ E, E = contC k (toL d) := ⟨_, rfl⟩
  rw [← hE]
  unfold contC hFrame hSettings at hE
  by_cases k7 : k = 7
  · subst k7
    rw [if_pos rfl] at hE
    cases h1 : getL (toL d) with
    | none =>
      rw [h1] at hE
      subst hE
      have G : Hid (∀ _ : Unit, _) := fun _ => pgetB_none d w t (by omega) h1
      clear h1
      go_enter Tryd.func55, Tryd.ntmps55
      go_wp2_with fail
      refine (G.out ()).mono ?_
      rintro e w1 ⟨rfl, b1⟩
      have Z1 : Hid (Below w.heap.size w w1) := b1
      clear b1 G
      go_wp2_with fail
      go_ret
      exact ⟨rfl, Z1.out⟩
    | some p =>
      obtain ⟨a, n⟩ := p
      rw [h1] at hE
      simp only [toL_len] at hE
      have G : Hid (∀ _ : Unit, _) := fun _ => pgetB_some d w t (by omega) h1
      have hk := get_len h1
      clear h1
      by_cases hn : n = d.size
      · rw [if_neg (fun c => c hn)] at hE
        subst hE
        have q1 : ((n : Int) == (d.size : Int)) = true := by simp; omega
        replace hn : Hid _ := hn
        go_enter Tryd.func55, Tryd.ntmps55
        go_wp2_with fail
        refine (G.out ()).mono ?_
        rintro e w1 ⟨rfl, b1⟩
        have Z1 : Hid (Below w.heap.size w w1) := b1
        clear b1 G
        go_wp2_with fail
        go_ret
        exact ⟨rfl, Z1.out⟩
      · rw [if_pos hn] at hE
        subst hE
        have q1 : ((n : Int) == (d.size : Int)) = false := by simp; omega
        go_enter Tryd.func55, Tryd.ntmps55
        go_wp2_with fail
        refine (G.out ()).mono ?_
        rintro e w1 ⟨rfl, b1⟩
        have Z1 : Hid (Below w.heap.size w w1) := b1
        clear b1 G
        go_wp2_with fail
        go_ret
        exact ⟨rfl, Z1.out⟩
  · have q7 : ((k : Int) == 7) = false := by simp; omega
    rw [if_neg k7] at hE
    by_cases k4 : k = 4
    · subst k4
      rw [if_pos rfl] at hE
      have P : Hid (∀ _ : Unit, _) := fun _ => ppairs_ok d w t hs
      go_enter Tryd.func55, Tryd.ntmps55
      go_wp2_with fail
      refine (P.out ()).mono ?_
      rintro e w1 ⟨pr, b1⟩
      have Z1 : Hid (Below w.heap.size w w1) := b1
      clear b1 P
      rcases pr with ⟨l, v, h1, -, rfl, -⟩ | ⟨x, h1, hx, rfl⟩
      · rw [h1] at hE
        subst hE
        clear h1
        go_wp2_with fail
        go_ret
        exact ⟨rfl, Z1.out⟩
      · rw [h1] at hE
        subst hE
        have qx : (x == 0) = false := by simpa using hx
        clear h1
        replace hx : Hid _ := hx
        go_wp2_with fail
        go_ret
        exact ⟨rfl, Z1.out⟩
    · have q4 : ((k : Int) == 4) = false := by simp; omega
      rw [if_neg k4] at hE
      subst hE
      go_enter Tryd.func55, Tryd.ntmps55
      go_wp2
      go_ret
      exact ⟨rfl, Below.refl _ _⟩
set_option maxHeartbeats 4000000 in
theorem pplace_ok (w0 w : World) (R : Nat) (q : Pm) (l : List Ev) (h : PI w0 w R q l) (hk : q.kind < 4611686018427387904) :
    Calls Tryd.prog 52 #[rp R] w fun e w' => e = .returned (.int .i64 (wrongC q.ctl q.op q.kind)) ∧ w = w' := by
  have c0 := h.cell 0 (v := .bool q.ctl) fun _ => rfl
  have c6 := h.cell 6 (v := .bool q.op) fun _ => rfl
  have c3 := h.cell 3 (v := .int .i64 (q.kind : Int)) fun _ => rfl
  clear h
  obtain ⟨E, hE⟩ : ∃ E, E = wrongC q.ctl q.op q.kind := ⟨_, rfl⟩
  rw [← hE]
  unfold wrongC hUnexp hMissing at hE
  generalize q.ctl = c at *
  generalize q.op = f at *
  generalize q.kind = k at *
  by_cases k0 : k = 0
  · subst k0
    cases c <;> cases f <;> simp at hE <;> subst hE <;> (
      go_enter Tryd.func52, Tryd.ntmps52
      go_wp2
      go_ret
      exact ⟨rfl, rfl⟩)
  by_cases k1 : k = 1
  · subst k1
    cases c <;> cases f <;> simp at hE <;> subst hE <;> (
      go_enter Tryd.func52, Tryd.ntmps52
      go_wp2
      go_ret
      exact ⟨rfl, rfl⟩)
  by_cases k4 : k = 4
  · subst k4
    cases c <;> cases f <;> simp at hE <;> subst hE <;> (
      go_enter Tryd.func52, Tryd.ntmps52
      go_wp2
      go_ret
      exact ⟨rfl, rfl⟩)
  by_cases k7 : k = 7
  · subst k7
    cases c <;> cases f <;> simp at hE <;> subst hE <;> (
      go_enter Tryd.func52, Tryd.ntmps52
      go_wp2
      go_ret
      exact ⟨rfl, rfl⟩)
  have y0 : ((k : Int) == 0) = false := by simp; omega
  have y1 : ((k : Int) == 1) = false := by simp; omega
  have y4 : ((k : Int) == 4) = false := by simp; omega
  have y7 : ((k : Int) == 7) = false := by simp; omega
  rw [if_pos ⟨k0, k1, k4, k7⟩] at hE
  subst hE
  clear k0 k1 k4 k7
  go_enter Tryd.func52, Tryd.ntmps52
  go_wp2
  go_ret
  exact ⟨rfl, rfl⟩
set_option maxHeartbeats 4000000 in
theorem phead_ok (w0 w : World) (R : Nat) (q : Pm) (l : List Ev) (n : Nat) (h : PI w0 w R q l) (hk : q.kind < 4611686018427387904) (hn : n < 4611686018427387904) :
    Calls Tryd.prog 46 #[rp R, .int .i64 (n : Int)] w fun e w' => e = .returned (.int .i64 (headC q n)) ∧ w = w' := by
  have PF := Lib.hid (pplace_ok w0 w R q l h hk)
  have c3 := h.cell 3 (v := .int .i64 (q.kind : Int)) fun _ => rfl
  unfold headC
  clear h
  by_cases hc : wrongC q.ctl q.op q.kind = 0
  · rw [if_neg (by simpa using hc)]
    rw [hc] at PF
    clear hc
    generalize q.kind = k at *
    by_cases h4 : 4096 < n
    · have g4 : decide ((4096 : Int) < (n : Int)) = true := decide_eq_true (by omega)
      by_cases kw : k = 1 ∨ k = 4 ∨ k = 7
      · rw [if_pos ⟨by unfold wholeK; rcases kw with rfl | rfl | rfl <;> rfl, h4⟩]
        rcases kw with rfl | rfl | rfl
        · go_enter Tryd.func46, Tryd.ntmps46
          go_wp2_with fail
          refine PF.out.mono ?_
          rintro e w1 ⟨rfl, rfl⟩
          clear PF
          go_wp2_with fail
          go_ret
          exact ⟨rfl, rfl⟩
        · go_enter Tryd.func46, Tryd.ntmps46
          go_wp2_with fail
          refine PF.out.mono ?_
          rintro e w1 ⟨rfl, rfl⟩
          clear PF
          go_wp2_with fail
          go_ret
          exact ⟨rfl, rfl⟩
        · go_enter Tryd.func46, Tryd.ntmps46
          go_wp2_with fail
          refine PF.out.mono ?_
          rintro e w1 ⟨rfl, rfl⟩
          clear PF
          go_wp2_with fail
          go_ret
          exact ⟨rfl, rfl⟩
      · rw [if_neg (fun c => kw (by have := c.1; unfold wholeK at this; simpa [or_assoc] using this))]
        have y1 : ((k : Int) == 1) = false := by simp; omega
        have y4 : ((k : Int) == 4) = false := by simp; omega
        have y7 : ((k : Int) == 7) = false := by simp; omega
        clear kw
        go_enter Tryd.func46, Tryd.ntmps46
        go_wp2_with fail
        refine PF.out.mono ?_
        rintro e w1 ⟨rfl, rfl⟩
        clear PF
        go_wp2_with fail
        go_ret
        exact ⟨rfl, rfl⟩
    · have g4 : decide ((4096 : Int) < (n : Int)) = false := decide_eq_false (by omega)
      rw [if_neg (fun c => h4 c.2)]
      by_cases kw : k = 1 ∨ k = 4 ∨ k = 7
      · rcases kw with rfl | rfl | rfl
        · go_enter Tryd.func46, Tryd.ntmps46
          go_wp2_with fail
          refine PF.out.mono ?_
          rintro e w1 ⟨rfl, rfl⟩
          clear PF
          go_wp2_with fail
          go_ret
          exact ⟨rfl, rfl⟩
        · go_enter Tryd.func46, Tryd.ntmps46
          go_wp2_with fail
          refine PF.out.mono ?_
          rintro e w1 ⟨rfl, rfl⟩
          clear PF
          go_wp2_with fail
          go_ret
          exact ⟨rfl, rfl⟩
        · go_enter Tryd.func46, Tryd.ntmps46
          go_wp2_with fail
          refine PF.out.mono ?_
          rintro e w1 ⟨rfl, rfl⟩
          clear PF
          go_wp2_with fail
          go_ret
          exact ⟨rfl, rfl⟩
      · have y1 : ((k : Int) == 1) = false := by simp; omega
        have y4 : ((k : Int) == 4) = false := by simp; omega
        have y7 : ((k : Int) == 7) = false := by simp; omega
        clear kw
        go_enter Tryd.func46, Tryd.ntmps46
        go_wp2_with fail
        refine PF.out.mono ?_
        rintro e w1 ⟨rfl, rfl⟩
        clear PF
        go_wp2_with fail
        go_ret
        exact ⟨rfl, rfl⟩
  · rw [if_pos hc]
    have qc : (wrongC q.ctl q.op q.kind == 0) = false := by simpa using hc
    clear hc
    generalize wrongC q.ctl q.op q.kind = C at *
    go_enter Tryd.func46, Tryd.ntmps46
    go_wp2_with fail
    refine PF.out.mono ?_
    rintro e w1 ⟨rfl, rfl⟩
    clear PF
    go_wp2_with fail
    go_ret
    exact ⟨rfl, rfl⟩
end Go.Proofs.YtnngdlleicjegaaDoor
