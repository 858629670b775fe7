/-
  What the program's own Write, Gram and Open answer, and the document's own Write. The table of sizes lies as the row's list gives it; no condition but the form's own reach.
-/
import Derived.Test.YtihkbakbciejiaaDoorCpPgB
import Derived.Test.YtihkbakbciejiaaDoorCpGram
namespace Go.Proofs.YtihkbakbciejiaaDoor
set_option maxRecDepth 100000
open Go.RowKit

theorem putL_pos (n : Nat) : 1 ≤ (putL n).length := by unfold putL; split <;> (try split) <;> (try split) <;> simp
theorem putI_some (n : Int) : (strL (putI n)).toList.isEmpty = false := by
  rw [toL_empC, toL_strL]
  have := putL_pos n.toNat
  unfold putI
  cases h : putL n.toNat with
  | nil => rw [h] at this; exact absurd this (by decide)
  | cons _ _ => rfl
theorem pput_none (n : Int) (w : World) (t : VTab w) (h : ¬ numI n) :
    Calls Tryd.prog 32 #[.int .i64 n] w fun e w' => e = .returned (.string ⟨#[]⟩) ∧ Below w.heap.size w w' :=
  put_no n w t (by unfold No; unfold numI at h; omega)
/-- A capsule's bytes; none, where the kind is no number. -/
def frI (k : Int) (d : L) : L := if 0 ≤ k ∧ k ≤ 4611686018427387903 then frm k.toNat d else []
theorem frm_len (k : Nat) (d : L) : (frm k d).length ≤ d.length + 16 := by
  unfold frm
  rw [List.length_append, List.length_append]
  have := put_len k
  have := put_len d.length
  omega
theorem frI_parts (k : Int) (d : ByteArray) (h : numI k) : strL (frI k (toL d)) = strL (putI k) ++ strL (putL d.size ++ toL d) := by
  unfold frI
  rw [if_pos h, strL_append]
  unfold frm putI
  rw [toL_len]
theorem frI_none (k : Int) (d : L) (h : ¬ numI k) : frI k d = [] := if_neg h
set_option maxHeartbeats 2000000 in
theorem pwr_ok (k : Int) (d : ByteArray) (w : World) (t : VTab w) (hs : d.size ≤ 4611686018427387000) :
    Calls Tryd.prog 10 #[.agg #[.int .i64 k, .string d]] w fun e w' => e = .returned (.string (strL (frI k (toL d)))) ∧ Below w.heap.size w w' := by
  have N0 := Bc.new w k d
  have t0 := t.below N0.bel
  obtain ⟨w1, hw1⟩ : ∃ w1, w1 = w.alloc (.cells #[.int .i64 k, .string d] 31) := ⟨_, rfl⟩
  rw [← hw1] at N0 t0
  obtain ⟨K, hK⟩ : ∃ K, K = w.heap.size := ⟨_, rfl⟩
  have N1 : Bc w w1 K k d := by rw [hK]; exact N0
  have c0 := N1.c0
  clear N0 t
  replace N1 := Lib.hid N1
  by_cases h : numI k
  · have P := Lib.hid (pputI_ok k w1 t0 h)
    have z1 := putI_len k
    have s1 := putI_some k
    have z2 : (strL (putL d.size ++ toL d)).size ≤ 8 + d.size := by
      rw [strL_size, List.length_append, toL_len]
      have := put_len d.size
      omega
    have T : Hid (∀ w', VTab w' → _) := fun w' t' => ptxtL_ok d w' t' (by omega)
    rw [frI_parts k d h]
    generalize strL (putI k) = A at *
    generalize strL (putL d.size ++ toL d) = B at *
    have m1 : ¬ (9223372036854775807 < A.size + B.size) := by omega
    replace t0 := Lib.hid t0
    clear h
    go_enter Tryd.func10, Tryd.ntmps10
    go_upto_region 1 with fail
    rw [← hw1, ← hK]
    clear hw1
    replace hK := Lib.hid hK
    go_wp2_with fail
    refine P.out.mono ?_
    rintro e w2 ⟨rfl, b2⟩
    have N2 := Lib.hid (N1.out.keep b2)
    have t2 := Lib.hid (t0.out.below b2)
    have d1 := N2.out.c1
    clear b2 P N1 t0
    go_wp2_with fail
    refine (T.out _ t2.out).mono ?_
    rintro e w3 ⟨rfl, b3⟩
    have Z := Lib.hid (N2.out.keep b3).bel
    clear b3 T N2 t2 d1
    go_wp2_with fail
    go_ret
    exact ⟨rfl, Z.out⟩
  · have P := Lib.hid (pput_none k w1 t0 h)
    rw [frI_none k (toL d) h]
    clear h t0
    go_enter Tryd.func10, Tryd.ntmps10
    go_upto_region 1 with fail
    rw [← hw1, ← hK]
    clear hw1
    replace hK := Lib.hid hK
    go_wp2_with fail
    refine P.out.mono ?_
    rintro e w2 ⟨rfl, b2⟩
    have Z := Lib.hid (N1.out.keep b2).bel
    clear b2 P N1
    go_wp2_with fail
    go_ret
    exact ⟨rfl, Z.out⟩
set_option maxHeartbeats 4000000 in
theorem pgrm_ok (st cx : Int) (d : ByteArray) (w : World) (t : VTab w) (hs : d.size ≤ 4611686018427387000) :
    Calls Tryd.prog 27 #[.int .i64 st, .int .i64 cx, .string d] w fun e w' => e = .returned (grmV st cx (toL d)) ∧ Below w.heap.size w w' := by
  unfold grmV grmL
  by_cases hst : 0 ≤ st ∧ st ≤ 28 ∧ st % 4 = 0
  · by_cases h3 : numI cx
    · rw [if_pos ⟨hst, h3⟩]
      simp only
      have P2 := Lib.hid (pputI_ok cx w t h3)
      have z2 := putI_len cx
      have s2 := putI_some cx
      have T0 := Lib.hid t
      have c8 : st = 0 ∨ st = 4 ∨ st = 8 ∨ st = 12 ∨ st = 16 ∨ st = 20 ∨ st = 24 ∨ st = 28 := by omega
      clear h3 hst t
      rcases c8 with rfl | rfl | rfl | rfl | rfl | rfl | rfl | rfl
      · have e : strL (putI (0 / 4) ++ (putI cx ++ toL d)) = strL (putI 0) ++ strL (putI cx) ++ d := by
          rw [show (0 : Int) / 4 = 0 from rfl, strL_append, ← strL_toL d, strL_append, toL_strL, List.append_assoc]
        have P1 : Hid (∀ w', VTab w' → _) := fun w' t' => pputI_ok 0 w' t' ⟨by decide, by decide⟩
        have z1 := putI_len 0
        rw [e]
        generalize strL (putI 0) = A at *
        generalize strL (putI cx) = B at *
        have m1 : ¬ (9223372036854775807 < A.size + B.size) := by omega
        have m2 : ¬ (9223372036854775807 < A.size + B.size + d.size) := by omega
        clear e
        go_enter Tryd.func27, Tryd.ntmps27
        go_wp2_with fail
        refine P2.out.mono ?_
        rintro e w1 ⟨rfl, b1⟩
        have B1 := Lib.hid b1
        have t1 := Lib.hid (T0.out.below b1)
        clear b1 P2
        go_wp2_with fail
        refine (P1.out _ t1.out).mono ?_
        rintro e w2 ⟨rfl, b2⟩
        have Z := Lib.hid (B1.out.trans (b2.mono B1.out.size))
        clear b2 P1 B1 t1
        go_wp2_with fail
        go_ret2
        exact ⟨rfl, Z.out⟩
      · have e : strL (putI (4 / 4) ++ (putI cx ++ toL d)) = strL (putI 1) ++ strL (putI cx) ++ d := by
          rw [show (4 : Int) / 4 = 1 from rfl, strL_append, ← strL_toL d, strL_append, toL_strL, List.append_assoc]
        have P1 : Hid (∀ w', VTab w' → _) := fun w' t' => pputI_ok 1 w' t' ⟨by decide, by decide⟩
        have z1 := putI_len 1
        rw [e]
        generalize strL (putI 1) = A at *
        generalize strL (putI cx) = B at *
        have m1 : ¬ (9223372036854775807 < A.size + B.size) := by omega
        have m2 : ¬ (9223372036854775807 < A.size + B.size + d.size) := by omega
        clear e
        go_enter Tryd.func27, Tryd.ntmps27
        go_wp2_with fail
        refine P2.out.mono ?_
        rintro e w1 ⟨rfl, b1⟩
        have B1 := Lib.hid b1
        have t1 := Lib.hid (T0.out.below b1)
        clear b1 P2
        go_wp2_with fail
        refine (P1.out _ t1.out).mono ?_
        rintro e w2 ⟨rfl, b2⟩
        have Z := Lib.hid (B1.out.trans (b2.mono B1.out.size))
        clear b2 P1 B1 t1
        go_wp2_with fail
        go_ret2
        exact ⟨rfl, Z.out⟩
      · have e : strL (putI (8 / 4) ++ (putI cx ++ toL d)) = strL (putI 2) ++ strL (putI cx) ++ d := by
          rw [show (8 : Int) / 4 = 2 from rfl, strL_append, ← strL_toL d, strL_append, toL_strL, List.append_assoc]
        have P1 : Hid (∀ w', VTab w' → _) := fun w' t' => pputI_ok 2 w' t' ⟨by decide, by decide⟩
        have z1 := putI_len 2
        rw [e]
        generalize strL (putI 2) = A at *
        generalize strL (putI cx) = B at *
        have m1 : ¬ (9223372036854775807 < A.size + B.size) := by omega
        have m2 : ¬ (9223372036854775807 < A.size + B.size + d.size) := by omega
        clear e
        go_enter Tryd.func27, Tryd.ntmps27
        go_wp2_with fail
        refine P2.out.mono ?_
        rintro e w1 ⟨rfl, b1⟩
        have B1 := Lib.hid b1
        have t1 := Lib.hid (T0.out.below b1)
        clear b1 P2
        go_wp2_with fail
        refine (P1.out _ t1.out).mono ?_
        rintro e w2 ⟨rfl, b2⟩
        have Z := Lib.hid (B1.out.trans (b2.mono B1.out.size))
        clear b2 P1 B1 t1
        go_wp2_with fail
        go_ret2
        exact ⟨rfl, Z.out⟩
      · have e : strL (putI (12 / 4) ++ (putI cx ++ toL d)) = strL (putI 3) ++ strL (putI cx) ++ d := by
          rw [show (12 : Int) / 4 = 3 from rfl, strL_append, ← strL_toL d, strL_append, toL_strL, List.append_assoc]
        have P1 : Hid (∀ w', VTab w' → _) := fun w' t' => pputI_ok 3 w' t' ⟨by decide, by decide⟩
        have z1 := putI_len 3
        rw [e]
        generalize strL (putI 3) = A at *
        generalize strL (putI cx) = B at *
        have m1 : ¬ (9223372036854775807 < A.size + B.size) := by omega
        have m2 : ¬ (9223372036854775807 < A.size + B.size + d.size) := by omega
        clear e
        go_enter Tryd.func27, Tryd.ntmps27
        go_wp2_with fail
        refine P2.out.mono ?_
        rintro e w1 ⟨rfl, b1⟩
        have B1 := Lib.hid b1
        have t1 := Lib.hid (T0.out.below b1)
        clear b1 P2
        go_wp2_with fail
        refine (P1.out _ t1.out).mono ?_
        rintro e w2 ⟨rfl, b2⟩
        have Z := Lib.hid (B1.out.trans (b2.mono B1.out.size))
        clear b2 P1 B1 t1
        go_wp2_with fail
        go_ret2
        exact ⟨rfl, Z.out⟩
      · have e : strL (putI (16 / 4) ++ (putI cx ++ toL d)) = strL (putI 4) ++ strL (putI cx) ++ d := by
          rw [show (16 : Int) / 4 = 4 from rfl, strL_append, ← strL_toL d, strL_append, toL_strL, List.append_assoc]
        have P1 : Hid (∀ w', VTab w' → _) := fun w' t' => pputI_ok 4 w' t' ⟨by decide, by decide⟩
        have z1 := putI_len 4
        rw [e]
        generalize strL (putI 4) = A at *
        generalize strL (putI cx) = B at *
        have m1 : ¬ (9223372036854775807 < A.size + B.size) := by omega
        have m2 : ¬ (9223372036854775807 < A.size + B.size + d.size) := by omega
        clear e
        go_enter Tryd.func27, Tryd.ntmps27
        go_wp2_with fail
        refine P2.out.mono ?_
        rintro e w1 ⟨rfl, b1⟩
        have B1 := Lib.hid b1
        have t1 := Lib.hid (T0.out.below b1)
        clear b1 P2
        go_wp2_with fail
        refine (P1.out _ t1.out).mono ?_
        rintro e w2 ⟨rfl, b2⟩
        have Z := Lib.hid (B1.out.trans (b2.mono B1.out.size))
        clear b2 P1 B1 t1
        go_wp2_with fail
        go_ret2
        exact ⟨rfl, Z.out⟩
      · have e : strL (putI (20 / 4) ++ (putI cx ++ toL d)) = strL (putI 5) ++ strL (putI cx) ++ d := by
          rw [show (20 : Int) / 4 = 5 from rfl, strL_append, ← strL_toL d, strL_append, toL_strL, List.append_assoc]
        have P1 : Hid (∀ w', VTab w' → _) := fun w' t' => pputI_ok 5 w' t' ⟨by decide, by decide⟩
        have z1 := putI_len 5
        rw [e]
        generalize strL (putI 5) = A at *
        generalize strL (putI cx) = B at *
        have m1 : ¬ (9223372036854775807 < A.size + B.size) := by omega
        have m2 : ¬ (9223372036854775807 < A.size + B.size + d.size) := by omega
        clear e
        go_enter Tryd.func27, Tryd.ntmps27
        go_wp2_with fail
        refine P2.out.mono ?_
        rintro e w1 ⟨rfl, b1⟩
        have B1 := Lib.hid b1
        have t1 := Lib.hid (T0.out.below b1)
        clear b1 P2
        go_wp2_with fail
        refine (P1.out _ t1.out).mono ?_
        rintro e w2 ⟨rfl, b2⟩
        have Z := Lib.hid (B1.out.trans (b2.mono B1.out.size))
        clear b2 P1 B1 t1
        go_wp2_with fail
        go_ret2
        exact ⟨rfl, Z.out⟩
      · have e : strL (putI (24 / 4) ++ (putI cx ++ toL d)) = strL (putI 6) ++ strL (putI cx) ++ d := by
          rw [show (24 : Int) / 4 = 6 from rfl, strL_append, ← strL_toL d, strL_append, toL_strL, List.append_assoc]
        have P1 : Hid (∀ w', VTab w' → _) := fun w' t' => pputI_ok 6 w' t' ⟨by decide, by decide⟩
        have z1 := putI_len 6
        rw [e]
        generalize strL (putI 6) = A at *
        generalize strL (putI cx) = B at *
        have m1 : ¬ (9223372036854775807 < A.size + B.size) := by omega
        have m2 : ¬ (9223372036854775807 < A.size + B.size + d.size) := by omega
        clear e
        go_enter Tryd.func27, Tryd.ntmps27
        go_wp2_with fail
        refine P2.out.mono ?_
        rintro e w1 ⟨rfl, b1⟩
        have B1 := Lib.hid b1
        have t1 := Lib.hid (T0.out.below b1)
        clear b1 P2
        go_wp2_with fail
        refine (P1.out _ t1.out).mono ?_
        rintro e w2 ⟨rfl, b2⟩
        have Z := Lib.hid (B1.out.trans (b2.mono B1.out.size))
        clear b2 P1 B1 t1
        go_wp2_with fail
        go_ret2
        exact ⟨rfl, Z.out⟩
      · have e : strL (putI (28 / 4) ++ (putI cx ++ toL d)) = strL (putI 7) ++ strL (putI cx) ++ d := by
          rw [show (28 : Int) / 4 = 7 from rfl, strL_append, ← strL_toL d, strL_append, toL_strL, List.append_assoc]
        have P1 : Hid (∀ w', VTab w' → _) := fun w' t' => pputI_ok 7 w' t' ⟨by decide, by decide⟩
        have z1 := putI_len 7
        rw [e]
        generalize strL (putI 7) = A at *
        generalize strL (putI cx) = B at *
        have m1 : ¬ (9223372036854775807 < A.size + B.size) := by omega
        have m2 : ¬ (9223372036854775807 < A.size + B.size + d.size) := by omega
        clear e
        go_enter Tryd.func27, Tryd.ntmps27
        go_wp2_with fail
        refine P2.out.mono ?_
        rintro e w1 ⟨rfl, b1⟩
        have B1 := Lib.hid b1
        have t1 := Lib.hid (T0.out.below b1)
        clear b1 P2
        go_wp2_with fail
        refine (P1.out _ t1.out).mono ?_
        rintro e w2 ⟨rfl, b2⟩
        have Z := Lib.hid (B1.out.trans (b2.mono B1.out.size))
        clear b2 P1 B1 t1
        go_wp2_with fail
        go_ret2
        exact ⟨rfl, Z.out⟩
    · rw [if_neg (fun c => h3 c.2)]
      have P2 := Lib.hid (pput_none cx w t h3)
      have c8 : st = 0 ∨ st = 4 ∨ st = 8 ∨ st = 12 ∨ st = 16 ∨ st = 20 ∨ st = 24 ∨ st = 28 := by omega
      clear h3 hst t
      rcases c8 with rfl | rfl | rfl | rfl | rfl | rfl | rfl | rfl
      all_goals
        go_enter Tryd.func27, Tryd.ntmps27
        go_wp2_with fail
        refine P2.out.mono ?_
        rintro e w1 ⟨rfl, b1⟩
        have B1 := Lib.hid b1
        clear b1 P2
        go_wp2_with fail
        go_ret2
        exact ⟨rfl, B1.out⟩
  · rw [if_neg (fun c => hst c.1)]
    clear t
    by_cases h0 : 0 ≤ st
    · have q0 : decide (st < 0) = false := decide_eq_false (by omega)
      by_cases h1 : st ≤ 28
      · have q1 : decide (28 < st) = false := decide_eq_false (by omega)
        have et : st.tmod 4 = st % 4 := Int.tmod_eq_emod_of_nonneg h0
        have h2 : ¬ st % 4 = 0 := fun c => hst ⟨h0, h1, c⟩
        have q2 : ¬ st.tmod 4 = 0 := by rw [et]; exact h2
        have q3 : (st.tmod 4 != 0) = true := by simpa using q2
        clear et h2 h0 h1 hst
        go_enter Tryd.func27, Tryd.ntmps27
        go_wp2_with fail
        go_ret2
        exact ⟨rfl, Below.refl _ _⟩
      · have q1 : decide (28 < st) = true := decide_eq_true (by omega)
        clear hst
        go_enter Tryd.func27, Tryd.ntmps27
        go_wp2_with fail
        go_ret2
        exact ⟨rfl, Below.refl _ _⟩
    · have q0 : decide (st < 0) = true := decide_eq_true (by omega)
      clear hst
      go_enter Tryd.func27, Tryd.ntmps27
      go_wp2_with fail
      go_ret2
      exact ⟨rfl, Below.refl _ _⟩
set_option maxHeartbeats 4000000 in
theorem popn_ok (s : ByteArray) (w : World) (t : VTab w) (hs : s.size ≤ 4611686018427387903) :
    Calls Tryd.prog 29 #[.string s] w fun e w' => e = .returned (opnV (toL s)) ∧ Below w.heap.size w w' := by
  unfold opnV opnL
  cases h1 : getL (toL s) with
  | none =>
    have G := Lib.hid (ptn_none s w t hs h1)
    clear h1 t
    go_enter Tryd.func29, Tryd.ntmps29
    go_wp2_with fail
    refine G.out.mono ?_
    rintro e w1 ⟨rfl, rfl⟩
    clear G
    go_wp2_with fail
    exact bodyPost_ret (v := .tuple #[.int .i64 0, .int .i64 0, .string ⟨#[]⟩, .int .i64 1]) (by simp [results, Tryd.results29]) rfl ⟨rfl, Below.refl _ _⟩
  | some p =>
    obtain ⟨a, n⟩ := p
    simp only
    have hk := get_len h1
    have hkb := (getL_bound h1).1
    have G := Lib.hid (ptn_some s w t hs h1)
    have e2 : toL (s.extract n s.size) = (toL s).drop n := toL_extract s n
    have z2 : (s.extract n s.size).size = s.size - n := by rw [ByteArray.size_extract]; omega
    rw [← e2]
    obtain ⟨r, hr⟩ : ∃ r, r = s.extract n s.size := ⟨_, rfl⟩
    rw [← hr] at z2 e2 G ⊢
    have T0 := Lib.hid t
    replace hr := Lib.hid hr
    cases h2 : getL (toL r) with
    | none =>
      have G2 : Hid (∀ w', VTab w' → _) := fun w' t' => ptn_none r w' t' (by omega) h2
      clear h1 h2 e2 t
      go_enter Tryd.func29, Tryd.ntmps29
      go_wp2_with fail
      refine G.out.mono ?_
      rintro e w1 ⟨rfl, b1⟩
      have B1 := Lib.hid b1
      clear b1 G
      go_wp2_with fail
      refine (G2.out w1 (T0.out.below B1.out)).mono ?_
      rintro e w2 ⟨rfl, rfl⟩
      clear G2
      go_wp2_with fail
      exact bodyPost_ret (v := .tuple #[.int .i64 0, .int .i64 0, .string ⟨#[]⟩, .int .i64 1]) (by simp [results, Tryd.results29]) rfl ⟨rfl, B1.out⟩
    | some q =>
      obtain ⟨b, m⟩ := q
      simp only
      have hk2 := get_len h2
      have hbb := (getL_bound h2).1
      have G2 : Hid (∀ w', VTab w' → _) := fun w' t' => ptn_some r w' t' (by omega) h2
      have eD : Hid (r.extract m r.size = strL ((toL s).drop (n + m))) := toL_inj (by rw [toL_strL, toL_extract, e2, List.drop_drop])
      clear h1 h2 e2 t z2
      by_cases h7 : 7 < a
      · rw [if_pos h7]
        have q7 : decide ((7 : Int) < (a : Int)) = true := decide_eq_true (by omega)
        go_enter Tryd.func29, Tryd.ntmps29
        go_wp2_with fail
        refine G.out.mono ?_
        rintro e w1 ⟨rfl, b1⟩
        have B1 := Lib.hid b1
        clear b1 G
        go_wp2_with fail
        refine (G2.out w1 (T0.out.below B1.out)).mono ?_
        rintro e w2 ⟨rfl, b2⟩
        have Z := Lib.hid (B1.out.trans (b2.mono B1.out.size))
        clear b2 G2 B1
        go_wp2_with fail
        exact bodyPost_ret (v := .tuple #[.int .i64 0, .int .i64 0, .string ⟨#[]⟩, .int .i64 2]) (by simp [results, Tryd.results29]) rfl ⟨rfl, Z.out⟩
      · rw [if_neg h7]
        simp only
        have q7 : decide ((7 : Int) < (a : Int)) = false := decide_eq_false (by omega)
        have ha7 : a ≤ 7 := by omega
        rw [← eD.out]
        obtain ⟨a4, ha4⟩ : ∃ a4, a4 = 4 * a := ⟨_, rfl⟩
        have mulE : (4 : Int) * (a : Int) = (a4 : Int) := by omega
        rw [← ha4]
        replace ha4 := Lib.hid ha4
        go_enter Tryd.func29, Tryd.ntmps29
        go_wp2_with fail
        refine G.out.mono ?_
        rintro e w1 ⟨rfl, b1⟩
        have B1 := Lib.hid b1
        clear b1 G
        go_wp2_with fail
        refine (G2.out w1 (T0.out.below B1.out)).mono ?_
        rintro e w2 ⟨rfl, b2⟩
        have Z := Lib.hid (B1.out.trans (b2.mono B1.out.size))
        clear b2 G2 B1
        go_wp2_with fail
        exact bodyPost_ret (v := .tuple #[.int .i64 (a4 : Int), .int .i64 (b : Int), .string (r.extract m r.size), .int .i64 0]) (by simp [results, Tryd.results29]) rfl ⟨rfl, Z.out⟩
end Go.Proofs.YtihkbakbciejiaaDoor
