/-
  What the program's guess and targetAt answer of any path: the target that has it, or a status is thrown. Paths of at most 1000 bytes; the tables of Go's library lie as the row's list gives them.
-/
import Derived.Test.YtojfcflkanohoaaDoorTgOwn
import Derived.Test.YtojfcflkanohoaaDoorTgPath
namespace Go.Proofs.YtojfcflkanohoaaDoor
set_option maxRecDepth 100000
open Go.RowKit Go.Sort

theorem trim_front {s : L} {a n : Int} (h : IsU s a n) : Lib.trimPrefix s frontL = s.drop 24 := by
  unfold Lib.trimPrefix Lib.hasPrefix
  have : frontL.isPrefixOf s = true := by
    rw [← h.e]
    exact List.isPrefixOf_iff_prefix.2 ⟨_, rfl⟩
  rw [if_pos this]
  rfl
theorem trim_len (s p : L) : (Lib.trimPrefix s p).length ≤ s.length := by
  unfold Lib.trimPrefix
  split
  · rw [List.length_drop]; omega
  · exact Nat.le_refl _
theorem cut_len {s a b : ByteArray} {q : Bool} (h : CutOf s a b q) : a.size ≤ s.size ∧ b.size ≤ s.size := by
  rcases h with ⟨_, _, h⟩ | ⟨_, _, rfl, rfl⟩
  · have := congrArg List.length h
    simp only [Array.length_toList, List.length_append, List.length_cons] at this
    have ha : a.size = a.data.size := rfl
    have hb : b.size = b.data.size := rfl
    have hs : s.size = s.data.size := rfl
    omega
  · exact ⟨Nat.le_refl _, Nat.zero_le _⟩
theorem cut_is {s a b : ByteArray} {q : Bool} {x y : L} (h : CutOf s a b q) (hx : (47 : UInt8) ∉ x) (e : toL s = x ++ 47 :: y) : toL a = x ∧ toL b = y := by
  rcases h with ⟨_, h1, h⟩ | ⟨_, h1, rfl, rfl⟩
  · exact cut_one h1 hx (h.symm.trans e)
  · refine absurd ?_ h1
    show (47 : UInt8) ∈ toL a
    rw [e]
    simp
theorem atoi_any (s : ByteArray) (w : World) (t : Tab w) (hs : s.size ≤ 1000) :
    Calls Tryd.prog 52 #[.string s] w fun e w' => ∃ (x : Int) (ev : Value), e = .returned (.tuple #[.int .i64 x, ev]) ∧ (∀ v, Lib.atoiAll s.data.toList = .ok v → x = v) ∧ Below w.heap.size w w' := by
  by_cases hq : ∃ v, Lib.atoiAll s.data.toList = .ok v
  · obtain ⟨v, hv⟩ := hq
    refine (atoi_ok s v w (by omega) hv).mono ?_
    rintro e w' ⟨rfl, b⟩
    exact ⟨v, _, rfl, fun u hu => by rw [hv] at hu; injection hu, b⟩
  · refine (atoi_no s w t (by omega) (fun v e => hq ⟨v, e⟩)).mono ?_
    rintro e w' ⟨⟨x, u, p, rfl⟩, b⟩
    exact ⟨x, _, rfl, fun v hv => absurd ⟨v, hv⟩ hq, b⟩
theorem parse_all (s : ByteArray) (w : World) (t : Tab w) (hs : s.size ≤ 1000) :
    Calls Tryd.prog 51 #[.string s] w fun e w' => ∃ (a : Int) (q : Bool), e = .returned (.tuple #[.int .u32 a, .bool q]) ∧ (0 ≤ a ∧ a < 4294967296) ∧ (∀ b, 0 ≤ b → b < 4294967296 → txt b = s → a = b) ∧ Below w.heap.size w w' := by
  refine (parse_any s w t (by omega)).mono ?_
  rintro e w' ⟨⟨b, hb, he, rfl⟩ | ⟨hn, rfl⟩, b1⟩
  · exact ⟨b, true, rfl, hb, fun c c0 c1 hc => txt_inj hb.1 hb.2 c0 c1 (he.trans hc.symm), b1⟩
  · exact ⟨0, false, rfl, by decide, fun c c0 c1 hc => absurd hc (hn c c0 c1), b1⟩
theorem bx1 (w : World) (o : Obj) : Below w.heap.size w (w.alloc o) := (Below.refl _ _).alloc (Nat.le_refl _) _
/-- What is guessed of a path. -/
def Guess (p : L) (a n : Int) : Prop := (0 ≤ a ∧ a < 4294967296) ∧ ∀ a' n', IsU p a' n' → a = a' ∧ n = n'
set_option maxHeartbeats 4000000 in
theorem guess_ok (p : L) (w : World) (t : Tab w) (hp : p.length ≤ 1000) :
    Calls Tryd.prog 41 #[.string (strL p)] w fun e w' => ∃ a n, Guess p a n ∧ e = .returned (tgV false a n) ∧ Below w.heap.size w w' := by
  obtain ⟨R, hR⟩ : ∃ R, R = Lib.trimPrefix p frontL := ⟨_, rfl⟩
  have TR : Hid (∀ w, Calls Tryd.prog 50 #[.string (strL p), .string ⟨#[47, 46, 119, 101, 108, 108, 45, 107, 110, 111, 119, 110, 47, 109, 97, 115, 113, 117, 101, 47, 117, 100, 112, 47]⟩] w fun e w' => e = .returned (.string (strL R)) ∧ w' = w) := fun w => by
    rw [hR]
    exact Tryd.strings_TrimPrefix (strL p) ⟨#[47, 46, 119, 101, 108, 108, 45, 107, 110, 111, 119, 110, 47, 109, 97, 115, 113, 117, 101, 47, 117, 100, 112, 47]⟩ w
  have rl : R.length ≤ p.length := by rw [hR]; exact trim_len _ _
  obtain ⟨A, Rst, q1, hc1, hC1⟩ := cut_ok (strL R) (by rw [strL_size]; omega)
  have l1 := cut_len hc1
  rw [strL_size] at l1
  obtain ⟨Prt, Tl, q2, hc2, hC2⟩ := cut_ok Rst (by omega)
  have l2 := cut_len hc2
  have PA : Hid (∀ w, Tab w → _) := fun w t => parse_all A w t (by omega)
  have AT : Hid (∀ w, Tab w → _) := fun w t => atoi_any Prt w t (by omega)
  have K : Hid (∀ a' n', IsU p a' n' → txt a' = A ∧ Lib.atoiAll Prt.data.toList = .ok n') := fun a' n' h => by
    have e1 : toL (strL R) = toL (txt a') ++ 47 :: (Lib.itoa n' ++ [47]) := by rw [toL_strL, hR, trim_front h, h.drop]
    have k1 := cut_is hc1 (txt_no47 h.a0 h.a1) e1
    have k2 := cut_is hc2 (itoa_no47 (n := n') (by have := h.n0; omega)) k1.2
    refine ⟨(toL_inj k1.1).symm, ?_⟩
    show Lib.atoiAll (toL Prt) = _
    rw [k2.1, itoa_dec n' (by have := h.n0; omega), atoi_dec n'.toNat (by have := h.n1; omega)]
    congr 1
    have := h.n0
    omega
  have C1 := Lib.hid hC1
  have C2 := Lib.hid hC2
  have tK : Hid (∀ w2, Below w.heap.size w w2 → Tab w2) := fun w2 h => t.keep h
  have BA := Lib.hid (bx1 w (.cells #[.bool false, .int .u32 0, .int .i64 0] 25))
  have lA := Lies.new w [.bool false, .int .u32 0, .int .i64 0] 25
  obtain ⟨wa, hwa⟩ : ∃ wa, wa = w.alloc (.cells #[.bool false, .int .u32 0, .int .i64 0] 25) := ⟨_, rfl⟩
  have LA : Hid (Lies wa w.heap.size [.bool false, .int .u32 0, .int .i64 0]) := by unfold Hid; rw [hwa]; exact lA
  rw [← hwa] at BA
  clear lA t hc1 hc2 hC1 hC2 hR l1 l2 rl
  generalize strL R = SR at *
  generalize strL p = SP at *
  obtain ⟨K0, hK0⟩ : ∃ K0, K0 = w.heap.size := ⟨_, rfl⟩
  rw [← hK0] at LA
  replace hK0 := Lib.hid hK0
  go_enter Tryd.func41, Tryd.ntmps41
  go_upto_region 1 with fail
  rw [← hwa, ← hK0.out]
  clear hwa
  go_wp2_with fail
  refine (TR.out wa).mono ?_
  rintro e w1 ⟨rfl, rfl⟩
  go_wp2_with fail
  refine (C1.out w1).mono ?_
  rintro e w2 ⟨rfl, b2⟩
  have B2 := Lib.hid (BA.out.trans (b2.mono BA.out.size))
  have L2 := Lib.hid (LA.out.keep (by show 0 < 3; decide) b2)
  clear b2 BA LA TR C1
  go_wp2_with fail
  refine (C2.out w2).mono ?_
  rintro e w3 ⟨rfl, b3⟩
  have B3 := Lib.hid (B2.out.trans (b3.mono B2.out.size))
  have L3 := Lib.hid (L2.out.keep (by show 0 < 3; decide) b3)
  clear b3 B2 L2 C2
  go_wp2_with fail
  refine (PA.out w3 (tK.out _ B3.out)).mono ?_
  rintro e w4 ⟨a, qa, rfl, ha, hb, b4⟩
  have B4 := Lib.hid (B3.out.trans (b4.mono B3.out.size))
  have L4 := Lib.hid (L3.out.keep (by show 0 < 3; decide) b4)
  replace hb := Lib.hid hb
  clear b4 B3 L3 PA
  go_wp2_with fail
  refine (AT.out w4 (tK.out _ B4.out)).mono ?_
  rintro e w5 ⟨n, ev, rfl, hn, b5⟩
  have B5 := Lib.hid (B4.out.trans (b5.mono B4.out.size))
  have L5 := L4.out.keep (by show 0 < 3; decide) b5
  have G : Hid (Guess p a n) := ⟨ha, fun a' n' h => by
    obtain ⟨k1, k2⟩ := K.out a' n' h
    exact ⟨hb.out a' h.a0 h.a1 k1, hn n' k2⟩⟩
  clear b5 B4 L4 AT hn hb K ha
  have c0 := L5.cell 0 (v := .bool false) rfl
  have c1 := L5.cell 1 (v := .int .u32 0) rfl
  have c2 := L5.cell 2 (v := .int .i64 0) rfl
  have f0 := L5.free 0 (by show 0 < 3; decide)
  have f1 := L5.free 1 (by show 1 < 3; decide)
  have f2 := L5.free 2 (by show 2 < 3; decide)
  have L6 := ((L5.put 0 (by show 0 < 3; decide) (.bool false)).put 1 (by show 1 < 3; decide) (.int .u32 a)).put 2 (by show 2 < 3; decide) (.int .i64 n)
  have k0 := L6.cell 0 (v := .bool false) rfl
  have k1 := L6.cell 1 (v := .int .u32 a) rfl
  have k2 := L6.cell 2 (v := .int .i64 n) rfl
  have B6 : Hid (Below w.heap.size w (((w5.setCell ⟨K0, 0, none⟩ (.bool false)).setCell ⟨K0, 1, none⟩ (.int .u32 a)).setCell ⟨K0, 2, none⟩ (.int .i64 n))) := ((B5.out.setCell (p := ⟨K0, 0, none⟩) (by rw [hK0.out]; exact Nat.le_refl _) _).setCell (p := ⟨K0, 1, none⟩) (by rw [hK0.out]; exact Nat.le_refl _) _).setCell (p := ⟨K0, 2, none⟩) (by rw [hK0.out]; exact Nat.le_refl _) _
  clear L5 L6 B5
  go_wp2_with fail
  refine bodyPost_ret (v := tgV false a n) (by simp [results, Tryd.results41, go_sem, tgV, *]) rfl ?_
  exact ⟨a, n, G.out, rfl, B6.out⟩
theorem IsU.of {p : L} {a n : Int} (h : p = pthT false a n) (hp : p ≠ []) (a0 : 0 ≤ a) (a1 : a < 4294967296) : IsU p a n := by
  unfold pthT at h
  cases q : rightT false a n with
  | false => rw [q, if_neg (by decide)] at h; exact absurd h hp
  | true =>
    rw [q, if_pos rfl, if_neg (by decide)] at h
    unfold rightT at q
    rw [if_neg (by decide), decide_eq_true_eq] at q
    exact ⟨a0, a1, q.1, q.2, h.symm⟩
theorem IsU.pth {p : L} {a n : Int} (h : IsU p a n) : p = pthT false a n := by
  have q : rightT false a n = true := by unfold rightT; rw [if_neg (by decide)]; exact decide_eq_true ⟨h.n0, h.n1⟩
  unfold pthT
  rw [if_pos q, if_neg (by decide)]
  exact h.e.symm
/-- What targetAt answers. -/
def TgE (p : L) (u : Bool) (e : Ending) : Prop := (∃ ip a n, TAt p u ip a n ∧ e = .returned (tgV ip a n)) ∨ ((∀ ip a n, ¬ TAt p u ip a n) ∧ e = .panicked (thrown 404))
theorem tg_u {p : L} {a n : Int} (g : Guess p a n) (h : p = pthT false a n) (hp : p ≠ []) : TgE p true (.returned (tgV false a n)) := .inl ⟨false, a, n, ⟨rfl, fun _ => IsU.of h hp g.1.1 g.1.2, fun c => by cases c⟩, rfl⟩
theorem tg_un {p : L} {a n : Int} (g : Guess p a n) (h : ¬ p = pthT false a n) : TgE p true (.panicked (thrown 404)) := .inr ⟨fun ip a' n' c => by
  have q := c.q rfl
  obtain ⟨rfl, rfl⟩ := g.2 _ _ q
  exact h q.pth, rfl⟩
theorem tg_e (u : Bool) : TgE [] u (.panicked (thrown 404)) := .inr ⟨fun ip a' n' c => by
  cases u
  · have := (c.i rfl).1
    cases this
  · have := (c.q rfl).len
    simp at this, rfl⟩
theorem tg_i : TgE ipL false (.returned (tgV true 0 0)) := .inl ⟨true, 0, 0, ⟨rfl, (fun c => by cases c), fun _ => ⟨rfl, rfl, rfl⟩⟩, rfl⟩
theorem tg_in {p : L} (h : ¬ p = ipL) : TgE p false (.panicked (thrown 404)) := .inr ⟨fun _ _ _ c => h (c.i rfl).1, rfl⟩
set_option maxHeartbeats 8000000 in
theorem at_udp (p pr : L) (w : World) (t : Tab w) (hp : p.length ≤ 1000) (hpr : pr = cUdp) :
    Calls Tryd.prog 32 #[.string (strL p), .string (strL pr)] w fun e w' => TgE p true e ∧ Below w.heap.size w w' := by
  have ep : ((strL pr).toList == [99, 111, 110, 110, 101, 99, 116, 45, 117, 100, 112]) = true := by rw [eq_lit]; exact decide_eq_true hpr
  clear hpr
  have GU : Hid (∀ w, Tab w → _) := fun w t => guess_ok p w t hp
  have PT : Hid (∀ (a n : Int) (w : World), Tab w → 0 ≤ a → a < 4294967296 → Calls Tryd.prog 11 #[tgV false a n] w fun e w' => e = .returned (.string (strL (pthT false a n))) ∧ Below w.heap.size w w') := fun a n w t a0 a1 => path_ok false a n w t.p a0 a1
  have RN : Hid (∀ w, _) := fun w => req_no 404 w
  have RY : Hid (∀ w, _) := fun w => req_yes 404 w
  have em := emp_strL p
  have EQ : Hid (∀ q : L, ((strL p).toList == (strL q).toList) = decide (p = q)) := fun q => eq_strL p q
  have tK : Hid (∀ w2, Below w.heap.size w w2 → Tab w2) := fun w2 h => t.keep h
  have lA := Lies.new w [.bool false, .int .u32 0, .int .i64 0] 25
  have bA := bx1 w (.cells #[.bool false, .int .u32 0, .int .i64 0] 25)
  obtain ⟨wa, hwa⟩ : ∃ wa, wa = w.alloc (.cells #[.bool false, .int .u32 0, .int .i64 0] 25) := ⟨_, rfl⟩
  have lA' : Lies wa w.heap.size [.bool false, .int .u32 0, .int .i64 0] := by rw [hwa]; exact lA
  rw [← hwa] at bA
  have lB := Lies.new wa [.bool true, .int .u32 0, .int .i64 0] 25
  have bB := bx1 wa (.cells #[.bool true, .int .u32 0, .int .i64 0] 25)
  obtain ⟨wb, hwb⟩ : ∃ wb, wb = wa.alloc (.cells #[.bool true, .int .u32 0, .int .i64 0] 25) := ⟨_, rfl⟩
  have LB : Hid (Lies wb wa.heap.size [.bool true, .int .u32 0, .int .i64 0]) := by unfold Hid; rw [hwb]; exact lB
  rw [← hwb] at bB
  have LA := Lib.hid (lA'.keep (by show 0 < 3; decide) bB)
  have BB := Lib.hid (bA.trans (bB.mono bA.size))
  obtain ⟨J, hJ⟩ : ∃ J, J = w.heap.size := ⟨_, rfl⟩
  obtain ⟨K, hK⟩ : ∃ K, K = wa.heap.size := ⟨_, rfl⟩
  have hJK : Hid (J < K) := by unfold Hid; rw [hJ, hK]; exact lA'.lt (by show 0 < 3; decide)
  have hne1 : ¬ J = K := by have := hJK.out; omega
  have hne2 : ¬ K = J := by have := hJK.out; omega
  rw [← hJ] at LA
  rw [← hK] at LB
  replace hJ := Lib.hid hJ
  replace hK := Lib.hid hK
  clear lA lB lA' bA bB t
  generalize strL p = SP at *
  generalize strL pr = SR at *
  go_enter Tryd.func32, Tryd.ntmps32
  go_upto_region 1 with fail
  rw [← hwa, ← hJ.out]
  clear hwa
  replace hwb := Lib.hid hwb
  go_upto_region 2 with fail
  rw [← hwb.out, ← hK.out]
  clear hwb
  go_wp2_with fail
  refine (GU.out wb (tK.out _ BB.out)).mono ?_
  rintro e w1 ⟨a, n, G, rfl, b1⟩
  have B1 := Lib.hid (BB.out.trans (b1.mono BB.out.size))
  have L1 := LB.out.keep (by show 0 < 3; decide) b1
  have M1 := LA.out.keep (by show 0 < 3; decide) b1
  replace G := Lib.hid G
  clear b1 BB LA LB GU
  have c0 := L1.cell 0 (v := .bool true) rfl
  have c1 := L1.cell 1 (v := .int .u32 0) rfl
  have c2 := L1.cell 2 (v := .int .i64 0) rfl
  have f0 := L1.free 0 (by show 0 < 3; decide)
  have f1 := L1.free 1 (by show 1 < 3; decide)
  have f2 := L1.free 2 (by show 2 < 3; decide)
  have L2 := ((L1.put 0 (by show 0 < 3; decide) (.bool false)).put 1 (by show 1 < 3; decide) (.int .u32 a)).put 2 (by show 2 < 3; decide) (.int .i64 n)
  have M2 := M1.of_block (w' := ((w1.setCell ⟨K, 0, none⟩ (.bool false)).setCell ⟨K, 1, none⟩ (.int .u32 a)).setCell ⟨K, 2, none⟩ (.int .i64 n)) (((Below.heap_setCell _ _ _ _ (by show J ≠ K; exact hne1)).trans (Below.heap_setCell _ _ _ _ (by show J ≠ K; exact hne1))).trans (Below.heap_setCell _ _ _ _ (by show J ≠ K; exact hne1)))
  have jk : w.heap.size ≤ K := by have := hJK.out; rw [hJ.out] at this; omega
  have B2 : Below w.heap.size w (((w1.setCell ⟨K, 0, none⟩ (.bool false)).setCell ⟨K, 1, none⟩ (.int .u32 a)).setCell ⟨K, 2, none⟩ (.int .i64 n)) := ((B1.out.setCell (p := ⟨K, 0, none⟩) jk _).setCell (p := ⟨K, 1, none⟩) jk _).setCell (p := ⟨K, 2, none⟩) jk _
  obtain ⟨w2, hw2⟩ : ∃ w2, w2 = ((w1.setCell ⟨K, 0, none⟩ (.bool false)).setCell ⟨K, 1, none⟩ (.int .u32 a)).setCell ⟨K, 2, none⟩ (.int .i64 n) := ⟨_, rfl⟩
  rw [← hw2] at L2 M2 B2
  have LL2 := Lib.hid L2
  have MM2 := Lib.hid M2
  replace B2 := Lib.hid B2
  unfold tgV
  go_upto_region 4 with fail
  rw [← hw2]
  clear hw2 L1 M1 M2 B1 c0 c1 c2 f0 f1 f2 jk
  have c0 := L2.cell 0 (v := .bool false) rfl
  have c1 := L2.cell 1 (v := .int .u32 a) rfl
  have c2 := L2.cell 2 (v := .int .i64 n) rfl
  clear L2
  by_cases qe : p = []
  · have E0 : Hid (TgE p true (.panicked (thrown 404))) := by unfold Hid; rw [qe]; exact tg_e true
    have em2 : SP.toList.isEmpty = true := by rw [em, qe]; rfl
    clear em EQ qe
    go_wp2_with fail
    refine (RN.out w2).mono ?_
    rintro e w3 ⟨rfl, rfl⟩
    exact ⟨rfl, E0.out, B2.out⟩
  · have em2 : SP.toList.isEmpty = false := by rw [em]; cases p with | nil => exact absurd rfl qe | cons _ _ => rfl
    have P1 : Hid (∀ w, Tab w → _) := fun w t => PT.out a n w t G.out.1.1 G.out.1.2
    unfold tgV at P1
    have eq1 := EQ.out (pthT false a n)
    obtain ⟨Q, hQ⟩ : ∃ Q, Q = pthT false a n := ⟨_, rfl⟩
    rw [← hQ] at eq1 P1
    generalize strL Q = SQ at *
    clear em EQ PT
    replace hQ := Lib.hid hQ
    by_cases q : p = Q
    · rw [decide_eq_true q] at eq1
      have E0 : Hid (TgE p true (.returned (tgV false a n))) := tg_u G.out (q.trans hQ.out) qe
      unfold tgV at E0
      clear G q qe hQ
      go_wp2_with fail
      refine (P1.out w2 (tK.out _ B2.out)).mono ?_
      rintro e w3 ⟨rfl, b3⟩
      have B3 := Lib.hid (B2.out.trans (b3.mono B2.out.size))
      have L3 := LL2.out.keep (by show 0 < 3; decide) b3
      have M3 := MM2.out.keep (by show 0 < 3; decide) b3
      clear b3 B2 LL2 MM2 P1 c0 c1 c2
      go_wp2_with fail
      refine (RY.out w3).mono ?_
      rintro e w4 ⟨rfl, rfl⟩
      have c0 := L3.cell 0 (v := .bool false) rfl
      have c1 := L3.cell 1 (v := .int .u32 a) rfl
      have c2 := L3.cell 2 (v := .int .i64 n) rfl
      have d0 := M3.cell 0 (v := .bool false) rfl
      have d1 := M3.cell 1 (v := .int .u32 0) rfl
      have d2 := M3.cell 2 (v := .int .i64 0) rfl
      have f0 := M3.free 0 (by show 0 < 3; decide)
      have f1 := M3.free 1 (by show 1 < 3; decide)
      have f2 := M3.free 2 (by show 2 < 3; decide)
      have M4 := ((M3.put 0 (by show 0 < 3; decide) (.bool false)).put 1 (by show 1 < 3; decide) (.int .u32 a)).put 2 (by show 2 < 3; decide) (.int .i64 n)
      have k0 := M4.cell 0 (v := .bool false) rfl
      have k1 := M4.cell 1 (v := .int .u32 a) rfl
      have k2 := M4.cell 2 (v := .int .i64 n) rfl
      have jj : w.heap.size ≤ J := by rw [hJ.out]; exact Nat.le_refl _
      have B4 : Hid (Below w.heap.size w (((w3.setCell ⟨J, 0, none⟩ (.bool false)).setCell ⟨J, 1, none⟩ (.int .u32 a)).setCell ⟨J, 2, none⟩ (.int .i64 n))) := ((B3.out.setCell (p := ⟨J, 0, none⟩) jj _).setCell (p := ⟨J, 1, none⟩) jj _).setCell (p := ⟨J, 2, none⟩) jj _
      clear L3 M3 M4 B3 jj
      go_wp2_with fail
      refine bodyPost_ret (v := .agg #[.bool false, .int .u32 a, .int .i64 n]) (by simp [results, Tryd.results32, go_sem, *]) rfl ?_
      exact ⟨E0.out, B4.out⟩
    · rw [decide_eq_false q] at eq1
      have E0 : Hid (TgE p true (.panicked (thrown 404))) := tg_un G.out (fun c => q (c.trans hQ.out.symm))
      clear G q qe hQ
      go_wp2_with fail
      refine (P1.out w2 (tK.out _ B2.out)).mono ?_
      rintro e w3 ⟨rfl, b3⟩
      have B3 := Lib.hid (B2.out.trans (b3.mono B2.out.size))
      clear b3 B2 P1
      go_wp2_with fail
      refine (RN.out w3).mono ?_
      rintro e w4 ⟨rfl, rfl⟩
      exact ⟨rfl, E0.out, B3.out⟩
set_option maxHeartbeats 8000000 in
theorem at_ip (p pr : L) (w : World) (hpr : ¬ pr = cUdp) :
    Calls Tryd.prog 32 #[.string (strL p), .string (strL pr)] w fun e w' => TgE p false e ∧ Below w.heap.size w w' := by
  have ep : ((strL pr).toList == [99, 111, 110, 110, 101, 99, 116, 45, 117, 100, 112]) = false := by rw [eq_lit]; exact decide_eq_false hpr
  clear hpr
  have PT : Hid (∀ (w : World), Calls Tryd.prog 11 #[tgV true 0 0] w fun e w' => e = .returned (.string (strL ipL)) ∧ Below w.heap.size w w') := fun w => path_ip w
  unfold tgV at PT
  have RN : Hid (∀ w, _) := fun w => req_no 404 w
  have RY : Hid (∀ w, _) := fun w => req_yes 404 w
  have em := emp_strL p
  have EQ := eq_strL p ipL
  have lA := Lies.new w [.bool false, .int .u32 0, .int .i64 0] 25
  have bA := bx1 w (.cells #[.bool false, .int .u32 0, .int .i64 0] 25)
  obtain ⟨wa, hwa⟩ : ∃ wa, wa = w.alloc (.cells #[.bool false, .int .u32 0, .int .i64 0] 25) := ⟨_, rfl⟩
  have lA' : Lies wa w.heap.size [.bool false, .int .u32 0, .int .i64 0] := by rw [hwa]; exact lA
  rw [← hwa] at bA
  have lB := Lies.new wa [.bool true, .int .u32 0, .int .i64 0] 25
  have bB := bx1 wa (.cells #[.bool true, .int .u32 0, .int .i64 0] 25)
  obtain ⟨wb, hwb⟩ : ∃ wb, wb = wa.alloc (.cells #[.bool true, .int .u32 0, .int .i64 0] 25) := ⟨_, rfl⟩
  have lB' : Lies wb wa.heap.size [.bool true, .int .u32 0, .int .i64 0] := by rw [hwb]; exact lB
  rw [← hwb] at bB
  have LA := Lib.hid (lA'.keep (by show 0 < 3; decide) bB)
  have BB := Lib.hid (bA.trans (bB.mono bA.size))
  obtain ⟨J, hJ⟩ : ∃ J, J = w.heap.size := ⟨_, rfl⟩
  obtain ⟨K, hK⟩ : ∃ K, K = wa.heap.size := ⟨_, rfl⟩
  have hJK : Hid (J < K) := by unfold Hid; rw [hJ, hK]; exact lA'.lt (by show 0 < 3; decide)
  have hne1 : ¬ J = K := by have := hJK.out; omega
  have hne2 : ¬ K = J := by have := hJK.out; omega
  rw [← hJ] at LA
  rw [← hK] at lB'
  replace hJ := Lib.hid hJ
  replace hK := Lib.hid hK
  have LB := Lib.hid lB'
  have c0 := lB'.cell 0 (v := .bool true) rfl
  have c1 := lB'.cell 1 (v := .int .u32 0) rfl
  have c2 := lB'.cell 2 (v := .int .i64 0) rfl
  clear lA lB lA' bA bB lB'
  generalize strL p = SP at *
  generalize strL pr = SR at *
  obtain ⟨SQ, hSQ⟩ : ∃ SQ, SQ = strL ipL := ⟨_, rfl⟩
  rw [← hSQ] at PT EQ
  clear hSQ
  go_enter Tryd.func32, Tryd.ntmps32
  go_upto_region 1 with fail
  rw [← hwa, ← hJ.out]
  clear hwa
  replace hwb := Lib.hid hwb
  go_upto_region 2 with fail
  rw [← hwb.out, ← hK.out]
  clear hwb
  by_cases qe : p = []
  · have E0 : Hid (TgE p false (.panicked (thrown 404))) := by unfold Hid; rw [qe]; exact tg_e false
    have em2 : SP.toList.isEmpty = true := by rw [em, qe]; rfl
    clear em EQ qe
    go_wp2_with fail
    refine (RN.out wb).mono ?_
    rintro e w3 ⟨rfl, rfl⟩
    exact ⟨rfl, E0.out, BB.out⟩
  · have em2 : SP.toList.isEmpty = false := by rw [em]; cases p with | nil => exact absurd rfl qe | cons _ _ => rfl
    clear em
    by_cases q : p = ipL
    · rw [decide_eq_true q] at EQ
      have E0 : Hid (TgE p false (.returned (tgV true 0 0))) := by unfold Hid; rw [q]; exact tg_i
      unfold tgV at E0
      clear q qe
      go_wp2_with fail
      refine (PT.out wb).mono ?_
      rintro e w3 ⟨rfl, b3⟩
      have B3 := Lib.hid (BB.out.trans (b3.mono BB.out.size))
      have L3 := LB.out.keep (by show 0 < 3; decide) b3
      have M3 := LA.out.keep (by show 0 < 3; decide) b3
      clear b3 BB LB LA PT c0 c1 c2
      go_wp2_with fail
      refine (RY.out w3).mono ?_
      rintro e w4 ⟨rfl, rfl⟩
      have c0 := L3.cell 0 (v := .bool true) rfl
      have c1 := L3.cell 1 (v := .int .u32 0) rfl
      have c2 := L3.cell 2 (v := .int .i64 0) rfl
      have d0 := M3.cell 0 (v := .bool false) rfl
      have d1 := M3.cell 1 (v := .int .u32 0) rfl
      have d2 := M3.cell 2 (v := .int .i64 0) rfl
      have f0 := M3.free 0 (by show 0 < 3; decide)
      have f1 := M3.free 1 (by show 1 < 3; decide)
      have f2 := M3.free 2 (by show 2 < 3; decide)
      have M4 := ((M3.put 0 (by show 0 < 3; decide) (.bool true)).put 1 (by show 1 < 3; decide) (.int .u32 0)).put 2 (by show 2 < 3; decide) (.int .i64 0)
      have k0 := M4.cell 0 (v := .bool true) rfl
      have k1 := M4.cell 1 (v := .int .u32 0) rfl
      have k2 := M4.cell 2 (v := .int .i64 0) rfl
      have jj : w.heap.size ≤ J := by rw [hJ.out]; exact Nat.le_refl _
      have B4 : Hid (Below w.heap.size w (((w3.setCell ⟨J, 0, none⟩ (.bool true)).setCell ⟨J, 1, none⟩ (.int .u32 0)).setCell ⟨J, 2, none⟩ (.int .i64 0))) := ((B3.out.setCell (p := ⟨J, 0, none⟩) jj _).setCell (p := ⟨J, 1, none⟩) jj _).setCell (p := ⟨J, 2, none⟩) jj _
      clear L3 M3 M4 B3 jj
      go_wp2_with fail
      refine bodyPost_ret (v := .agg #[.bool true, .int .u32 0, .int .i64 0]) (by simp [results, Tryd.results32, go_sem, *]) rfl ?_
      exact ⟨E0.out, B4.out⟩
    · rw [decide_eq_false q] at EQ
      have E0 : Hid (TgE p false (.panicked (thrown 404))) := tg_in q
      clear q qe
      go_wp2_with fail
      refine (PT.out wb).mono ?_
      rintro e w3 ⟨rfl, b3⟩
      have B3 := Lib.hid (BB.out.trans (b3.mono BB.out.size))
      clear b3 BB PT
      go_wp2_with fail
      refine (RN.out w3).mono ?_
      rintro e w4 ⟨rfl, rfl⟩
      exact ⟨rfl, E0.out, B3.out⟩
end Go.Proofs.YtojfcflkanohoaaDoor
