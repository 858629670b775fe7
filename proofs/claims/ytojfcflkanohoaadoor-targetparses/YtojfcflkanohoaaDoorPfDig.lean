/-
  What the program's own number answers: a number's one writing is read as it, every other text is refused; and what strconv's Itoa and Atoi answer there. The tables of Go's library lie as the row's list gives them; a text has at most 2^48 bytes.
-/
import Derived.Test.YtojfcflkanohoaaDoorPfTab
import Derived.Test.YtojfcflkanohoaaDoorPfWr
namespace Go.Proofs.YtojfcflkanohoaaDoor
open Go.RowKit Go.Sort

theorem grow_below (w : World) (k : Nat) (os : Array Obj) : RowKit.Below w.heap.size w (grow (w.drewN k) os) :=
  ⟨rfl, rfl, rfl, by simp [grow], fun i hi => by
    show (w.heap ++ os)[i]? = w.heap[i]?
    rw [Array.getElem?_append_left hi]⟩
theorem bytes_below (w : World) (t : ByteArray) : RowKit.Below w.heap.size w (Lib.bytesWorld w 5 t) := Lib.bytesWorld_below w 5 t
theorem itoa_dd : ∀ n : Nat, n < 256 → (Lib.itoa (n : Int)).map (fun b => (b.toNat : Int)) = dd n := by
  intro n hn
  unfold Lib.itoa dd
  rw [if_neg (by omega), Int.toNat_natCast]
  by_cases h1 : n < 10
  · rw [Lib.decDigits, dif_pos h1, if_pos (by omega)]
    simp
    omega
  · rw [Lib.decDigits, dif_neg h1, if_neg (by omega)]
    by_cases h2 : n < 100
    · rw [Lib.decDigits, dif_pos (by omega), if_pos (by omega)]
      simp
      omega
    · rw [Lib.decDigits, dif_neg (by omega), Lib.decDigits, dif_pos (by omega), if_neg (by omega)]
      simp
      omega
theorem nums_back (l : List UInt8) : strOfNums (l.map fun b => (b.toNat : Int)) = ⟨l.toArray⟩ := by
  unfold strOfNums
  rw [List.map_map]
  have : ((fun n : Int => UInt8.ofNat n.toNat) ∘ fun b : UInt8 => (b.toNat : Int)) = id := by
    funext b
    simp
  rw [this, List.map_id]
theorem itoa_str (n : Int) (h0 : 0 ≤ n) (h : n < 256) : (⟨(Lib.itoa n).toArray⟩ : ByteArray) = strOfNums (dd n) := by
  obtain ⟨m, rfl⟩ := Int.eq_ofNat_of_zero_le h0
  rw [← itoa_dd m (by omega), nums_back]
theorem atoi_dd : ∀ n : Nat, n < 256 → Lib.atoiAll (strOfNums (dd n)).data.toList = .ok (n : Int) := by decide +kernel
theorem itoa_ok (n : Int) (w : World) (t : TabP w) (h0 : 0 ≤ n) (h : n < 256) :
    Calls Tryd.prog 23 #[.int .i64 n] w fun e w' => e = .returned (.string (strOfNums (dd n))) ∧ Below w.heap.size w w' := by
  rw [← itoa_str n h0 h]
  refine (Tryd.strconv_Itoa n (by omega) (by omega) w t.p10).mono ?_
  rintro e w' ⟨rfl, k, os, rfl⟩
  exact ⟨rfl, grow_below w k os⟩
theorem atoi_ok (s : ByteArray) (v : Int) (w : World) (hs : s.size ≤ 281474976710656) (h : Lib.atoiAll s.data.toList = .ok v) :
    Calls Tryd.prog 52 #[.string s] w fun e w' => e = .returned (.tuple #[.int .i64 v, .nilIface]) ∧ Below w.heap.size w w' := by
  refine (Tryd.strconv_Atoi_ok s (by omega) v h w).mono ?_
  rintro e w' ⟨rfl, rfl | ⟨t, rfl⟩⟩
  · exact ⟨rfl, Below.refl _ _⟩
  · exact ⟨rfl, bytes_below w t⟩
theorem atoi_no (s : ByteArray) (w : World) (t : Tab w) (hs : s.size ≤ 281474976710656) (h : ∀ v, Lib.atoiAll s.data.toList ≠ .ok v) :
    Calls Tryd.prog 52 #[.string s] w fun e w' => (∃ x u p, e = .returned (.tuple #[.int .i64 x, .iface u (.pointer (some p))])) ∧ Below w.heap.size w w' := by
  cases hq : Lib.atoiAll s.data.toList with
  | ok v => exact absurd hq (h v)
  | «syntax» =>
    obtain ⟨tp, p, hv⟩ := t.syn
    refine (Tryd.strconv_Atoi_syntax_var s hs hq tp p w hv).mono ?_
    rintro e w' ⟨N, rfl, _, _, b⟩
    exact ⟨⟨_, _, _, rfl⟩, b⟩
  | range =>
    obtain ⟨tp, p, hv⟩ := t.rng
    refine (Tryd.strconv_Atoi_range_var s hs hq tp p w hv).mono ?_
    rintro e w' ⟨N, rfl, _, _, b⟩
    exact ⟨⟨_, _, _, rfl⟩, b⟩
set_option maxHeartbeats 1000000 in
theorem number_yes (n most : Int) (w : World) (t : Tab w) (h0 : 0 ≤ n) (h : n ≤ most) (hm : most < 256) :
    Calls Tryd.prog 62 #[.string (strOfNums (dd n)), .int .i64 most] w fun e w' => e = .returned (.tuple #[.int .i64 n, .bool true]) ∧ Below w.heap.size w w' := by
  have A : Hid (∀ w, _) := fun w => atoi_ok (strOfNums (dd n)) n w (by rw [strOfNums_size]; have := dd_len n; omega) (by obtain ⟨m, rfl⟩ := Int.eq_ofNat_of_zero_le h0; exact atoi_dd m (by omega))
  have I : Hid (∀ w, Tab w → _) := fun w t => itoa_ok n w t.p h0 (by omega)
  have g1 : decide (n < 0) = false := decide_eq_false (by omega)
  have g2 : decide (most < n) = false := decide_eq_false (by omega)
  generalize strOfNums (dd n) = S at *
  go_enter Tryd.func62, Tryd.ntmps62
  go_wp2_with (first
    | (go_at_call 52; refine (A.out _).mono ?_; rintro e w1 ⟨rfl, b1⟩; have t1 := t.keep b1; have Z1 : Hid (Below w.heap.size w w1) := b1; clear b1 t)
    | (go_at_call 23; refine (I.out _ t1).mono ?_; rintro e w2 ⟨rfl, b2⟩; have Z2 : Hid (Below w.heap.size w w2) := Z1.out.trans (b2.mono Z1.out.size); clear b2 Z1))
  go_ret2
  exact ⟨rfl, Z2.out⟩
set_option maxHeartbeats 1000000 in
theorem number_no (s : ByteArray) (most : Int) (w : World) (t : Tab w) (hm : most < 256) (hs : s.size ≤ 281474976710656) (h : ∀ n, 0 ≤ n → n ≤ most → strOfNums (dd n) ≠ s) :
    Calls Tryd.prog 62 #[.string s, .int .i64 most] w fun e w' => e = .returned (.tuple #[.int .i64 0, .bool false]) ∧ Below w.heap.size w w' := by
  by_cases hq : ∃ v, Lib.atoiAll s.data.toList = .ok v
  · obtain ⟨v, hv⟩ := hq
    have A : Hid (∀ w, _) := fun w => atoi_ok s v w hs hv
    clear hv
    by_cases h0 : 0 ≤ v
    · have g1 : decide (v < 0) = false := decide_eq_false (by omega)
      by_cases h1 : v ≤ most
      · have g2 : decide (most < v) = false := decide_eq_false (by omega)
        have I : Hid (∀ w, Tab w → _) := fun w t => itoa_ok v w t.p h0 (by omega)
        have q : ((strOfNums (dd v)).toList == s.toList) = false := by
          rw [beq_eq_false_iff_ne]
          exact fun e => h v h0 h1 (pf_list_eq _ _ e)
        clear h
        generalize strOfNums (dd v) = S at *
        go_enter Tryd.func62, Tryd.ntmps62
        go_wp2_with (first
          | (go_at_call 52; refine (A.out _).mono ?_; rintro e w1 ⟨rfl, b1⟩; have t1 := t.keep b1; have Z1 : Hid (Below w.heap.size w w1) := b1; clear b1 t)
          | (go_at_call 23; refine (I.out _ t1).mono ?_; rintro e w2 ⟨rfl, b2⟩; have Z2 : Hid (Below w.heap.size w w2) := Z1.out.trans (b2.mono Z1.out.size); clear b2 Z1))
        go_ret2
        exact ⟨rfl, Z2.out⟩
      · have g2 : decide (most < v) = true := decide_eq_true (by omega)
        clear h
        go_enter Tryd.func62, Tryd.ntmps62
        go_wp2_with (go_at_call 52; refine (A.out _).mono ?_; rintro e w1 ⟨rfl, b1⟩)
        go_ret2
        exact ⟨rfl, b1⟩
    · have g1 : decide (v < 0) = true := decide_eq_true (by omega)
      clear h
      go_enter Tryd.func62, Tryd.ntmps62
      go_wp2_with (go_at_call 52; refine (A.out _).mono ?_; rintro e w1 ⟨rfl, b1⟩)
      go_ret2
      exact ⟨rfl, b1⟩
  · have A : Hid (∀ w, Tab w → _) := fun w t => atoi_no s w t hs (fun v e => hq ⟨v, e⟩)
    clear h hq
    go_enter Tryd.func62, Tryd.ntmps62
    go_wp2_with (go_at_call 52; refine (A.out _ t).mono ?_; rintro e w1 ⟨⟨x, u, p, rfl⟩, b1⟩)
    go_ret2
    exact ⟨rfl, b1⟩
end Go.Proofs.YtojfcflkanohoaaDoor
