/-
  What the program's own Read answers, for every string of at most 2^47 bytes: the right prefix whose writing it is, or none. The tables of Go's library lie as the row's list gives them.
-/
import Derived.Test.YtnkhafkdmlfdbaaDoorPfCut
import Derived.Test.YtnkhafkdmlfdbaaDoorPfParB
import Derived.Test.YtnkhafkdmlfdbaaDoorPfPrn
namespace Go.Proofs.YtnkhafkdmlfdbaaDoor
open Go.RowKit Go.Sort

theorem prn_bytes (addr bits : Int) : (prn addr bits).data.toList = (txt addr).data.toList ++ 47 :: (strOfNums (dd bits)).data.toList := by
  have e : prn addr bits = txt addr ++ (strOfNums [47] ++ strOfNums (dd bits)) := by
    unfold txt prn
    rw [pf_append, pf_append, List.append_assoc]
  rw [e]
  simp [ByteArray.data_append, strOfNums]
theorem txt_no (a : Int) (a0 : 0 ≤ a) (a1 : a < 4294967296) : 47 ∉ (txt a).data.toList := by
  have no : ∀ j, 47 ∉ (part a j).data.toList := fun j => part_no a j a0 a1 47 (by decide)
  rw [txt_bytes]
  simp [no]
theorem isP_cut {s a b : ByteArray} {q : Bool} {addr bits : Int} (h : IsP s addr bits) (hc : CutOf s a b q) : q = true ∧ a = txt addr ∧ b = strOfNums (dd bits) := by
  obtain ⟨⟨a0, a1⟩, r, e⟩ := h
  have hb := congrArg (fun x : ByteArray => x.data.toList) e
  simp only [prn_bytes] at hb
  rcases hc with ⟨hq, h1, h2⟩ | ⟨hq, h1, h2, h3⟩
  · rw [h2] at hb
    have := cut_one (txt_no addr a0 a1) h1 hb
    exact ⟨hq, (bytes_inj this.1).symm, (bytes_inj this.2).symm⟩
  · refine absurd ?_ h1
    rw [← hb]
    simp
theorem cut_isP {s : ByteArray} {q : Bool} {addr bits : Int} (a0 : 0 ≤ addr) (a1 : addr < 4294967296) (r : rt addr bits = true) (hc : CutOf s (txt addr) (strOfNums (dd bits)) q) : IsP s addr bits := by
  refine ⟨⟨a0, a1⟩, r, bytes_inj ?_⟩
  rw [prn_bytes]
  rcases hc with ⟨hq, h1, h2⟩ | ⟨hq, h1, h2, h3⟩
  · exact h2.symm
  · have := congrArg ByteArray.size h3
    rw [strOfNums_size] at this
    have k := (dd_len bits).1
    rw [this] at k
    exact absurd k (by decide)
theorem cut_size {s a b : ByteArray} {q : Bool} (hc : CutOf s a b q) : a.size ≤ s.size ∧ b.size ≤ s.size := by
  rcases hc with ⟨hq, h1, h2⟩ | ⟨hq, h1, h2, h3⟩
  · have := congrArg List.length h2
    simp at this
    omega
  · subst h2 h3
    exact ⟨Nat.le_refl _, Nat.zero_le _⟩
theorem end_below {w w' : World} (Z : Below (w.heap.size + 1) (w.alloc (.cells #[.int .u32 0, .int .i64 0] 24)) w') (x y : Value) : Below w.heap.size w ((w'.setCell ⟨w.heap.size, 0, none⟩ x).setCell ⟨w.heap.size, 1, none⟩ y) := by
  have hn := Nat.le_refl w.heap.size
  have Z : Below w.heap.size w w' := ((Below.refl _ _).alloc (Nat.le_refl _) _).trans (Z.mono (Nat.le_succ _))
  exact (Z.setCell (p := ⟨w.heap.size, 0, none⟩) hn _).setCell (p := ⟨w.heap.size, 1, none⟩) hn _
set_option maxHeartbeats 2000000 in
theorem read_no1 (s a b : ByteArray) (q : Bool) (w : World) (t : Tab w) (hz : a.size ≤ 281474976710656) (hC : ∀ w, Calls Tryd.prog 21 #[.string s, .string ⟨#[47]⟩] w fun e w' => e = .returned (.tuple #[.string a, .string b, .bool q]) ∧ Below w.heap.size w w') (hn : ∀ x : Int, 0 ≤ x → x < 4294967296 → txt x ≠ a) :
    Calls Tryd.prog 9 #[.string s] w fun e w' => e = .returned (.tuple #[pv 0 0, .bool false]) ∧ Below w.heap.size w w' := by
  have C : Hid (∀ w, _) := hC
  have P : Hid (∀ w, Tab w → _) := fun w t => parse_no a w t hz hn
  clear hC hn
  unfold pv at *
  have z1 : (w.alloc (.cells #[.int .u32 0, .int .i64 0] 24)).heap.size = w.heap.size + 1 := by simp
  have T0 : Hid (∀ o, Tab (w.alloc o)) := fun o => t.alloc o
  go_enter Tryd.func9, Tryd.ntmps9
  go_wp2_with (first
    | (go_at_call 21; refine (C.out _).mono ?_; rintro e w1 ⟨rfl, b1⟩; have t1 := (T0.out _).keep b1; have Z1 : Hid (Below (w.heap.size + 1) (w.alloc (.cells #[.int .u32 0, .int .i64 0] 24)) w1) := (by rw [← z1]; exact b1); clear b1)
    | (go_at_call 7; refine (P.out _ t1).mono ?_; rintro e w2 ⟨rfl, b2⟩; have Z2 : Hid (Below (w.heap.size + 1) (w.alloc (.cells #[.int .u32 0, .int .i64 0] 24)) w2) := Z1.out.trans (b2.mono (z1 ▸ Z1.out.size)); obtain ⟨l0, c0, c1, f0, f1⟩ := (rbox_new w 0 0).keep (Nat.lt_succ_self _) Z2.out; clear b2 Z1))
  refine ⟨rfl, .tuple #[.agg #[.int .u32 0, .int .i64 0], .bool false], ?_, rfl, ?_⟩
  · simp [results, Tryd.results9, go_sem, *]
  · exact end_below Z2.out _ _
set_option maxHeartbeats 2000000 in
theorem read_no2 (s a b : ByteArray) (q : Bool) (x : Int) (w : World) (t : Tab w) (hz : b.size ≤ 281474976710656) (x0 : 0 ≤ x) (x1 : x < 4294967296) (ha : txt x = a) (hC : ∀ w, Calls Tryd.prog 21 #[.string s, .string ⟨#[47]⟩] w fun e w' => e = .returned (.tuple #[.string a, .string b, .bool q]) ∧ Below w.heap.size w w') (hn : ∀ n : Int, 0 ≤ n → n ≤ 32 → strOfNums (dd n) ≠ b) :
    Calls Tryd.prog 9 #[.string s] w fun e w' => e = .returned (.tuple #[pv 0 0, .bool false]) ∧ Below w.heap.size w w' := by
  have C : Hid (∀ w, _) := hC
  have P : Hid (∀ w, Tab w → _) := fun w t => parse_yes x w t x0 x1
  have M : Hid (∀ w, Tab w → _) := fun w t => number_no b 32 w t (by decide) hz hn
  rw [ha] at P
  clear hC hn ha
  unfold pv at *
  have z1 : (w.alloc (.cells #[.int .u32 0, .int .i64 0] 24)).heap.size = w.heap.size + 1 := by simp
  have T0 : Hid (∀ o, Tab (w.alloc o)) := fun o => t.alloc o
  go_enter Tryd.func9, Tryd.ntmps9
  go_wp2_with (first
    | (go_at_call 21; refine (C.out _).mono ?_; rintro e w1 ⟨rfl, b1⟩; have t1 := (T0.out _).keep b1; have Z1 : Hid (Below (w.heap.size + 1) (w.alloc (.cells #[.int .u32 0, .int .i64 0] 24)) w1) := (by rw [← z1]; exact b1); clear b1)
    | (go_at_call 7; refine (P.out _ t1).mono ?_; rintro e w2 ⟨rfl, b2⟩; have Z2 : Hid (Below (w.heap.size + 1) (w.alloc (.cells #[.int .u32 0, .int .i64 0] 24)) w2) := Z1.out.trans (b2.mono (z1 ▸ Z1.out.size)); have t2 := t1.keep b2; clear b2 Z1)
    | (go_at_call 20; refine (M.out _ t2).mono ?_; rintro e w3 ⟨rfl, b3⟩; have Z3 : Hid (Below (w.heap.size + 1) (w.alloc (.cells #[.int .u32 0, .int .i64 0] 24)) w3) := Z2.out.trans (b3.mono (z1 ▸ Z2.out.size)); obtain ⟨l0, c0, c1, f0, f1⟩ := (rbox_new w 0 0).keep (Nat.lt_succ_self _) Z3.out; clear b3 Z2))
  refine ⟨rfl, .tuple #[.agg #[.int .u32 0, .int .i64 0], .bool false], ?_, rfl, ?_⟩
  · simp [results, Tryd.results9, go_sem, *]
  · exact end_below Z3.out _ _
set_option maxHeartbeats 2000000 in
theorem read_no3 (s a b : ByteArray) (q : Bool) (x n : Int) (w : World) (t : Tab w) (x0 : 0 ≤ x) (x1 : x < 4294967296) (ha : txt x = a) (n0 : 0 ≤ n) (n1 : n ≤ 32) (hb : strOfNums (dd n) = b) (hC : ∀ w, Calls Tryd.prog 21 #[.string s, .string ⟨#[47]⟩] w fun e w' => e = .returned (.tuple #[.string a, .string b, .bool q]) ∧ Below w.heap.size w w') (hr : rt x n = false) :
    Calls Tryd.prog 9 #[.string s] w fun e w' => e = .returned (.tuple #[pv 0 0, .bool false]) ∧ Below w.heap.size w w' := by
  have C : Hid (∀ w, _) := hC
  have P : Hid (∀ w, Tab w → _) := fun w t => parse_yes x w t x0 x1
  have M : Hid (∀ w, Tab w → _) := fun w t => number_yes n 32 w t n0 n1 (by decide)
  have K : Hid (∀ w, Calls Tryd.prog 16 #[pv x n] w fun e w' => e = .returned (.bool false) ∧ Below w.heap.size w w') := fun w => by
    have := check_ok x n w x0 x1
    rwa [hr] at this
  rw [ha] at P
  rw [hb] at M
  clear hC ha hb hr
  unfold pv at *
  have z1 : (w.alloc (.cells #[.int .u32 0, .int .i64 0] 24)).heap.size = w.heap.size + 1 := by simp
  have T0 : Hid (∀ o, Tab (w.alloc o)) := fun o => t.alloc o
  go_enter Tryd.func9, Tryd.ntmps9
  go_wp2_with (first
    | (go_at_call 21; refine (C.out _).mono ?_; rintro e w1 ⟨rfl, b1⟩; have t1 := (T0.out _).keep b1; have Z1 : Hid (Below (w.heap.size + 1) (w.alloc (.cells #[.int .u32 0, .int .i64 0] 24)) w1) := (by rw [← z1]; exact b1); clear b1)
    | (go_at_call 7; refine (P.out _ t1).mono ?_; rintro e w2 ⟨rfl, b2⟩; have Z2 : Hid (Below (w.heap.size + 1) (w.alloc (.cells #[.int .u32 0, .int .i64 0] 24)) w2) := Z1.out.trans (b2.mono (z1 ▸ Z1.out.size)); have t2 := t1.keep b2; clear b2 Z1)
    | (go_at_call 20; refine (M.out _ t2).mono ?_; rintro e w3 ⟨rfl, b3⟩; have Z3 : Hid (Below (w.heap.size + 1) (w.alloc (.cells #[.int .u32 0, .int .i64 0] 24)) w3) := Z2.out.trans (b3.mono (z1 ▸ Z2.out.size)); have lt3 : ∀ o, w3.heap.size < (w3.alloc o).heap.size := (fun o => by simp); have X3 : Hid _ := pbox_new w3 x n; clear b3 Z2)
    | (go_at_call 16; refine (K.out _).mono ?_; rintro e w4 ⟨rfl, b4⟩; have Z4 : Hid (Below (w.heap.size + 1) (w.alloc (.cells #[.int .u32 0, .int .i64 0] 24)) w4) := (Z3.out.alloc (z1 ▸ Z3.out.size) _).trans (b4.mono (Nat.le_trans (z1 ▸ Z3.out.size) (by simp))); obtain ⟨l0, c0, c1, f0, f1⟩ := (rbox_new w 0 0).keep (Nat.lt_succ_self _) Z4.out; obtain ⟨lp, q0, q1⟩ := X3.out.keep (lt3 _) b4; clear b4 Z3 X3))
  refine ⟨rfl, .tuple #[.agg #[.int .u32 0, .int .i64 0], .bool false], ?_, rfl, ?_⟩
  · simp [results, Tryd.results9, go_sem, *]
  · exact end_below Z4.out _ _
set_option maxHeartbeats 2000000 in
theorem read_yes (s a b : ByteArray) (q : Bool) (x n : Int) (w : World) (t : Tab w) (x0 : 0 ≤ x) (x1 : x < 4294967296) (ha : txt x = a) (n0 : 0 ≤ n) (n1 : n ≤ 32) (hb : strOfNums (dd n) = b) (hC : ∀ w, Calls Tryd.prog 21 #[.string s, .string ⟨#[47]⟩] w fun e w' => e = .returned (.tuple #[.string a, .string b, .bool q]) ∧ Below w.heap.size w w') (hr : rt x n = true) :
    Calls Tryd.prog 9 #[.string s] w fun e w' => e = .returned (.tuple #[pv x n, .bool true]) ∧ Below w.heap.size w w' := by
  have C : Hid (∀ w, _) := hC
  have P : Hid (∀ w, Tab w → _) := fun w t => parse_yes x w t x0 x1
  have M : Hid (∀ w, Tab w → _) := fun w t => number_yes n 32 w t n0 n1 (by decide)
  have K : Hid (∀ w, Calls Tryd.prog 16 #[pv x n] w fun e w' => e = .returned (.bool true) ∧ Below w.heap.size w w') := fun w => by
    have := check_ok x n w x0 x1
    rwa [hr] at this
  rw [ha] at P
  rw [hb] at M
  clear hC ha hb hr
  unfold pv at *
  have z1 : (w.alloc (.cells #[.int .u32 0, .int .i64 0] 24)).heap.size = w.heap.size + 1 := by simp
  have T0 : Hid (∀ o, Tab (w.alloc o)) := fun o => t.alloc o
  go_enter Tryd.func9, Tryd.ntmps9
  go_wp2_with (first
    | (go_at_call 21; refine (C.out _).mono ?_; rintro e w1 ⟨rfl, b1⟩; have t1 := (T0.out _).keep b1; have Z1 : Hid (Below (w.heap.size + 1) (w.alloc (.cells #[.int .u32 0, .int .i64 0] 24)) w1) := (by rw [← z1]; exact b1); clear b1)
    | (go_at_call 7; refine (P.out _ t1).mono ?_; rintro e w2 ⟨rfl, b2⟩; have Z2 : Hid (Below (w.heap.size + 1) (w.alloc (.cells #[.int .u32 0, .int .i64 0] 24)) w2) := Z1.out.trans (b2.mono (z1 ▸ Z1.out.size)); have t2 := t1.keep b2; clear b2 Z1)
    | (go_at_call 20; refine (M.out _ t2).mono ?_; rintro e w3 ⟨rfl, b3⟩; have Z3 : Hid (Below (w.heap.size + 1) (w.alloc (.cells #[.int .u32 0, .int .i64 0] 24)) w3) := Z2.out.trans (b3.mono (z1 ▸ Z2.out.size)); have lt3 : ∀ o, w3.heap.size < (w3.alloc o).heap.size := (fun o => by simp); have X3 : Hid _ := pbox_new w3 x n; clear b3 Z2)
    | (go_at_call 16; refine (K.out _).mono ?_; rintro e w4 ⟨rfl, b4⟩; have Z4 : Hid (Below (w.heap.size + 1) (w.alloc (.cells #[.int .u32 0, .int .i64 0] 24)) w4) := (Z3.out.alloc (z1 ▸ Z3.out.size) _).trans (b4.mono (Nat.le_trans (z1 ▸ Z3.out.size) (by simp))); obtain ⟨l0, c0, c1, f0, f1⟩ := (rbox_new w 0 0).keep (Nat.lt_succ_self _) Z4.out; obtain ⟨lp, q0, q1⟩ := X3.out.keep (lt3 _) b4; clear b4 Z3 X3))
  refine ⟨rfl, .tuple #[.agg #[.int .u32 x, .int .i64 n], .bool true], ?_, rfl, ?_⟩
  · simp [results, Tryd.results9, go_sem, *]
  · exact end_below Z4.out _ _
theorem read_is (s : ByteArray) (w : World) (t : Tab w) (hs : s.size ≤ 281474976710656) (addr bits : Int) (h : IsP s addr bits) :
    Calls Tryd.prog 9 #[.string s] w fun e w' => e = .returned (.tuple #[pv addr bits, .bool true]) ∧ Below w.heap.size w w' := by
  obtain ⟨a, b, q, hc, hC⟩ := cut_ok s (by omega)
  obtain ⟨_, ha, hb⟩ := isP_cut h hc
  have hr := rt_bits h.2.1
  exact read_yes s a b q addr bits w t h.1.1 h.1.2 ha.symm hr.1 hr.2.1 hb.symm hC h.2.1
theorem read_not (s : ByteArray) (w : World) (t : Tab w) (hs : s.size ≤ 281474976710656) (h : ∀ a b, ¬ IsP s a b) :
    Calls Tryd.prog 9 #[.string s] w fun e w' => e = .returned (.tuple #[pv 0 0, .bool false]) ∧ Below w.heap.size w w' := by
  obtain ⟨a, b, q, hc, hC⟩ := cut_ok s (by omega)
  have hz := cut_size hc
  by_cases hp : ∃ x : Int, (0 ≤ x ∧ x < 4294967296) ∧ txt x = a
  · obtain ⟨x, hx, ha⟩ := hp
    by_cases hm : ∃ n : Int, (0 ≤ n ∧ n ≤ 32) ∧ strOfNums (dd n) = b
    · obtain ⟨n, hn, hb⟩ := hm
      refine read_no3 s a b q x n w t hx.1 hx.2 ha hn.1 hn.2 hb hC ?_
      cases hr : rt x n with
      | false => rfl
      | true =>
        subst ha hb
        exact absurd (cut_isP hx.1 hx.2 hr hc) (h x n)
    · exact read_no2 s a b q x w t (by omega) hx.1 hx.2 ha hC (fun n h0 h1 e => hm ⟨n, ⟨h0, h1⟩, e⟩)
  · exact read_no1 s a b q w t (by omega) hC (fun x h0 h1 e => hp ⟨x, ⟨h0, h1⟩, e⟩)
end Go.Proofs.YtnkhafkdmlfdbaaDoor
