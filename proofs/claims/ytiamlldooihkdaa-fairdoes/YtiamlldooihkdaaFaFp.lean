/-
  The program's own queues as one word, with the blocks in which they lie: alone above a world, or beside others. No condition but how many were pushed.
-/
import Derived.Test.YtiamlldooihkdaaFaPgH
namespace Go.Proofs.Ytiamlldooihkdaa
set_option maxRecDepth 100000
open Go.RowKit

/-- The program's queues are f; their blocks are those of F. -/
def FP (w : World) (B : Nat) (F : Nat → Prop) (f : FaQ) : Prop := ∃ T, PG w B T (pgOf f) ∧ f.Ok ∧ ∀ k, F k ↔ T k ≠ none
theorem FP.lt {w : World} {B : Nat} {F : Nat → Prop} {f : FaQ} (h : FP w B F f) : ∀ k, F k → k < w.heap.size := by
  obtain ⟨T, h, -, hF⟩ := h
  exact fun k hk => h.lt k ((hF k).1 hk)
theorem FP.ok {w : World} {B : Nat} {F : Nat → Prop} {f : FaQ} (h : FP w B F f) : f.Ok := by
  obtain ⟨T, -, h, -⟩ := h
  exact h
theorem FP.keep {w w' : World} {B : Nat} {F : Nat → Prop} {f : FaQ} (h : FP w B F f) (b : ∀ k, F k → w'.heap[k]? = w.heap[k]?) (hs : w.heap.size ≤ w'.heap.size) : FP w' B F f := by
  obtain ⟨T, h, ok, hF⟩ := h
  exact ⟨T, h.keep (fun k hk => b k ((hF k).2 hk)) hs, ok, hF⟩
theorem FP.of {w w' : World} {B : Nat} {F : Nat → Prop} {f' : FaQ} {T T' : Tag} (hF : ∀ k, F k ↔ T k ≠ none) (h : PG w' B T' (pgOf f')) (ok : f'.Ok) (E : ExtT T T' w.heap.size) (K : Kept (fun k => T k ≠ none) w w') : ∃ F', FP w' B F' f' ∧ (∀ k, F' k → F k ∨ w.heap.size ≤ k) ∧ Kept F w w' :=
  ⟨fun k => T' k ≠ none, ⟨T', h, ok, fun _ => Iff.rfl⟩, fun k hk => by
    rcases Nat.lt_or_ge k w.heap.size with q | q
    · exact .inl ((hF k).2 (by rw [← E k q]; exact hk))
    · exact .inr q, K.mono fun k _ q => (hF k).2 q⟩
theorem fp_new (lim qu : Int) (w : World) : Calls Try.prog 8 #[.int .i64 lim, .int .i64 qu] w fun e w' => ∃ B F, e = .returned (ptr B) ∧ FP w' B F (newE lim qu) ∧ (∀ k, F k → w.heap.size ≤ k) ∧ Below w.heap.size w w' := by
  refine (fnew_ok lim qu w).mono ?_
  rintro e w' ⟨B, T, rfl, h, hT, b⟩
  exact ⟨B, _, rfl, ⟨T, h, new_ok _ _, fun _ => Iff.rfl⟩, hT, b⟩
theorem fp_push {w : World} {B : Nat} {F : Nat → Prop} {f : FaQ} (h : FP w B F f) (x : Int) (s : ByteArray) (hx : In64 x) (hz : f.pz < 1000000) (hs : s.size ≤ 9223372036854775807) :
    Calls Try.prog 10 #[ptr B, .int .i64 x, .string s] w fun e w' => e = .returned (.int .i64 (pushE f x s)) ∧ ∃ F', FP w' B F' (pushQ f x s) ∧ (∀ k, F' k → F k ∨ w.heap.size ≤ k) ∧ Kept F w w' := by
  obtain ⟨T, h, ok, hF⟩ := h
  refine (fpush_ok B T f x s w h ok hx hz hs).mono ?_
  rintro e w' ⟨rfl, T', h', E, K⟩
  exact ⟨rfl, FP.of hF h' (push_ok ok x s hx) E K⟩
theorem fp_next {w : World} {B : Nat} {F : Nat → Prop} {f : FaQ} (h : FP w B F f) (hz : f.pz < 1000000) :
    Calls Try.prog 12 #[ptr B] w fun e w' => e = .returned (nextV f) ∧ ∃ F', FP w' B F' (nextE f) ∧ (∀ k, F' k → F k ∨ w.heap.size ≤ k) ∧ Kept F w w' := by
  obtain ⟨T, h, ok, hF⟩ := h
  refine (fnext_ok B T f w h ok hz).mono ?_
  rintro e w' ⟨rfl, T', h', E, K⟩
  exact ⟨rfl, FP.of hF h' (take_ok (next_ok ok) (next_turn ok.q0)) E K⟩
theorem fp_drop {w : World} {B : Nat} {F : Nat → Prop} {f : FaQ} (h : FP w B F f) (x : Int) (hx : In64 x) (hz : f.pz < 1000000) :
    Calls Try.prog 14 #[ptr B, .int .i64 x] w fun e w' => e = .returned (.int .i64 (lsE f.r x).length) ∧ ∃ F', FP w' B F' (dropE f x) ∧ (∀ k, F' k → F k ∨ w.heap.size ≤ k) ∧ Kept F w w' := by
  obtain ⟨T, h, ok, hF⟩ := h
  refine (fdrop_ok B T f x w h ok hx (by omega)).mono ?_
  rintro e w' ⟨rfl, T', h', E, K⟩
  exact ⟨rfl, FP.of hF h' (drop_ok ok x) E K⟩
theorem fp_count {w : World} {B : Nat} {F : Nat → Prop} {f : FaQ} (h : FP w B F f) :
    Calls Try.prog 16 #[ptr B] w fun e w' => e = .returned (.int .i64 (cntE f.r)) ∧ w = w' := by
  obtain ⟨T, h, ok, hF⟩ := h
  exact fcount_ok B T _ w h
/-- .. alone, above the world W. -/
structure FW (W w : World) (B : Nat) (f : FaQ) : Prop where
  ex : ∃ F, FP w B F f ∧ ∀ k, F k → W.heap.size ≤ k
  bel : Below W.heap.size W w
theorem FW.ok {W w : World} {B : Nat} {f : FaQ} (h : FW W w B f) : f.Ok := by
  obtain ⟨⟨F, h, -⟩, -⟩ := h
  exact h.ok
theorem FW.keep {W w w' : World} {B : Nat} {f : FaQ} (h : FW W w B f) (b : Below w.heap.size w w') : FW W w' B f := by
  obtain ⟨⟨F, h, hF⟩, bl⟩ := h
  exact ⟨⟨F, h.keep (fun k hk => b.block k (h.lt k hk)) b.size, hF⟩, bl.trans (b.mono bl.size)⟩
theorem FW.of {W w w' : World} {B : Nat} {f' : FaQ} {F F' : Nat → Prop} (bl : Below W.heap.size W w) (hF : ∀ k, F k → W.heap.size ≤ k) (h : FP w' B F' f') (hF' : ∀ k, F' k → F k ∨ w.heap.size ≤ k) (K : Kept F w w') : FW W w' B f' :=
  ⟨⟨F', h, fun k hk => by
    rcases hF' k hk with q | q
    · exact hF k q
    · have := bl.size; omega⟩, bl.trans (K.below bl.size hF)⟩
theorem fw_new (lim qu : Int) {W w : World} (b : Below W.heap.size W w) : Calls Try.prog 8 #[.int .i64 lim, .int .i64 qu] w fun e w' => ∃ B, e = .returned (ptr B) ∧ FW W w' B (newE lim qu) := by
  refine (fp_new lim qu w).mono ?_
  rintro e w' ⟨B, F, rfl, h, hF, b'⟩
  exact ⟨B, rfl, ⟨F, h, fun k hk => Nat.le_trans b.size (hF k hk)⟩, b.trans (b'.mono b.size)⟩
theorem FW.push {W w : World} {B : Nat} {f : FaQ} (h : FW W w B f) (x : Int) (s : ByteArray) (hx : In64 x) (hz : f.pz < 1000000) (hs : s.size ≤ 9223372036854775807) :
    Calls Try.prog 10 #[ptr B, .int .i64 x, .string s] w fun e w' => e = .returned (.int .i64 (pushE f x s)) ∧ FW W w' B (pushQ f x s) := by
  obtain ⟨⟨F, h, hF⟩, bl⟩ := h
  refine (fp_push h x s hx hz hs).mono ?_
  rintro e w' ⟨rfl, F', h', hF', K⟩
  exact ⟨rfl, .of bl hF h' hF' K⟩
theorem FW.next {W w : World} {B : Nat} {f : FaQ} (h : FW W w B f) (hz : f.pz < 1000000) :
    Calls Try.prog 12 #[ptr B] w fun e w' => e = .returned (nextV f) ∧ FW W w' B (nextE f) := by
  obtain ⟨⟨F, h, hF⟩, bl⟩ := h
  refine (fp_next h hz).mono ?_
  rintro e w' ⟨rfl, F', h', hF', K⟩
  exact ⟨rfl, .of bl hF h' hF' K⟩
theorem FW.drop {W w : World} {B : Nat} {f : FaQ} (h : FW W w B f) (x : Int) (hx : In64 x) (hz : f.pz < 1000000) :
    Calls Try.prog 14 #[ptr B, .int .i64 x] w fun e w' => e = .returned (.int .i64 (lsE f.r x).length) ∧ FW W w' B (dropE f x) := by
  obtain ⟨⟨F, h, hF⟩, bl⟩ := h
  refine (fp_drop h x hx hz).mono ?_
  rintro e w' ⟨rfl, F', h', hF', K⟩
  exact ⟨rfl, .of bl hF h' hF' K⟩
theorem FW.count {W w : World} {B : Nat} {f : FaQ} (h : FW W w B f) :
    Calls Try.prog 16 #[ptr B] w fun e w' => e = .returned (.int .i64 (cntE f.r)) ∧ w = w' := by
  obtain ⟨⟨F, h, hF⟩, bl⟩ := h
  exact fp_count h

def sABC : ByteArray := ⟨#[97, 98, 99]⟩
def sB5 : ByteArray := ⟨#[98, 99, 100, 101, 102]⟩
def k0 : FaQ := newE 9 4
def k1 : FaQ := ⟨9, 4, [⟨1, [sABC], 0⟩], false, 1⟩
def k2 : FaQ := ⟨9, 4, [⟨1, [sABC, sABC], 0⟩], false, 2⟩
def k3 : FaQ := ⟨9, 4, [⟨1, [sABC, sABC], 0⟩, ⟨2, [sB5], 0⟩], false, 3⟩
def k4 : FaQ := ⟨9, 4, [⟨1, [sABC], 1⟩, ⟨2, [sB5], 0⟩], true, 3⟩
def k5 : FaQ := ⟨9, 4, [⟨2, [sB5], 4⟩], false, 3⟩
def k6 : FaQ := ⟨9, 4, [], false, 3⟩
theorem w0 : pushE k0 1 sABC = 0 ∧ pushQ k0 1 sABC = k1 ∧ pushE k1 1 sABC = 0 ∧ pushQ k1 1 sABC = k2 ∧ pushE k2 2 sB5 = 0 ∧ pushQ k2 2 sB5 = k3 := ⟨by kernel_rfl, by kernel_rfl, by kernel_rfl, by kernel_rfl, by kernel_rfl, by kernel_rfl⟩
theorem w1 : nextV k3 = .tuple #[.int .i64 1, .string sABC, .bool true] ∧ nextE k3 = k4 ∧ nextV k4 = .tuple #[.int .i64 1, .string sABC, .bool true] ∧ nextE k4 = k5 ∧ nextV k5 = .tuple #[.int .i64 2, .string sB5, .bool true] ∧ nextE k5 = k6 ∧ nextV k6 = .tuple #[.int .i64 0, .string ⟨#[]⟩, .bool false] ∧ nextE k6 = k6 := ⟨by kernel_rfl, by kernel_rfl, by kernel_rfl, by kernel_rfl, by kernel_rfl, by kernel_rfl, by kernel_rfl, by kernel_rfl⟩
set_option maxHeartbeats 1000000 in
theorem works20_ok (W : World) : Calls Try.prog 18 #[] W fun e w' => e = .returned (.bool true) ∧ Below W.heap.size W w' := by
  obtain ⟨a1, a2, a3, a4, a5, a6⟩ := w0
  obtain ⟨b1, b2, b3, b4, b5, b6, b7, b8⟩ := w1
  have C0 := Lib.hid (fw_new 9 4 (W := W) (Below.refl _ _))
  have C1 : Hid (∀ w B, FW W w B k0 → Calls Try.prog 10 #[ptr B, .int .i64 1, .string ⟨#[97, 98, 99]⟩] w fun e w' => e = .returned (.int .i64 0) ∧ FW W w' B k1) := fun w B h => by
    have := h.push 1 sABC (by unfold In64; decide) (by decide) (by decide)
    rw [a1, a2] at this
    exact this
  have C2 : Hid (∀ w B, FW W w B k1 → Calls Try.prog 10 #[ptr B, .int .i64 1, .string ⟨#[97, 98, 99]⟩] w fun e w' => e = .returned (.int .i64 0) ∧ FW W w' B k2) := fun w B h => by
    have := h.push 1 sABC (by unfold In64; decide) (by decide) (by decide)
    rw [a3, a4] at this
    exact this
  have C3 : Hid (∀ w B, FW W w B k2 → Calls Try.prog 10 #[ptr B, .int .i64 2, .string ⟨#[98, 99, 100, 101, 102]⟩] w fun e w' => e = .returned (.int .i64 0) ∧ FW W w' B k3) := fun w B h => by
    have := h.push 2 sB5 (by unfold In64; decide) (by decide) (by decide)
    rw [a5, a6] at this
    exact this
  have N1 : Hid (∀ w B, FW W w B k3 → Calls Try.prog 12 #[ptr B] w fun e w' => e = .returned (.tuple #[.int .i64 1, .string ⟨#[97, 98, 99]⟩, .bool true]) ∧ FW W w' B k4) := fun w B h => by
    have := h.next (by decide)
    rw [b1, b2] at this
    exact this
  have N2 : Hid (∀ w B, FW W w B k4 → Calls Try.prog 12 #[ptr B] w fun e w' => e = .returned (.tuple #[.int .i64 1, .string ⟨#[97, 98, 99]⟩, .bool true]) ∧ FW W w' B k5) := fun w B h => by
    have := h.next (by decide)
    rw [b3, b4] at this
    exact this
  have N3 : Hid (∀ w B, FW W w B k5 → Calls Try.prog 12 #[ptr B] w fun e w' => e = .returned (.tuple #[.int .i64 2, .string ⟨#[98, 99, 100, 101, 102]⟩, .bool true]) ∧ FW W w' B k6) := fun w B h => by
    have := h.next (by decide)
    rw [b5, b6] at this
    exact this
  have N4 : Hid (∀ w B, FW W w B k6 → Calls Try.prog 12 #[ptr B] w fun e w' => e = .returned (.tuple #[.int .i64 0, .string ⟨#[]⟩, .bool false]) ∧ FW W w' B k6) := fun w B h => by
    have := h.next (by decide)
    rw [b7, b8] at this
    exact this
  clear a1 a2 a3 a4 a5 a6 b1 b2 b3 b4 b5 b6 b7 b8
  go_enter Try.func18, Try.ntmps18
  go_wp2_with fail
  refine C0.out.mono ?_
  rintro e w0 ⟨B, rfl, h0⟩
  have C := Lib.hid (C1.out w0 B h0)
  clear C0 C1 h0
  go_wp2_with fail
  refine C.out.mono ?_
  rintro e w1 ⟨rfl, h1⟩
  replace C := Lib.hid (C2.out w1 B h1)
  clear C2 h1
  go_wp2_with fail
  refine C.out.mono ?_
  rintro e w2 ⟨rfl, h2⟩
  replace C := Lib.hid (C3.out w2 B h2)
  clear C3 h2
  go_wp2_with fail
  refine C.out.mono ?_
  rintro e w3 ⟨rfl, h3⟩
  replace C := Lib.hid (N1.out w3 B h3)
  clear N1 h3
  go_wp2_with fail
  refine C.out.mono ?_
  rintro e w4 ⟨rfl, h4⟩
  replace C := Lib.hid (N2.out w4 B h4)
  clear N2 h4
  go_wp2_with fail
  refine C.out.mono ?_
  rintro e w5 ⟨rfl, h5⟩
  replace C := Lib.hid (N3.out w5 B h5)
  clear N3 h5
  go_wp2_with fail
  refine C.out.mono ?_
  rintro e w6 ⟨rfl, h6⟩
  replace C := Lib.hid (N4.out w6 B h6)
  clear N4 h6
  go_wp2_with fail
  refine C.out.mono ?_
  rintro e w7 ⟨rfl, h7⟩
  replace h7 := Lib.hid h7
  clear C
  go_wp2_with fail
  go_ret
  exact ⟨rfl, h7.out.bel⟩
end Go.Proofs.Ytiamlldooihkdaa
