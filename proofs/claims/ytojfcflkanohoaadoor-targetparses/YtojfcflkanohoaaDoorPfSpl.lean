/-
  What strings.SplitN answers at the separator "." and at most five pieces, for every string: pieces without a point, a point between them, and what is left. No condition but that a string has at most 2^63 - 2 bytes.
-/
import Derived.Test.YtojfcflkanohoaaDoorPfTab
import Derived.Test.YtojfcflkanohoaaDoorPfWr
import Derived.Deep.LoopGhost
import Derived.Laws.MakeOwn
namespace Go.Proofs.YtojfcflkanohoaaDoor
open Go.RowKit Go.Sort

theorem index_spec (c : UInt8) : ∀ l : List UInt8, (Lib.indexByte l c = -1 ∧ c ∉ l) ∨ ∃ k : Nat, Lib.indexByte l c = k ∧ k < l.length ∧ c ∉ l.take k ∧ l = l.take k ++ c :: l.drop (k + 1)
  | [] => .inl ⟨rfl, by simp⟩
  | b :: l => by
    by_cases h : b = c
    · subst h
      exact .inr ⟨0, by simp [Lib.indexByte], by simp, by simp, by simp⟩
    · rcases index_spec c l with ⟨h1, h2⟩ | ⟨k, h1, h2, h3, h4⟩
      · refine .inl ⟨by simp [Lib.indexByte, h, h1], by simp; exact ⟨fun e => h e.symm, h2⟩⟩
      · refine .inr ⟨k + 1, ?_, by simp; exact h2, ?_, ?_⟩
        · have : ¬ ((k : Int) = -1) := by omega
          simp [Lib.indexByte, h, h1, this]
        · simp
          exact ⟨fun e => h e.symm, h3⟩
        · simp
          exact h4
/-- Pieces in a block of N texts. -/
structure SBox (w : World) (B N : Nat) (d : List ByteArray) : Prop where
  lt : B < w.heap.size
  any : ∀ j, j < N → ∃ x, w.cell? ⟨B, j, none⟩ = some (.string x)
  c : ∀ j x, d[j]? = some x → w.cell? ⟨B, j, none⟩ = some (.string x)
  f : ∀ j, j < N → w.frozen? ⟨B, j, none⟩ = false
theorem SBox.keep {w w' : World} {B N C : Nat} {d : List ByteArray} (h : SBox w B N d) (hB : B < C) (b : Below C w w') : SBox w' B N d :=
  ⟨Nat.lt_of_lt_of_le h.lt b.size, fun j hj => by obtain ⟨x, hx⟩ := h.any j hj; exact ⟨x, (b.cell hB).trans hx⟩, fun j x hj => (b.cell hB).trans (h.c j x hj), fun j hj => (b.frozen hB).trans (h.f j hj)⟩
theorem SBox.put {w : World} {B N : Nat} {d : List ByteArray} (h : SBox w B N d) (hk : d.length < N) (p : ByteArray) : SBox (w.setCell ⟨B, d.length, none⟩ (.string p)) B N (d ++ [p]) := by
  have other : ∀ j, j ≠ d.length → (w.setCell ⟨B, d.length, none⟩ (.string p)).cell? ⟨B, j, none⟩ = w.cell? ⟨B, j, none⟩ := fun j hj => World.cell?_setCell_other _ _ _ _ (by intro x; injection x with _ x; exact hj x.symm)
  obtain ⟨y, hy⟩ := h.any d.length hk
  have same := World.cell?_setCell_same w ⟨B, d.length, none⟩ (.string p) hy
  refine ⟨by simpa using h.lt, fun j hj => ?_, fun j x hj => ?_, fun j hj => by simpa using h.f j hj⟩
  · by_cases e : j = d.length
    · subst e; exact ⟨p, same⟩
    · rw [other j e]; exact h.any j hj
  · by_cases e : j = d.length
    · subst e
      simp at hj
      subst hj
      exact same
    · rw [other j e]
      refine h.c j x ?_
      rcases Nat.lt_or_ge j d.length with q | q
      · rwa [List.getElem?_append_left q] at hj
      · have := (List.getElem?_eq_some_iff.1 hj).1
        simp at this
        omega
theorem made_get (N j : Nat) (h : j < N) : (madeCells #[.string ⟨#[]⟩] N)[j]? = some (.string ⟨#[]⟩) := by
  unfold madeCells
  simp [h, Nat.mod_one]
theorem sbox_new (w : World) (N : Nat) (e : TypeId) : SBox (w.alloc (.cells (madeCells #[.string ⟨#[]⟩] N) e)) w.heap.size N [] := by
  refine ⟨by simp, fun j hj => ⟨⟨#[]⟩, ?_⟩, fun j x hj => by simp at hj, fun j hj => by simp⟩
  rw [World.cell?_alloc_new, made_get N j hj]
/-- So far: pieces without a point, each with a point behind it, and the rest. -/
def Spl (s : List UInt8) (d : List ByteArray) (r : ByteArray) : Prop := (∀ p ∈ d, 46 ∉ p.data.toList) ∧ s = d.flatMap (fun p => p.data.toList ++ [46]) ++ r.data.toList
theorem spl_size {s : List UInt8} {d : List ByteArray} {r : ByteArray} (h : Spl s d r) : r.size + d.length ≤ s.length := by
  rw [h.2, List.length_append]
  have : d.length ≤ (d.flatMap (fun p => p.data.toList ++ [46])).length := by
    clear h
    induction d with
    | nil => simp
    | cons p d ih => simp only [List.flatMap_cons, List.length_append, List.length_cons, List.length_nil] at ih ⊢; omega
  have e : r.data.toList.length = r.size := by simp
  omega
theorem spl_step {s : List UInt8} {d : List ByteArray} {r : ByteArray} (h : Spl s d r) (k : Nat) (hk : k < r.size) (hn : 46 ∉ r.data.toList.take k) (he : r.data.toList = r.data.toList.take k ++ 46 :: r.data.toList.drop (k + 1)) :
    Spl s (d ++ [r.extract 0 k]) (r.extract (k + 1) r.size) := by
  have e1 : (r.extract 0 k).data.toList = r.data.toList.take k := by
    simp [ByteArray.data_extract, List.extract_eq_take_drop]
  have e2 : (r.extract (k + 1) r.size).data.toList = r.data.toList.drop (k + 1) := by
    have : r.data.toList.length = r.size := by simp
    simp only [ByteArray.data_extract, Array.toList_extract, List.extract_eq_take_drop]
    exact List.take_of_length_le (by rw [List.length_drop]; omega)
  refine ⟨fun p hp => ?_, ?_⟩
  · rcases List.mem_append.1 hp with hp | hp
    · exact h.1 p hp
    · simp at hp
      subst hp
      rw [e1]
      exact hn
  · rw [List.flatMap_append, e2, List.flatMap_singleton, e1, h.2]
    conv => lhs; rw [he]
    simp
theorem info_str : ∃ i, Tryd.prog.info? 9 = some i ∧ i.zero = some (.string ⟨#[]⟩) ∧ i.size = 1 ∧ i.bytes = 16 := by
  have h : (Tryd.prog.info? 9).map (fun i => (i.zero, i.size, i.bytes)) = some (some (.string ⟨#[]⟩), 1, 16) := by kernel_rfl
  obtain ⟨i, hi, e⟩ := Option.map_eq_some_iff.1 h
  simp only [Prod.mk.injEq] at e
  exact ⟨i, hi, e.1, e.2.1, e.2.2⟩
/-- What the pieces are. -/
def Pieces (s : ByteArray) (w : World) (e : Ending) (w' : World) : Prop :=
  ∃ (d : List ByteArray) (r : ByteArray) (b cap : Nat), e = .returned (.slice (some ⟨b, 0, none⟩) (d.length + 1) cap) ∧ d.length ≤ 4 ∧ d.length + 1 ≤ cap ∧ w.heap.size ≤ b ∧ SBox w' b (d.length + 1) (d ++ [r]) ∧ Spl s.data.toList d r ∧ (d.length < 4 → 46 ∉ r.data.toList) ∧ Below w.heap.size w w'
theorem pieces_end {s : ByteArray} {w wr : World} {N : Nat} {d : List ByteArray} {r : ByteArray} (hS : Spl s.data.toList d r) (X : SBox wr w.heap.size N d) (bel : Below w.heap.size w wr) (hk : d.length < N) (n5 : N ≤ 5) (hl : d.length < 4 → 46 ∉ r.data.toList) :
    Pieces s w (.returned (.slice (some ⟨w.heap.size, 0, none⟩) (d.length + 1) N)) (wr.setCell ⟨w.heap.size, d.length, none⟩ (.string r)) := by
  have Y := X.put hk r
  exact ⟨d, r, w.heap.size, N, rfl, by omega, by omega, Nat.le_refl _, ⟨Y.lt, fun j hj => Y.any j (by omega), Y.c, fun j hj => Y.f j (by omega)⟩, hS, hl, bel.setCell (p := ⟨w.heap.size, d.length, none⟩) (Nat.le_refl _) _⟩
set_option maxHeartbeats 2000000 in
set_option maxRecDepth 100000 in
theorem gensplit_N (s : ByteArray) (w : World) (N : Nat) (hs : s.size ≤ 9223372036854775806) (hN : (s.size < 4 ∧ N = s.size + 1) ∨ (4 ≤ s.size ∧ N = 5)) :
    Calls Tryd.prog 73 #[.string s, .string ⟨#[46]⟩, .int .i64 0, .int .i64 5] w (Pieces s w) := by
  obtain ⟨i0, hi, hz0, hz1, hz2⟩ := info_str
  have hmk : ∀ w : World, (Instr.makeSlice 39 (.int .i64 N) (.int .i64 N)).run Tryd.prog w = .ok (.slice (some ⟨w.heap.size, 0, none⟩) N N) (w.alloc (.cells (madeCells #[.string ⟨#[]⟩] N) 9)) := fun w => by
    have := run_make (P := Tryd.prog) w 39 9 i0 (.string ⟨#[]⟩) Tryd.underlying39 hi hz0 .i64 .i64 N N (by omega) (by omega) (by rw [hz2]; omega) (by omega)
    rw [hz1] at this
    simp only [Nat.mul_one, Int.toNat_natCast] at this
    exact this
  clear hi hz0 hz1 hz2
  have hmin : min 5 ((s.size : Int) + 1) = (N : Int) := by omega
  have n1 : 1 ≤ N := by omega
  have n5 : N ≤ 5 := by omega
  have IX : Hid (∀ (r : ByteArray) w, _) := fun r w => Tryd.strings_Index_one r 46 w
  go_enter Tryd.func73, Tryd.ntmps73
  go_wp2_with fail
  clear hmk hmin
  go_loopg [0, 10] (N - 1) (fun g sv i wr => ∃ (d : List ByteArray) (r : ByteArray), d.length + g = N - 1 ∧ sv = .string r ∧ i = .int .i64 d.length ∧ Hid (Spl s.data.toList d r) ∧ Hid (SBox wr w.heap.size N d) ∧ Hid (Below w.heap.size w wr))
  case atStart => exact ⟨[], s, by simp, rfl, rfl, ⟨by simp, by simp⟩, sbox_new w N _, (Below.refl _ _).alloc (Nat.le_refl _) _⟩
  case round =>
    obtain ⟨d, r, hg, rfl, rfl, hS, X, bel⟩ := hrel
    have hz := spl_size hS.out
    have hz' : s.data.toList.length = s.size := by simp
    have hrz : r.size ≤ 9223372036854775806 := by omega
    obtain ⟨x0, c0⟩ := X.out.any d.length (by omega)
    have f0 := X.out.f d.length (by omega)
    by_cases hlt : d.length < N - 1
    · have g1 : decide ((d.length : Int) < (N : Int) - 1) = true := decide_eq_true (by omega)
      rcases index_spec 46 r.data.toList with ⟨q1, q2⟩ | ⟨k, q1, q2, q3, q4⟩
      · have I : Hid (∀ w, Calls Tryd.prog 87 #[.string r, .string ⟨#[46]⟩] w fun e w' => e = .returned (.int .i64 (-1)) ∧ w' = w) := fun w => by have := IX.out r w; rwa [q1] at this
        have P : Hid _ := pieces_end hS.out X.out bel.out (by omega) n5 (fun _ => q2)
        clear IX q1 q2 hS X bel
        go_wp2_with (go_at_call 87; refine (I.out _).mono ?_; rintro e w' ⟨rfl, rfl⟩)
        go_ret
        exact P.out
      · have hkr : k < r.size := by simpa using q2
        have I : Hid (∀ w, Calls Tryd.prog 87 #[.string r, .string ⟨#[46]⟩] w fun e w' => e = .returned (.int .i64 k) ∧ w' = w) := fun w => by have := IX.out r w; rwa [q1] at this
        have S2 : Hid _ := spl_step hS.out k hkr q3 q4
        have X2 : Hid (SBox (wr.setCell ⟨w.heap.size, d.length, none⟩ (.string (r.extract 0 k))) w.heap.size N (d ++ [r.extract 0 k])) := X.out.put (by omega) _
        have Z2 : Hid (Below w.heap.size w (wr.setCell ⟨w.heap.size, d.length, none⟩ (.string (r.extract 0 k)))) := bel.out.setCell (p := ⟨w.heap.size, d.length, none⟩) (Nat.le_refl _) _
        have k1 : (k : Int) ≤ r.size := by omega
        have k2 : (k : Int) + 1 ≤ r.size := by omega
        clear IX q1 q2 q3 q4 hS X bel
        go_wp2_with (go_at_call 87; refine (I.out _).mono ?_; rintro e w' ⟨rfl, rfl⟩)
        go_roundg (N - 1 - (d.length + 1))
        case measure => omega
        case rel => exact ⟨d ++ [r.extract 0 k], r.extract (k + 1) r.size, by simp; omega, rfl, by simp, S2, X2, Z2⟩
    · have g1 : decide ((d.length : Int) < (N : Int) - 1) = false := decide_eq_false (by omega)
      have P : Hid _ := pieces_end hS.out X.out bel.out (by omega) n5 (fun h4 => by
        have r0 : r.size = 0 := by omega
        have : r.data.toList = [] := List.eq_nil_of_length_eq_zero (by simpa using r0)
        rw [this]
        simp)
      clear IX hS X bel
      go_wp2_with fail
      go_ret
      exact P.out
theorem splitn_ok (s : ByteArray) (w : World) (hs : s.size ≤ 9223372036854775806) :
    Calls Tryd.prog 61 #[.string s, .string ⟨#[46]⟩, .int .i64 5] w (Pieces s w) := by
  have G : Hid (∀ w, _) := fun w => by
    by_cases h : s.size < 4
    · exact gensplit_N s w (s.size + 1) hs (.inl ⟨h, rfl⟩)
    · exact gensplit_N s w 5 hs (.inr ⟨by omega, rfl⟩)
  go_enter Tryd.func61, Tryd.ntmps61
  go_wp2_with (go_at_call 73; refine (G.out _).mono ?_; rintro e w' ⟨d, r, b, cap, rfl, p⟩; have P : Hid _ := p; clear p)
  go_ret
  exact ⟨d, r, b, cap, rfl, P.out⟩
end Go.Proofs.YtojfcflkanohoaaDoor
