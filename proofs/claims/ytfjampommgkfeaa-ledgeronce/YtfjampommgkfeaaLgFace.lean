/-
  What the laws ask of the program's ledger: a relation that holds of a ledger in memory, and what each call makes of it. They are stated here, not shown. No condition.
-/
import Derived.Test.YtfjampommgkfeaaLgAckB
import Derived.Test.YtfjampommgkfeaaLgSame
import Derived.Test.YtfjampommgkfeaaLgOpen
namespace Go.Proofs.Ytfjampommgkfeaa
set_option maxRecDepth 100000
open Go.RowKit Go.Sort

/-- What always holds of a ledger, ticks and all. -/
structure Lw (d : Ld) : Prop where
  k : Lk d
  ticks : ∀ p ∈ d.l, In64 p.2.1
  len : d.l.length < 1048576
def toldN (d : Ld) (r : List Rg) : List Int := if ackE d r = 0 then nosP (toldP d r) else []
def lostN (d : Ld) (r : List Rg) : List Int := if ackE d r = 0 then nosP (lostP d r) else []
def acked (d : Ld) (r : List Rg) : Ld := if ackE d r = 0 then ack d r else d
/-- Numbers in a row whose block is one of A. -/
def N64 (w : World) (A : Nat → Prop) (v : Value) (xs : List Int) : Prop :=
  ∃ a cap, v = .slice a xs.length cap ∧ (a = none → cap = 0) ∧ (xs = [] ∨ ∃ g o, a = some ⟨g, o, none⟩ ∧ A g ∧ ∀ k, k < xs.length → w.cell? ⟨g, o + k, none⟩ = some (.int .i64 (xs.getD k 0)))
theorem N64.at {w : World} {A : Nat → Prop} {v : Value} {xs : List Int} (h : N64 w A v xs) : I64At w v xs := by
  obtain ⟨a, cap, rfl, -, h⟩ := h
  refine ⟨a, cap, rfl, h.imp id ?_⟩
  rintro ⟨g, o, e, -, h⟩
  exact ⟨g, o, e, h⟩
theorem N64.keepK {w w' : World} {A : Nat → Prop} {v : Value} {xs : List Int} {F : Nat → Prop} (h : N64 w A v xs) (b : Kept F w w') (hF : ∀ k, A k → ¬ F k) : N64 w' A v xs := by
  obtain ⟨a, cap, rfl, hc, h⟩ := h
  refine ⟨a, cap, rfl, hc, h.imp id ?_⟩
  rintro ⟨g, o, e, hg, h⟩
  refine ⟨g, o, e, hg, fun k hk => ?_⟩
  have c := h k hk
  have hb := b.block g (World.block_lt_of_cell? w _ c) (hF g hg)
  exact (World.cell?_of_block (w := w) (a := ⟨g, o + k, none⟩) hb).trans c
theorem N64.keep {w w' : World} {A : Nat → Prop} {v : Value} {xs : List Int} (h : N64 w A v xs) (b : Below w.heap.size w w') : N64 w' A v xs :=
  h.keepK (Kept.of (fun _ => False) b) fun _ _ => id
theorem N64.mono {w : World} {A A' : Nat → Prop} {v : Value} {xs : List Int} (h : N64 w A v xs) (hA : ∀ k, A k → A' k) : N64 w A' v xs := by
  obtain ⟨a, cap, rfl, hc, h⟩ := h
  refine ⟨a, cap, rfl, hc, h.imp id ?_⟩
  rintro ⟨g, o, e, hg, h⟩
  exact ⟨g, o, e, hA g hg, h⟩
/-- New blocks that do not belong to F. -/
abbrev Free (w : World) (F : Nat → Prop) (k : Nat) : Prop := w.heap.size ≤ k ∧ ¬ F k
abbrev ptr (B : Nat) : Value := .pointer (some ⟨B, 0, none⟩)
/-- What the laws ask. -/
structure Face (LS : World → Nat → (Nat → Prop) → Ld → Prop) : Prop where
  lt : ∀ {w B F d}, LS w B F d → ∀ k, F k → k < w.heap.size
  keep : ∀ {w w' B F d}, LS w B F d → (∀ k, F k → w'.heap[k]? = w.heap[k]?) → LS w' B F d
  new : ∀ w, Calls Try.prog 8 #[] w fun e w' => ∃ B F, e = .returned (ptr B) ∧ LS w' B F ld0 ∧ (∀ k, F k → w.heap.size ≤ k) ∧ Below w.heap.size w w'
  sent : ∀ w B F d n now size, LS w B F d → Lw d → In64 n → In64 now → In64 size →
    Calls Try.prog 10 #[ptr B, .int .i64 n, .int .i64 now, .int .i64 size] w fun e w' => e = .returned (.int .i64 (sentE d n size)) ∧ ∃ F', LS w' B F' (sent d n now size) ∧ (∀ k, F' k → F k ∨ w.heap.size ≤ k) ∧ Kept F w w'
  acked : ∀ w B F d r rv, LS w B F d → Lw d → RgAt w rv r → r.length * 16 ≤ 140737488351232 → (∀ x ∈ r, In64 x.1 ∧ In64 x.2) → (r ≠ [] → ∀ p cap, rv = .slice (some p) r.length cap → ¬ F p.block) →
    Calls Try.prog 12 #[ptr B, rv] w fun e w' => ∃ u v, e = .returned (.tuple #[u, v, .int .i64 (ackE d r)]) ∧ ∃ F', N64 w' (Free w F') u (toldN d r) ∧ N64 w' (Free w F') v (lostN d r) ∧ LS w' B F' (acked d r) ∧ (∀ k, F' k → F k ∨ w.heap.size ≤ k) ∧ Kept F w w'
  expire : ∀ w B F d now, LS w B F d → Lw d → In64 now →
    Calls Try.prog 15 #[ptr B, .int .i64 now] w fun e w' => ∃ v, e = .returned v ∧ ∃ F', N64 w' (Free w F') v (expL d now) ∧ LS w' B F' (expire d now) ∧ (∀ k, F' k → F k ∨ w.heap.size ≤ k) ∧ Kept F w w'
  flight : ∀ w B F d, LS w B F d → Lw d → Calls Try.prog 17 #[ptr B] w fun e w' => e = .returned (.tuple #[.int .i64 d.l.length, .int .i64 (bytesP d.l)]) ∧ Below w.heap.size w w'
  window : ∀ w B F d, LS w B F d → Lw d → Calls Try.prog 19 #[ptr B] w fun e w' => e = .returned (.int .i64 d.win) ∧ Below w.heap.size w w'
  wait : ∀ w B F d, LS w B F d → Lw d → Calls Try.prog 20 #[ptr B] w fun e w' => e = .returned (.int .i64 (wait d)) ∧ Below w.heap.size w w'

theorem len_filter {l : List Pk} {N : Nat} (f : Pk → Bool) (h : l.length < N) : (l.filter f).length < N := Nat.lt_of_le_of_lt (List.length_filter_le ..) h
theorem Lw.new : Lw ld0 := ⟨Lk.new, fun p hp => (by cases hp), by decide⟩
theorem Lw.acked {d : Ld} (h : Lw d) (r : List Rg) : Lw (acked d r) := by
  unfold Proofs.Ytfjampommgkfeaa.acked
  split
  · have e := lose_top { d with l := leftP d r, win := growAll d.thr (toldP d r) d.win, bo := if toldP d r = [] then d.bo else 0 } (nosP (lostP d r))
    have e' : (ack d r).l = leftP d r := e.2.1
    refine ⟨h.k.ack r, fun p hp => ?_, ?_⟩
    · rw [e'] at hp
      exact h.ticks p (List.mem_filter.1 (List.mem_filter.1 hp).1).1
    · rw [e']
      exact len_filter _ (len_filter _ h.len)
  · exact h
theorem expire_l (d : Ld) (now : Int) : (expire d now).l = if dueA d now = true then [] else d.l := by
  unfold expire
  split
  · exact (lose_top { d with l := [] } (nosP d.l)).2.1
  · rfl
theorem Lw.expire {d : Ld} (h : Lw d) (now : Int) : Lw (expire d now) := by
  refine ⟨h.k.expire now, fun p hp => ?_, ?_⟩
  · rw [expire_l] at hp
    split at hp
    · cases hp
    · exact h.ticks p hp
  · rw [expire_l]
    split
    · decide
    · exact h.len
theorem Lw.sent {d : Ld} (h : Lw d) (n now size : Int) (ht : In64 now) (hl : d.l.length + 1 < 1048576) : Lw (sent d n now size) := by
  refine ⟨h.k.sent n now size, fun p hp => ?_, ?_⟩
  · unfold Proofs.Ytfjampommgkfeaa.sent at hp
    split at hp
    · rcases List.mem_append.1 hp with q | q
      · exact h.ticks p q
      · rw [List.mem_singleton.1 q]; exact ht
    · exact h.ticks p hp
  · unfold Proofs.Ytfjampommgkfeaa.sent
    split
    · simpa using hl
    · exact h.len
theorem sent_len (d : Ld) (n now size : Int) : (sent d n now size).l.length ≤ d.l.length + 1 := by
  unfold sent
  split
  · simp
  · omega
theorem acked_len (d : Ld) (r : List Rg) : (acked d r).l.length ≤ d.l.length := by
  unfold acked
  split
  · have e' : (ack d r).l = leftP d r := (lose_top { d with l := leftP d r, win := growAll d.thr (toldP d r) d.win, bo := if toldP d r = [] then d.bo else 0 } (nosP (lostP d r))).2.1
    rw [e']
    exact Nat.le_trans (List.length_filter_le ..) (List.length_filter_le ..)
  · omega
theorem expire_len (d : Ld) (now : Int) : (expire d now).l.length ≤ d.l.length := by
  rw [expire_l]
  split
  · simp
  · omega
end Go.Proofs.Ytfjampommgkfeaa
