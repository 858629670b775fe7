/-
  The program's ledger, and the blocks in which it lies; packets as a slice tells them; what New, Window, Wait and Flight answer. No condition but what always holds of a ledger.
-/
import Derived.Test.YtfjampommgkfeaaLgFace
import Derived.Test.YtfjampommgkfeaaLpIdx
namespace Go.Proofs.Ytfjampommgkfeaa
set_option maxRecDepth 100000
open Go.RowKit Go.Sort

/-- The program's ledger in block B, its row sv. -/
def PB (w : World) (B : Nat) (o : Option Nat) (d : Ld) : Prop := ∃ sv, Lies w B (lgc sv d) ∧ w.ownsRow 0 58 3 sv d.l.length (pks d.l) ∧ sv.ownBlock = o
def LS (w : World) (B : Nat) (F : Nat → Prop) (d : Ld) : Prop := ∃ o, PB w B o d ∧ o ≠ some B ∧ (∀ k, F k ↔ k = B ∨ o = some k)
theorem PB.lt {w : World} {B : Nat} {o : Option Nat} {d : Ld} (h : PB w B o d) : B < w.heap.size ∧ ∀ k, o = some k → k < w.heap.size := by
  obtain ⟨sv, h1, h2, rfl⟩ := h
  exact ⟨h1.lt (by show 0 < 6; decide), fun k hk => (h2.lt k hk).2⟩
theorem PB.of {w w' : World} {B : Nat} {o : Option Nat} {d : Ld} (h : PB w B o d) (e : w'.heap[B]? = w.heap[B]?) (e2 : ∀ k, o = some k → w'.heap[k]? = w.heap[k]?) : PB w' B o d := by
  obtain ⟨sv, h1, h2, rfl⟩ := h
  exact ⟨sv, h1.of_block e, row_block h2 e2, rfl⟩
theorem LS.lt {w : World} {B : Nat} {F : Nat → Prop} {d : Ld} (h : LS w B F d) : ∀ k, F k → k < w.heap.size := fun k hk => by
  obtain ⟨o, h1, -, h2⟩ := h
  rcases (h2 k).1 hk with rfl | q
  · exact h1.lt.1
  · exact h1.lt.2 k q
theorem LS.keep {w w' : World} {B : Nat} {F : Nat → Prop} {d : Ld} (h : LS w B F d) (e : ∀ k, F k → w'.heap[k]? = w.heap[k]?) : LS w' B F d := by
  obtain ⟨o, h1, h3, h2⟩ := h
  exact ⟨o, h1.of (e B ((h2 B).2 (.inl rfl))) (fun k hk => e k ((h2 k).2 (.inr hk))), h3, h2⟩
theorem pg_new (w : World) :
    Calls Try.prog 8 #[] w fun e w' => ∃ B F, e = .returned (ptr B) ∧ LS w' B F ld0 ∧ (∀ k, F k → w.heap.size ≤ k) ∧ Below w.heap.size w w' := by
  have L0 : Hid (LS (w.alloc (.cells #[.slice none 0 0, .int .i64 (-1), .int .i64 12000, .int .i64 1073741824, .int .i64 (-1), .int .i64 0] 56)) w.heap.size (fun k => k = w.heap.size) ld0) := ⟨none, ⟨.slice none 0 0, Lies.new w _ _, World.ownsRow_nil _ _ _ _, rfl⟩, by simp, fun k => by simp⟩
  have B0 : Hid (Below w.heap.size w (w.alloc (.cells #[.slice none 0 0, .int .i64 (-1), .int .i64 12000, .int .i64 1073741824, .int .i64 (-1), .int .i64 0] 56))) := (Below.refl _ _).alloc (Nat.le_refl _) _
  go_enter Try.func8, Try.ntmps8
  go_wp2
  go_ret
  exact ⟨_, _, rfl, L0.out, fun k hk => Nat.le_of_eq hk.symm, B0.out⟩
theorem pg_window (w : World) (B : Nat) (F : Nat → Prop) (d : Ld) (h : LS w B F d) (_ : Lw d) : Calls Try.prog 19 #[ptr B] w fun e w' => e = .returned (.int .i64 d.win) ∧ Below w.heap.size w w' := by
  obtain ⟨o, ⟨sv, h1, -, -⟩, -, -⟩ := h
  have c2 := h1.cell 2 (v := .int .i64 d.win) rfl
  clear h1
  go_enter Try.func19, Try.ntmps19
  go_wp2
  go_ret
  exact ⟨rfl, Below.refl _ _⟩
theorem pwait_ok (w : World) (B : Nat) (sv : Value) (d : Ld) (h1 : Lies w B (lgc sv d)) (hb : d.bo ≤ 6) : Calls Try.prog 20 #[ptr B] w fun e w' => e = .returned (.int .i64 (wait d)) ∧ w = w' := by
  unfold wait
  have c5 := h1.cell 5 (v := .int .i64 d.bo) rfl
  clear h1
  obtain ⟨b, hbo⟩ : ∃ b, d.bo = b := ⟨_, rfl⟩
  rw [hbo] at c5 hb ⊢
  clear hbo
  rcases b with _ | _ | _ | _ | _ | _ | _ | b
  all_goals first
    | (exfalso; omega)
    | (clear hb
       go_enter Try.func20, Try.ntmps20
       go_wp2
       go_ret
       exact ⟨rfl, rfl⟩)
theorem pg_wait (w : World) (B : Nat) (F : Nat → Prop) (d : Ld) (h : LS w B F d) (hd : Lw d) : Calls Try.prog 20 #[ptr B] w fun e w' => e = .returned (.int .i64 (wait d)) ∧ Below w.heap.size w w' := by
  obtain ⟨o, ⟨sv, h1, -, -⟩, -, -⟩ := h
  exact (pwait_ok w B sv d h1 hd.k.bo).mono fun _ _ h => ⟨h.1, h.2 ▸ Below.refl _ _⟩
set_option maxHeartbeats 4000000 in
theorem pg_flight (w : World) (B : Nat) (F : Nat → Prop) (d : Ld) (h : LS w B F d) (hd : Lw d) : Calls Try.prog 17 #[ptr B] w fun e w' => e = .returned (.tuple #[.int .i64 d.l.length, .int .i64 (bytesP d.l)]) ∧ Below w.heap.size w w' := by
  obtain ⟨o, ⟨sv, h1, h2, -⟩, -, -⟩ := h
  have hl := hd.len
  have c0 := h1.cell 0 (v := sv) rfl
  have c0lt := World.block_lt_of_cell? w _ c0
  clear h1
  obtain ⟨a, cap, rfl, hc⟩ := own_pkAt h2
  replace hc : Hid _ := hc
  have bb : Hid (∀ k, 0 ≤ bytesP (d.l.take k) ∧ bytesP (d.l.take k) ≤ 1200 * k) := bytes_le d.l fun p hp => (hd.k.nos p hp).2.2
  replace c0 : Hid _ := c0
  have c0' := c0.out
  clear hd h2
  go_enter Try.func17, Try.ntmps17
  go_wp2
  clear c0'
  go_loopg [4, 12] d.l.length (fun g' nv iv wr => ∃ k : Nat, k + g' = d.l.length ∧ iv = .int .i64 k ∧ nv = .int .i64 (bytesP (d.l.take k)) ∧ Hid (Below w.heap.size w wr))
  case atStart => exact ⟨0, by omega, rfl, rfl, Below.refl _ _⟩
  case round =>
    obtain ⟨k, hk, rfl, rfl, bel⟩ := hrel
    by_cases hlt : k < d.l.length
    · have g1 : decide ((k : Int) < (d.l.length : Int)) = true := decide_eq_true (by omega)
      rcases hc.out with hc0 | ⟨g, po, rfl, hc1⟩
      · rw [hc0] at hlt; simp at hlt
      · obtain ⟨d0, d1, d2⟩ := hc1 k hlt
        replace d0 := (bel.out.cell (World.block_lt_of_cell? w _ d0)).trans d0
        replace d1 := (bel.out.cell (World.block_lt_of_cell? w _ d1)).trans d1
        replace d2 := (bel.out.cell (World.block_lt_of_cell? w _ d2)).trans d2
        have ia := fun w' => at_ppk g po d.l.length cap k w' hlt (k : Int) rfl (po + 3 * k) rfl
        have bt := bytes_take d.l k hlt
        have b1 := bb.out k
        have b2 := bb.out (k + 1)
        generalize (d.l.getD k (0, 0, 0)).1 = x at *
        generalize (d.l.getD k (0, 0, 0)).2.1 = y at *
        generalize (d.l.getD k (0, 0, 0)).2.2 = s at *
        have hw : wrap64 (bytesP (d.l.take k) + s) = bytesP (d.l.take (k + 1)) := by
          rw [bt] at b2 ⊢
          unfold wrap64
          omega
        replace bt : Hid _ := bt
        have bel2 : Hid (Below w.heap.size w (wr.alloc (.cells #[.int .i64 x, .int .i64 y, .int .i64 s] 58))) := bel.out.alloc bel.out.size _
        clear b1 b2 hc1
        go_wp2
        go_roundg (d.l.length - (k + 1))
        case measure => omega
        case rel => exact ⟨k + 1, by omega, by go_num, congrArg (Value.int .i64) hw, bel2⟩
    · have g1 : decide ((k : Int) < (d.l.length : Int)) = false := decide_eq_false (by omega)
      obtain rfl : k = d.l.length := by omega
      have e : bytesP (d.l.take d.l.length) = bytesP d.l := by rw [List.take_length]
      rw [e]
      have c1 := (bel.out.cell c0lt).trans c0.out
      clear e hc bb
      go_wp2
      go_ret2
      exact ⟨rfl, bel.out⟩
end Go.Proofs.Ytfjampommgkfeaa
