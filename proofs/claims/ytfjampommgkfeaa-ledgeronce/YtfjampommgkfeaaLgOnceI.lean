/-
  The program's ledger, and beside it the two maps of the law LedgerOnce: what each call leaves of them. They lean on what is asked of the program's calls (Face). No other condition.
-/
import Derived.Test.YtfjampommgkfeaaLgInv
import Derived.Test.YtfjampommgkfeaaLgOnceM
import Derived.Test.YtfjampommgkfeaaObSetB
namespace Go.Proofs.Ytfjampommgkfeaa
set_option maxRecDepth 100000
open Go.RowKit Go.Sort

/-- A ledger, the map of what was sent, the map of what is done; X: other blocks that belong to none of them. -/
structure OI (LS : LSt) (X : Nat → Prop) (w0 w : World) (B : Nat) (F : Nat → Prop) (d : Ld) (m1 : Nat) (S : List Int) (m2 : Nat) (D : List Int) : Prop where
  p : PL LS w0 w B F d
  s1 : SetB w m1 S
  s2 : SetB w m2 D
  ne : m1 ≠ m2
  ge : w0.heap.size ≤ m1 ∧ w0.heap.size ≤ m2
  nF : ¬ F m1 ∧ ¬ F m2
  nX : ∀ k, X k → ¬ F k ∧ k ≠ m1 ∧ k ≠ m2 ∧ k < w.heap.size
section
variable {LS : LSt} {X : Nat → Prop} {w0 w w' : World} {B m1 m2 : Nat} {F : Nat → Prop} {d : Ld} {S D : List Int}
theorem OI.keep (fc : Face LS) (h : OI LS X w0 w B F d m1 S m2 D) (b : Below w.heap.size w w') : OI LS X w0 w' B F d m1 S m2 D :=
  ⟨h.p.keep fc b, h.s1.of_block (b.block _ h.s1.lt), h.s2.of_block (b.block _ h.s2.lt), h.ne, h.ge, h.nF, fun k q => ⟨(h.nX k q).1, (h.nX k q).2.1, (h.nX k q).2.2.1, Nat.lt_of_lt_of_le (h.nX k q).2.2.2 b.size⟩⟩
theorem OI.drop (h : OI LS X w0 w B F d m1 S m2 D) : OI LS (fun _ => False) w0 w B F d m1 S m2 D := ⟨h.p, h.s1, h.s2, h.ne, h.ge, h.nF, fun _ q => q.elim⟩
theorem OI.fresh (fc : Face LS) (h : OI LS X w0 w B F d m1 S m2 D) (b : Below w.heap.size w w') (g : Nat) (hg : w.heap.size ≤ g ∧ g < w'.heap.size) : OI LS (fun k => k = g) w0 w' B F d m1 S m2 D := by
  have l1 := h.s1.lt
  have l2 := h.s2.lt
  have k := h.keep fc b
  exact ⟨k.p, k.s1, k.s2, k.ne, k.ge, k.nF, fun k q => q ▸ ⟨fun r => by have := fc.lt h.p.s g r; omega, by omega, by omega, hg.2⟩⟩
theorem OI.step {F' : Nat → Prop} {d' : Ld} (h : OI LS X w0 w B F d m1 S m2 D) (hp : PL LS w0 w' B F' d') (hg : ∀ k, F' k → F k ∨ w.heap.size ≤ k) (hk : Kept F w w') : OI LS X w0 w' B F' d' m1 S m2 D ∧ Same X w w' := by
  have l1 := h.s1.lt
  have l2 := h.s2.lt
  refine ⟨⟨hp, h.s1.of_block (hk.block _ l1 h.nF.1), h.s2.of_block (hk.block _ l2 h.nF.2), h.ne, h.ge, ⟨fun q => ?_, fun q => ?_⟩, fun k q => ⟨fun r => ?_, (h.nX k q).2.1, (h.nX k q).2.2.1, Nat.lt_of_lt_of_le (h.nX k q).2.2.2 hk.size⟩⟩, fun k q => hk.block k (h.nX k q).2.2.2 (h.nX k q).1⟩
  · rcases hg _ q with r | r
    · exact h.nF.1 r
    · omega
  · rcases hg _ q with r | r
    · exact h.nF.2 r
    · omega
  · rcases hg k r with r | r
    · exact (h.nX k q).1 r
    · have := (h.nX k q).2.2.2
      omega
theorem grown_below {b : Nat} (hb : Below w0.heap.size w0 w) (g : w.grownBy w' (some b)) (hge : w0.heap.size ≤ b) : Below w0.heap.size w0 w' :=
  hb.trans ⟨g.os, g.tape, g.output, g.size, fun k hk => g.block k (Nat.lt_of_lt_of_le hk hb.size) (fun e => by injection e with e; omega)⟩
theorem OI.put1 (fc : Face LS) {S' : List Int} (h : OI LS X w0 w B F d m1 S m2 D) (hs : SetB w' m1 S') (g : w.grownBy w' (some m1)) : OI LS X w0 w' B F d m1 S' m2 D ∧ Same X w w' := by
  have bl : ∀ k, k < w.heap.size → k ≠ m1 → w'.heap[k]? = w.heap[k]? := fun k hk e => g.block k hk (fun q => e (Option.some.inj q))
  have bel := grown_below h.p.bel g h.ge.1
  exact ⟨⟨⟨fc.keep h.p.s fun k q => bl k (fc.lt h.p.s k q) (fun e => h.nF.1 (e ▸ q)), h.p.ok, h.p.ge, bel⟩, hs, h.s2.of_block (bl _ h.s2.lt (fun e => h.ne e.symm)), h.ne, h.ge, h.nF, fun k q => ⟨(h.nX k q).1, (h.nX k q).2.1, (h.nX k q).2.2.1, Nat.lt_of_lt_of_le (h.nX k q).2.2.2 g.size⟩⟩, fun k q => bl k (h.nX k q).2.2.2 (h.nX k q).2.1⟩
theorem OI.put2 (fc : Face LS) {D' : List Int} (h : OI LS X w0 w B F d m1 S m2 D) (hs : SetB w' m2 D') (g : w.grownBy w' (some m2)) : OI LS X w0 w' B F d m1 S m2 D' ∧ Same X w w' := by
  have bl : ∀ k, k < w.heap.size → k ≠ m2 → w'.heap[k]? = w.heap[k]? := fun k hk e => g.block k hk (fun q => e (Option.some.inj q))
  have bel := grown_below h.p.bel g h.ge.2
  exact ⟨⟨⟨fc.keep h.p.s fun k q => bl k (fc.lt h.p.s k q) (fun e => h.nF.2 (e ▸ q)), h.p.ok, h.p.ge, bel⟩, h.s1.of_block (bl _ h.s1.lt h.ne), hs, h.ne, h.ge, h.nF, fun k q => ⟨(h.nX k q).1, (h.nX k q).2.1, (h.nX k q).2.2.1, Nat.lt_of_lt_of_le (h.nX k q).2.2.2 g.size⟩⟩, fun k q => bl k (h.nX k q).2.2.2 (h.nX k q).2.2.1⟩
theorem oi_new (fc : Face LS) (h : PL LS w0 w B F d) (hw' : w' = w.alloc (.map #[] 0)) : OI LS (fun _ => False) w0 (w'.alloc (.map #[] 0)) B F d w.heap.size [] w'.heap.size [] := by
  have b1 : Below w.heap.size w w' := hw' ▸ (Below.refl _ _).alloc (Nat.le_refl _) _
  have b2 : Below w'.heap.size w' (w'.alloc (.map #[] 0)) := (Below.refl _ _).alloc (Nat.le_refl _) _
  have hs : w'.heap.size = w.heap.size + 1 := by rw [hw']; simp
  have s1 : SetB w' w.heap.size [] := hw' ▸ SetB.made w
  refine ⟨(h.keep fc b1).keep fc b2, s1.of_block (b2.block _ s1.lt), SetB.made w', by omega, ⟨h.bel.size, Nat.le_trans h.bel.size (by omega)⟩, ⟨fun q => ?_, fun q => ?_⟩, fun _ q => q.elim⟩
  · have := fc.lt h.s _ q
    omega
  · have := fc.lt h.s _ q
    omega
end
end Go.Proofs.Ytfjampommgkfeaa
