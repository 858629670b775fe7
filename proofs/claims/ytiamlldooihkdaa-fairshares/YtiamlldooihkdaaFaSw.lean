/-
  The program's own queues beside two rows of three numbers. No condition but how many were pushed.
-/
import Derived.Test.YtiamlldooihkdaaFaSh
namespace Go.Proofs.Ytiamlldooihkdaa
set_option maxRecDepth 100000
open Go.RowKit

def n3 (a b : Int) : List Value := [.int .i64 0, .int .i64 a, .int .i64 b]
structure Sw (W w : World) (B : Nat) (f : FaQ) (G C : Nat) (g1 g2 c1 c2 : Int) : Prop where
  ex : ∃ F, FP w B F f ∧ ∀ k, F k → W.heap.size ≤ k ∧ k ≠ G ∧ k ≠ C
  bel : Below W.heap.size W w
  lg : Lies w G (n3 g1 g2)
  lc : Lies w C (n3 c1 c2)
  ne : G ≠ C
  gw : W.heap.size ≤ G
  cw : W.heap.size ≤ C
theorem Sw.made {W w : World} {B : Nat} {f : FaQ} (h : FW W w B f) (t u : TypeId) : Sw W ((w.alloc (.cells (n3 0 0).toArray t)).alloc (.cells (n3 0 0).toArray u)) B f w.heap.size (w.heap.size + 1) 0 0 0 0 := by
  obtain ⟨⟨F, h, hF⟩, b⟩ := h
  have b1 : Below w.heap.size w (w.alloc (.cells (n3 0 0).toArray t)) := (Below.refl _ _).alloc (Nat.le_refl _) _
  have s1 : (w.alloc (.cells (n3 0 0).toArray t)).heap.size = w.heap.size + 1 := by simp
  have b2 : Below (w.heap.size + 1) (w.alloc (.cells (n3 0 0).toArray t)) ((w.alloc (.cells (n3 0 0).toArray t)).alloc (.cells (n3 0 0).toArray u)) := (Below.refl _ _).alloc (by omega) _
  have b3 := b1.trans (b2.mono (Nat.le_succ _))
  have l1 : Lies (w.alloc (.cells (n3 0 0).toArray t)) w.heap.size (n3 0 0) := Lies.new w _ _
  have l2 : Lies ((w.alloc (.cells (n3 0 0).toArray t)).alloc (.cells (n3 0 0).toArray u)) (w.heap.size + 1) (n3 0 0) := by
    have := Lies.new (w.alloc (.cells (n3 0 0).toArray t)) (n3 0 0) u
    rw [s1] at this
    exact this
  refine ⟨⟨F, h.keep (fun k hk => b3.block k (h.lt k hk)) b3.size, fun k hk => ⟨hF k hk, ?_, ?_⟩⟩, b.trans (b3.mono b.size), l1.of_block (b2.block _ (Nat.lt_succ_self _)), l2, by omega, b.size, Nat.le_succ_of_le b.size⟩
  · have := h.lt k hk; omega
  · have := h.lt k hk; omega
theorem Sw.next {W w : World} {B : Nat} {f : FaQ} {G C : Nat} {g1 g2 c1 c2 : Int} (h : Sw W w B f G C g1 g2 c1 c2) (hz : f.pz < 1000000) :
    Calls Try.prog 12 #[ptr B] w fun e w' => e = .returned (nextV f) ∧ Sw W w' B (nextE f) G C g1 g2 c1 c2 := by
  obtain ⟨⟨F, h, hF⟩, bl, lg, lc, ne, gw, cw⟩ := h
  refine (fp_next h hz).mono ?_
  rintro e w' ⟨rfl, F', h', hF', K⟩
  have kg := lg.lt (by show 0 < 3; decide)
  have kc := lc.lt (by show 0 < 3; decide)
  refine ⟨rfl, ⟨F', h', fun k hk => ?_⟩, bl.trans (K.below bl.size fun k hk => (hF k hk).1), lg.of_block (K.block G kg fun q => (hF G q).2.1 rfl), lc.of_block (K.block C kc fun q => (hF C q).2.2 rfl), ne, gw, cw⟩
  rcases hF' k hk with q | q
  · exact hF k q
  · have := bl.size
    exact ⟨by omega, by omega, by omega⟩
theorem Sw.set {W w w' : World} {B : Nat} {f : FaQ} {G C : Nat} {g1 g2 c1 c2 : Int} (h : Sw W w B f G C g1 g2 c1 c2) (X : Nat) (hX : X = G ∨ X = C) (K : Kept (fun k => k = X) w w') {g1' g2' c1' c2' : Int} (lg : Lies w' G (n3 g1' g2')) (lc : Lies w' C (n3 c1' c2')) : Sw W w' B f G C g1' g2' c1' c2' := by
  obtain ⟨⟨F, h, hF⟩, bl, -, -, ne, gw, cw⟩ := h
  have nX : ∀ k, F k → k ≠ X := fun k hk q => by
    have := hF k hk
    rcases hX with z | z <;> rw [z] at q
    · exact this.2.1 q
    · exact this.2.2 q
  refine ⟨⟨F, h.keep (fun k hk => K.block k (h.lt k hk) (nX k hk)) K.size, hF⟩, bl.trans (K.below bl.size fun k hk => ?_), lg, lc, ne, gw, cw⟩
  rw [hk]
  rcases hX with z | z <;> rw [z] <;> assumption
/-- One of the four numbers turned. -/
theorem Sw.g1 {W w : World} {B : Nat} {f : FaQ} {G C : Nat} {g1 g2 c1 c2 : Int} (h : Sw W w B f G C g1 g2 c1 c2) (x : Int) : Sw W (w.setCell ⟨G, 1, none⟩ (.int .i64 x)) B f G C x g2 c1 c2 :=
  have k := (Kept.refl (fun k => k = G) w).set ⟨G, 1, none⟩ rfl (.int .i64 x)
  h.set G (.inl rfl) k (h.lg.put 1 (by show 1 < 3; decide) _) (h.lc.of_block (k.block C (h.lc.lt (by show 0 < 3; decide)) fun q => h.ne q.symm))
theorem Sw.g2 {W w : World} {B : Nat} {f : FaQ} {G C : Nat} {g1 g2 c1 c2 : Int} (h : Sw W w B f G C g1 g2 c1 c2) (x : Int) : Sw W (w.setCell ⟨G, 2, none⟩ (.int .i64 x)) B f G C g1 x c1 c2 :=
  have k := (Kept.refl (fun k => k = G) w).set ⟨G, 2, none⟩ rfl (.int .i64 x)
  h.set G (.inl rfl) k (h.lg.put 2 (by show 2 < 3; decide) _) (h.lc.of_block (k.block C (h.lc.lt (by show 0 < 3; decide)) fun q => h.ne q.symm))
theorem Sw.c1 {W w : World} {B : Nat} {f : FaQ} {G C : Nat} {g1 g2 c1 c2 : Int} (h : Sw W w B f G C g1 g2 c1 c2) (x : Int) : Sw W (w.setCell ⟨C, 1, none⟩ (.int .i64 x)) B f G C g1 g2 x c2 :=
  have k := (Kept.refl (fun k => k = C) w).set ⟨C, 1, none⟩ rfl (.int .i64 x)
  h.set C (.inr rfl) k (h.lg.of_block (k.block G (h.lg.lt (by show 0 < 3; decide)) fun q => h.ne q)) (h.lc.put 1 (by show 1 < 3; decide) _)
theorem Sw.c2 {W w : World} {B : Nat} {f : FaQ} {G C : Nat} {g1 g2 c1 c2 : Int} (h : Sw W w B f G C g1 g2 c1 c2) (x : Int) : Sw W (w.setCell ⟨C, 2, none⟩ (.int .i64 x)) B f G C g1 g2 c1 x :=
  have k := (Kept.refl (fun k => k = C) w).set ⟨C, 2, none⟩ rfl (.int .i64 x)
  h.set C (.inr rfl) k (h.lg.of_block (k.block G (h.lg.lt (by show 0 < 3; decide)) fun q => h.ne q)) (h.lc.put 2 (by show 2 < 3; decide) _)
end Go.Proofs.Ytiamlldooihkdaa
