/-
  Sets of the program's, and beside them one of the document's: what each call leaves of them. They lean on the contracts of the calls. No condition.
-/
import Derived.Test.YtlbhlmccjieieaaAkOwn
import Derived.Test.YtlbhlmccjieieaaAkChk
import Derived.Test.YtlbhlmccjieieaaAkHas
namespace Go.Proofs.Ytlbhlmccjieieaa
set_option maxRecDepth 100000
open Go.RowKit Go.Sort

/-- A number that an int64 may be. -/
def I64 (n : Int) : Prop := -9223372036854775808 ≤ n ∧ n ≤ 9223372036854775807
/-- One set, made after the world w0, in the blocks F. -/
structure PInv (w0 w : World) (B : Nat) (F : Nat → Prop) (l : List Rg) : Prop where
  set : PS w B F l
  ok : Ok l
  ge : ∀ k, F k → w0.heap.size ≤ k
  bel : Below w0.heap.size w0 w
theorem PInv.keep {w0 w w' : World} {B : Nat} {F : Nat → Prop} {l : List Rg} (h : PInv w0 w B F l) (b : Below w.heap.size w w') : PInv w0 w' B F l :=
  ⟨h.set.keep fun k hk => b.block k (h.set.lt k hk), h.ok, h.ge, h.bel.trans (b.mono h.bel.size)⟩
theorem PInv.keepK {w0 w w' : World} {B : Nat} {F G : Nat → Prop} {l : List Rg} (h : PInv w0 w B F l) (b : Kept G w w') (d : ∀ k, F k → ¬ G k) (g : ∀ k, G k → w0.heap.size ≤ k) : PInv w0 w' B F l :=
  ⟨h.set.keep fun k hk => b.block k (h.set.lt k hk) (d k hk), h.ok, h.ge, h.bel.trans (b.below h.bel.size g)⟩
theorem pinv_new (w0 w : World) (b : Below w0.heap.size w0 w) :
    Calls Try.prog 8 #[] w fun e w' => ∃ B F, e = .returned (.pointer (some ⟨B, 0, none⟩)) ∧ PInv w0 w' B F [] ∧ (∀ k, F k → w.heap.size ≤ k) ∧ Below w.heap.size w w' := by
  refine (pnew_ok w).mono ?_
  rintro e w' ⟨B, F, rfl, h, g, b'⟩
  exact ⟨B, F, rfl, ⟨h, Ok.nil, fun k hk => Nat.le_trans b.size (g k hk), b.trans (b'.mono b.size)⟩, g, b'⟩
theorem pinv_add {w0 w : World} {B : Nat} {F : Nat → Prop} {l : List Rg} {lo hi : Int} (h : PInv w0 w B F l) (b1 : I64 lo) (b2 : I64 hi) :
    Calls Try.prog 11 #[.pointer (some ⟨B, 0, none⟩), .int .i64 lo, .int .i64 hi] w fun e w' => e = .returned (.int .i64 (addE lo hi)) ∧ ∃ F', PInv w0 w' B F' (addS l lo hi) ∧ (∀ k, F' k → F k ∨ w.heap.size ≤ k) ∧ Kept F w w' := by
  refine (padd_ok B F l lo hi w h.set h.ok b1 b2).mono ?_
  rintro e w' ⟨rfl, F', hs, hg, hk⟩
  refine ⟨rfl, F', ⟨hs, h.ok.add lo hi, fun k hk => ?_, h.bel.trans (hk.below h.bel.size h.ge)⟩, hg, hk⟩
  rcases hg k hk with q | q
  · exact h.ge k q
  · exact Nat.le_trans h.bel.size q
theorem pinv_drop {w0 w : World} {B : Nat} {F : Nat → Prop} {l : List Rg} {b : Int} (h : PInv w0 w B F l) (b1 : I64 b) :
    Calls Try.prog 9 #[.pointer (some ⟨B, 0, none⟩), .int .i64 b] w fun e w' => e = .returned (.tuple #[]) ∧ ∃ F', PInv w0 w' B F' (drp l b) ∧ (∀ k, F' k → F k ∨ w.heap.size ≤ k) ∧ Kept F w w' := by
  refine (pdrop_ok B F l b w h.set h.ok b1).mono ?_
  rintro e w' ⟨rfl, F', hs, hg, hk⟩
  refine ⟨rfl, F', ⟨hs, h.ok.drop b, fun k hk => ?_, h.bel.trans (hk.below h.bel.size h.ge)⟩, hg, hk⟩
  rcases hg k hk with q | q
  · exact h.ge k q
  · exact Nat.le_trans h.bel.size q
theorem pinv_has {w0 w : World} {B : Nat} {F : Nat → Prop} {l : List Rg} {n : Int} (h : PInv w0 w B F l) (b1 : I64 n) :
    Calls Try.prog 15 #[.pointer (some ⟨B, 0, none⟩), .int .i64 n] w fun e w' => e = .returned (.bool (hasR l n)) ∧ Below w.heap.size w w' := phas_ok B F l n w h.set h.ok b1
theorem pinv_ranges {w0 w : World} {B : Nat} {F : Nat → Prop} {l : List Rg} (h : PInv w0 w B F l) :
    Calls Try.prog 13 #[.pointer (some ⟨B, 0, none⟩)] w fun e w' => ∃ v, e = .returned v ∧ Out w' w.heap.size v l ∧ Below w.heap.size w w' := pranges_ok B F l w h.set h.ok
theorem Out.at {w : World} {base : Nat} {v : Value} {l : List Rg} (h : Out w base v l) : RgAt w v l := by
  rcases h with ⟨rfl, a, cap, rfl⟩ | h
  · exact ⟨a, cap, rfl, .inl rfl⟩
  · exact own_rgAt h
theorem Ok.chk_i64 {l : List Rg} (h : Ok l) : ∀ x ∈ l, (-9223372036854775808 ≤ x.1 ∧ x.1 ≤ 9223372036854775807) ∧ (-9223372036854775808 ≤ x.2 ∧ x.2 ≤ 9223372036854775807) := fun x hx => by
  have := h.1.mem x hx
  omega
theorem Ok.chk_ok {l : List Rg} {v : Value} {w : World} (h : Ok l) (hv : RgAt w v l) :
    Calls Try.prog 17 #[v] w fun e w' => e = .returned (.int .i64 0) ∧ Below w.heap.size w w' := by
  have := pchk_ok v l w hv (by have := h.2; omega) h.chk_i64
  rw [h.chk] at this
  exact this
/-- Two sets of the program's. -/
structure Two (w0 w : World) (A : Nat) (F : Nat → Prop) (l : List Rg) (B : Nat) (G : Nat → Prop) (m : List Rg) : Prop where
  a : PInv w0 w A F l
  b : PInv w0 w B G m
  dis : ∀ k, F k → ¬ G k
theorem Two.keep {w0 w w' : World} {A B : Nat} {F G : Nat → Prop} {l m : List Rg} (h : Two w0 w A F l B G m) (b : Below w.heap.size w w') : Two w0 w' A F l B G m := ⟨h.a.keep b, h.b.keep b, h.dis⟩
theorem two_add {w0 w : World} {A B : Nat} {F G : Nat → Prop} {l m : List Rg} {lo hi : Int} (h : Two w0 w A F l B G m) (b1 : I64 lo) (b2 : I64 hi) :
    Calls Try.prog 11 #[.pointer (some ⟨A, 0, none⟩), .int .i64 lo, .int .i64 hi] w fun e w' => e = .returned (.int .i64 (addE lo hi)) ∧ ∃ F', Two w0 w' A F' (addS l lo hi) B G m := by
  refine (pinv_add h.a b1 b2).mono ?_
  rintro e w' ⟨rfl, F', hs, hg, hk⟩
  refine ⟨rfl, F', hs, h.b.keepK hk (fun k q r => h.dis k r q) h.a.ge, fun k hk q => ?_⟩
  rcases hg k hk with r | r
  · exact h.dis k r q
  · have := h.b.set.lt k q
    omega
theorem Two.swap {w0 w : World} {A B : Nat} {F G : Nat → Prop} {l m : List Rg} (h : Two w0 w A F l B G m) : Two w0 w B G m A F l := ⟨h.b, h.a, fun k p q => h.dis k q p⟩
theorem two_new {w0 w : World} {A : Nat} {F : Nat → Prop} {l : List Rg} (h : PInv w0 w A F l) :
    Calls Try.prog 8 #[] w fun e w' => ∃ B G, e = .returned (.pointer (some ⟨B, 0, none⟩)) ∧ Two w0 w' A F l B G [] := by
  refine (pinv_new w0 w h.bel).mono ?_
  rintro e w' ⟨B, G, rfl, hp, hg, b⟩
  exact ⟨B, G, rfl, h.keep b, hp, fun k hk q => by have := h.set.lt k hk; have := hg k q; omega⟩
/-- A set of the program's and one of the document's. -/
structure KInv (w0 w : World) (B : Nat) (F : Nat → Prop) (l : List Rg) (R : Nat) (m : List Rg) : Prop where
  p : PInv w0 w B F l
  okm : Ok m
  geR : w0.heap.size ≤ R
  nR : ¬ F R
  ref : ∃ o, SB w R o m ∧ ∀ k, o = some k → ¬ F k ∧ k ≠ R
theorem KInv.bel {w0 w : World} {B R : Nat} {F : Nat → Prop} {l m : List Rg} (h : KInv w0 w B F l R m) : Below w0.heap.size w0 w := h.p.bel
theorem KInv.keep {w0 w w' : World} {B R : Nat} {F : Nat → Prop} {l m : List Rg} (h : KInv w0 w B F l R m) (b : Below w.heap.size w w') : KInv w0 w' B F l R m := by
  obtain ⟨o, h1, h2⟩ := h.ref
  exact ⟨h.p.keep b, h.okm, h.geR, h.nR, o, h1.keep (b.block R h1.lt.1) (fun k hk => b.block k (h1.lt.2 k hk)), h2⟩
theorem KInv.step {w0 w w' : World} {B R : Nat} {F F' : Nat → Prop} {l l' m : List Rg} (h : KInv w0 w B F l R m) (hp : PInv w0 w' B F' l') (hg : ∀ k, F' k → F k ∨ w.heap.size ≤ k) (hk : Kept F w w') : KInv w0 w' B F' l' R m := by
  obtain ⟨o, h1, h2⟩ := h.ref
  have hl := h1.lt
  refine ⟨hp, h.okm, h.geR, fun q => ?_, o, h1.keep (hk.block R hl.1 h.nR) (fun k hk' => hk.block k (hl.2 k hk') (h2 k hk').1), fun k q => ⟨fun r => ?_, (h2 k q).2⟩⟩
  · rcases hg R q with r | r
    · exact h.nR r
    · omega
  · rcases hg k r with r | r
    · exact (h2 k q).1 r
    · have := hl.2 k q
      omega
theorem kinv_add {w0 w : World} {B R : Nat} {F : Nat → Prop} {l m : List Rg} {lo hi : Int} (h : KInv w0 w B F l R m) (b1 : I64 lo) (b2 : I64 hi) :
    Calls Try.prog 11 #[.pointer (some ⟨B, 0, none⟩), .int .i64 lo, .int .i64 hi] w fun e w' => e = .returned (.int .i64 (addE lo hi)) ∧ ∃ F', KInv w0 w' B F' (addS l lo hi) R m := by
  refine (pinv_add h.p b1 b2).mono ?_
  rintro e w' ⟨rfl, F', hs, hg, hk⟩
  exact ⟨rfl, F', h.step hs hg hk⟩
theorem kinv_drop {w0 w : World} {B R : Nat} {F : Nat → Prop} {l m : List Rg} {b : Int} (h : KInv w0 w B F l R m) (b1 : I64 b) :
    Calls Try.prog 9 #[.pointer (some ⟨B, 0, none⟩), .int .i64 b] w fun e w' => e = .returned (.tuple #[]) ∧ ∃ F', KInv w0 w' B F' (drp l b) R m := by
  refine (pinv_drop h.p b1).mono ?_
  rintro e w' ⟨rfl, F', hs, hg, hk⟩
  exact ⟨rfl, F', h.step hs hg hk⟩
theorem KInv.rstep {w0 w w' : World} {B R : Nat} {F : Nat → Prop} {l m m' : List Rg} (h : KInv w0 w B F l R m) (hn : SN w w' R m') (ok : Ok m') (hk : Kept (fun k => k = R) w w') : KInv w0 w' B F l R m' := by
  obtain ⟨o, h1, h2⟩ := hn
  have hR : R < w.heap.size := by
    obtain ⟨o', h', _⟩ := h.ref
    exact h'.lt.1
  exact ⟨h.p.keepK hk (fun k q r => h.nR (r ▸ q)) (fun k q => q ▸ h.geR), ok, h.geR, h.nR, o, h1, fun k q => ⟨fun r => by have := h2 k q; have := h.p.set.lt k r; omega, fun e => by have := h2 k q; omega⟩⟩
theorem kinv_radd {w0 w : World} {B R : Nat} {F : Nat → Prop} {l m : List Rg} (lo hi : Int) (h : KInv w0 w B F l R m) :
    Calls Try.prog 12 #[.pointer (some ⟨R, 0, none⟩), .int .i64 lo, .int .i64 hi] w fun e w' => e = .returned (.int .i64 (addE lo hi)) ∧ KInv w0 w' B F l R (addS m lo hi) := by
  obtain ⟨o, h1, h2⟩ := h.ref
  refine (radd_b R o m lo hi w h1 h.okm.1 h.okm.2).mono ?_
  rintro e w' ⟨rfl, hs, hk⟩
  refine ⟨rfl, ?_⟩
  rcases hs with ⟨rfl, e⟩ | hs
  · rw [e]; exact h
  · exact h.rstep hs (h.okm.add lo hi) hk
theorem kinv_rdrop {w0 w : World} {B R : Nat} {F : Nat → Prop} {l m : List Rg} (b : Int) (h : KInv w0 w B F l R m) :
    Calls Try.prog 10 #[.pointer (some ⟨R, 0, none⟩), .int .i64 b] w fun e w' => e = .returned (.tuple #[]) ∧ KInv w0 w' B F l R (drp m b) := by
  obtain ⟨o, h1, h2⟩ := h.ref
  refine (rdrop_b R o m b w h1 (by have := h.okm.2; omega)).mono ?_
  rintro e w' ⟨rfl, hs, hk⟩
  exact ⟨rfl, h.rstep hs (h.okm.drop b) hk⟩
theorem kinv_rhas {w0 w : World} {B R : Nat} {F : Nat → Prop} {l m : List Rg} (n : Int) (h : KInv w0 w B F l R m) :
    Calls Try.prog 16 #[.pointer (some ⟨R, 0, none⟩), .int .i64 n] w fun e w' => e = .returned (.bool (hasR m n)) ∧ Below w.heap.size w w' := by
  obtain ⟨o, ⟨sv, h1, h2, _⟩, _⟩ := h.ref
  refine (rhas_b R sv m n w h1 (own_rgAt h2) (by have := h.okm.2; omega)).mono ?_
  rintro e w' ⟨rfl, rfl⟩
  exact ⟨rfl, Below.refl _ _⟩
theorem KInv.cell {w0 w : World} {B R : Nat} {F : Nat → Prop} {l m : List Rg} (h : KInv w0 w B F l R m) : ∃ sv, w.cell? ⟨R, 0, none⟩ = some sv ∧ RgAt w sv m := by
  obtain ⟨o, ⟨sv, h1, h2, _⟩, _⟩ := h.ref
  exact ⟨sv, h1.cell 0 rfl, own_rgAt h2⟩
theorem kinv_new {w0 w : World} {B : Nat} {F : Nat → Prop} (h : PInv w0 w B F []) (t : TypeId) : KInv w0 (w.alloc (.cells #[.slice none 0 0] t)) B F [] w.heap.size [] :=
  ⟨h.keep ((Below.refl _ _).alloc (Nat.le_refl _) _), Ok.nil, h.bel.size, fun q => by have := h.set.lt _ q; omega, none, ⟨.slice none 0 0, Lies.new w [.slice none 0 0] t, World.ownsRow_nil _ _ _ _, rfl⟩, fun k hk => by cases hk⟩
end Go.Proofs.Ytlbhlmccjieieaa
