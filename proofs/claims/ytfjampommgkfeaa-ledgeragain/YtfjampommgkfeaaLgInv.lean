/-
  The program's ledger, and beside it the document's own: what each call leaves of them. They lean on what is asked of the program's calls (Face), which is handed in. No other condition.
-/
import Derived.Test.YtfjampommgkfeaaLgFace
namespace Go.Proofs.Ytfjampommgkfeaa
set_option maxRecDepth 100000
open Go.RowKit Go.Sort

/-- A ledger in memory, by whatever relation. -/
abbrev LSt := World → Nat → (Nat → Prop) → Ld → Prop
/-- One ledger, made after the world w0, in the blocks F. -/
structure PL (LS : LSt) (w0 w : World) (B : Nat) (F : Nat → Prop) (d : Ld) : Prop where
  s : LS w B F d
  ok : Lw d
  ge : ∀ k, F k → w0.heap.size ≤ k
  bel : Below w0.heap.size w0 w
section
variable {LS : LSt}
theorem PL.keep (fc : Face LS) {w0 w w' : World} {B : Nat} {F : Nat → Prop} {d : Ld} (h : PL LS w0 w B F d) (b : Below w.heap.size w w') : PL LS w0 w' B F d :=
  ⟨fc.keep h.s fun k hk => b.block k (fc.lt h.s k hk), h.ok, h.ge, h.bel.trans (b.mono h.bel.size)⟩
theorem PL.keepK (fc : Face LS) {w0 w w' : World} {B : Nat} {F G : Nat → Prop} {d : Ld} (h : PL LS w0 w B F d) (b : Kept G w w') (q : ∀ k, F k → ¬ G k) (g : ∀ k, G k → w0.heap.size ≤ k) : PL LS w0 w' B F d :=
  ⟨fc.keep h.s fun k hk => b.block k (fc.lt h.s k hk) (q k hk), h.ok, h.ge, h.bel.trans (b.below h.bel.size g)⟩
theorem PL.step {w0 w w' : World} {B : Nat} {F F' : Nat → Prop} {d d' : Ld} (h : PL LS w0 w B F d) (hs : LS w' B F' d') (ok : Lw d') (hg : ∀ k, F' k → F k ∨ w.heap.size ≤ k) (hk : Kept F w w') : PL LS w0 w' B F' d' :=
  ⟨hs, ok, fun k q => (hg k q).elim (h.ge k) fun r => Nat.le_trans h.bel.size r, h.bel.trans (hk.below h.bel.size h.ge)⟩
theorem pl_new (fc : Face LS) (w0 w : World) (b : Below w0.heap.size w0 w) :
    Calls Try.prog 8 #[] w fun e w' => ∃ B F, e = .returned (ptr B) ∧ PL LS w0 w' B F ld0 ∧ (∀ k, F k → w.heap.size ≤ k) := by
  refine (fc.new w).mono ?_
  rintro e w' ⟨B, F, rfl, h, g, b'⟩
  exact ⟨B, F, rfl, ⟨h, Lw.new, fun k hk => Nat.le_trans b.size (g k hk), b.trans (b'.mono b.size)⟩, g⟩
theorem pl_sent (fc : Face LS) {w0 w : World} {B : Nat} {F : Nat → Prop} {d : Ld} (n now size : Int) (h : PL LS w0 w B F d) (hl : d.l.length < 1000000) (h1 : In64 n) (h2 : In64 now) (h3 : In64 size) :
    Calls Try.prog 10 #[ptr B, .int .i64 n, .int .i64 now, .int .i64 size] w fun e w' => e = .returned (.int .i64 (sentE d n size)) ∧ ∃ F', PL LS w0 w' B F' (sent d n now size) ∧ (∀ k, F' k → F k ∨ w.heap.size ≤ k) ∧ Kept F w w' := by
  refine (fc.sent w B F d n now size h.s h.ok h1 h2 h3).mono ?_
  rintro e w' ⟨rfl, F', hs, hg, hk⟩
  exact ⟨rfl, F', h.step hs (h.ok.sent n now size h2 (by omega)) hg hk, hg, hk⟩
theorem pl_acked (fc : Face LS) {w0 w : World} {B : Nat} {F : Nat → Prop} {d : Ld} (r : List Rg) (rv : Value) (h : PL LS w0 w B F d) (hr : RgAt w rv r) (hl : r.length * 16 ≤ 140737488351232) (hz : ∀ x ∈ r, In64 x.1 ∧ In64 x.2) (hF : r ≠ [] → ∀ p cap, rv = .slice (some p) r.length cap → ¬ F p.block) :
    Calls Try.prog 12 #[ptr B, rv] w fun e w' => ∃ u v, e = .returned (.tuple #[u, v, .int .i64 (ackE d r)]) ∧ ∃ F', N64 w' (Free w F') u (toldN d r) ∧ N64 w' (Free w F') v (lostN d r) ∧ PL LS w0 w' B F' (acked d r) ∧ (∀ k, F' k → F k ∨ w.heap.size ≤ k) ∧ Kept F w w' := by
  refine (fc.acked w B F d r rv h.s h.ok hr hl hz hF).mono ?_
  rintro e w' ⟨u, v, rfl, F', hu, hv, hs, hg, hk⟩
  exact ⟨u, v, rfl, F', hu, hv, h.step hs (h.ok.acked r) hg hk, hg, hk⟩
theorem pl_expire (fc : Face LS) {w0 w : World} {B : Nat} {F : Nat → Prop} {d : Ld} (now : Int) (h : PL LS w0 w B F d) (h2 : In64 now) :
    Calls Try.prog 15 #[ptr B, .int .i64 now] w fun e w' => ∃ v, e = .returned v ∧ ∃ F', N64 w' (Free w F') v (expL d now) ∧ PL LS w0 w' B F' (expire d now) ∧ (∀ k, F' k → F k ∨ w.heap.size ≤ k) ∧ Kept F w w' := by
  refine (fc.expire w B F d now h.s h.ok h2).mono ?_
  rintro e w' ⟨v, rfl, F', hv, hs, hg, hk⟩
  exact ⟨v, rfl, F', hv, h.step hs (h.ok.expire now) hg hk, hg, hk⟩
theorem pl_flight (fc : Face LS) {w0 w : World} {B : Nat} {F : Nat → Prop} {d : Ld} (h : PL LS w0 w B F d) :
    Calls Try.prog 17 #[ptr B] w fun e w' => e = .returned (.tuple #[.int .i64 d.l.length, .int .i64 (bytesP d.l)]) ∧ Below w.heap.size w w' := fc.flight w B F d h.s h.ok
theorem pl_window (fc : Face LS) {w0 w : World} {B : Nat} {F : Nat → Prop} {d : Ld} (h : PL LS w0 w B F d) :
    Calls Try.prog 19 #[ptr B] w fun e w' => e = .returned (.int .i64 d.win) ∧ Below w.heap.size w w' := fc.window w B F d h.s h.ok
theorem pl_wait (fc : Face LS) {w0 w : World} {B : Nat} {F : Nat → Prop} {d : Ld} (h : PL LS w0 w B F d) :
    Calls Try.prog 20 #[ptr B] w fun e w' => e = .returned (.int .i64 (wait d)) ∧ Below w.heap.size w w' := fc.wait w B F d h.s h.ok
end
theorem rg_lt {w : World} {p : Addr} {n cap : Nat} {l : List Rg} (h : RgAt w (.slice (some p) n cap) l) (hn : l ≠ []) : p.block < w.heap.size := by
  obtain ⟨a, c, e, q⟩ := h
  injection e with e1 e2 e3
  rcases q with q | ⟨g, o, rfl, q⟩
  · exact absurd q hn
  · injection e1 with e1
    subst e1
    exact World.block_lt_of_cell? w _ (q 0 (List.length_pos_iff.2 hn)).1
theorem RB.lt {w : World} {R : Nat} {o : Option Nat} {d : Ld} (h : RB w R o d) : R < w.heap.size ∧ ∀ k, o = some k → k < w.heap.size := by
  obtain ⟨sv, h1, h2, rfl⟩ := h
  exact ⟨h1.lt (by show 0 < 6; decide), fun k hk => (h2.lt k hk).2⟩
/-- A ledger of the program's and one of the document's; the blocks X belong to neither. -/
structure KL (LS : LSt) (X : Nat → Prop) (w0 w : World) (B : Nat) (F : Nat → Prop) (d : Ld) (R : Nat) (m : Ld) : Prop where
  p : PL LS w0 w B F d
  okm : Lw m
  geR : w0.heap.size ≤ R
  nR : ¬ F R
  nX : ∀ k, X k → ¬ F k ∧ k ≠ R ∧ k < w.heap.size
  ref : ∃ o, RB w R o m ∧ ∀ k, o = some k → ¬ F k ∧ k ≠ R ∧ w0.heap.size ≤ k ∧ ¬ X k
/-- Blocks that are as before. -/
def Same (X : Nat → Prop) (w w' : World) : Prop := ∀ k, X k → w'.heap[k]? = w.heap[k]?
section
variable {LS : LSt} {X : Nat → Prop}
theorem KL.bel {w0 w : World} {B R : Nat} {F : Nat → Prop} {d m : Ld} (h : KL LS X w0 w B F d R m) : Below w0.heap.size w0 w := h.p.bel
theorem KL.keep (fc : Face LS) {w0 w w' : World} {B R : Nat} {F : Nat → Prop} {d m : Ld} (h : KL LS X w0 w B F d R m) (b : Below w.heap.size w w') : KL LS X w0 w' B F d R m := by
  obtain ⟨o, h1, h2⟩ := h.ref
  exact ⟨h.p.keep fc b, h.okm, h.geR, h.nR, fun k q => ⟨(h.nX k q).1, (h.nX k q).2.1, Nat.lt_of_lt_of_le (h.nX k q).2.2 b.size⟩, o, h1.keep b, h2⟩
theorem KL.drop {w0 w : World} {B R : Nat} {F : Nat → Prop} {d m : Ld} (h : KL LS X w0 w B F d R m) : KL LS (fun _ => False) w0 w B F d R m := by
  obtain ⟨o, h1, h2⟩ := h.ref
  exact ⟨h.p, h.okm, h.geR, h.nR, fun k q => q.elim, o, h1, fun k q => ⟨(h2 k q).1, (h2 k q).2.1, (h2 k q).2.2.1, id⟩⟩
/-- A block that is new belongs to neither. -/
theorem KL.fresh (fc : Face LS) {w0 w w' : World} {B R : Nat} {F : Nat → Prop} {d m : Ld} (h : KL LS X w0 w B F d R m) (b : Below w.heap.size w w') (g : Nat) (hg : w.heap.size ≤ g ∧ g < w'.heap.size) : KL LS (fun k => k = g) w0 w' B F d R m := by
  obtain ⟨o, h1, h2⟩ := h.ref
  have hl := h1.lt
  exact ⟨h.p.keep fc b, h.okm, h.geR, h.nR, fun k q => q ▸ ⟨fun r => by have := fc.lt h.p.s g r; omega, by omega, hg.2⟩, o, h1.keep b, fun k q => ⟨(h2 k q).1, (h2 k q).2.1, (h2 k q).2.2.1, fun r => by have := hl.2 k q; omega⟩⟩
theorem KL.step {w0 w w' : World} {B R : Nat} {F F' : Nat → Prop} {d d' m : Ld} (h : KL LS X w0 w B F d R m) (hp : PL LS w0 w' B F' d') (hg : ∀ k, F' k → F k ∨ w.heap.size ≤ k) (hk : Kept F w w') : KL LS X w0 w' B F' d' R m ∧ Same X w w' := by
  obtain ⟨o, h1, h2⟩ := h.ref
  have hl := h1.lt
  refine ⟨⟨hp, h.okm, h.geR, fun q => ?_, fun k q => ⟨fun r => ?_, (h.nX k q).2.1, Nat.lt_of_lt_of_le (h.nX k q).2.2 hk.size⟩, o, h1.of (hk.block R hl.1 h.nR) (fun k hk' => hk.block k (hl.2 k hk') (h2 k hk').1), fun k q => ⟨fun r => ?_, (h2 k q).2⟩⟩, fun k q => hk.block k (h.nX k q).2.2 (h.nX k q).1⟩
  · rcases hg R q with r | r
    · exact h.nR r
    · omega
  · rcases hg k r with r | r
    · exact (h.nX k q).1 r
    · have := (h.nX k q).2.2
      omega
  · rcases hg k r with r | r
    · exact (h2 k q).1 r
    · have := hl.2 k q
      omega
theorem KL.rstep (fc : Face LS) {w0 w w' : World} {B R : Nat} {F G : Nat → Prop} {d m m' : Ld} {o o' : Option Nat} (h : KL LS X w0 w B F d R m) (h1 : RB w R o m) (h2 : ∀ k, o = some k → ¬ F k ∧ k ≠ R ∧ w0.heap.size ≤ k ∧ ¬ X k) (hn : RB w' R o' m') (ho : ∀ k, o' = some k → o = some k ∨ w.heap.size ≤ k) (ok : Lw m') (hG : ∀ k, G k → k = R ∨ o = some k) (hk : Kept G w w') : KL LS X w0 w' B F d R m' ∧ Same X w w' := by
  have hR := h1.lt
  refine ⟨⟨h.p.keepK fc hk (fun k q r => ?_) (fun k q => ?_), ok, h.geR, h.nR, fun k q => ⟨(h.nX k q).1, (h.nX k q).2.1, Nat.lt_of_lt_of_le (h.nX k q).2.2 hk.size⟩, o', hn, fun k q => ?_⟩, fun k q => hk.block k (h.nX k q).2.2 fun r => ?_⟩
  · rcases hG k r with e | e
    · exact h.nR (e ▸ q)
    · exact (h2 k e).1 q
  · rcases hG k q with e | e
    · exact e ▸ h.geR
    · exact (h2 k e).2.2.1
  · rcases ho k q with e | e
    · exact h2 k e
    · exact ⟨fun r => by have := fc.lt h.p.s k r; omega, by omega, Nat.le_trans h.bel.size e, fun r => by have := (h.nX k r).2.2; omega⟩
  · rcases hG k r with e | e
    · exact (h.nX k q).2.1 e
    · exact (h2 k e).2.2.2 q
theorem kl_new (fc : Face LS) {w0 w : World} {B : Nat} {F : Nat → Prop} {d : Ld} (h : PL LS w0 w B F d) :
    Calls Try.prog 9 #[] w fun e w' => ∃ R, e = .returned (ptr R) ∧ KL LS (fun _ => False) w0 w' B F d R ld0 := by
  refine (rnew_ok w).mono ?_
  rintro e w' ⟨rfl, h1, b, -⟩
  exact ⟨_, rfl, h.keep fc b, Lw.new, h.bel.size, fun q => by have := fc.lt h.s _ q; omega, fun k q => q.elim, none, h1, fun k hk => by cases hk⟩
theorem kl_sent (fc : Face LS) {w0 w : World} {B R : Nat} {F : Nat → Prop} {d m : Ld} (n now size : Int) (h : KL LS X w0 w B F d R m) (hl : d.l.length < 1000000) (h1 : In64 n) (h2 : In64 now) (h3 : In64 size) :
    Calls Try.prog 10 #[ptr B, .int .i64 n, .int .i64 now, .int .i64 size] w fun e w' => e = .returned (.int .i64 (sentE d n size)) ∧ ∃ F', KL LS X w0 w' B F' (sent d n now size) R m ∧ Same X w w' := by
  refine (pl_sent fc n now size h.p hl h1 h2 h3).mono ?_
  rintro e w' ⟨rfl, F', hs, hg, hk⟩
  exact ⟨rfl, F', h.step hs hg hk⟩
theorem kl_rsent (fc : Face LS) {w0 w : World} {B R : Nat} {F : Nat → Prop} {d m : Ld} (n now size : Int) (h : KL LS X w0 w B F d R m) (hl : m.l.length < 1000000) (h2 : In64 now) :
    Calls Try.prog 11 #[ptr R, .int .i64 n, .int .i64 now, .int .i64 size] w fun e w' => e = .returned (.int .i64 (sentE m n size)) ∧ KL LS X w0 w' B F d R (sent m n now size) ∧ Same X w w' := by
  obtain ⟨o, r1, r2⟩ := h.ref
  by_cases he : sentE m n size = 0
  · refine (rsent_yes R o m n now size w r1 (by omega) (fun e => (r2 R e).2.1 rfl) he).mono ?_
    rintro e w' ⟨rfl, o', hs, ho, hk⟩
    exact ⟨by rw [he], h.rstep fc r1 r2 hs ho (h.okm.sent n now size h2 (by omega)) (fun k q => q) hk⟩
  · refine (rsent_no R o m n now size w r1 he).mono ?_
    rintro e w' ⟨rfl, rfl⟩
    have e2 : sentE m n size = 2 := by
      unfold sentE at he ⊢
      split
      · rfl
      · rename_i q; rw [if_neg q] at he; exact absurd rfl he
    have e3 : sent m n now size = m := by unfold sent; rw [if_neg he]
    rw [e2, e3]
    exact ⟨rfl, h, fun _ _ => rfl⟩
theorem kl_acked (fc : Face LS) {w0 w : World} {B R : Nat} {F : Nat → Prop} {d m : Ld} (r : List Rg) (rv : Value) (h : KL LS X w0 w B F d R m) (hr : RgAt w rv r) (hl : r.length * 16 ≤ 140737488351232) (hz : ∀ x ∈ r, In64 x.1 ∧ In64 x.2) (hF : r ≠ [] → ∀ p cap, rv = .slice (some p) r.length cap → ¬ F p.block) :
    Calls Try.prog 12 #[ptr B, rv] w fun e w' => ∃ u v, e = .returned (.tuple #[u, v, .int .i64 (ackE d r)]) ∧ ∃ F', N64 w' (Free w F') u (toldN d r) ∧ N64 w' (Free w F') v (lostN d r) ∧ R < w.heap.size ∧ KL LS X w0 w' B F' (acked d r) R m ∧ Same X w w' := by
  have hR : R < w.heap.size := by
    obtain ⟨o, r1, -⟩ := h.ref
    exact r1.lt.1
  refine (pl_acked fc r rv h.p hr hl hz hF).mono ?_
  rintro e w' ⟨u, v, rfl, F', hu, hv, hs, hg, hk⟩
  exact ⟨u, v, rfl, F', hu, hv, hR, h.step hs hg hk⟩
theorem kl_racked (fc : Face LS) {w0 w : World} {B R : Nat} {F : Nat → Prop} {d m : Ld} (r : List Rg) (rv : Value) (h : KL LS X w0 w B F d R m) (hr : RgAt w rv r) (hl : r.length * 16 ≤ 140737488351232) (hrR : r ≠ [] → ∀ p cap, rv = .slice (some p) r.length cap → p.block ≠ R) :
    Calls Try.prog 13 #[ptr R, rv] w fun e w' => ∃ u v, e = .returned (.tuple #[u, v, .int .i64 (ackE m r)]) ∧ I64At w' u (toldN m r) ∧ I64At w' v (lostN m r) ∧ KL LS X w0 w' B F d R (acked m r) ∧ Same X w w' ∧ Kept (fun k => k = R) w w' := by
  obtain ⟨o, r1, r2⟩ := h.ref
  have hln := h.okm.len
  by_cases he : ackE m r = 0
  · have h16 : r.length ≤ 16 := by
      refine (rgs_in ?_).1
      unfold ackE at he
      split at he
      · omega
      · rename_i q; exact Classical.byContradiction fun c => q (.inl c)
    refine (rack_yes R o m r rv w r1 h.okm.k (fun e => (r2 R e).2.1 rfl) (by omega) hr hrR (by omega) he).mono ?_
    rintro e w' ⟨u, v, o', rfl, hu, hv, hs, ho, hk⟩
    have e1 : toldN m r = nosP (toldP m r) := if_pos he
    have e2 : lostN m r = nosP (lostP m r) := if_pos he
    have e3 : acked m r = ack m r := if_pos he
    have ok := h.okm.acked r
    rw [e1, e2, he]
    rw [e3] at ok ⊢
    obtain ⟨s1, s2⟩ := h.rstep fc r1 r2 hs (fun k q => .inr (ho k q)) ok (fun k q => .inl q) hk
    exact ⟨u, v, rfl, hu, hv, s1, s2, hk⟩
  · refine (rack_no R o m r rv w r1 hr (by omega) he).mono ?_
    rintro e w' ⟨rfl, b⟩
    have e0 : ackE m r = 2 := by
      unfold ackE at he ⊢
      split
      · rfl
      · rename_i q; rw [if_neg q] at he; exact absurd rfl he
    have e1 : toldN m r = [] := if_neg he
    have e2 : lostN m r = [] := if_neg he
    have e3 : acked m r = m := if_neg he
    rw [e0, e1, e2, e3]
    exact ⟨_, _, rfl, ⟨none, 0, rfl, .inl rfl⟩, ⟨none, 0, rfl, .inl rfl⟩, h.keep fc b, fun k q => b.block k (h.nX k q).2.2, Kept.of _ b⟩
theorem kl_expire (fc : Face LS) {w0 w : World} {B R : Nat} {F : Nat → Prop} {d m : Ld} (now : Int) (h : KL LS X w0 w B F d R m) (h2 : In64 now) :
    Calls Try.prog 15 #[ptr B, .int .i64 now] w fun e w' => ∃ v, e = .returned v ∧ ∃ F', N64 w' (Free w F') v (expL d now) ∧ R < w.heap.size ∧ KL LS X w0 w' B F' (expire d now) R m ∧ Same X w w' := by
  have hR : R < w.heap.size := by
    obtain ⟨o, r1, -⟩ := h.ref
    exact r1.lt.1
  refine (pl_expire fc now h.p h2).mono ?_
  rintro e w' ⟨v, rfl, F', hv, hs, hg, hk⟩
  exact ⟨v, rfl, F', hv, hR, h.step hs hg hk⟩
theorem kl_rexpire (fc : Face LS) {w0 w : World} {B R : Nat} {F : Nat → Prop} {d m : Ld} (now : Int) (h : KL LS X w0 w B F d R m) (h2 : In64 now) :
    Calls Try.prog 16 #[ptr R, .int .i64 now] w fun e w' => ∃ v, e = .returned v ∧ I64At w' v (expL m now) ∧ KL LS X w0 w' B F d R (expire m now) ∧ Same X w w' ∧ Kept (fun k => k = R) w w' := by
  obtain ⟨o, r1, r2⟩ := h.ref
  have hln := h.okm.len
  refine (rexp_ok R o m now w r1 h.okm.k (by omega) h2 h.okm.ticks).mono ?_
  rintro e w' ⟨v, o', rfl, hv, hs, ho, hk⟩
  obtain ⟨s1, s2⟩ := h.rstep fc r1 r2 hs (fun k q => ho.elim (fun e => .inl (e ▸ q)) fun e => by rw [e] at q; cases q) (h.okm.expire now) (fun k q => .inl q) hk
  exact ⟨v, rfl, hv, s1, s2, hk⟩
theorem kl_rflight {w0 w : World} {B R : Nat} {F : Nat → Prop} {d m : Ld} (h : KL LS X w0 w B F d R m) :
    Calls Try.prog 18 #[ptr R] w fun e w' => e = .returned (.tuple #[.int .i64 m.l.length, .int .i64 (bytesP m.l)]) ∧ Below w.heap.size w w' := by
  obtain ⟨o, r1, -⟩ := h.ref
  have hln := h.okm.len
  refine (rflight_ok R o m w r1 (by omega) (fun p hp => (h.okm.k.nos p hp).2.2)).mono ?_
  rintro e w' ⟨rfl, rfl⟩
  exact ⟨rfl, Below.refl _ _⟩
theorem kl_rwait {w0 w : World} {B R : Nat} {F : Nat → Prop} {d m : Ld} (h : KL LS X w0 w B F d R m) :
    Calls Try.prog 21 #[ptr R] w fun e w' => e = .returned (.int .i64 (wait m)) ∧ Below w.heap.size w w' := by
  obtain ⟨o, r1, -⟩ := h.ref
  refine (rwait_ok R o m w r1 h.okm.k.bo).mono ?_
  rintro e w' ⟨rfl, rfl⟩
  exact ⟨rfl, Below.refl _ _⟩
theorem KL.win {w0 w : World} {B R : Nat} {F : Nat → Prop} {d m : Ld} (h : KL LS X w0 w B F d R m) : w.cell? ⟨R, 2, none⟩ = some (.int .i64 m.win) := by
  obtain ⟨o, ⟨sv, h1, -, -⟩, -⟩ := h.ref
  exact h1.cell 2 rfl
end
end Go.Proofs.Ytfjampommgkfeaa
