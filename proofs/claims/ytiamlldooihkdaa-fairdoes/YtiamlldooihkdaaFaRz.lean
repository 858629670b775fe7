/-
  The document's own queues in memory: the round's row of queues, each queue's list in blocks of its own; rows that are made anew out of an empty one, the old one and one more, in whatever order they are laid down. No condition but how many there are.
-/
import Derived.Test.YtiamlldooihkdaaFaRep
import Derived.Test.YtiamlldooihkdaaFaTells
import Derived.Test.YtiamlldooihkdaaObDraw
import Derived.Tactics
import Derived.Tactics2
import Derived.RegionTactic
import Derived.BigQuiet
import Derived.Deep.Cut
namespace Go.Proofs.Ytiamlldooihkdaa
set_option maxRecDepth 100000
open Go.RowKit

abbrev QX := FaE × Option Addr × Nat
abbrev lsV (x : QX) : Value := .slice x.2.1 x.1.l.length x.2.2
def KQ : RowK QX := ⟨51, 58, 3, 40, fun x => [.int .i64 x.1.id, lsV x, .int .i64 x.1.d], (fe0, none, 0)⟩
theorem kq_ok : KQ.Ok := ⟨Try.underlying51, info_of (z := .agg #[.int .i64 0, .slice none 0 0, .int .i64 0]) (by kernel_rfl) rfl, by decide, fun _ => rfl, fun x u hu => by
  simp [KQ] at hu
  rcases hu with rfl | rfl | rfl <;> rfl⟩
structure RfX (w : World) (R : Nat) (f : FaQ) (ws : List QX) (lv : Value) : Prop where
  h : Lies w R [.int .i64 f.lim, .int .i64 f.qu, lv, .bool f.sv]
  r : RowZ KQ w lv ws
  e : ws.map Prod.fst = f.r
  s : ∀ x ∈ ws, RowZ KS w (lsV x) x.1.l
  n1 : ∀ x ∈ ws, ∀ k, (lsV x).ownBlock = some k → k ≠ R ∧ lv.ownBlock ≠ some k
  n2 : lv.ownBlock ≠ some R
/-- The document's queues are f; their blocks are among those of F. -/
def RF (w : World) (R : Nat) (F : Nat → Prop) (f : FaQ) : Prop := (∀ k, F k → k < w.heap.size) ∧ F R ∧ f.Ok ∧ ∃ ws lv, RfX w R f ws lv ∧ (∀ k, lv.ownBlock = some k → F k) ∧ ∀ x ∈ ws, ∀ k, (lsV x).ownBlock = some k → F k
def more (F : Nat → Prop) (w w' : World) : Nat → Prop := fun k => F k ∨ (w.heap.size ≤ k ∧ k < w'.heap.size)
theorem RfX.keep {w w' : World} {R : Nat} {f : FaQ} {ws : List QX} {lv : Value} (h : RfX w R f ws lv) (b : ∀ k, (k = R ∨ lv.ownBlock = some k ∨ ∃ x ∈ ws, (lsV x).ownBlock = some k) → w'.heap[k]? = w.heap[k]?) : RfX w' R f ws lv :=
  ⟨h.h.of_block (b R (.inl rfl)), h.r.of fun k hk => b k (.inr (.inl hk)), h.e, fun x hx => (h.s x hx).of fun k hk => b k (.inr (.inr ⟨x, hx, hk⟩)), h.n1, h.n2⟩
theorem RfX.below {w w' : World} {R : Nat} {f : FaQ} {ws : List QX} {lv : Value} (h : RfX w R f ws lv) (b : Below w.heap.size w w') : RfX w' R f ws lv :=
  h.keep fun k hk => b.block k (by
    rcases hk with rfl | q | ⟨x, hx, q⟩
    · exact h.h.lt (Nat.zero_lt_succ _)
    · exact h.r.lt k q
    · exact (h.s x hx).lt k q)
theorem RF.keep {w w' : World} {R : Nat} {F : Nat → Prop} {f : FaQ} (h : RF w R F f) (b : ∀ k, F k → w'.heap[k]? = w.heap[k]?) (hs : w.heap.size ≤ w'.heap.size) : RF w' R F f := by
  obtain ⟨hl, hR, ok, ws, lv, h, o1, o2⟩ := h
  refine ⟨fun k hk => Nat.lt_of_lt_of_le (hl k hk) hs, hR, ok, ws, lv, h.keep fun k hk => b k ?_, o1, o2⟩
  rcases hk with rfl | q | ⟨x, hx, q⟩
  · exact hR
  · exact o1 k q
  · exact o2 x hx k q
theorem RF.ok {w : World} {R : Nat} {F : Nat → Prop} {f : FaQ} (h : RF w R F f) : f.Ok := h.2.2.1
/-- What a call leaves. -/
theorem RF.done {w w' : World} {R : Nat} {F : Nat → Prop} {f' : FaQ} (hl : ∀ k, F k → k < w.heap.size) (hR : F R) (ok : f'.Ok) (hs : w.heap.size ≤ w'.heap.size) {ws : List QX} {lv : Value} (h : RfX w' R f' ws lv) (o1 : ∀ k, lv.ownBlock = some k → F k ∨ w.heap.size ≤ k) (o2 : ∀ x ∈ ws, ∀ k, (lsV x).ownBlock = some k → F k ∨ w.heap.size ≤ k) : RF w' R (more F w w') f' := by
  refine ⟨fun k hk => ?_, .inl hR, ok, ws, lv, h, fun k hk => ?_, fun x hx k hk => ?_⟩
  · rcases hk with q | q
    · have := hl k q; omega
    · exact q.2
  · rcases o1 k hk with q | q
    · exact .inl q
    · exact .inr ⟨q, h.r.lt k hk⟩
  · rcases o2 x hx k hk with q | q
    · exact .inl q
    · exact .inr ⟨q, (h.s x hx).lt k hk⟩
section
variable {X : Type} {K : RowK X}
theorem grown_below {w w' : World} {r : Option Nat} {n : Nat} (hn : n ≤ w.heap.size) (g : w.grownBy w' r) (hr : ∀ k, r = some k → n ≤ k) : Below n w w' :=
  ⟨g.os, g.tape, g.output, g.size, fun k hk => g.block k (by omega) fun q => by have := hr k q.symm; omega⟩
/-- The empty row, then the old one behind it, then one more: each made anew. -/
theorem two_app (hK : K.Ok) {w : World} {n : Nat} {ve v vl : Value} {l : List X} {x : X} (hn : n ≤ w.heap.size) (he : RowZ K w ve []) (oe : ∀ k, ve.ownBlock = some k → n ≤ k) (h : RowZ K w v l) (hl : RowZ K w vl [x]) (ol : ∀ k, vl.ownBlock = some k → n ≤ k ∧ ve.ownBlock ≠ some k) (ty : TypeId) (hk : (l.length + 1) * K.bytes ≤ 140737488355328) (hk2 : l.length + 1 ≤ maxLen) :
    ∃ v1 w1, (∀ z, (builtin .append #[K.st, K.st] ty z #[ve, v]).run Try.prog w = .ok (.value v1) w1) ∧ Below n w w1 ∧ ∃ v2 w2, (∀ z, (builtin .append #[K.st, K.st] ty z #[v1, vl]).run Try.prog w1 = .ok (.value v2) w2) ∧ Below n w w2 ∧ RowZ K w2 v2 (l ++ [x]) ∧ ∀ k, v2.ownBlock = some k → n ≤ k := by
  have hb1 : l.length * K.bytes ≤ (l.length + 1) * K.bytes := Nat.mul_le_mul_right _ (Nat.le_succ _)
  obtain ⟨v1, w1, r1, z1, g1, o1⟩ := he.app hK ty v l (h.src hK) (by simp only [List.length_nil, Nat.zero_add]; omega) (by simp only [List.length_nil, Nat.zero_add]; omega)
  rw [List.nil_append] at z1
  have b1 : Below n w w1 := grown_below hn g1 oe
  have hl1 : RowZ K w1 vl [x] := hl.of fun k hk => g1.block k (hl.lt k hk) fun q => (ol k hk).2 q.symm
  have on1 : ∀ k, v1.ownBlock = some k → n ≤ k := fun k hk => by
    rcases o1 with q | q
    · exact oe k (q ▸ hk)
    · rw [q] at hk
      injection hk with hk
      omega
  obtain ⟨v2, w2, r2, z2, g2, o2⟩ := z1.app hK ty vl [x] (hl1.src hK) hk hk2
  have b2 : Below n w1 w2 := grown_below (Nat.le_trans hn b1.size) g2 on1
  refine ⟨v1, w1, r1, b1, v2, w2, r2, b1.trans b2, z2, fun k hk => ?_⟩
  rcases o2 with q | q
  · exact on1 k (q ▸ hk)
  · rw [q] at hk
    injection hk with hk
    have := b1.size
    omega
theorem RowZ.none_lit (hK : K.Ok) (w : World) : RowZ K (w.alloc (.cells #[] K.e)) (.slice (some ⟨w.heap.size, 0, none⟩) 0 0) [] := RowZ.lit hK w [] (Nat.zero_le _)
theorem RowZ.one_lit (hK : K.Ok) (w : World) (x : X) : RowZ K (w.alloc (.cells (K.cells x).toArray K.e)) (.slice (some ⟨w.heap.size, 0, none⟩) 1 1) [x] := by
  have := RowZ.lit hK w [x] (by show 1 ≤ maxLen; unfold maxLen; decide)
  rw [show ([x].flatMap K.cells) = K.cells x by simp] at this
  exact this
theorem al_b (w : World) (o : Obj) : Below w.heap.size w (w.alloc o) := (Below.refl _ _).alloc (Nat.le_refl _) _
theorem al_s (w : World) (o : Obj) : (w.alloc o).heap.size = w.heap.size + 1 := by simp
theorem own_lit {g o n c k : Nat} (h : (Value.slice (some ⟨g, o, none⟩) n c).ownBlock = some k) : g = k := Option.some.inj h
/-- .. in each of the three orders in which the two rows and the first append may come. -/
theorem ordA (hK : K.Ok) {w : World} {v : Value} {l : List X} (h : RowZ K w v l) (x : X) (ty : TypeId) (hk : (l.length + 1) * K.bytes ≤ 140737488355328) (hk2 : l.length + 1 ≤ maxLen) :
    ∃ v1 w1, (∀ z, (builtin .append #[K.st, K.st] ty z #[.slice (some ⟨w.heap.size, 0, none⟩) 0 0, v]).run Try.prog (w.alloc (.cells #[] K.e)) = .ok (.value v1) w1) ∧ Below w.heap.size w w1 ∧ ∃ v2 w2, (∀ z, (builtin .append #[K.st, K.st] ty z #[v1, .slice (some ⟨w1.heap.size, 0, none⟩) 1 1]).run Try.prog (w1.alloc (.cells (K.cells x).toArray K.e)) = .ok (.value v2) w2) ∧ Below w.heap.size w w2 ∧ RowZ K w2 v2 (l ++ [x]) ∧ ∀ k, v2.ownBlock = some k → w.heap.size ≤ k := by
  have b0 := al_b w (.cells #[] K.e)
  have hb1 : l.length * K.bytes ≤ (l.length + 1) * K.bytes := Nat.mul_le_mul_right _ (Nat.le_succ _)
  have oe : ∀ k, (Value.slice (some ⟨w.heap.size, 0, none⟩) 0 0).ownBlock = some k → w.heap.size ≤ k := fun k hk => by have := own_lit hk; omega
  obtain ⟨v1, w1, r1, z1, g1, o1⟩ := (RowZ.none_lit hK w).app hK ty v l ((h.keep b0).src hK) (by simp only [List.length_nil, Nat.zero_add]; omega) (by simp only [List.length_nil, Nat.zero_add]; omega)
  rw [List.nil_append] at z1
  have b1 : Below w.heap.size w w1 := b0.trans (grown_below b0.size g1 oe)
  have on1 : ∀ k, v1.ownBlock = some k → w.heap.size ≤ k := fun k hk => by
    rcases o1 with q | q
    · exact oe k (q ▸ hk)
    · rw [q] at hk
      injection hk with hk
      have := b0.size
      omega
  obtain ⟨a, n, c, w2, r2, z2, -, o2, k2⟩ := z1.snoc hK x K.e ty hk hk2
  refine ⟨v1, w1, r1, b1, _, w2, r2, b1.trans (k2.below b1.size on1), z2, fun k hk => ?_⟩
  rcases o2 k hk with q | q
  · exact on1 k q
  · exact Nat.le_trans b1.size q
theorem ordB (hK : K.Ok) {w : World} {v : Value} {l : List X} (h : RowZ K w v l) (x : X) (ty : TypeId) (hk : (l.length + 1) * K.bytes ≤ 140737488355328) (hk2 : l.length + 1 ≤ maxLen) :
    ∃ v1 w1, (∀ z, (builtin .append #[K.st, K.st] ty z #[.slice (some ⟨w.heap.size, 0, none⟩) 0 0, v]).run Try.prog ((w.alloc (.cells #[] K.e)).alloc (.cells (K.cells x).toArray K.e)) = .ok (.value v1) w1) ∧ Below w.heap.size w w1 ∧ ∃ v2 w2, (∀ z, (builtin .append #[K.st, K.st] ty z #[v1, .slice (some ⟨w.heap.size + 1, 0, none⟩) 1 1]).run Try.prog w1 = .ok (.value v2) w2) ∧ Below w.heap.size w w2 ∧ RowZ K w2 v2 (l ++ [x]) ∧ ∀ k, v2.ownBlock = some k → w.heap.size ≤ k := by
  have b0 := al_b w (.cells #[] K.e)
  have b1 := al_b (w.alloc (.cells #[] K.e)) (.cells (K.cells x).toArray K.e)
  have s0 := al_s w (.cells #[] K.e)
  have b2 := b0.trans (b1.mono b0.size)
  have hl := RowZ.one_lit hK (w.alloc (.cells #[] K.e)) x
  rw [s0] at hl
  obtain ⟨v1, w1, r1, c1, v2, w2, r2, c2, z, o⟩ := two_app hK (n := w.heap.size) b2.size ((RowZ.none_lit hK w).keep b1) (fun k hk => by have := own_lit hk; omega) (h.keep b2) hl (fun k hk => by
    have := own_lit hk
    subst this
    exact ⟨Nat.le_succ _, fun q => by have := own_lit q; omega⟩) ty hk hk2
  exact ⟨v1, w1, r1, b2.trans c1, v2, w2, r2, b2.trans c2, z, o⟩
theorem ordC (hK : K.Ok) {w : World} {v : Value} {l : List X} (h : RowZ K w v l) (x : X) (ty : TypeId) (hk : (l.length + 1) * K.bytes ≤ 140737488355328) (hk2 : l.length + 1 ≤ maxLen) :
    ∃ v1 w1, (∀ z, (builtin .append #[K.st, K.st] ty z #[.slice (some ⟨w.heap.size + 1, 0, none⟩) 0 0, v]).run Try.prog ((w.alloc (.cells (K.cells x).toArray K.e)).alloc (.cells #[] K.e)) = .ok (.value v1) w1) ∧ Below w.heap.size w w1 ∧ ∃ v2 w2, (∀ z, (builtin .append #[K.st, K.st] ty z #[v1, .slice (some ⟨w.heap.size, 0, none⟩) 1 1]).run Try.prog w1 = .ok (.value v2) w2) ∧ Below w.heap.size w w2 ∧ RowZ K w2 v2 (l ++ [x]) ∧ ∀ k, v2.ownBlock = some k → w.heap.size ≤ k := by
  have b0 := al_b w (.cells (K.cells x).toArray K.e)
  have b1 := al_b (w.alloc (.cells (K.cells x).toArray K.e)) (.cells #[] K.e)
  have s0 := al_s w (.cells (K.cells x).toArray K.e)
  have b2 := b0.trans (b1.mono b0.size)
  have he := RowZ.none_lit hK (w.alloc (.cells (K.cells x).toArray K.e))
  rw [s0] at he
  obtain ⟨v1, w1, r1, c1, v2, w2, r2, c2, z, o⟩ := two_app hK (n := w.heap.size) b2.size he (fun k hk => by have := own_lit hk; omega) (h.keep b2) ((RowZ.one_lit hK w x).keep b1) (fun k hk => by
    have := own_lit hk
    subst this
    exact ⟨Nat.le_refl _, fun q => by have := own_lit q; omega⟩) ty hk hk2
  exact ⟨v1, w1, r1, b2.trans c1, v2, w2, r2, b2.trans c2, z, o⟩
end
end Go.Proofs.Ytiamlldooihkdaa
