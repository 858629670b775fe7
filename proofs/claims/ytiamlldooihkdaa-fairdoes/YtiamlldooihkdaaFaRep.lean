/-
  The program's own queues in memory: the round's row, the map, each queue in a block of its own; whose each block is. No condition.
-/
import Derived.Test.YtiamlldooihkdaaFaMore
import Derived.Test.YtiamlldooihkdaaObRowZ
import Derived.Test.YtiamlldooihkdaaObMapV
namespace Go.Proofs.Ytiamlldooihkdaa
set_option maxRecDepth 100000
open Go.RowKit

def KI : RowK Int := ⟨48, 2, 1, 8, fun x => [.int .i64 x], 0⟩
theorem ki_ok : KI.Ok := ⟨Try.underlying48, info_of (z := .int .i64 0) (by kernel_rfl) rfl, by decide, fun _ => rfl, fun x u hu => by
  simp [KI] at hu
  subst hu
  rfl⟩
def KS : RowK ByteArray := ⟨39, 9, 1, 16, fun x => [.string x], ByteArray.empty⟩
theorem ks_ok : KS.Ok := ⟨Try.underlying39, info_of (z := .string ByteArray.empty) (by kernel_rfl) rfl, by decide, fun _ => rfl, fun x u hu => by
  simp [KS] at hu
  subst hu
  rfl⟩
def MQ : MapK := ⟨47, 2, 54, .pointer none⟩
theorem mq_ok : MQ.Ok := ⟨Try.underlying47, Try.underlying2, fun w => by kernel_rfl⟩
abbrev ptr (B : Nat) : Value := .pointer (some ⟨B, 0, none⟩)
def In64 (x : Int) : Prop := -9223372036854775808 ≤ x ∧ x ≤ 9223372036854775807
/-- The program's queues, by their parts. -/
structure FaP where
  lim : Int
  qu : Int
  ids : List Int
  tb : Int → Option (List ByteArray × Int)
  sv : Bool
  cnt : Int
  n : Nat
def pgOf (f : FaQ) : FaP := ⟨f.lim, f.qu, f.r.map FaE.id, tblE f.r, f.sv, cntE f.r, f.pz⟩
/-- Whose a block is: 0 the queues', 1 the map's, 2 the round's row's; 3 someone's queue's, 4 its row's. -/
abbrev Tag := Nat → Option (Nat × Int)
/-- Someone's queue, where the map says. -/
def QAt (w : World) (T : Tag) (S : Int → Option Value) (x : Int) : Option (List ByteArray × Int) → Prop
  | none => S x = none
  | some (l, d) => ∃ qb pv, S x = some (ptr qb) ∧ Lies w qb [pv, .int .i64 d] ∧ RowZ KS w pv l ∧ T qb = some (3, x) ∧ ∀ k, pv.ownBlock = some k → T k = some (4, x)
def paC (p : FaP) (rv : Value) (bm : Nat) : List Value := [.int .i64 p.lim, .int .i64 p.qu, rv, .map (some bm), .bool p.sv, .int .i64 p.cnt]
structure PX (w : World) (B : Nat) (T : Tag) (p : FaP) (rv : Value) (bm : Nat) (S : Int → Option Value) : Prop where
  h : Lies w B (paC p rv bm)
  r : RowZ KI w rv p.ids
  m : MapV MQ w bm p.n S
  tB : T B = some (0, 0)
  tm : T bm = some (1, 0)
  tr : ∀ k, rv.ownBlock = some k → T k = some (2, 0)
  q : ∀ x, QAt w T S x (p.tb x)
  lt : ∀ k, T k ≠ none → k < w.heap.size
def PG (w : World) (B : Nat) (T : Tag) (p : FaP) : Prop := ∃ rv bm S, PX w B T p rv bm S
/-- Old blocks are whose they were. -/
def ExtT (T T' : Tag) (n : Nat) : Prop := ∀ k, k < n → T' k = T k
theorem ExtT.refl (T : Tag) (n : Nat) : ExtT T T n := fun _ _ => rfl
theorem ExtT.trans {T T' T'' : Tag} {n m : Nat} (h : ExtT T T' n) (g : ExtT T' T'' m) (hn : n ≤ m) : ExtT T T'' n := fun k hk => (g k (by omega)).trans (h k hk)
/-- The queues' own blocks, nobody's. -/
def Low (T : Tag) (k : Nat) : Prop := T k = some (0, 0) ∨ T k = some (1, 0) ∨ T k = some (2, 0)
theorem Kept.low {T : Tag} {w w' : World} (h : Kept (Low T) w w') : Kept (fun k => T k ≠ none) w w' := h.mono fun k _ q => by rcases q with q | q | q <;> rw [q] <;> simp
theorem QAt.keep {w w' : World} {T T' : Tag} {S S' : Int → Option Value} {x : Int} {v : Option (List ByteArray × Int)} (h : QAt w T S x v) (b : ∀ k, k < w.heap.size → (T k = some (3, x) ∨ T k = some (4, x)) → w'.heap[k]? = w.heap[k]?) (hT : ExtT T T' w.heap.size) (hS : S' x = S x) : QAt w' T' S' x v := by
  cases v with
  | none => exact hS.trans h
  | some v =>
    obtain ⟨l, d⟩ := v
    obtain ⟨qb, pv, h1, h2, h3, h4, h5⟩ := h
    have l2 := h2.lt (by show 0 < 2; decide)
    refine ⟨qb, pv, hS.trans h1, h2.of_block (b qb l2 (.inl h4)), h3.of fun k hk => b k (h3.lt k hk) (.inr (h5 k hk)), (hT qb l2).trans h4, fun k hk => (hT k (h3.lt k hk)).trans (h5 k hk)⟩
/-- The queues, where only their own six cells have turned (and the round's row may be another part of itself). -/
theorem PX.top {w w' : World} {B : Nat} {T : Tag} {p : FaP} {rv : Value} {bm : Nat} {S : Int → Option Value} (h : PX w B T p rv bm S) {rv' : Value} {ids' : List Int} {sv' : Bool} {cnt' : Int} (k : Kept (fun k => k = B) w w')
    (hl : Lies w' B (paC { p with ids := ids', sv := sv', cnt := cnt' } rv' bm)) (hr : RowZ KI w rv' ids') (ho : ∀ k, rv'.ownBlock = some k → T k = some (2, 0)) : PX w' B T { p with ids := ids', sv := sv', cnt := cnt' } rv' bm S := by
  have ne : ∀ j t, T j = some t → t ≠ (0, 0) → j ≠ B := fun j t hj ht q => by
    rw [q, h.tB] at hj
    injection hj with hj
    exact ht hj.symm
  refine ⟨hl, hr.of fun j hj => k.block j (hr.lt j hj) (ne j _ (ho j hj) (by simp)), h.m.of_block (k.block bm h.m.lt (ne bm _ h.tm (by simp))), h.tB, h.tm, ho, fun x => (h.q x).keep (fun j hj ht => k.block j hj ?_) (.refl _ _) rfl, fun j hj => Nat.lt_of_lt_of_le (h.lt j hj) k.size⟩
  rcases ht with ht | ht <;> exact ne j _ ht (by simp)
/-- .. where only someone's queue has turned. -/
theorem PX.que {w w' : World} {B : Nat} {T : Tag} {p : FaP} {rv : Value} {bm : Nat} {S : Int → Option Value} (h : PX w B T p rv bm S) (x : Int) {v : Option (List ByteArray × Int)} (k : Kept (fun k => T k = some (3, x) ∨ T k = some (4, x)) w w')
    (hq : QAt w' T S x v) : PX w' B T { p with tb := updT p.tb x v } rv bm S := by
  have ne : ∀ j t, T j = some t → t ≠ (3, x) → t ≠ (4, x) → ¬ (T j = some (3, x) ∨ T j = some (4, x)) := fun j t hj h1 h2 q => by
    rw [hj] at q
    rcases q with q | q <;> injection q with q
    · exact h1 q
    · exact h2 q
  refine ⟨h.h.of_block (k.block B (h.h.lt (by show 0 < 6; decide)) (ne B _ h.tB (by simp) (by simp))), h.r.of fun j hj => k.block j (h.r.lt j hj) (ne j _ (h.tr j hj) (by simp) (by simp)), h.m.of_block (k.block bm h.m.lt (ne bm _ h.tm (by simp) (by simp))), h.tB, h.tm, h.tr, fun y => ?_, fun j hj => Nat.lt_of_lt_of_le (h.lt j hj) k.size⟩
  show QAt w' T S y (updT p.tb x v y)
  unfold updT
  by_cases e : y = x
  · rw [if_pos e, e]
    exact hq
  · rw [if_neg e]
    refine (h.q y).keep (fun j hj ht => k.block j hj ?_) (.refl _ _) rfl
    rcases ht with ht | ht
    · exact ne j _ ht (by simp [e]) (by simp)
    · exact ne j _ ht (by simp) (by simp [e])
theorem PX.keep {w w' : World} {B : Nat} {T : Tag} {p : FaP} {rv : Value} {bm : Nat} {S : Int → Option Value} (h : PX w B T p rv bm S) (b : ∀ k, T k ≠ none → w'.heap[k]? = w.heap[k]?) (hs : w.heap.size ≤ w'.heap.size) : PX w' B T p rv bm S :=
  ⟨h.h.of_block (b B (by rw [h.tB]; simp)), h.r.of fun j hj => b j (by rw [h.tr j hj]; simp), h.m.of_block (b bm (by rw [h.tm]; simp)), h.tB, h.tm, h.tr, fun x => (h.q x).keep (fun j _ ht => b j (by rcases ht with ht | ht <;> rw [ht] <;> simp)) (.refl _ _) rfl, fun j hj => Nat.lt_of_lt_of_le (h.lt j hj) hs⟩
theorem PG.keep {w w' : World} {B : Nat} {T : Tag} {p : FaP} (h : PG w B T p) (b : ∀ k, T k ≠ none → w'.heap[k]? = w.heap[k]?) (hs : w.heap.size ≤ w'.heap.size) : PG w' B T p := by
  obtain ⟨rv, bm, S, h⟩ := h
  exact ⟨rv, bm, S, h.keep b hs⟩
theorem PG.lt {w : World} {B : Nat} {T : Tag} {p : FaP} (h : PG w B T p) : ∀ k, T k ≠ none → k < w.heap.size := by
  obtain ⟨rv, bm, S, h⟩ := h
  exact h.lt
theorem PG.tB {w : World} {B : Nat} {T : Tag} {p : FaP} (h : PG w B T p) : T B ≠ none := by
  obtain ⟨rv, bm, S, h⟩ := h
  rw [h.tB]
  simp
/-- What a walk needs of someone's queue. -/
theorem PX.at {w : World} {B : Nat} {T : Tag} {p : FaP} {rv : Value} {bm : Nat} {S : Int → Option Value} (h : PX w B T p rv bm S) {x : Int} {l : List ByteArray} {d : Int} (ht : p.tb x = some (l, d)) :
    ∃ qb pv, S x = some (ptr qb) ∧ Lies w qb [pv, .int .i64 d] ∧ RowZ KS w pv l ∧ T qb = some (3, x) ∧ ∀ k, pv.ownBlock = some k → T k = some (4, x) := by
  have := h.q x
  rw [ht] at this
  exact this
/-- The map's answer. -/
theorem PX.look {w : World} {B : Nat} {T : Tag} {p : FaP} {rv : Value} {bm : Nat} {S : Int → Option Value} (h : PX w B T p rv bm S) {x : Int} (hx : In64 x) {v : Value} (hv : (S x).getD (.pointer none) = v) (w' : World) (e : w'.heap[bm]? = w.heap[bm]?) :
    (Instr.lookup 47 (.map (some bm)) (.int .i64 x) false).run Try.prog w' = .ok v w' := by
  have := (h.m.of_block e).look mq_ok hx
  rw [← hv]
  exact this
/-- A row that is not empty, and its first. -/
theorem RowZ.first {X : Type} {K : RowK X} (hK : K.Ok) (h1 : K.n = 1) {w : World} {v : Value} {x : X} {t : List X} (h : RowZ K w v (x :: t)) : ∃ g o c, v = .slice (some ⟨g, o, none⟩) (t.length + 1) c ∧ w.cell? ⟨g, o, none⟩ = (K.cells x)[0]? ∧ w.frozen? ⟨g, o, none⟩ = false ∧ t.length + 1 ≤ c ∧ g < w.heap.size := by
  obtain ⟨a, c, rfl, hc, -, ha⟩ := h.slice
  obtain ⟨g, o, rfl, -, hg⟩ := ha (by simp)
  have := h.cell hK 0 0 (by simp) (by omega)
  simp only [h1, Nat.mul_zero, Nat.add_zero] at this
  exact ⟨g, o, c, rfl, this.1, this.2, hc, hg⟩
/-- .. and what is left when it is cut. -/
theorem RowZ.tl {X : Type} {K : RowK X} (hK : K.Ok) {w : World} {a : Option Addr} {n c : Nat} {x : X} {t : List X} (h : RowZ K w (.slice a n c) (x :: t)) : ∃ a2 n2 c2, (∀ w', (Instr.sliceAt K.st (.slice a n c) (some (.int .i64 1)) none none).run Try.prog w' = .ok (.slice a2 n2 c2) w') ∧ RowZ K w (.slice a2 n2 c2) t ∧ (Value.slice a2 n2 c2).ownBlock = (Value.slice a n c).ownBlock ∧ n2 = t.length := by
  obtain ⟨a', c', e, hc, -, -⟩ := h.slice
  injection e with e1 e2 e3
  subst e1 e3
  refine ⟨_, _, _, fun w' => run_cutZ hK w' a n c 1 1 rfl (by rw [e2]; simp), h.cut hK 1 (by simp), dropZ_block .., by rw [e2]; simp⟩
/-- .. where the round's row has turned, too, or is another one. -/
theorem PX.row {w w' : World} {B : Nat} {T : Tag} {p : FaP} {rv : Value} {bm : Nat} {S : Int → Option Value} (h : PX w B T p rv bm S) {rv' : Value} {ids' : List Int} {sv' : Bool} {cnt' : Int} (k : Kept (fun k => k = B ∨ rv.ownBlock = some k) w w')
    (hl : Lies w' B (paC { p with ids := ids', sv := sv', cnt := cnt' } rv' bm)) (hr : RowZ KI w' rv' ids') (ho : ∀ k, rv'.ownBlock = some k → rv.ownBlock = some k ∨ w.heap.size ≤ k) : ∃ T', PX w' B T' { p with ids := ids', sv := sv', cnt := cnt' } rv' bm S ∧ ExtT T T' w.heap.size := by
  have ne : ∀ j t, T j = some t → t ≠ (0, 0) → t ≠ (2, 0) → ¬ (j = B ∨ rv.ownBlock = some j) := fun j t hj h0 h2 q => by
    rcases q with q | q
    · rw [q, h.tB] at hj
      injection hj with hj
      exact h0 hj.symm
    · rw [h.tr j q] at hj
      injection hj with hj
      exact h2 hj.symm
  have hE : ExtT T (fun k => if w.heap.size ≤ k ∧ rv'.ownBlock = some k then some (2, 0) else T k) w.heap.size := fun j hj => if_neg fun q => by omega
  refine ⟨_, ⟨hl, hr, h.m.of_block (k.block bm h.m.lt (ne bm _ h.tm (by simp) (by simp))), (hE B (h.h.lt (by show 0 < 6; decide))).trans h.tB, (hE bm h.m.lt).trans h.tm, fun j hj => ?_, fun x => (h.q x).keep (fun j hj ht => k.block j hj ?_) hE rfl, fun j hj => ?_⟩, hE⟩
  · rcases ho j hj with q | q
    · exact (hE j (h.r.lt j q)).trans (h.tr j q)
    · exact if_pos ⟨q, hj⟩
  · rcases ht with ht | ht <;> exact ne j _ ht (by simp) (by simp)
  · by_cases q : w.heap.size ≤ j ∧ rv'.ownBlock = some j
    · exact hr.lt j q.2
    · have hj : (if w.heap.size ≤ j ∧ rv'.ownBlock = some j then some (2, 0) else T j) ≠ none := hj
      rw [if_neg q] at hj
      exact Nat.lt_of_lt_of_le (h.lt j hj) k.size
/-- Onto a row: one entry, from a block that is made for it. -/
theorem RowZ.snoc {X : Type} {K : RowK X} (hK : K.Ok) {w : World} {v : Value} {d : List X} (h : RowZ K w v d) (x : X) (t ty : TypeId) (hd : (d.length + 1) * K.bytes ≤ 140737488355328) (hd2 : d.length + 1 ≤ maxLen) :
    ∃ a n c w', (∀ z, (builtin .append #[K.st, K.st] ty z #[v, .slice (some ⟨w.heap.size, 0, none⟩) 1 1]).run Try.prog (w.alloc (.cells (K.cells x).toArray t)) = .ok (.value (.slice a n c)) w') ∧ RowZ K w' (.slice a n c) (d ++ [x]) ∧ n = d.length + 1 ∧ (∀ k, (Value.slice a n c).ownBlock = some k → v.ownBlock = some k ∨ w.heap.size ≤ k) ∧ Kept (fun k => v.ownBlock = some k) w w' := by
  have b1 : Below w.heap.size w (w.alloc (.cells (K.cells x).toArray t)) := (Below.refl _ _).alloc (Nat.le_refl _) _
  have S := src_lit hK w [x] t
  have e1 : ([x].flatMap K.cells) = K.cells x := by simp
  rw [e1] at S
  obtain ⟨v5, w5, hap, O5, g5, ho⟩ := (h.keep b1).app hK ty _ [x] (by rw [e1]; exact S) hd hd2
  obtain ⟨a, c, e, -⟩ := O5.slice
  rw [List.length_append] at e
  subst e
  refine ⟨a, _, c, w5, hap, O5, rfl, fun k hk => ?_, (Kept.of (fun k => v.ownBlock = some k) b1).grown g5 fun k hk _ => hk⟩
  rcases ho with q | q
  · exact .inl (q.symm.trans hk)
  · right
    rw [q] at hk
    injection hk with hk
    have := b1.size
    omega
end Go.Proofs.Ytiamlldooihkdaa
