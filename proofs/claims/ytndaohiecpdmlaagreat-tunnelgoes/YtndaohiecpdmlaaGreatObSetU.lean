/-
  A set of numbers (map[int]struct{}) that the call itself makes: what it holds, filled, cleared, ranged over. No condition.
-/
import Derived.Test.YtndaohiecpdmlaaGreatMgA
import Derived.Maps.Own
import Derived.Maps.OwnSet
import Derived.Maps.Views
import Derived.Maps.RangeWalk
import Derived.WalkKit
namespace Go.Proofs.YtndaohiecpdmlaaGreat
set_option maxRecDepth 100000
open Go.RowKit Go.Maps Go.ChangeMaps Go.WideElems Go.MapKept

/-- The map in block b holds the numbers of S; at most n entries. -/
structure SetU (w : World) (b n : Nat) (S : Int → Bool) : Prop where
  ex : ∃ D : DataW Unit, w.ownsMap Tryz.prog 3 (unitElem (H := Unit)) b n D ∧ ∀ x, Maps.has D (.int .i64 x) = S x
theorem mapKeyI : Keyed Tryz.prog 3 := int_keyed Tryz.underlying3
theorem SetU.made (w : World) : SetU (w.alloc (.map #[] 0)) w.heap.size 0 fun _ => false := ⟨_, World.ownsMap_made w _ _ _, fun _ => by simp [Maps.has]⟩
theorem SetU.lt {w : World} {b n : Nat} {S : Int → Bool} (h : SetU w b n S) : b < w.heap.size := by
  obtain ⟨D, h, _⟩ := h.ex
  exact h.lt
theorem SetU.of_block {w w' : World} {b n : Nat} {S : Int → Bool} (h : SetU w b n S) (e : w'.heap[b]? = w.heap[b]?) : SetU w' b n S := by
  obtain ⟨D, ⟨es, clock, hb, F, hs, hD⟩, hS⟩ := h.ex
  exact ⟨D, ⟨es, clock, e.trans hb, F, hs, hD⟩, hS⟩
theorem SetU.keep {w w' : World} {b n : Nat} {S : Int → Bool} (h : SetU w b n S) (k : Below w.heap.size w w') : SetU w' b n S := h.of_block (k.block b h.lt)
theorem SetU.more {w : World} {b n m : Nat} {S : Int → Bool} (h : SetU w b n S) (hm : n ≤ m) : SetU w b m S := by
  obtain ⟨D, ⟨es, clock, hb, F, hs, hD⟩, hS⟩ := h.ex
  exact ⟨D, ⟨es, clock, hb, F, Nat.le_trans hs hm, hD⟩, hS⟩
theorem litI {x : Int} (h : -9223372036854775808 ≤ x ∧ x ≤ 9223372036854775807) : (Lit.int .i64 x).wf = true := WalkArith.wf_i64 (by omega)
theorem SetU.put {w : World} {b n : Nat} {S : Int → Bool} (h : SetU w b n S) (hn : n < maxLen) {x : Int} (hx : -9223372036854775808 ≤ x ∧ x ≤ 9223372036854775807) :
    ∃ w', (Instr.mapUpdate 96 (.map (some b)) (.int .i64 x) (.agg #[])).run Tryz.prog w = .ok () w' ∧ SetU w' b (n + 1) (fun y => decide (y = x) || S y) ∧ w.grownBy w' (some b) := by
  obtain ⟨D, h, hS⟩ := h.ex
  obtain ⟨w', hrun, ho, hg⟩ := h.update mapKeyI Tryz.underlying96 hn (keyOf_int_mk Tryz.underlying3 (litI hx)) (unitElem_mk (H := Unit))
  refine ⟨w', hrun, ⟨_, ho, fun y => ?_⟩, hg⟩
  have hm : IsMap D := by obtain ⟨es, clock, _, _, _, e⟩ := h; exact ⟨_, e⟩
  by_cases q : y = x
  · subst q
    rw [has_put_same hm (show WideAt.IsKeyLit (Lit.int .i64 y) from trivial)]
    simp
  · rw [decide_eq_false q, Bool.false_or, ← hS y]
    exact has_put_other (fun e => q (by injection e)) _
/-- A store into it, at a walk. -/
theorem SetU.wput {w : World} {b n : Nat} {S : Int → Bool} (h : SetU w b n S) (hn : n < maxLen) {ops : Array Oper} {rest : List Oper} {o : Oper} {a : Act} {Q : Exit → Act → World → Prop} (hg : o.guard = none) (m k u : Operand)
    (hop : o.op = .mapUpdate 96 m k u) {x : Int} (hx : -9223372036854775808 ≤ x ∧ x ≤ 9223372036854775807) (hm : a.eval m = .map (some b)) (hk : a.eval k = .int .i64 x) (hu : a.eval u = .agg #[])
    (hK : ∀ w', SetU w' b (n + 1) (fun y => decide (y = x) || S y) → w.grownBy w' (some b) → wpList Tryz.prog ops Q rest (a.put o.dst undef) w') : wpList Tryz.prog ops Q (o :: rest) a w := by
  refine wpList_plain hg fun K' hK' => ?_
  obtain ⟨w', hrun, r1, r2⟩ := h.put hn hx
  unfold Oper.wp
  simp [execOp, hop, hm, hk, hu, hrun, Result.andThen]
  exact hK' _ _ (hK w' r1 r2)
theorem SetU.clr {w : World} {b n : Nat} {S : Int → Bool} (h : SetU w b n S) (ty : TypeId) :
    ∃ w', (Builtin.clear_ #[96] ty #[.map (some b)]).run Tryz.prog w = .ok (.tuple #[]) w' ∧ SetU w' b 0 (fun _ => false) ∧ w.grownBy w' (some b) := by
  obtain ⟨D, ⟨es, clock, hb, F, hs, hD⟩, h1⟩ := h.ex
  refine ⟨setBlock w b (.map #[] clock), ?_, ⟨.map [], ⟨#[], clock, heap_setBlock_same hb _, ⟨by simp, stamped_empty _, by simp⟩, Nat.le_refl _, rfl⟩, fun _ => by simp [Maps.has]⟩, ⟨rfl, rfl, rfl, by simp [setBlock], fun i _ hi => heap_setBlock_other hb _ (fun e => hi (by rw [e]))⟩⟩
  simp [Builtin.clear_, run_underlying Tryz.underlying96, Go.MapKept.run_getObj_map hb, Go.MapKept.run_setObj_map _ hb, Result.andThen, setBlock]
theorem SetU.wclr {w : World} {b n : Nat} {S : Int → Bool} (h : SetU w b n S) {ops : Array Oper} {rest : List Oper} {o : Oper} {a : Act} {Q : Exit → Act → World → Prop} (hg : o.guard = none) (m : Operand)
    (hop : o.op = Op.call { callee := Callee.builtin Builtin.clear, args := #[m], argTypes := #[96] }) (hm : a.eval m = .map (some b))
    (hK : ∀ w', SetU w' b 0 (fun _ => false) → w.grownBy w' (some b) → wpList Tryz.prog ops Q rest (a.put o.dst (.tuple #[])) w') : wpList Tryz.prog ops Q (o :: rest) a w := by
  refine wpList_plain hg fun K' hK' => ?_
  obtain ⟨w', hrun, r1, r2⟩ := h.clr o.type
  unfold Oper.wp
  simp [execOp, hop, resolve, invoke, builtin, hm, hrun, Result.andThen]
  exact hK' _ _ (hK w' r1 r2)
/-- A range over it under way: which of its numbers are still to come. -/
def RangeU (w : World) (b r : Nat) (S left : Int → Bool) (cnt : Nat) : Prop :=
  ∃ (n : Nat) (D : DataW Unit) (lf : Lit → Bool), w.ranges Tryz.prog 3 (unitElem (H := Unit)) b r n D lf cnt ∧ (∀ x, left x = lf (.int .i64 x)) ∧ (∀ x, left x = true → S x = true)
theorem RangeU.lt {w : World} {b r : Nat} {S left : Int → Bool} {cnt : Nat} (h : RangeU w b r S left cnt) : b < w.heap.size ∧ r < w.heap.size ∧ r ≠ b := by
  obtain ⟨n, D, lf, h, _⟩ := h
  exact ⟨h.owns.lt, h.lt, h.ne⟩
theorem RangeU.keep {w w' : World} {b r : Nat} {S left : Int → Bool} {cnt : Nat} (h : RangeU w b r S left cnt) (k : Below w.heap.size w w') : RangeU w' b r S left cnt := by
  have l := h.lt
  obtain ⟨n, D, lf, ⟨es, clock, since, seen, c0, h1, h2, h3, h4, h5, h6⟩, h7⟩ := h
  exact ⟨n, D, lf, ⟨es, clock, since, seen, c0, (k.block b l.1).trans h1, h2, h3, h4, (k.block r l.2.1).trans h5, h6⟩, h7⟩
theorem RangeU.cnt {w : World} {b r : Nat} {S left : Int → Bool} {cnt : Nat} (h : RangeU w b r S left cnt) : w.rangeLeft b r = cnt := by
  obtain ⟨n, D, lf, h, _⟩ := h
  exact h.left_eq
theorem RangeU.set {w : World} {b r : Nat} {S left : Int → Bool} {cnt : Nat} (h : RangeU w b r S left cnt) : ∃ n T, SetU w b n T := by
  obtain ⟨n, D, lf, h, _⟩ := h
  exact ⟨n, _, D, h.owns, fun _ => rfl⟩
theorem RangeU.sub {w : World} {b r : Nat} {S left : Int → Bool} {cnt : Nat} (h : RangeU w b r S left cnt) {x : Int} (hx : left x = true) : S x = true := by
  obtain ⟨n, D, lf, h, _, h2⟩ := h
  exact h2 x hx
theorem SetU.wrange {w : World} {b n : Nat} {S : Int → Bool} (h : SetU w b n S) {ops : Array Oper} {rest : List Oper} {o : Oper} {a : Act} {Q : Exit → Act → World → Prop} (hg : o.guard = none) (m : Operand) (hop : o.op = Op.range 96 m) (hm : a.eval m = .map (some b))
    (hK : ∀ w' cnt, RangeU w' b w.heap.size S S cnt → w.grownBy w' none → w'.heap.size = w.heap.size + 1 → wpList Tryz.prog ops Q rest (a.put o.dst (.pointer (some ⟨w.heap.size, 0, none⟩))) w') : wpList Tryz.prog ops Q (o :: rest) a w := by
  obtain ⟨D, ho, hS⟩ := h.ex
  exact wpList_range_own w hg m _ hop 3 105 mapKeyI Tryz.underlying96 _ b n D hm ho fun w' r g s => hK w' _ ⟨n, D, _, r, fun x => (hS x).symm, fun _ q => q⟩ g s
theorem RangeU.wnext {w : World} {b r : Nat} {S left : Int → Bool} {cnt : Nat} (h : RangeU w b r S left cnt) {ops : Array Oper} {rest : List Oper} {o : Oper} {a : Act} {Q : Exit → Act → World → Prop} (hg : o.guard = none) (it : Operand) (hop : o.op = Op.next it false) (hit : a.eval it = .pointer (some ⟨r, 0, none⟩))
    (hDone : (∀ x, left x = false) → wpList Tryz.prog ops Q rest (a.put o.dst (.tuple #[.bool false])) w)
    (hMore : ∀ (x : Int) (w' : World) (cnt' : Nat), left x = true → RangeU w' b r S (fun y => left y && !decide (y = x)) cnt' → cnt' < cnt → w.grownBy w' (some r) → w'.heap.size = w.heap.size →
      (Instr.entry (.pointer (some ⟨r, 0, none⟩))).run Tryz.prog w' = .ok (.tuple #[.int .i64 x, .agg #[]]) w' → wpList Tryz.prog ops Q rest (a.put o.dst (.tuple #[.bool true, .int .i64 x, .agg #[]])) w') : wpList Tryz.prog ops Q (o :: rest) a w := by
  obtain ⟨n, D, lf, hr, hl, hs⟩ := h
  refine wpList_next_ranges w hg it hop 3 mapKeyI _ (fun x : Int => Value.int .i64 x) (fun _ : Unit => Value.agg #[]) (fun key kl hk => ?_) (fun v y hv => ⟨(), (unitElem_inv hv).1⟩) b r n D lf cnt hit hr (fun _ h0 => hDone fun x => by rw [hl]; exact h0 _) ?_
  · obtain ⟨x, e, _⟩ := keyOf_int_inv Tryz.underlying3 hk
    exact ⟨x, e⟩
  · intro x c kl y w' cnt' hkey hlk hv hat hrg hlt hgr hsz hen
    obtain ⟨x', e, rfl, _⟩ := keyOf_int_inv Tryz.underlying3 hkey
    injection e with _ e
    subst e
    refine hMore x w' cnt' (by rw [hl]; exact hlk) ⟨n, D, _, hrg, fun z => ?_, fun z hz => hs z ?_⟩ hlt hgr hsz hen
    · show (left z && !decide (z = x)) = (lf (.int .i64 z) && !(Lit.int .i64 z).sameKey (Lit.int .i64 x))
      rw [hl]
      congr 2
      rw [Bool.eq_iff_iff, decide_eq_true_iff]
      simp [Lit.sameKey]
    · exact (Bool.and_eq_true _ _ ▸ hz).1
end Go.Proofs.YtndaohiecpdmlaaGreat
