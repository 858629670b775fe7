/-
  In a region that draws its order: an operation that is guarded, taken first; calls by what they answer. No condition.
-/
import Derived.Test.YteajkegokaggcaaDoorShDraw
import Derived.RegionTactic
namespace Go.Proofs.YteajkegokaggcaaDoor
set_option maxRecDepth 100000
open Go.RowKit
section
variable {P : Program} {ops : Array Oper} {Q : Exit → Act → World → Prop} {md : Region.Mode}
theorem take_slotG {i d : Nat} {oi : Oper} {v : Value} {fuel : Nat} {listed : Array Bool} {a : Act} {w : World} (hi : ops[i]? = some oi) (hd : oi.dst = some d)
    (hs : Region.noSelect ops = true) (hf : Region.free md ops listed i = true) (hr : (Region.ready md ops listed).contains i = true)
    (hQ : ∀ c a w, Q (.panic c) (a.put (some d) v) w → Q (.panic c) a w) (hw : Region.wanted oi (yielded ops a.tmps) = true) (hy : ∀ w, (execOp a.eval oi).run P w = .ok (.value v) w)
    (h : wpAny P md ops Q fuel (listed.setIfInBounds i true) (a.put (some d) v) w) : wpAny P md ops Q (fuel + 1) listed a w :=
  wpAny_take hi hs hf hr (by rw [hd]; exact hQ) (.inl ⟨hw, hy⟩) (by rw [hd]; exact h)
theorem wpOp_stepG {i : Nat} {o : Oper} {K : Act → World → Prop} {a : Act} {w : World} (ho : ops[i]? = some o) (hw : Region.wanted o (yielded ops a.tmps) = true)
    (h : ∀ K' : Act → World → Prop, (∀ a w, K a w → K' a w) → Oper.wp P o a w K' Q) : wpOp P ops Q i K a w :=
  wpOp_step ho fun K' hK => by rw [if_pos hw]; exact h K' hK
end
theorem call1_wp (f : FuncId) (o : Oper) {k d : Nat} {ty : TypeId} {x : Value} {R : Ending → World → Prop} (ho : o.op = .call { callee := .value (.func f), args := #[.tmp k], argTypes := #[ty] }) (hd : o.dst = some d) (a : Act) (w : World) (K : Act → World → Prop) (Q : Exit → Act → World → Prop)
    (hcf : ∀ w, (callFunc f #[x]).run Tryd.prog w = .ok (.enter f #[x]) w) (hx : a.eval (.tmp k) = x) (C : Calls Tryd.prog f #[x] w R) (hK : ∀ e w', R e w' → ∃ v, e = .returned v ∧ K (a.put (some d) v) w') : o.wp Tryd.prog a w K Q := by
  unfold Oper.wp
  have hr : (execOp a.eval o).run Tryd.prog w = .ok (.enter f #[x]) w := by
    unfold execOp
    rw [ho]
    simp only [go_sem] at hx ⊢
    simp [go_sem, hx, hcf]
  rw [hr]
  exact C.mono fun e w' h => by
    obtain ⟨v, rfl, hk⟩ := hK e w' h
    rw [hd]
    exact hk
theorem call4_wp (f : FuncId) (o : Oper) {k1 k2 k3 d : Nat} {c : Value} {tys : Array TypeId} {x1 x2 x3 : Value} {R : Ending → World → Prop} (ho : o.op = .call { callee := .value (.func f), args := #[.tmp k1, .tmp k2, .const c, .tmp k3], argTypes := tys }) (hd : o.dst = some d) (a : Act) (w : World) (K : Act → World → Prop) (Q : Exit → Act → World → Prop)
    (hcf : ∀ w, (callFunc f #[x1, x2, c, x3]).run Tryd.prog w = .ok (.enter f #[x1, x2, c, x3]) w) (h1 : a.eval (.tmp k1) = x1) (h2 : a.eval (.tmp k2) = x2) (h3 : a.eval (.tmp k3) = x3) (C : Calls Tryd.prog f #[x1, x2, c, x3] w R) (hK : ∀ e w', R e w' → ∃ v, e = .returned v ∧ K (a.put (some d) v) w') : o.wp Tryd.prog a w K Q := by
  unfold Oper.wp
  have hr : (execOp a.eval o).run Tryd.prog w = .ok (.enter f #[x1, x2, c, x3]) w := by
    unfold execOp
    rw [ho]
    simp only [go_sem] at h1 h2 h3 ⊢
    simp [go_sem, h1, h2, h3, hcf]
  rw [hr]
  exact C.mono fun e w' h => by
    obtain ⟨v, rfl, hk⟩ := hK e w' h
    rw [hd]
    exact hk
theorem enter_new (x : Value) (w : World) : (callFunc 8 #[x]).run Tryd.prog w = .ok (.enter 8 #[x]) w := by simp [go_sem]
theorem enter_seal (x y z u : Value) (w : World) : (callFunc 9 #[x, y, z, u]).run Tryd.prog w = .ok (.enter 9 #[x, y, z, u]) w := by simp [go_sem]
end Go.Proofs.YteajkegokaggcaaDoor
