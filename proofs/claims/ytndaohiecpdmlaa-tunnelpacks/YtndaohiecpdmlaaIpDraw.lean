/-
  In a region that draws its order, a call that answers one value in whatever world and leaves that world may be taken first, as a copy may. No condition.
-/
import Derived.Test.YtndaohiecpdmlaaIpMath
import Derived.Orders
import Derived.OrdersHeld
namespace Go.Proofs.Ytndaohiecpdmlaa
open Go.RowKit
section
variable {P : Program} {ops : Array Oper} {Q : Exit → Act → World → Prop} {md : Region.Mode}

/-- Whatever operation j leaves, a slot that it does not write reads as it did. -/
theorem wpOp_slot {j : Nat} {oj : Oper} {K : Act → World → Prop} {a : Act} {w : World} {k : Nat} {x : Value} (hj : ops[j]? = some oj) (hd : oj.dst ≠ some k) (hx : a.eval (.tmp k) = x)
    (h : wpOp P ops Q j K a w) : wpOp P ops Q j (fun a' w' => K a' w' ∧ a'.eval (.tmp k) = x) a w := by
  have put : ∀ (b : Act) (u : Value), b.eval (.tmp k) = x → (b.put oj.dst u).eval (.tmp k) = x := fun b u hb => by
    rw [← hb]
    cases e : oj.dst with
    | none => rfl
    | some d =>
      have : d ≠ k := fun h => hd (by rw [e, h])
      simp [Act.put, Act.eval, Array.getElem?_setIfInBounds_ne this]
  have h1 := fun u => put a u hx
  have h2 := fun d u => put { a with defers := d :: a.defers } u hx
  unfold wpOp at *
  simp only [hj] at *
  by_cases hw : Region.wanted oj (yielded ops a.tmps) = true
  · simp only [hw, if_true] at h ⊢
    refine h.imp (fun h => ?_) id
    unfold Oper.wp at *
    generalize (execOp a.eval oj).run P w = r at *
    cases r with
    | ok n w' =>
      cases n <;> simp only [Oper.upon] at h ⊢
      case value => exact ⟨h, h1 _⟩
      case skip => exact ⟨h, h1 _⟩
      case defer => exact ⟨h, h2 _ _⟩
      case enter f args =>
        refine Calls.mono h fun e w'' he => ?_
        cases e with
        | returned u => exact ⟨he, h1 u⟩
        | panicked c => exact he
        | outgrown => exact he
      case row row args => exact Rows.mono h fun u w'' he => ⟨he, h1 u⟩
    | halt z w' => cases z <;> exact h
  · simp only [hw] at h ⊢
    exact ⟨h, h1 _⟩

/-- A call whose one argument lies in slot k: taken first. -/
theorem wpAny_call_first {i : Nat} {oi : Oper} {v x : Value} {k : Nat} (hi : ops[i]? = some oi) (hsel : ∀ (j : Nat) (o : Oper) cs b, ops[j]? = some o → o.op ≠ .select cs b)
    (hQ : ∀ c a w, Q (.panic c) (a.put oi.dst v) w → Q (.panic c) a w) (hwant : ∀ a : Act, Region.wanted oi (yielded ops a.tmps) = true)
    (hrun : ∀ (a : Act) (w : World) (K : Act → World → Prop), a.eval (.tmp k) = x → K (a.put oi.dst v) w → oi.wp P a w K Q) :
    ∀ (fuel : Nat) (listed : Array Bool) (a : Act) (w : World),
      (∀ j oj, ops[j]? = some oj → j ≠ i → listed.getD j true = false → (∀ e ∈ oj.after, Region.binds md e = true → e.on ≠ i) → oi.apart ops oj = true ∧ oj.dst ≠ some k) →
      i ∈ Region.ready md ops listed → a.eval (.tmp k) = x →
      wpAny P md ops Q fuel (listed.setIfInBounds i true) (a.put oi.dst v) w → wpAny P md ops Q (fuel + 1) listed a w := by
  have own : ∀ (a : Act) (w : World) (K : Act → World → Prop), a.eval (.tmp k) = x → K (a.put oi.dst v) w → wpOp P ops Q i K a w := fun a w K hx hK => by
    unfold wpOp
    simp only [hi, hwant a, if_true]
    exact .inl (hrun a w K hx hK)
  intro fuel
  induction fuel with
  | zero =>
    intro listed a w _ hr hx H
    refine ⟨fun h => (by rw [h] at hr; cases hr), fun j hj => ?_⟩
    by_cases hji : j = i
    · subst hji; exact own a w _ hx H
    · have := ready_mono hj hji
      rw [H.1] at this
      cases this
  | succ fuel ih =>
    intro listed a w hfree hr hx H
    refine ⟨fun h => (by rw [h] at hr; cases hr), fun j hj => ?_⟩
    by_cases hji : j = i
    · subst hji; exact own a w _ hx H
    · have h1 := H.2 j (ready_mono hj hji)
      obtain ⟨hjun, oj, hoj, hall⟩ := mem_ready.1 hj
      have hnot : ∀ e ∈ oj.after, Region.binds md e = true → e.on ≠ i := fun e he hb heq => by
        have a1 := hall e he hb
        have a0 := (mem_ready.1 hr).1
        rw [heq] at a1
        cases hg : listed[i]? with
        | none => simp [hg] at a0
        | some b => simp [hg] at a0 a1; rw [a0] at a1; cases a1
      obtain ⟨hap, hds⟩ := hfree j oj hoj hji hjun hnot
      have h2 := wpOp_putIf (S := fun _ => False) hoj hap (fun cs b => hsel i oi cs b hi) (fun cs b => hsel j oj cs b hoj) hQ (.inl ⟨hwant a, fun _ h => h.elim⟩) h1
      have h3 := wpOp_slot hoj hds hx h2
      refine wpOp_mono (fun a' w' h4 => ih (listed.setIfInBounds j true) a' w' ?_ (ready_mono hr (Ne.symm hji)) h4.2 ?_) h3
      · intro l ol hl hli hun hno
        refine hfree l ol hl hli ?_ hno
        by_cases hjl : j = l
        · subst hjl; exact hjun
        · rw [getD_set_ne true hjl] at hun; exact hun
      · rw [Array.setIfInBounds_comm _ _ hji]
        exact h4.1.2

/-- The side conditions, as Bools for the kernel. -/
def freeOf (md : Region.Mode) (ops : Array Oper) (listed : Array Bool) (i k : Nat) : Bool :=
  match ops[i]? with
  | none => false
  | some oi => (List.range ops.size).all fun j => j == i || listed.getD j true || match ops[j]? with
      | some oj => oj.after.any (fun e => Region.binds md e && e.on == i) || (oi.apart ops oj && oj.dst != some k)
      | none => true
theorem wpAny_call {i : Nat} {oi : Oper} {v x : Value} {k fuel : Nat} {listed : Array Bool} {a : Act} {w : World} (hi : ops[i]? = some oi) (hs : Region.noSelect ops = true) (hf : freeOf md ops listed i k = true)
    (hr : (Region.ready md ops listed).contains i = true) (hQ : ∀ c a w, Q (.panic c) (a.put oi.dst v) w → Q (.panic c) a w) (hg : oi.guard = none)
    (hrun : ∀ (a : Act) (w : World) (K : Act → World → Prop), a.eval (.tmp k) = x → K (a.put oi.dst v) w → oi.wp P a w K Q) (hx : a.eval (.tmp k) = x)
    (h : wpAny P md ops Q fuel (listed.setIfInBounds i true) (a.put oi.dst v) w) : wpAny P md ops Q (fuel + 1) listed a w := by
  refine wpAny_call_first hi (Region.noSelect_spec hs) hQ (fun a => by simp [Region.wanted, hg]) hrun fuel listed a w ?_ (by simpa using hr) hx h
  intro j oj hj hji hun hno
  simp only [freeOf, hi, List.all_eq_true, List.mem_range] at hf
  have h1 := hf j (Array.getElem?_eq_some_iff.1 hj).1
  simp only [hj, Bool.or_eq_true, beq_iff_eq, hji, false_or, hun, Bool.false_eq_true, Bool.and_eq_true, bne_iff_ne] at h1
  rcases h1 with h1 | h1
  · obtain ⟨e, he, hb⟩ := Array.any_eq_true'.1 h1
    simp only [Bool.and_eq_true, beq_iff_eq] at hb
    exact absurd hb.2 (hno e he hb.1)
  · exact h1
/-- The same two moves, the slot written out. -/
theorem take_slot {i d : Nat} {oi : Oper} {v : Value} {fuel : Nat} {listed : Array Bool} {a : Act} {w : World} (hi : ops[i]? = some oi) (hd : oi.dst = some d)
    (hs : Region.noSelect ops = true) (hf : Region.free md ops listed i = true) (hr : (Region.ready md ops listed).contains i = true)
    (hQ : ∀ c a w, Q (.panic c) (a.put (some d) v) w → Q (.panic c) a w) (hg : oi.guard = none) (hy : ∀ w, (execOp a.eval oi).run P w = .ok (.value v) w)
    (h : wpAny P md ops Q fuel (listed.setIfInBounds i true) (a.put (some d) v) w) : wpAny P md ops Q (fuel + 1) listed a w :=
  wpAny_take hi hs hf hr (by rw [hd]; exact hQ) (.inl ⟨by simp [Region.wanted, hg], hy⟩) (by rw [hd]; exact h)
theorem call_slot {i d : Nat} {oi : Oper} {v x : Value} {k fuel : Nat} {listed : Array Bool} {a : Act} {w : World} (hi : ops[i]? = some oi) (hd : oi.dst = some d) (hs : Region.noSelect ops = true) (hf : freeOf md ops listed i k = true)
    (hr : (Region.ready md ops listed).contains i = true) (hQ : ∀ c a w, Q (.panic c) (a.put (some d) v) w → Q (.panic c) a w) (hg : oi.guard = none)
    (hrun : ∀ (a : Act) (w : World) (K : Act → World → Prop), a.eval (.tmp k) = x → K (a.put oi.dst v) w → oi.wp P a w K Q) (hx : a.eval (.tmp k) = x)
    (h : wpAny P md ops Q fuel (listed.setIfInBounds i true) (a.put (some d) v) w) : wpAny P md ops Q (fuel + 1) listed a w :=
  wpAny_call hi hs hf hr (by rw [hd]; exact hQ) hg hrun hx (by rw [hd]; exact h)
end
end Go.Proofs.Ytndaohiecpdmlaa
