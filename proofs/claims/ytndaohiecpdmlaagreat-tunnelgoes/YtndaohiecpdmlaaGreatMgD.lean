/-
  What the document's own Parse answers, for every string. No condition. In a region that draws its order, a call that answers one value in whatever world and leaves that world may be taken first, as a copy may. No condition. What the document's own Parse answers for bytes that are as long as they say. No condition but that. What the program's two answers, at every place of a text. No condition. What the program's Ports answers, for every header. No condition.
-/
import Derived.Test.YtndaohiecpdmlaaGreatMgB
import Derived.Test.YtndaohiecpdmlaaGreatMgC
import Derived.StillTailTactics
import Derived.Orders
import Derived.OrdersHeld
import Derived.BigQuiet
import Derived.OwnWalk
namespace Go.Proofs.YtndaohiecpdmlaaGreat
set_option maxRecDepth 100000
open Go.RowKit

theorem rnum2 (s : ByteArray) (w : World) (k m : Nat) (hm : m = k + 2) (hs : k + 2 ≤ s.size) : Calls Tryz.prog 24 #[.string (s.extract k m)] w fun e w' => e = .returned (.int .i64 (num (byt s) k 2)) ∧ w = w' := by
  have := number_at2 s w k m hm hs
  rwa [← num2] at this
theorem rnum4 (s : ByteArray) (w : World) (k m : Nat) (hm : m = k + 4) (hs : k + 4 ≤ s.size) : Calls Tryz.prog 24 #[.string (s.extract k m)] w fun e w' => e = .returned (.int .i64 (num (byt s) k 4)) ∧ w = w' := by
  have := number_at4 s w k m hm hs
  rwa [← num4] at this
set_option maxHeartbeats 2000000 in
theorem rparse_short0 (s : ByteArray) (w : World) (hs : s.size ≤ 9223372036854775807) (h : s.size < 20) :
    Calls Tryz.prog 13 #[.string s] w fun e w' => e = .returned (.tuple #[none', .int .i64 1]) ∧ Below w.heap.size w w' := by
  unfold none' hv
  go_enter Tryz.func13, Tryz.ntmps13
  go_wp2
  refine ⟨rfl, .tuple #[.agg #[.int .i64 0, .int .i64 0, .int .i64 0, .int .i64 0, .int .i64 0, .int .u32 0, .int .u32 0, .string ⟨#[]⟩], .int .i64 1], ?_, rfl, (Below.refl _ _).alloc (Nat.le_refl _) _⟩
  simp [results, Tryz.results13, go_sem]
set_option maxHeartbeats 2000000 in
theorem rparse_field (s : ByteArray) (w : World) (hs : s.size ≤ 9223372036854775807) (h : 20 ≤ s.size) (hf : num (byt s) 0 1 ≠ 69) :
    Calls Tryz.prog 13 #[.string s] w fun e w' => e = .returned (.tuple #[none', .int .i64 3]) ∧ Below w.heap.size w w' := by
  have e0 := byt_eq s 0 (by omega)
  rw [num1] at hf
  have bb := byt_bd s 0
  have f1 : (byt s 0 != 69) = true := by simp [hf]
  unfold none' hv
  go_enter Tryz.func13, Tryz.ntmps13
  go_wp2
  refine ⟨rfl, .tuple #[.agg #[.int .i64 0, .int .i64 0, .int .i64 0, .int .i64 0, .int .i64 0, .int .u32 0, .int .u32 0, .string ⟨#[]⟩], .int .i64 3], ?_, rfl, (Below.refl _ _).alloc (Nat.le_refl _) _⟩
  simp [results, Tryz.results13, go_sem]
set_option maxHeartbeats 2000000 in
theorem rparse_short1 (s : ByteArray) (w : World) (hs : s.size ≤ 9223372036854775807) (h : 20 ≤ s.size) (hf : num (byt s) 0 1 = 69) (hg : said s < 20) :
    Calls Tryz.prog 13 #[.string s] w fun e w' => e = .returned (.tuple #[none', .int .i64 1]) ∧ Below w.heap.size w w' := by
  have N : Hid (∀ w, _) := fun w => rnum2 s w 2 4 rfl (by omega)
  have bd := num2_bd s 2
  unfold said at *
  have e0 := byt_eq s 0 (by omega)
  rw [num1] at hf
  have f0 : (byt s 0 != 69) = false := by simp [hf]
  generalize num (byt s) 2 2 = n at *
  have f1 : decide (n < 20) = true := by simp; omega
  unfold none' hv
  go_enter Tryz.func13, Tryz.ntmps13
  go_wp2_with (go_at_call 24; refine (N.out _).mono ?_; rintro e w' ⟨rfl, rfl⟩)
  refine ⟨rfl, .tuple #[.agg #[.int .i64 0, .int .i64 0, .int .i64 0, .int .i64 0, .int .i64 0, .int .u32 0, .int .u32 0, .string ⟨#[]⟩], .int .i64 1], ?_, rfl, (Below.refl _ _).alloc (Nat.le_refl _) _⟩
  simp [results, Tryz.results13, go_sem]
set_option maxHeartbeats 2000000 in
theorem rparse_short2 (s : ByteArray) (w : World) (hs : s.size ≤ 9223372036854775807) (h : 20 ≤ s.size) (hf : num (byt s) 0 1 = 69) (hg : ¬ said s < 20) (hl : s.size < said s) :
    Calls Tryz.prog 13 #[.string s] w fun e w' => e = .returned (.tuple #[none', .int .i64 1]) ∧ Below w.heap.size w w' := by
  have N : Hid (∀ w, _) := fun w => rnum2 s w 2 4 rfl (by omega)
  have bd := num2_bd s 2
  unfold said at *
  have e0 := byt_eq s 0 (by omega)
  rw [num1] at hf
  have f0 : (byt s 0 != 69) = false := by simp [hf]
  generalize num (byt s) 2 2 = n at *
  have f1 : decide (n < 20) = false := by simp; omega
  have f2 : decide ((s.size : Int) < n) = true := by simp; omega
  unfold none' hv
  go_enter Tryz.func13, Tryz.ntmps13
  go_wp2_with (go_at_call 24; refine (N.out _).mono ?_; rintro e w' ⟨rfl, rfl⟩)
  refine ⟨rfl, .tuple #[.agg #[.int .i64 0, .int .i64 0, .int .i64 0, .int .i64 0, .int .i64 0, .int .u32 0, .int .u32 0, .string ⟨#[]⟩], .int .i64 1], ?_, rfl, (Below.refl _ _).alloc (Nat.le_refl _) _⟩
  simp [results, Tryz.results13, go_sem]
set_option maxHeartbeats 2000000 in
theorem rparse_more (s : ByteArray) (w : World) (hs : s.size ≤ 9223372036854775807) (h : 20 ≤ s.size) (hf : num (byt s) 0 1 = 69) (hg : 20 ≤ said s) (hl : said s < s.size) :
    Calls Tryz.prog 13 #[.string s] w fun e w' => e = .returned (.tuple #[none', .int .i64 6]) ∧ Below w.heap.size w w' := by
  have N : Hid (∀ w, _) := fun w => rnum2 s w 2 4 rfl (by omega)
  have bd := num2_bd s 2
  unfold said at *
  have e0 := byt_eq s 0 (by omega)
  rw [num1] at hf
  have f0 : (byt s 0 != 69) = false := by simp [hf]
  generalize num (byt s) 2 2 = n at *
  have f1 : decide (n < 20) = false := by simp; omega
  have f2 : decide ((s.size : Int) < n) = false := by simp; omega
  have f3 : decide (n < (s.size : Int)) = true := by simp; omega
  unfold none' hv
  go_enter Tryz.func13, Tryz.ntmps13
  go_wp2_with (go_at_call 24; refine (N.out _).mono ?_; rintro e w' ⟨rfl, rfl⟩)
  refine ⟨rfl, .tuple #[.agg #[.int .i64 0, .int .i64 0, .int .i64 0, .int .i64 0, .int .i64 0, .int .u32 0, .int .u32 0, .string ⟨#[]⟩], .int .i64 6], ?_, rfl, (Below.refl _ _).alloc (Nat.le_refl _) _⟩
  simp [results, Tryz.results13, go_sem]
end Go.Proofs.YtndaohiecpdmlaaGreat
namespace Go.Proofs.YtndaohiecpdmlaaGreat
open Go.RowKit
section
variable {P : Program} {ops : Array Oper} {Q : Exit → Act → World → Prop} {md : Region.Mode}

/-- Whatever operation j leaves, a slot that it does not write reads as it did. -/
theorem wpOp_slot {j : Nat} {oj : Oper} {K : Act → World → Prop} {a : Act} {w : World} {k : Nat} {x : Value} (hj : ops[j]? = some oj) (hd : oj.dst ≠ some k) (hx : a.eval (.tmp k) = x)
    (h : wpOp P ops Q j K a w) : wpOp P ops Q j (fun a' w' => K a' w' ∧ a'.eval (.tmp k) = x) a w := by
  have put : ∀ (b : Act) (u : Value), b.eval (.tmp k) = x → (b.put oj.dst u).eval (.tmp k) = x := fun b u hb => by
    rw [← hb]
    cases e : oj.dst with
    | none => rfl
    | some d =>
      have : d ≠ k := fun h => hd (by rw [e, h])
      simp [Act.put, Act.eval, Array.getElem?_setIfInBounds_ne this]
  have h1 := fun u => put a u hx
  have h2 := fun d u => put { a with defers := d :: a.defers } u hx
  unfold wpOp at *
  simp only [hj] at *
  by_cases hw : Region.wanted oj (yielded ops a.tmps) = true
  · simp only [hw, if_true] at h ⊢
    refine h.imp (fun h => ?_) id
    unfold Oper.wp at *
    generalize (execOp a.eval oj).run P w = r at *
    cases r with
    | ok n w' =>
      cases n <;> simp only [Oper.upon] at h ⊢
      case value => exact ⟨h, h1 _⟩
      case skip => exact ⟨h, h1 _⟩
      case defer => exact ⟨h, h2 _ _⟩
      case enter f args =>
        refine Calls.mono h fun e w'' he => ?_
        cases e with
        | returned u => exact ⟨he, h1 u⟩
        | panicked c => exact he
        | outgrown => exact he
      case row row args => exact Rows.mono h fun u w'' he => ⟨he, h1 u⟩
    | halt z w' => cases z <;> exact h
  · simp only [hw] at h ⊢
    exact ⟨h, h1 _⟩

/-- A call whose one argument lies in slot k: taken first. -/
theorem wpAny_call_first {i : Nat} {oi : Oper} {v x : Value} {k : Nat} (hi : ops[i]? = some oi) (hsel : ∀ (j : Nat) (o : Oper) cs b, ops[j]? = some o → o.op ≠ .select cs b)
    (hQ : ∀ c a w, Q (.panic c) (a.put oi.dst v) w → Q (.panic c) a w) (hwant : ∀ a : Act, Region.wanted oi (yielded ops a.tmps) = true)
    (hrun : ∀ (a : Act) (w : World) (K : Act → World → Prop), a.eval (.tmp k) = x → K (a.put oi.dst v) w → oi.wp P a w K Q) :
    ∀ (fuel : Nat) (listed : Array Bool) (a : Act) (w : World),
      (∀ j oj, ops[j]? = some oj → j ≠ i → listed.getD j true = false → (∀ e ∈ oj.after, Region.binds md e = true → e.on ≠ i) → oi.apart ops oj = true ∧ oj.dst ≠ some k) →
      i ∈ Region.ready md ops listed → a.eval (.tmp k) = x →
      wpAny P md ops Q fuel (listed.setIfInBounds i true) (a.put oi.dst v) w → wpAny P md ops Q (fuel + 1) listed a w := by
  have own : ∀ (a : Act) (w : World) (K : Act → World → Prop), a.eval (.tmp k) = x → K (a.put oi.dst v) w → wpOp P ops Q i K a w := fun a w K hx hK => by
    unfold wpOp
    simp only [hi, hwant a, if_true]
    exact .inl (hrun a w K hx hK)
  intro fuel
  induction fuel with
  | zero =>
    intro listed a w _ hr hx H
    refine ⟨fun h => (by rw [h] at hr; cases hr), fun j hj => ?_⟩
    by_cases hji : j = i
    · subst hji; exact own a w _ hx H
    · have := ready_mono hj hji
      rw [H.1] at this
      cases this
  | succ fuel ih =>
    intro listed a w hfree hr hx H
    refine ⟨fun h => (by rw [h] at hr; cases hr), fun j hj => ?_⟩
    by_cases hji : j = i
    · subst hji; exact own a w _ hx H
    · have h1 := H.2 j (ready_mono hj hji)
      obtain ⟨hjun, oj, hoj, hall⟩ := mem_ready.1 hj
      have hnot : ∀ e ∈ oj.after, Region.binds md e = true → e.on ≠ i := fun e he hb heq => by
        have a1 := hall e he hb
        have a0 := (mem_ready.1 hr).1
        rw [heq] at a1
        cases hg : listed[i]? with
        | none => simp [hg] at a0
        | some b => simp [hg] at a0 a1; rw [a0] at a1; cases a1
      obtain ⟨hap, hds⟩ := hfree j oj hoj hji hjun hnot
      have h2 := wpOp_putIf (S := fun _ => False) hoj hap (fun cs b => hsel i oi cs b hi) (fun cs b => hsel j oj cs b hoj) hQ (.inl ⟨hwant a, fun _ h => h.elim⟩) h1
      have h3 := wpOp_slot hoj hds hx h2
      refine wpOp_mono (fun a' w' h4 => ih (listed.setIfInBounds j true) a' w' ?_ (ready_mono hr (Ne.symm hji)) h4.2 ?_) h3
      · intro l ol hl hli hun hno
        refine hfree l ol hl hli ?_ hno
        by_cases hjl : j = l
        · subst hjl; exact hjun
        · rw [getD_set_ne true hjl] at hun; exact hun
      · rw [Array.setIfInBounds_comm _ _ hji]
        exact h4.1.2

/-- The side conditions, as Bools for the kernel. -/
def freeOf (md : Region.Mode) (ops : Array Oper) (listed : Array Bool) (i k : Nat) : Bool :=
  match ops[i]? with
  | none => false
  | some oi => (List.range ops.size).all fun j => j == i || listed.getD j true || match ops[j]? with
      | some oj => oj.after.any (fun e => Region.binds md e && e.on == i) || (oi.apart ops oj && oj.dst != some k)
      | none => true
theorem wpAny_call {i : Nat} {oi : Oper} {v x : Value} {k fuel : Nat} {listed : Array Bool} {a : Act} {w : World} (hi : ops[i]? = some oi) (hs : Region.noSelect ops = true) (hf : freeOf md ops listed i k = true)
    (hr : (Region.ready md ops listed).contains i = true) (hQ : ∀ c a w, Q (.panic c) (a.put oi.dst v) w → Q (.panic c) a w) (hg : oi.guard = none)
    (hrun : ∀ (a : Act) (w : World) (K : Act → World → Prop), a.eval (.tmp k) = x → K (a.put oi.dst v) w → oi.wp P a w K Q) (hx : a.eval (.tmp k) = x)
    (h : wpAny P md ops Q fuel (listed.setIfInBounds i true) (a.put oi.dst v) w) : wpAny P md ops Q (fuel + 1) listed a w := by
  refine wpAny_call_first hi (Region.noSelect_spec hs) hQ (fun a => by simp [Region.wanted, hg]) hrun fuel listed a w ?_ (by simpa using hr) hx h
  intro j oj hj hji hun hno
  simp only [freeOf, hi, List.all_eq_true, List.mem_range] at hf
  have h1 := hf j (Array.getElem?_eq_some_iff.1 hj).1
  simp only [hj, Bool.or_eq_true, beq_iff_eq, hji, false_or, hun, Bool.false_eq_true, Bool.and_eq_true, bne_iff_ne] at h1
  rcases h1 with h1 | h1
  · obtain ⟨e, he, hb⟩ := Array.any_eq_true'.1 h1
    simp only [Bool.and_eq_true, beq_iff_eq] at hb
    exact absurd hb.2 (hno e he hb.1)
  · exact h1
/-- The same two moves, the slot written out. -/
theorem take_slot {i d : Nat} {oi : Oper} {v : Value} {fuel : Nat} {listed : Array Bool} {a : Act} {w : World} (hi : ops[i]? = some oi) (hd : oi.dst = some d)
    (hs : Region.noSelect ops = true) (hf : Region.free md ops listed i = true) (hr : (Region.ready md ops listed).contains i = true)
    (hQ : ∀ c a w, Q (.panic c) (a.put (some d) v) w → Q (.panic c) a w) (hg : oi.guard = none) (hy : ∀ w, (execOp a.eval oi).run P w = .ok (.value v) w)
    (h : wpAny P md ops Q fuel (listed.setIfInBounds i true) (a.put (some d) v) w) : wpAny P md ops Q (fuel + 1) listed a w :=
  wpAny_take hi hs hf hr (by rw [hd]; exact hQ) (.inl ⟨by simp [Region.wanted, hg], hy⟩) (by rw [hd]; exact h)
theorem call_slot {i d : Nat} {oi : Oper} {v x : Value} {k fuel : Nat} {listed : Array Bool} {a : Act} {w : World} (hi : ops[i]? = some oi) (hd : oi.dst = some d) (hs : Region.noSelect ops = true) (hf : freeOf md ops listed i k = true)
    (hr : (Region.ready md ops listed).contains i = true) (hQ : ∀ c a w, Q (.panic c) (a.put (some d) v) w → Q (.panic c) a w) (hg : oi.guard = none)
    (hrun : ∀ (a : Act) (w : World) (K : Act → World → Prop), a.eval (.tmp k) = x → K (a.put oi.dst v) w → oi.wp P a w K Q) (hx : a.eval (.tmp k) = x)
    (h : wpAny P md ops Q fuel (listed.setIfInBounds i true) (a.put (some d) v) w) : wpAny P md ops Q (fuel + 1) listed a w :=
  wpAny_call hi hs hf hr (by rw [hd]; exact hQ) hg hrun hx (by rw [hd]; exact h)
end
end Go.Proofs.YtndaohiecpdmlaaGreat
namespace Go.Proofs.YtndaohiecpdmlaaGreat
open Go.RowKit
/-- A call of Number whose argument lies in slot k. -/
theorem number_wp (o : Oper) (k : Nat) {x v : Value} (ho : o.op = .call { callee := .value (.func 24), args := #[.tmp k], argTypes := #[9] }) (N : ∀ w, Calls Tryz.prog 24 #[x] w fun e w' => e = .returned v ∧ w = w')
    (a : Act) (w : World) (K : Act → World → Prop) (Q : Exit → Act → World → Prop) (hx : a.eval (.tmp k) = x) (hK : K (a.put o.dst v) w) : o.wp Tryz.prog a w K Q := by
  unfold Oper.wp
  have hr : (execOp a.eval o).run Tryz.prog w = .ok (.enter 24 #[x]) w := by
    unfold execOp
    rw [ho]
    simp only [go_sem] at hx ⊢
    simp [go_sem, hx]
  rw [hr]
  exact (N w).mono fun e w' ⟨he, hw⟩ => by subst he; subst hw; exact hK
set_option maxRecDepth 100000 in
set_option maxHeartbeats 4000000 in
theorem rparse_core (s : ByteArray) (w : World) (t : ByteArray) (x : Bool) (v : Value) (r : Int) (hs : s.size ≤ 9223372036854775807) (h : 20 ≤ s.size) (hf : num (byt s) 0 1 = 69) (hl : said s = s.size)
    (hB : Hid (∀ w, Calls Tryz.prog 25 #[hdOf s] w fun e w' => e = .returned (.tuple #[.string t, .int .i64 0]) ∧ Below w.heap.size w w')) (ht : (t.toList == s.toList) = x)
    (hx : (x = false ∧ v = none' ∧ r = 9) ∨ (x = true ∧ v = hdOf s ∧ r = 0)) :
    Calls Tryz.prog 13 #[.string s] w fun e w' => e = .returned (.tuple #[v, .int .i64 r]) ∧ Below w.heap.size w w' := by
  have N2 : Hid (∀ w, _) := fun w => rnum2 s w 2 4 rfl (by omega)
  unfold said at hl
  have N4 : Hid (∀ w, _) := fun w => rnum2 s w 4 6 rfl (by omega)
  have N6 : Hid (∀ w, _) := fun w => rnum2 s w 6 8 rfl (by omega)
  have N12 : Hid (∀ w, _) := fun w => rnum4 s w 12 16 rfl (by omega)
  have N16 : Hid (∀ w, _) := fun w => rnum4 s w 16 20 rfl (by omega)
  have b4 := num2_bd s 4; have b6 := num2_bd s 6; have b12 := num4_bd s 12; have b16 := num4_bd s 16
  have bd := num2_bd s 2
  have e0 := byt_eq s 0 (Nat.lt_of_lt_of_le (by decide) h); have e1 := byt_eq s 1 (Nat.lt_of_lt_of_le (by decide) h); have e8 := byt_eq s 8 (Nat.lt_of_lt_of_le (by decide) h); have e9 := byt_eq s 9 (Nat.lt_of_lt_of_le (by decide) h)
  have a1 := byt_bd s 1; have a8 := byt_bd s 8; have a9 := byt_bd s 9
  rw [num1] at hf
  have f0 : (byt s 0 != 69) = false := by simp [hf]
  have q4 : (4 : Int) ≤ s.size := by omega
  have q6 : (6 : Int) ≤ s.size := by omega
  have q8 : (8 : Int) ≤ s.size := by omega
  have q16 : (16 : Int) ≤ s.size := by omega
  have q20 : (20 : Int) ≤ s.size := by omega
  have l1 : (1 : Int) < s.size := by omega
  have l8 : (8 : Int) < s.size := by omega
  have l9 : (9 : Int) < s.size := by omega
  unfold hdOf at *
  rw [num1, num1, num1] at *
  rw [hl] at N2 bd
  generalize num (byt s) 4 2 = id at *
  generalize num (byt s) 6 2 = frag at *
  generalize num (byt s) 12 4 = src at *
  generalize num (byt s) 16 4 = dst at *
  have f1 : decide ((s.size : Int) < 20) = false := by simp; omega
  clear hl
  unfold none' hv at *
  have w12 : IntKind.u32.wrap src = src := by simp [IntKind.wrap, IntKind.bits, IntKind.signed]; omega
  have w16 : IntKind.u32.wrap dst = dst := by simp [IntKind.wrap, IntKind.bits, IntKind.signed]; omega
  have w1 : IntKind.i64.wrap (byt s 1) = byt s 1 := by simp [IntKind.wrap, IntKind.bits, IntKind.signed]; omega
  have w8 : IntKind.i64.wrap (byt s 8) = byt s 8 := by simp [IntKind.wrap, IntKind.bits, IntKind.signed]; omega
  have w9 : IntKind.i64.wrap (byt s 9) = byt s 9 := by simp [IntKind.wrap, IntKind.bits, IntKind.signed]; omega
  generalize byt s 1 = tos at *
  generalize byt s 8 = ttl at *
  generalize byt s 9 = proto at *
  go_enter Tryz.func13, Tryz.ntmps13
  go_wp2_with (go_at_call 24; refine (N2.out _).mono ?_; rintro e w' ⟨rfl, rfl⟩)
  clear N2
  replace hx : Hid _ := hx
  replace ht : Hid _ := ht
  clear bd b4 b6 a1 a8 a9 f0 f1 hf
  refine wp_region_any (by kernel_rfl) ?_
  change wpAny _ .any _ _ 28 (Array.replicate 28 false) _ (w.alloc (.cells #[.int .i64 0, .int .i64 0, .int .i64 0, .int .i64 0, .int .i64 0, .int .u32 0, .int .u32 0, .string ⟨#[]⟩] 40)).drew
  refine take_slot (i := 0) (d := 35) (v := .string s) rfl rfl (by kernel_rfl) (by kernel_rfl) (by kernel_rfl) (fun _ _ _ h => h) rfl (fun w => by go_simp) ?_
  refine take_slot (i := 1) (d := 36) (v := .int .u8 tos) rfl rfl (by kernel_rfl) (by kernel_rfl) (by kernel_rfl) (fun _ _ _ h => h) rfl (fun w => by go_simp) ?_
  refine take_slot (i := 2) (d := 37) (v := .int .i64 tos) rfl rfl (by kernel_rfl) (by kernel_rfl) (by kernel_rfl) (fun _ _ _ h => h) rfl (fun w => by go_simp) ?_
  refine take_slot (i := 3) (d := 38) (v := .string s) rfl rfl (by kernel_rfl) (by kernel_rfl) (by kernel_rfl) (fun _ _ _ h => h) rfl (fun w => by go_simp) ?_
  refine take_slot (i := 4) (d := 39) (v := .string (s.extract 4 6)) rfl rfl (by kernel_rfl) (by kernel_rfl) (by kernel_rfl) (fun _ _ _ h => h) rfl (fun w => by go_simp) ?_
  refine call_slot (i := 5) (d := 40) (v := .int .i64 id) (x := .string (s.extract 4 6)) (k := 39) rfl rfl (by kernel_rfl) (by kernel_rfl) (by kernel_rfl) (fun _ _ _ h => h) rfl (fun a w K hx hK => number_wp _ 39 rfl N4.out a w K _ hx hK) (by simp [Act.eval, Act.put]) ?_
  refine take_slot (i := 6) (d := 41) (v := .string s) rfl rfl (by kernel_rfl) (by kernel_rfl) (by kernel_rfl) (fun _ _ _ h => h) rfl (fun w => by go_simp) ?_
  refine take_slot (i := 7) (d := 42) (v := .string (s.extract 6 8)) rfl rfl (by kernel_rfl) (by kernel_rfl) (by kernel_rfl) (fun _ _ _ h => h) rfl (fun w => by go_simp) ?_
  refine call_slot (i := 8) (d := 43) (v := .int .i64 frag) (x := .string (s.extract 6 8)) (k := 42) rfl rfl (by kernel_rfl) (by kernel_rfl) (by kernel_rfl) (fun _ _ _ h => h) rfl (fun a w K hx hK => number_wp _ 42 rfl N6.out a w K _ hx hK) (by simp [Act.eval, Act.put]) ?_
  refine take_slot (i := 9) (d := 44) (v := .string s) rfl rfl (by kernel_rfl) (by kernel_rfl) (by kernel_rfl) (fun _ _ _ h => h) rfl (fun w => by go_simp) ?_
  refine take_slot (i := 10) (d := 45) (v := .int .u8 ttl) rfl rfl (by kernel_rfl) (by kernel_rfl) (by kernel_rfl) (fun _ _ _ h => h) rfl (fun w => by go_simp) ?_
  refine take_slot (i := 11) (d := 46) (v := .int .i64 ttl) rfl rfl (by kernel_rfl) (by kernel_rfl) (by kernel_rfl) (fun _ _ _ h => h) rfl (fun w => by go_simp) ?_
  refine take_slot (i := 12) (d := 47) (v := .string s) rfl rfl (by kernel_rfl) (by kernel_rfl) (by kernel_rfl) (fun _ _ _ h => h) rfl (fun w => by go_simp) ?_
  refine take_slot (i := 13) (d := 48) (v := .int .u8 proto) rfl rfl (by kernel_rfl) (by kernel_rfl) (by kernel_rfl) (fun _ _ _ h => h) rfl (fun w => by go_simp) ?_
  refine take_slot (i := 14) (d := 49) (v := .int .i64 proto) rfl rfl (by kernel_rfl) (by kernel_rfl) (by kernel_rfl) (fun _ _ _ h => h) rfl (fun w => by go_simp) ?_
  refine take_slot (i := 15) (d := 50) (v := .string s) rfl rfl (by kernel_rfl) (by kernel_rfl) (by kernel_rfl) (fun _ _ _ h => h) rfl (fun w => by go_simp) ?_
  refine take_slot (i := 16) (d := 51) (v := .string (s.extract 12 16)) rfl rfl (by kernel_rfl) (by kernel_rfl) (by kernel_rfl) (fun _ _ _ h => h) rfl (fun w => by go_simp) ?_
  refine call_slot (i := 17) (d := 52) (v := .int .i64 src) (x := .string (s.extract 12 16)) (k := 51) rfl rfl (by kernel_rfl) (by kernel_rfl) (by kernel_rfl) (fun _ _ _ h => h) rfl (fun a w K hx hK => number_wp _ 51 rfl N12.out a w K _ hx hK) (by simp [Act.eval, Act.put]) ?_
  refine take_slot (i := 18) (d := 53) (v := .int .u32 src) rfl rfl (by kernel_rfl) (by kernel_rfl) (by kernel_rfl) (fun _ _ _ h => h) rfl (fun w => by go_simp) ?_
  refine take_slot (i := 19) (d := 54) (v := .string s) rfl rfl (by kernel_rfl) (by kernel_rfl) (by kernel_rfl) (fun _ _ _ h => h) rfl (fun w => by go_simp) ?_
  refine take_slot (i := 20) (d := 55) (v := .string (s.extract 16 20)) rfl rfl (by kernel_rfl) (by kernel_rfl) (by kernel_rfl) (fun _ _ _ h => h) rfl (fun w => by go_simp) ?_
  refine call_slot (i := 21) (d := 56) (v := .int .i64 dst) (x := .string (s.extract 16 20)) (k := 55) rfl rfl (by kernel_rfl) (by kernel_rfl) (by kernel_rfl) (fun _ _ _ h => h) rfl (fun a w K hx hK => number_wp _ 55 rfl N16.out a w K _ hx hK) (by simp [Act.eval, Act.put]) ?_
  refine take_slot (i := 22) (d := 57) (v := .int .u32 dst) rfl rfl (by kernel_rfl) (by kernel_rfl) (by kernel_rfl) (fun _ _ _ h => h) rfl (fun w => by go_simp) ?_
  refine take_slot (i := 23) (d := 58) (v := .string s) rfl rfl (by kernel_rfl) (by kernel_rfl) (by kernel_rfl) (fun _ _ _ h => h) rfl (fun w => by go_simp) ?_
  refine take_slot (i := 24) (d := 59) (v := .string (s.extract 20 s.size)) rfl rfl (by kernel_rfl) (by kernel_rfl) (by kernel_rfl) (fun _ _ _ h => h) rfl (fun w => by go_simp) ?_
  refine take_slot (i := 25) (d := 60) (v := .agg #[.int .i64 tos, .int .i64 id, .int .i64 frag, .int .i64 ttl, .int .i64 proto, .int .u32 src, .int .u32 dst, .string (s.extract 20 s.size)]) rfl rfl (by kernel_rfl) (by kernel_rfl) (by kernel_rfl) (fun _ _ _ h => h) rfl (fun w => by go_simp) ?_
  simp only [Act.put, List.setIfInBounds_toArray, List.set_cons_succ, List.set_cons_zero]
  refine wpAny_all (rs := [26]) (by kernel_rfl) (by simp) (fun i hi => ?_)
  obtain rfl : i = 26 := by simpa using hi
  refine wpOp_step rfl (fun K' hK => ?_)
  clear hi
  go_simp
  refine hK _ _ ?_
  clear hK K'
  refine wpAny_all (rs := [27]) (by kernel_rfl) (by simp) (fun i hi => ?_)
  obtain rfl : i = 27 := by simpa using hi
  refine wpOp_step rfl (fun K' hK => ?_)
  clear hi
  go_simp
  refine hK _ _ ?_
  clear hK K'
  refine wpAny_done (by kernel_rfl) ?_ 0
  clear N4 N6 N12 N16 e0 e1 e8 e9 q4 q6 q8 q16 q20 l1 l8 l9 w12 w16 w1 w8 w9
  have m0 : 0 < 8 := by decide
  have m1 : 1 < 8 := by decide
  have m2 : 2 < 8 := by decide
  have m3 : 3 < 8 := by decide
  have m4 : 4 < 8 := by decide
  have m5 : 5 < 8 := by decide
  have m6 : 6 < 8 := by decide
  have m7 : 7 < 8 := by decide
  have XX : Hid (∀ w1, Below ((w.alloc (.cells #[.int .i64 0, .int .i64 0, .int .i64 0, .int .i64 0, .int .i64 0, .int .u32 0, .int .u32 0, .string ⟨#[]⟩] 40)).drew.alloc (.cells #[.int .i64 tos, .int .i64 id, .int .i64 frag, .int .i64 ttl, .int .i64 proto, .int .u32 src, .int .u32 dst, .string (s.extract 20 s.size)] 40)).heap.size ((w.alloc (.cells #[.int .i64 0, .int .i64 0, .int .i64 0, .int .i64 0, .int .i64 0, .int .u32 0, .int .u32 0, .string ⟨#[]⟩] 40)).drew.alloc (.cells #[.int .i64 tos, .int .i64 id, .int .i64 frag, .int .i64 ttl, .int .i64 proto, .int .u32 src, .int .u32 dst, .string (s.extract 20 s.size)] 40)) w1 → Box w1 (w.heap.size + 1) tos id frag ttl proto src dst (s.extract 20 s.size)) := fun w1 b => by
    have hbx := (box_new (w.alloc (.cells #[.int .i64 0, .int .i64 0, .int .i64 0, .int .i64 0, .int .i64 0, .int .u32 0, .int .u32 0, .string ⟨#[]⟩] 40)).drew tos id frag ttl proto src dst (s.extract 20 s.size)).keep (by simp) b
    simpa using hbx
  have RR : Hid (∀ w1, Below ((w.alloc (.cells #[.int .i64 0, .int .i64 0, .int .i64 0, .int .i64 0, .int .i64 0, .int .u32 0, .int .u32 0, .string ⟨#[]⟩] 40)).drew.alloc (.cells #[.int .i64 tos, .int .i64 id, .int .i64 frag, .int .i64 ttl, .int .i64 proto, .int .u32 src, .int .u32 dst, .string (s.extract 20 s.size)] 40)).heap.size ((w.alloc (.cells #[.int .i64 0, .int .i64 0, .int .i64 0, .int .i64 0, .int .i64 0, .int .u32 0, .int .u32 0, .string ⟨#[]⟩] 40)).drew.alloc (.cells #[.int .i64 tos, .int .i64 id, .int .i64 frag, .int .i64 ttl, .int .i64 proto, .int .u32 src, .int .u32 dst, .string (s.extract 20 s.size)] 40)) w1 → HB w1 w.heap.size zs) := fun w1 b => by
    have h1 : HB (w.alloc (.cells #[.int .i64 0, .int .i64 0, .int .i64 0, .int .i64 0, .int .i64 0, .int .u32 0, .int .u32 0, .string ⟨#[]⟩] 40)).drew w.heap.size zs := ⟨(hb_new w).lt, (hb_new w).at'⟩
    exact (h1.alloc (.cells #[.int .i64 tos, .int .i64 id, .int .i64 frag, .int .i64 ttl, .int .i64 proto, .int .u32 src, .int .u32 dst, .string (s.extract 20 s.size)] 40)).below b (by simp; omega)
  have ZZ1 : Hid (∀ w1, Below ((w.alloc (.cells #[.int .i64 0, .int .i64 0, .int .i64 0, .int .i64 0, .int .i64 0, .int .u32 0, .int .u32 0, .string ⟨#[]⟩] 40)).drew.alloc (.cells #[.int .i64 tos, .int .i64 id, .int .i64 frag, .int .i64 ttl, .int .i64 proto, .int .u32 src, .int .u32 dst, .string (s.extract 20 s.size)] 40)).heap.size ((w.alloc (.cells #[.int .i64 0, .int .i64 0, .int .i64 0, .int .i64 0, .int .i64 0, .int .u32 0, .int .u32 0, .string ⟨#[]⟩] 40)).drew.alloc (.cells #[.int .i64 tos, .int .i64 id, .int .i64 frag, .int .i64 ttl, .int .i64 proto, .int .u32 src, .int .u32 dst, .string (s.extract 20 s.size)] 40)) w1 → Below w.heap.size w w1) := fun w1 b =>
    (((Below.refl _ _).alloc (Nat.le_refl _) _).drew.alloc (by simp) _).trans (b.mono (by simp; omega))
  rcases hx.out with ⟨rfl, rfl, rfl⟩ | ⟨rfl, rfl, rfl⟩
  · replace ht := ht.out
    clear hx
    go_wp2_with (go_at_call 25; refine (hB.out _).mono ?_; rintro e w1 ⟨rfl, b1⟩; have X1 := XX.out _ b1; have R1 := RR.out _ b1; have Z1 : Hid _ := ZZ1.out _ b1; obtain ⟨lx, c0, c1, c2, c3, c4, c5, c6, c7⟩ := X1; obtain ⟨lr, ra⟩ := R1; obtain ⟨g0, z0⟩ := ra 0 m0; obtain ⟨g1, z1⟩ := ra 1 m1; obtain ⟨g2, z2⟩ := ra 2 m2; obtain ⟨g3, z3⟩ := ra 3 m3; obtain ⟨g4, z4⟩ := ra 4 m4; obtain ⟨g5, z5⟩ := ra 5 m5; obtain ⟨g6, z6⟩ := ra 6 m6; obtain ⟨g7, z7⟩ := ra 7 m7; clear ra XX RR ZZ1 b1)
    refine ⟨rfl, .tuple #[.agg #[.int .i64 0, .int .i64 0, .int .i64 0, .int .i64 0, .int .i64 0, .int .u32 0, .int .u32 0, .string ⟨#[]⟩], .int .i64 9], ?_, rfl, ?_⟩
    · simp [results, Tryz.results13, go_sem, *]
    · have hn := Nat.le_refl w.heap.size
      exact (((((((Z1.out.setCell (p := ⟨w.heap.size, 0, none⟩) hn _).setCell (p := ⟨w.heap.size, 1, none⟩) hn _).setCell (p := ⟨w.heap.size, 2, none⟩) hn _).setCell (p := ⟨w.heap.size, 3, none⟩) hn _).setCell (p := ⟨w.heap.size, 4, none⟩) hn _).setCell (p := ⟨w.heap.size, 5, none⟩) hn _).setCell (p := ⟨w.heap.size, 6, none⟩) hn _).setCell (p := ⟨w.heap.size, 7, none⟩) hn _
  · replace ht := ht.out
    clear hx
    go_wp2_with (go_at_call 25; refine (hB.out _).mono ?_; rintro e w1 ⟨rfl, b1⟩; have X1 := XX.out _ b1; have R1 := RR.out _ b1; have Z1 : Hid _ := ZZ1.out _ b1; obtain ⟨lx, c0, c1, c2, c3, c4, c5, c6, c7⟩ := X1; obtain ⟨lr, ra⟩ := R1; obtain ⟨g0, z0⟩ := ra 0 m0; obtain ⟨g1, z1⟩ := ra 1 m1; obtain ⟨g2, z2⟩ := ra 2 m2; obtain ⟨g3, z3⟩ := ra 3 m3; obtain ⟨g4, z4⟩ := ra 4 m4; obtain ⟨g5, z5⟩ := ra 5 m5; obtain ⟨g6, z6⟩ := ra 6 m6; obtain ⟨g7, z7⟩ := ra 7 m7; clear ra XX RR ZZ1 b1)
    refine ⟨rfl, .tuple #[.agg #[.int .i64 tos, .int .i64 id, .int .i64 frag, .int .i64 ttl, .int .i64 proto, .int .u32 src, .int .u32 dst, .string (s.extract 20 s.size)], .int .i64 0], ?_, rfl, ?_⟩
    · simp [results, Tryz.results13, go_sem, *]
    · have hn := Nat.le_refl w.heap.size
      exact (((((((Z1.out.setCell (p := ⟨w.heap.size, 0, none⟩) hn _).setCell (p := ⟨w.heap.size, 1, none⟩) hn _).setCell (p := ⟨w.heap.size, 2, none⟩) hn _).setCell (p := ⟨w.heap.size, 3, none⟩) hn _).setCell (p := ⟨w.heap.size, 4, none⟩) hn _).setCell (p := ⟨w.heap.size, 5, none⟩) hn _).setCell (p := ⟨w.heap.size, 6, none⟩) hn _).setCell (p := ⟨w.heap.size, 7, none⟩) hn _
theorem list_eq (a b : ByteArray) (h : a.toList = b.toList) : a = b := by
  rw [ByteArray.toList_eq, ByteArray.toList_eq] at h
  exact ByteArray.ext (Array.toList_inj.1 h)
theorem data_small (s : ByteArray) (h : said s = s.size) : (s.extract 20 s.size).size ≤ 65515 ∨ s.size < 20 := by
  have := num2_bd s 2
  unfold said at h
  rw [ByteArray.size_extract]
  omega
theorem rbuild_again (s : ByteArray) (w : World) (h20 : 20 ≤ s.size) (hl : said s = s.size) :
    Calls Tryz.prog 25 #[hdOf s] w fun e w' => e = .returned (.tuple #[.string (pktOf s), .int .i64 0]) ∧ Below w.heap.size w w' :=
  rbuild_ok _ _ _ _ _ _ _ (s.extract 20 s.size) w (hok_of s) ((data_small s hl).resolve_right (by omega)) (num4_bd s 12).1 (num4_bd s 12).2 (num4_bd s 16).1 (num4_bd s 16).2
theorem rparse_ok (s : ByteArray) (w : World) (hs : s.size ≤ 9223372036854775807) :
    Calls Tryz.prog 13 #[.string s] w fun e w' => e = .returned (.tuple #[valOf s, .int .i64 (errOf s)]) ∧ Below w.heap.size w w' := by
  by_cases hg : Good s
  · have he := err_good s hg
    unfold valOf
    rw [he, if_pos rfl]
    refine rparse_core s w (pktOf s) true _ _ hs hg.1 hg.2.1 hg.2.2.1 (fun w => rbuild_again s w hg.1 hg.2.2.1) ?_ (.inr ⟨rfl, rfl, rfl⟩)
    rw [again_good s hg]
    simp
  have hne : errOf s ≠ 0 := fun e => hg (good_err s e)
  unfold valOf
  rw [if_neg hne]
  unfold errOf
  by_cases h1 : s.size < 20
  · rw [if_pos h1]
    exact rparse_short0 s w hs h1
  rw [if_neg h1]
  by_cases h2 : num (byt s) 0 1 ≠ 69
  · rw [if_pos h2]
    exact rparse_field s w hs (by omega) h2
  rw [if_neg h2]
  have h2' : num (byt s) 0 1 = 69 := by simpa using h2
  by_cases h3 : (s.size : Int) < said s ∨ said s < 20
  · rw [if_pos h3]
    by_cases h3' : said s < 20
    · exact rparse_short1 s w hs (by omega) h2' h3'
    · exact rparse_short2 s w hs (by omega) h2' h3' (by omega)
  rw [if_neg h3]
  by_cases h4 : said s < s.size
  · rw [if_pos h4]
    exact rparse_more s w hs (by omega) h2' (by omega) h4
  rw [if_neg h4]
  by_cases h5 : num (byt s) 10 2 ≠ right s
  · rw [if_pos h5]
    refine rparse_core s w (pktOf s) false _ _ hs (by omega) h2' (by omega) (fun w => rbuild_again s w (by omega) (by omega)) ?_ (.inl ⟨rfl, rfl, rfl⟩)
    have : ¬ pktOf s = s := fun e => h5 ((again_eq s (by omega) h2' (by omega)).1 e)
    simp only [beq_eq_false_iff_ne, ne_eq]
    exact fun e => this (list_eq _ _ e)
  · exact absurd ⟨by omega, h2', by omega, by simpa using h5⟩ hg
end Go.Proofs.YtndaohiecpdmlaaGreat
namespace Go.Proofs.YtndaohiecpdmlaaGreat
open Go.RowKit

theorem ofInt_i64 (a : Nat) (ha : a < 9223372036854775808) : (BitVec.ofInt 64 (a : Int)).toNat = a := by
  rw [BitVec.ofInt_natCast, BitVec.toNat_ofNat]; exact Nat.mod_eq_of_lt (by omega)
theorem i64_or_nat (a b : Nat) (ha : a < 9223372036854775808) (hb : b < 9223372036854775808) : bits .or .i64 (a : Int) (b : Int) = ((a ||| b : Nat) : Int) := by
  have hx : a ||| b < 2 ^ 63 := Nat.or_lt_two_pow (by omega) (by omega)
  show IntKind.i64.wrap ((BitVec.ofInt 64 (a : Int) ||| BitVec.ofInt 64 (b : Int)).toNat : Int) = _
  rw [BitVec.toNat_or, ofInt_i64 a ha, ofInt_i64 b hb]
  simp [IntKind.wrap, IntKind.bits, IntKind.signed]; omega
theorem or_byte (x b : Int) (h0 : 0 ≤ x) (h : x < 256) (b0 : 0 ≤ b) (hb : b < 256) : bits .or .i64 (x * 256) b = x * 256 + b := by
  obtain ⟨a, rfl⟩ := Int.eq_ofNat_of_zero_le h0
  obtain ⟨c, rfl⟩ := Int.eq_ofNat_of_zero_le b0
  rw [show (a : Int) * 256 = ((a * 256 : Nat) : Int) by omega, i64_or_nat _ _ (by omega) (by omega), nat_join 8 (a * 256) c (by omega) (by omega)]
  omega
theorem u32_and16 (x : Int) (h0 : 0 ≤ x) (h : x < 4294967296) : bits .and .u32 x 65535 = x % 65536 := by
  obtain ⟨a, rfl⟩ := Int.eq_ofNat_of_zero_le h0
  rw [show (65535 : Int) = ((65535 : Nat) : Int) from rfl, u32_and_nat a 65535 (by omega) (by omega), show a &&& 65535 = a % 65536 from Nat.and_two_pow_sub_one_eq_mod a 16]
  omega
/-- The number of the two bytes at a place. -/
def w2 (s : ByteArray) (p : Nat) : Int := byt s p * 256 + byt s (p + 1)
theorem w2_bd (s : ByteArray) (p : Nat) : 0 ≤ w2 s p ∧ w2 s p ≤ 65535 := by
  have := byt_bd s p
  have := byt_bd s (p + 1)
  unfold w2
  omega
set_option maxHeartbeats 1000000 in
theorem two_ok (s : ByteArray) (p : Nat) (w : World) (h : p + 1 < s.size) (hp : p < 100) :
    Calls Tryz.prog 55 #[.string s, .int .i64 p] w fun e w' => e = .returned (.int .i64 (w2 s p)) ∧ ∃ m, w' = w.drewN m := by
  have h1 : (p : Int) < s.size := by omega
  have h2 : (p : Int) + 1 < s.size := by omega
  have e1 := byt_eq s p (by omega)
  have e2 := byt_eq s (p + 1) h
  have b1 := byt_bd s p
  have b2 := byt_bd s (p + 1)
  have ho := or_byte (byt s p) (byt s (p + 1)) b1.1 b1.2 b2.1 b2.2
  unfold w2
  rw [← ho]
  generalize byt s p = x at *
  generalize byt s (p + 1) = y at *
  have hx : ∀ h : p < s.size, ((s[p].toNat : Nat) : Int) = x := fun _ => e1
  have hy : ∀ h : p + 1 < s.size, ((s[p + 1].toNat : Nat) : Int) = y := fun _ => e2
  clear e1 e2 ho
  go_enter Tryz.func55, Tryz.ntmps55
  go_wp2
  go_quiet (fail)
  go_wp2
  go_ret
  exact ⟨rfl, _, rfl⟩
end Go.Proofs.YtndaohiecpdmlaaGreat
namespace Go.Proofs.YtndaohiecpdmlaaGreat
open Go.RowKit

set_option maxHeartbeats 1000000 in
theorem ports_X (tos id frag ttl proto src dst : Int) (data : ByteArray) (w : World) (p17 : (proto != 17) = true) (p6 : (proto != 6) = true) :
    Calls Tryz.prog 35 #[hv tos id frag ttl proto src dst data] w fun e w' => e = .returned (.tuple #[.int .i64 0, .int .i64 0, .bool false]) ∧ Below w.heap.size w w' := by
  unfold hv
  go_enter Tryz.func35, Tryz.ntmps35
  go_wp2
  go_ret3
  exact ⟨rfl, (Below.refl _ _).alloc (Nat.le_refl _) _⟩
set_option maxHeartbeats 1000000 in
theorem ports_F17 (tos id frag ttl src dst : Int) (data : ByteArray) (w : World) (hc : (bits .and .i64 frag 8191 != 0) = true) :
    Calls Tryz.prog 35 #[hv tos id frag ttl 17 src dst data] w fun e w' => e = .returned (.tuple #[.int .i64 0, .int .i64 0, .bool false]) ∧ Below w.heap.size w w' := by
  unfold hv
  go_enter Tryz.func35, Tryz.ntmps35
  go_wp2
  go_ret3
  exact ⟨rfl, (Below.refl _ _).alloc (Nat.le_refl _) _⟩
set_option maxHeartbeats 1000000 in
theorem ports_S17 (tos id frag ttl src dst : Int) (data : ByteArray) (w : World) (hc : (bits .and .i64 frag 8191 != 0) = false) (hd : data.size < 4) :
    Calls Tryz.prog 35 #[hv tos id frag ttl 17 src dst data] w fun e w' => e = .returned (.tuple #[.int .i64 0, .int .i64 0, .bool false]) ∧ Below w.heap.size w w' := by
  have hd' : (data.size : Int) < 4 := by omega
  unfold hv
  go_enter Tryz.func35, Tryz.ntmps35
  go_wp2
  go_ret3
  exact ⟨rfl, (Below.refl _ _).alloc (Nat.le_refl _) _⟩
set_option maxHeartbeats 1000000 in
theorem ports_O17 (tos id frag ttl src dst : Int) (data : ByteArray) (w : World) (hc : (bits .and .i64 frag 8191 != 0) = false) (hd : 4 ≤ data.size) :
    Calls Tryz.prog 35 #[hv tos id frag ttl 17 src dst data] w fun e w' => e = .returned (.tuple #[.int .i64 (w2 data 0), .int .i64 (w2 data 2), .bool true]) ∧ Below w.heap.size w w' := by
  have hd' : ¬ (data.size : Int) < 4 := by omega
  have T0 : Hid (∀ w, _) := fun w => two_ok data 0 w (by omega) (by decide)
  have T2 : Hid (∀ w, _) := fun w => two_ok data 2 w (by omega) (by decide)
  generalize w2 data 0 = x0 at *
  generalize w2 data 2 = x2 at *
  unfold hv
  go_enter Tryz.func35, Tryz.ntmps35
  go_wp2
  go_quiet (first
    | (go_at_call_of 55 (0 : Int); exact Calls.quiet_of (T0.out _))
    | (go_at_call_of 55 (2 : Int); exact Calls.quiet_of (T2.out _)))
  go_wp2
  go_ret3
  exact ⟨rfl, ((Below.refl _ _).alloc (Nat.le_refl _) _).trans ⟨rfl, rfl, rfl, Nat.le_refl _, fun _ _ => rfl⟩⟩
set_option maxHeartbeats 1000000 in
theorem ports_F6 (tos id frag ttl src dst : Int) (data : ByteArray) (w : World) (hc : (bits .and .i64 frag 8191 != 0) = true) :
    Calls Tryz.prog 35 #[hv tos id frag ttl 6 src dst data] w fun e w' => e = .returned (.tuple #[.int .i64 0, .int .i64 0, .bool false]) ∧ Below w.heap.size w w' := by
  unfold hv
  go_enter Tryz.func35, Tryz.ntmps35
  go_wp2
  go_ret3
  exact ⟨rfl, (Below.refl _ _).alloc (Nat.le_refl _) _⟩
set_option maxHeartbeats 1000000 in
theorem ports_S6 (tos id frag ttl src dst : Int) (data : ByteArray) (w : World) (hc : (bits .and .i64 frag 8191 != 0) = false) (hd : data.size < 4) :
    Calls Tryz.prog 35 #[hv tos id frag ttl 6 src dst data] w fun e w' => e = .returned (.tuple #[.int .i64 0, .int .i64 0, .bool false]) ∧ Below w.heap.size w w' := by
  have hd' : (data.size : Int) < 4 := by omega
  unfold hv
  go_enter Tryz.func35, Tryz.ntmps35
  go_wp2
  go_ret3
  exact ⟨rfl, (Below.refl _ _).alloc (Nat.le_refl _) _⟩
set_option maxHeartbeats 1000000 in
theorem ports_O6 (tos id frag ttl src dst : Int) (data : ByteArray) (w : World) (hc : (bits .and .i64 frag 8191 != 0) = false) (hd : 4 ≤ data.size) :
    Calls Tryz.prog 35 #[hv tos id frag ttl 6 src dst data] w fun e w' => e = .returned (.tuple #[.int .i64 (w2 data 0), .int .i64 (w2 data 2), .bool true]) ∧ Below w.heap.size w w' := by
  have hd' : ¬ (data.size : Int) < 4 := by omega
  have T0 : Hid (∀ w, _) := fun w => two_ok data 0 w (by omega) (by decide)
  have T2 : Hid (∀ w, _) := fun w => two_ok data 2 w (by omega) (by decide)
  generalize w2 data 0 = x0 at *
  generalize w2 data 2 = x2 at *
  unfold hv
  go_enter Tryz.func35, Tryz.ntmps35
  go_wp2
  go_quiet (first
    | (go_at_call_of 55 (0 : Int); exact Calls.quiet_of (T0.out _))
    | (go_at_call_of 55 (2 : Int); exact Calls.quiet_of (T2.out _)))
  go_wp2
  go_ret3
  exact ⟨rfl, ((Below.refl _ _).alloc (Nat.le_refl _) _).trans ⟨rfl, rfl, rfl, Nat.le_refl _, fun _ _ => rfl⟩⟩
end Go.Proofs.YtndaohiecpdmlaaGreat
