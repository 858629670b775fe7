/-
  What the document's own Addresses answers. No condition but the form's own reach.
-/
import Derived.Test.YtihkbakbciejiaaDoorCpGram
import Derived.Test.YtihkbakbciejiaaDoorPfRef
import Derived.Deep.RegionLaw
namespace Go.Proofs.YtihkbakbciejiaaDoor
set_option maxRecDepth 100000
open Go.RowKit

theorem info_adr : ∃ i, Tryd.prog.info? 50 = some i ∧ i.zero = some (.agg #[.int .i64 0, .int .u32 0, .int .i64 0]) ∧ i.size = 3 ∧ i.bytes = 24 := by
  have h : (Tryd.prog.info? 50).map (fun i => (i.zero, i.size, i.bytes)) = some (some (.agg #[.int .i64 0, .int .u32 0, .int .i64 0]), 3, 24) := by kernel_rfl
  obtain ⟨i, hi, e⟩ := Option.map_eq_some_iff.1 h
  injection e with e1 e2
  injection e2 with e2 e3
  exact ⟨i, hi, e1, e2, e3⟩
/-- Addresses as cells. -/
def adc (a : Ad) : List Value := [.int .i64 a.id, .int .u32 (a.addr : Int), .int .i64 a.bits]
def adv (l : List Ad) : List Value := l.flatMap adc
theorem adv_snoc (l : List Ad) (a : Ad) : adv (l ++ [a]) = adv l ++ adc a := by simp [adv, List.flatMap_append]
/-- Addresses that the call itself has made. -/
structure AdR (base : Nat) (w : World) (v : Value) (l : List Ad) : Prop where
  row : w.ownsRow base 50 3 v l.length (adv l)
theorem AdR.nil (base : Nat) (w : World) : AdR base w (.slice none 0 0) [] := ⟨World.ownsRow_nil _ _ _ _⟩
theorem AdR.of {base : Nat} {w w' : World} {v : Value} {l : List Ad} (h : AdR base w v l) (b : ∀ k, v.ownBlock = some k → w'.heap[k]? = w.heap[k]?) : AdR base w' v l := ⟨rows_blockC h.row b⟩
theorem AdR.keep {base : Nat} {w w' : World} {v : Value} {l : List Ad} (h : AdR base w v l) (b : Below w.heap.size w w') : AdR base w' v l := h.of fun k hk => b.block k (h.row.lt k hk).2
theorem AdR.slice {base : Nat} {w : World} {v : Value} {l : List Ad} (h : AdR base w v l) : ∃ a c, v = .slice a l.length c := by
  rcases h.row.2 with ⟨rfl, e⟩ | ⟨g, cap, cur, rfl, -⟩
  · exact ⟨_, _, by rw [e]⟩
  · exact ⟨_, _, rfl⟩
theorem AdR.app {base : Nat} {w : World} {v : Value} {l : List Ad} (h : AdR base w v l) (hb : base ≤ w.heap.size) (hl : l.length < 1000000000) (a : Ad) :
    ∃ v' w', (∀ z, (builtin .append #[43, 43] 43 z #[v, .slice (some ⟨w.heap.size, 0, none⟩) 1 1]).run Tryd.prog (w.alloc (.cells #[.int .i64 a.id, .int .u32 (a.addr : Int), .int .i64 a.bits] 50)) = .ok (.value v') w') ∧ AdR base w' v' (l ++ [a]) ∧ Kept (fun x => base ≤ x) w w' := by
  obtain ⟨i0, hi0, hz0, hz1, hz2⟩ := info_adr
  have bA : Below w.heap.size w (w.alloc (.cells #[.int .i64 a.id, .int .u32 (a.addr : Int), .int .i64 a.bits] 50)) := (Below.refl _ _).alloc (Nat.le_refl _) _
  have h2 := h.keep bA
  obtain ⟨v', w', hr, h3, h4, -, -⟩ := run_append_own_at (P := Tryd.prog) (w.alloc (.cells #[.int .i64 a.id, .int .u32 (a.addr : Int), .int .i64 a.bits] 50)) base 43 43 50 i0 (.agg #[.int .i64 0, .int .u32 0, .int .i64 0]) 3 24 Tryd.underlying43 hi0 hz0 hz1 hz2 (by decide) (by decide) v l.length (adv l) h2.row ⟨w.heap.size, 0, none⟩ 1 1 (adc a) rfl (fun j u hj => by
    rw [Addr.add_lit]
    exact (Lies.new w (adc a) 50).r j u hj) (fun x hx => by unfold adc at hx; simp only [List.mem_cons, List.not_mem_nil, or_false] at hx; rcases hx with rfl | rfl | rfl <;> rfl) (by unfold maxLen; omega) (by omega) (Nat.le_trans hb bA.size)
  have kp : Kept (fun x => base ≤ x) w w' := (Kept.of _ bA).grown h4 (fun k hk _ => (h2.row.lt k hk).1)
  exact ⟨v', w', fun z => by simp only [builtin, Sem.run_bind, Sem.run_pure, hr, Result.andThen_ok], ⟨by rw [adv_snoc, List.length_append]; exact h3⟩, kp⟩
section
variable {ops : Array Oper} {o : Oper} {a : Act} {w : World} {K : Act → World → Prop} {Q : Exit → Act → World → Prop} {E : Prop}
/-- A call of one argument that leaves the world, in a region that draws its order. -/
theorem cal1S (f : FuncId) {k1 : Nat} {tys : Array TypeId} (v1 r : Value) (C : Calls Tryd.prog f #[v1] w fun e w' => e = .returned r ∧ w = w') (hcf : ∀ w, (callFunc f #[v1]).run Tryd.prog w = .ok (.enter f #[v1]) w) (hg : o.guard = none) (ho : o.op = .call { callee := .value (.func f), args := #[.tmp k1], argTypes := tys })
    (h1 : a.eval (.tmp k1) = v1) (h : K (a.put o.dst r) w) : if Region.wanted o (yielded ops a.tmps) = true then Oper.wp Tryd.prog o a w K Q else E := by
  rw [if_pos (by simp [Region.wanted, hg])]
  unfold Oper.wp
  have hr : (execOp a.eval o).run Tryd.prog w = .ok (.enter f #[v1]) w := by
    unfold execOp
    rw [ho]
    simp only [go_sem] at h1 ⊢
    simp [go_sem, h1, hcf]
  rw [hr]
  exact C.mono fun e w' ⟨he, b⟩ => by
    subst he b
    exact h
end
/-- What Addresses answers. -/
def AdA (s : ByteArray) (base : Nat) (e : Ending) (w' : World) : Prop :=
  (∃ l v, adrL (toL s) = .ok l ∧ l.length ≤ 16 ∧ e = .returned (.tuple #[v, .int .i64 0]) ∧ AdR base w' v l) ∨ (∃ x : Int, adrL (toL s) = .error x ∧ x ≠ 0 ∧ e = .returned (.tuple #[.slice none 0 0, .int .i64 x]))
/-- The addresses so far. -/
structure AdI (w wr : World) (s0 : ByteArray) (g : Nat) (s : ByteArray) (acc : List Ad) (lv : Value) : Prop where
  eq : adrL (toL s0) = adrN g acc (toL s)
  len : s.size < g
  few : acc.length ≤ 16
  row : AdR w.heap.size wr lv acc
  bel : Below w.heap.size w wr
theorem at_str0 (s : ByteArray) (i : Nat) (w : World) (h : i < s.size) (z : Int) (hz : z = i) :
    (Instr.index 9 (.string s) (.int .i64 z)).run Tryd.prog w = .ok (.int .u8 (((toL s).getD i 0).toNat : Int)) w := by
  subst hz
  rw [run_index_string (P := Tryd.prog) w 9 s .i64 i Tryd.underlying9]
  have h1 : (i : Int) < s.size := by omega
  have hx : s[i] = (toL s).getD i 0 := by
    have hl : i < (toL s).length := by rw [toL_len]; exact h
    have e : (toL s).getD i 0 = (toL s)[i] := by rw [List.getD, List.getElem?_eq_getElem hl]; rfl
    rw [e]
    rfl
  simp [h1, hx]
end Go.Proofs.YtihkbakbciejiaaDoor
