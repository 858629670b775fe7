/-
  The document's own ledger as the program holds it; what its New, Sent, Wait and Flight answer. Fewer than 2^40 packets; no other condition but what always holds of a ledger.
-/
import Derived.Test.YtfjampommgkfeaaLgMath
import Derived.Test.YtfjampommgkfeaaObCells
import Derived.Test.YtfjampommgkfeaaAkHas
import Derived.Test.YtfjampommgkfeaaAkChk
import Derived.Test.YtfjampommgkfeaaAkRow
import Derived.Test.YtfjampommgkfeaaObDraw
namespace Go.Proofs.Ytfjampommgkfeaa
set_option maxRecDepth 100000
open Go.RowKit Go.Sort

def pkc (p : Pk) : List Value := [.int .i64 p.1, .int .i64 p.2.1, .int .i64 p.2.2]
def pks (l : List Pk) : List Value := l.flatMap pkc
theorem pks_snoc (l : List Pk) (p : Pk) : pks (l ++ [p]) = pks l ++ pkc p := by simp [pks, List.flatMap_append]
theorem pks_len (l : List Pk) : (pks l).length = l.length * 3 := by
  induction l with
  | nil => rfl
  | cons x l ih =>
    show (pkc x ++ pks l).length = _
    rw [List.length_append, ih, List.length_cons]
    show 3 + _ = _
    omega
theorem pks_get (l : List Pk) : ∀ k, k < l.length → ∀ j, j < 3 → (pks l)[3 * k + j]? = (pkc (l.getD k (0, 0, 0)))[j]? := by
  induction l with
  | nil => intro k h; simp at h
  | cons y l ih =>
    intro k h j hj
    show (pkc y ++ pks l)[3 * k + j]? = _
    cases k with
    | zero =>
      rw [List.getElem?_append_left (by show 3 * 0 + j < 3; omega)]
      simp
    | succ k =>
      rw [List.getElem?_append_right (by show 3 ≤ 3 * (k + 1) + j; omega)]
      have := ih k (by simpa using h) j hj
      rw [show 3 * (k + 1) + j - (pkc y).length = 3 * k + j by show 3 * (k + 1) + j - 3 = _; omega, this]
      simp
theorem pkc_one (p : Pk) : ∀ u ∈ pkc p, u.oneCell' = true := fun u hu => by
  simp [pkc] at hu
  rcases hu with rfl | rfl | rfl <;> rfl
theorem info_rpk : ∃ i, Try.prog.info? 60 = some i ∧ i.zero = some (.agg #[.int .i64 0, .int .i64 0, .int .i64 0]) ∧ i.size = 3 ∧ i.bytes = 24 := by
  have h : (Try.prog.info? 60).map (fun i => (i.zero, i.size, i.bytes)) = some (some (.agg #[.int .i64 0, .int .i64 0, .int .i64 0]), 3, 24) := by kernel_rfl
  obtain ⟨i, hi, e⟩ := Option.map_eq_some_iff.1 h
  injection e with e1 e2
  injection e2 with e2 e3
  exact ⟨i, hi, e1, e2, e3⟩
theorem info_i64 : ∃ i, Try.prog.info? 2 = some i ∧ i.zero = some (.int .i64 0) ∧ i.size = 1 ∧ i.bytes = 8 := by
  have h : (Try.prog.info? 2).map (fun i => (i.zero, i.size, i.bytes)) = some (some (.int .i64 0), 1, 8) := by kernel_rfl
  obtain ⟨i, hi, e⟩ := Option.map_eq_some_iff.1 h
  injection e with e1 e2
  injection e2 with e2 e3
  exact ⟨i, hi, e1, e2, e3⟩
/-- The cells of the document's own ledger beside its row. -/
def lgc (sv : Value) (d : Ld) : List Value := [sv, .int .i64 d.top, .int .i64 d.win, .int .i64 d.thr, .int .i64 d.mark, .int .i64 d.bo]
/-- The document's own ledger in block R, its row in block o. -/
def RB (w : World) (R : Nat) (o : Option Nat) (d : Ld) : Prop := ∃ sv, Lies w R (lgc sv d) ∧ w.ownsRow 0 60 3 sv d.l.length (pks d.l) ∧ sv.ownBlock = o
theorem rown_len {w : World} {base size n : Nat} {t : TypeId} {v : Value} {xs : List Value} (h : w.ownsRow base t size v n xs) : ∃ a c, v = .slice a n c := by
  rcases h.2 with ⟨rfl, rfl⟩ | ⟨g, cap, cur, rfl, _⟩
  · exact ⟨_, _, rfl⟩
  · exact ⟨_, _, rfl⟩
/-- A row stays where its block does. -/
theorem row_block {w w' : World} {base size n : Nat} {t : TypeId} {v : Value} {xs : List Value} (h : w.ownsRow base t size v n xs) (k : ∀ b, v.ownBlock = some b → w'.heap[b]? = w.heap[b]?) : w'.ownsRow base t size v n xs := by
  refine ⟨h.1, ?_⟩
  rcases h.2 with q | ⟨g, cap, cur, e, q, r, s⟩
  · exact .inl q
  · refine .inr ⟨g, cap, cur, e, q, ?_, s⟩
    rw [k g (by rw [e]; rfl)]
    exact r
theorem RB.ne {w : World} {R : Nat} {o : Option Nat} {d : Ld} (h : RB w R o d) (hs : w.shape? R = some (42, 6)) : o ≠ some R := by
  obtain ⟨sv, h1, h2, rfl⟩ := h
  rcases h2.2 with ⟨rfl, _⟩ | ⟨g, cap, cur, rfl, _, r, _⟩
  · simp [Value.ownBlock]
  · intro e
    simp only [Value.ownBlock, Option.some.injEq] at e
    subst e
    simp [World.shape?, r] at hs
theorem RB.keep {w w' : World} {R : Nat} {o : Option Nat} {d : Ld} (h : RB w R o d) (b : Below w.heap.size w w') : RB w' R o d := by
  obtain ⟨sv, h1, h2, h3⟩ := h
  exact ⟨sv, h1.keep (by show 0 < 6; decide) b, row_block h2 fun k hk => b.block k (h2.lt k hk).2, h3⟩
theorem RB.of {w w' : World} {R : Nat} {o : Option Nat} {d : Ld} (h : RB w R o d) (k1 : w'.heap[R]? = w.heap[R]?) (k2 : ∀ k, o = some k → w'.heap[k]? = w.heap[k]?) : RB w' R o d := by
  obtain ⟨sv, h1, h2, h3⟩ := h
  exact ⟨sv, h1.of_block k1, row_block h2 fun k hk => k2 k (h3 ▸ hk), h3⟩
theorem rwait_ok (R : Nat) (o : Option Nat) (d : Ld) (w : World) (h : RB w R o d) (hb : d.bo ≤ 6) :
    Calls Try.prog 21 #[.pointer (some ⟨R, 0, none⟩)] w fun e w' => e = .returned (.int .i64 (wait d)) ∧ w = w' := by
  obtain ⟨sv, h1, -, -⟩ := h
  unfold wait
  have c5 := h1.cell 5 (v := .int .i64 d.bo) rfl
  clear h1
  obtain ⟨b, hbo⟩ : ∃ b, d.bo = b := ⟨_, rfl⟩
  rw [hbo] at c5 hb ⊢
  clear hbo
  rcases b with _ | _ | _ | _ | _ | _ | _ | b
  all_goals first
    | (exfalso; omega)
    | (clear hb
       go_enter Try.func21, Try.ntmps21
       go_wp2
       go_rounds 8
       go_ret
       exact ⟨rfl, rfl⟩)
end Go.Proofs.Ytfjampommgkfeaa
