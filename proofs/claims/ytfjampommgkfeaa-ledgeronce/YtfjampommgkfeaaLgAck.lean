/-
  What the document's own Acked of a ledger does. Fewer than 2^40 packets; no other condition but what always holds of a ledger.
-/
import Derived.Test.YtfjampommgkfeaaLgExp
namespace Go.Proofs.Ytfjampommgkfeaa
set_option maxRecDepth 100000
open Go.RowKit Go.Sort

/-- The first loop's own book: the ledger's cells, what is told, what is left over, the set. -/
structure A1 (w wr : World) (R S : Nat) (rv : Value) (cs : List Value) (ts : List Int) (ps : List Pk) (tv cv : Value) : Prop where
  led : Lies wr R cs
  told : wr.ownsRow w.heap.size 2 1 tv ts.length (n64 ts)
  rest : wr.ownsRow w.heap.size 60 3 cv ps.length (pks ps)
  set : Lies wr S [rv]
  kp : Kept (fun k => k = R) w wr
  hR : R < w.heap.size
  hS : S < w.heap.size
  ne : S ≠ R
theorem kind_ne {w : World} {b b' s s' n n' : Nat} {t t' : TypeId} {v v' : Value} {xs xs' : List Value} (h : w.ownsRow b t s v n xs) (h' : w.ownsRow b' t' s' v' n' xs') (ht : t ≠ t') {k : Nat} (e : v.ownBlock = some k) : v'.ownBlock ≠ some k := by
  intro e'
  rcases h.2 with ⟨rfl, _⟩ | ⟨g, cap, cur, rfl, _, r, _⟩
  · cases e
  · rcases h'.2 with ⟨rfl, _⟩ | ⟨g', cap', cur', rfl, _, r', _⟩
    · cases e'
    · simp only [Value.ownBlock, Option.some.injEq] at e e'
      subst e
      subst e'
      rw [r] at r'
      injection r' with r'
      injection r' with _ r' _
      exact ht r'
theorem A1.keep {w wr w' : World} {R S : Nat} {rv : Value} {cs : List Value} {ts : List Int} {ps : List Pk} {tv cv : Value} (h : A1 w wr R S rv cs ts ps tv cv) (hc : 0 < cs.length) (b : Below wr.heap.size wr w') : A1 w w' R S rv cs ts ps tv cv :=
  ⟨h.led.keep hc b, row_block h.told fun k hk => b.block k (h.told.lt k hk).2, row_block h.rest fun k hk => b.block k (h.rest.lt k hk).2, h.set.keep (by show 0 < 1; decide) b, h.kp.add b, h.hR, h.hS, h.ne⟩
theorem A1.addT {w wr w5 : World} {R S : Nat} {rv : Value} {cs : List Value} {ts : List Int} {ps : List Pk} {tv cv v' : Value} {n : Int} (h : A1 w wr R S rv cs ts ps tv cv) (q1 : w5.ownsRow w.heap.size 2 1 v' (ts.length + 1) (n64 ts ++ [.int .i64 n])) (q2 : wr.grownBy w5 tv.ownBlock) : A1 w w5 R S rv cs (ts ++ [n]) ps v' cv := by
  have hz := h.kp.size
  have hR := h.hR
  have hS := h.hS
  have far : ∀ k, k < w.heap.size → some k ≠ tv.ownBlock := fun k hk e => by have := (h.told.lt k e.symm).1; omega
  refine ⟨h.led.of_block (q2.block R (by omega) (far R hR)), by rw [n64_snoc, List.length_append]; exact q1, row_block h.rest fun k hk => q2.block k (h.rest.lt k hk).2 (fun e => kind_ne h.told h.rest (by decide) e.symm hk), h.set.of_block (q2.block S (by omega) (far S hS)), h.kp.grown q2 (fun k hk hlt => absurd hk.symm (far k hlt)), hR, hS, h.ne⟩
theorem A1.addP {w wr w5 : World} {R S : Nat} {rv : Value} {cs : List Value} {ts : List Int} {ps : List Pk} {tv cv v' : Value} {p : Pk} (h : A1 w wr R S rv cs ts ps tv cv) (q1 : w5.ownsRow w.heap.size 60 3 v' (ps.length + 1) (pks ps ++ pkc p)) (q2 : wr.grownBy w5 cv.ownBlock) : A1 w w5 R S rv cs ts (ps ++ [p]) tv v' := by
  have hz := h.kp.size
  have hR := h.hR
  have hS := h.hS
  have far : ∀ k, k < w.heap.size → some k ≠ cv.ownBlock := fun k hk e => by have := (h.rest.lt k e.symm).1; omega
  refine ⟨h.led.of_block (q2.block R (by omega) (far R hR)), row_block h.told fun k hk => q2.block k (h.told.lt k hk).2 (fun e => kind_ne h.rest h.told (by decide) e.symm hk), by rw [pks_snoc, List.length_append]; exact q1, h.set.of_block (q2.block S (by omega) (far S hS)), h.kp.grown q2 (fun k hk hlt => absurd hk.symm (far k hlt)), hR, hS, h.ne⟩
theorem A1.put {w wr : World} {R S : Nat} {rv : Value} {cs : List Value} {ts : List Int} {ps : List Pk} {tv cv : Value} (h : A1 w wr R S rv cs ts ps tv cv) (j : Nat) (hj : j < cs.length) (v : Value) {cs' : List Value} (e : cs.set j v = cs') : A1 w (wr.setCell ⟨R, j, none⟩ v) R S rv cs' ts ps tv cv := by
  have hR := h.hR
  have ot : ∀ k, k ≠ R → (wr.setCell ⟨R, j, none⟩ v).heap[k]? = wr.heap[k]? := fun k hk => Below.heap_setCell _ _ _ _ hk
  exact ⟨e ▸ h.led.put j hj v, row_block h.told fun k hk => ot k (by have := (h.told.lt k hk).1; omega), row_block h.rest fun k hk => ot k (by have := (h.rest.lt k hk).1; omega), h.set.of_block (ot S h.ne), keptR0 _ R j _ h.kp, hR, h.hS, h.ne⟩
theorem filter_take (l : List Pk) (f : Pk → Bool) (k : Nat) (h : k < l.length) : (l.take (k + 1)).filter f = (l.take k).filter f ++ (if f (l.getD k (0, 0, 0)) = true then [l.getD k (0, 0, 0)] else []) := by
  rw [List.take_succ_eq_append_getElem h, List.filter_append]
  have e : l.getD k (0, 0, 0) = l[k] := by simp [List.getD, List.getElem?_eq_getElem h]
  rw [e]
  by_cases q : f l[k] = true
  · rw [if_pos q]; simp [q]
  · rw [if_neg q]; simp [q]
theorem growAll_snoc (thr : Int) (ps : List Pk) (p : Pk) (win : Int) : growAll thr (ps ++ [p]) win = grow (growAll thr ps win) thr p.2.2 := by unfold growAll; rw [List.foldl_append]; rfl
theorem at_rg0 (B o N cap : Nat) (w : World) (h : 0 < N) : (Instr.indexAt 27 (.slice (some ⟨B, o, none⟩) N cap) (.int .i64 0)).run Try.prog w = .ok (.pointer (some ⟨B, o, none⟩)) w := at_rgs B o N cap 0 w h 0 rfl o (by omega)
set_option maxHeartbeats 4000000 in
theorem rack_no (R : Nat) (o : Option Nat) (d : Ld) (r : List Rg) (rv : Value) (w : World) (h : RB w R o d) (hr : RgAt w rv r) (hl : r.length < 9007199254740992) (he : ackE d r ≠ 0) :
    Calls Try.prog 13 #[.pointer (some ⟨R, 0, none⟩), rv] w fun e w' => e = .returned (.tuple #[.slice none 0 0, .slice none 0 0, .int .i64 2]) ∧ Below w.heap.size w w' := by
  have hx : chkR r ≠ 0 ∨ (r ≠ [] ∧ d.top < hiR r) := by
    unfold ackE at he
    split at he
    · assumption
    · exact absurd rfl he
  obtain ⟨sv, h1, -, -⟩ := h
  have c1 := fun d' os => cell_regrown (h1.cell 1 (v := .int .i64 d.top) rfl) d' os
  have CK : Hid (∀ d' os, _) := fun d' os => Calls.regrown_of (P := Try.prog) (w := w) (d := d') (os := os) (rchk_ok rv r (Go.Sort.grow (redrawn w d') os) (hr.keep (below_regrown w d' os)) (by omega))
  obtain ⟨a, cap, rfl, hc⟩ := hr
  clear h1 he
  by_cases h0 : chkR r = 0
  · rcases hx with hx | ⟨hn, hx⟩
    · exact absurd h0 hx
    · rcases hc with hc | ⟨g, p, rfl, hc⟩
      · exact absurd hc hn
      · have hp := List.length_pos_iff.2 hn
        have c2 := (hc 0 hp).2
        have e : (r.getD 0 (0, 0)).2 = hiR r := rfl
        rw [e] at c2
        replace c2 := fun d' os => cell_regrown c2 d' os
        rw [h0] at CK
        have g1 : decide ((0 : Int) < (r.length : Int)) = true := decide_eq_true (by omega)
        have g1' : decide (0 < r.length) = true := decide_eq_true hp
        have g2 : decide (d.top < hiR r) = true := decide_eq_true hx
        have ia := fun w' => at_rg0 g p r.length cap w' hp
        clear e hc hx hn h0 hp
        generalize hiR r = hi at *
        generalize r.length = M at *
        go_enter Try.func13, Try.ntmps13
        go_wp2_with fail
        refine wp_region_quiet_below (by kernel_rfl) (by kernel_rfl) ?_
        repeat (go_big_quiet_step (first | (go_at_call 31; exact CK.out _ _)))
        refine wpQuiet_nil ?_
        intro _ hw'
        obtain ⟨⟨dq, osq⟩, hw''⟩ := hw'
        subst hw''
        have B1 : Hid (Below w.heap.size w (Go.Sort.grow (redrawn w dq) osq)) := below_regrown w dq osq
        simp only
        generalize Go.Sort.grow (redrawn w dq) osq = w1 at *
        go_wp2
        exact bodyPost_ret (v := .tuple #[.slice none 0 0, .slice none 0 0, .int .i64 2]) (by simp [results, Try.results13, go_sem]) rfl ⟨rfl, B1.out⟩
  · have g0 : (chkR r != 0) = true := by simp [h0]
    generalize chkR r = x at *
    replace h0 : Hid _ := h0
    clear hx hc
    generalize r.length = M at *
    go_enter Try.func13, Try.ntmps13
    go_wp2_with fail
    refine wp_region_quiet_below (by kernel_rfl) (by kernel_rfl) ?_
    repeat (go_big_quiet_step (first | (go_at_call 31; exact CK.out _ _)))
    refine wpQuiet_nil ?_
    intro _ hw'
    obtain ⟨⟨dq, osq⟩, hw''⟩ := hw'
    subst hw''
    have B1 : Hid (Below w.heap.size w (Go.Sort.grow (redrawn w dq) osq)) := below_regrown w dq osq
    simp only
    generalize Go.Sort.grow (redrawn w dq) osq = w1 at *
    go_wp2
    exact bodyPost_ret (v := .tuple #[.slice none 0 0, .slice none 0 0, .int .i64 2]) (by simp [results, Try.results13, go_sem]) rfl ⟨rfl, B1.out⟩
end Go.Proofs.Ytfjampommgkfeaa
