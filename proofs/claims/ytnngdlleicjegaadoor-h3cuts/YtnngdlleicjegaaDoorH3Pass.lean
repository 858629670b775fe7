/-
  What the document's own pass answers: bytes of a frame of Data, or a strange one. No condition but the form's own reach.
-/
import Derived.Test.YtnngdlleicjegaaDoorH3Pairs
import Derived.Test.YtnngdlleicjegaaDoorObRun
namespace Go.Proofs.YtnngdlleicjegaaDoor
set_option maxRecDepth 100000
open Go.RowKit

/-- Events as cells. -/
def evv (l : List Ev) : List Value := l.flatMap fun e => [.int .i64 (e.1 : Int), .string (strL e.2)]
theorem evv_snoc (l : List Ev) (k : Nat) (d : L) : evv (l ++ [(k, d)]) = evv l ++ [.int .i64 (k : Int), .string (strL d)] := by simp [evv, List.flatMap_append]
theorem info_ev : ∃ i, Tryd.prog.info? 49 = some i ∧ i.zero = some (.agg #[.int .i64 0, .string ⟨#[]⟩]) ∧ i.size = 2 ∧ i.bytes = 24 := by
  have h : (Tryd.prog.info? 49).map (fun i => (i.zero, i.size, i.bytes)) = some (some (.agg #[.int .i64 0, .string ⟨#[]⟩]), 2, 24) := by kernel_rfl
  obtain ⟨i, hi, e⟩ := Option.map_eq_some_iff.1 h
  injection e with e1 e2
  injection e2 with e2 e3
  exact ⟨i, hi, e1, e2, e3⟩
/-- Events that the call itself has made. -/
structure EvR (base : Nat) (w : World) (v : Value) (l : List Ev) : Prop where
  row : w.ownsRow base 49 2 v l.length (evv l)
theorem EvR.nil (base : Nat) (w : World) : EvR base w (.slice none 0 0) [] := ⟨World.ownsRow_nil _ _ _ _⟩
theorem EvR.of {base : Nat} {w w' : World} {v : Value} {l : List Ev} (h : EvR base w v l) (b : ∀ k, v.ownBlock = some k → w'.heap[k]? = w.heap[k]?) : EvR base w' v l := ⟨rows_block h.row b⟩
theorem EvR.keep {base : Nat} {w w' : World} {v : Value} {l : List Ev} (h : EvR base w v l) (b : Below w.heap.size w w') : EvR base w' v l := h.of fun k hk => b.block k (h.row.lt k hk).2
theorem EvR.slice {base : Nat} {w : World} {v : Value} {l : List Ev} (h : EvR base w v l) : ∃ a c, v = .slice a l.length c := by
  rcases h.row.2 with ⟨rfl, e⟩ | ⟨g, cap, cur, rfl, -⟩
  · exact ⟨_, _, by rw [e]⟩
  · exact ⟨_, _, rfl⟩
/-- A store into a block that is not theirs. -/
theorem EvR.set {base R j : Nat} {w : World} {v x : Value} {l : List Ev} (h : EvR base w v l) (hR : R < base) : EvR base (w.setCell ⟨R, j, none⟩ x) v l := h.of fun k hk => Below.heap_setCell w ⟨R, j, none⟩ x k (fun c => by
  have h1 := (h.row.lt k hk).1
  have h2 : k = R := c
  omega)
theorem EvR.app {base R : Nat} {w : World} {v : Value} {l : List Ev} (h : EvR base w v l) (hb : base ≤ w.heap.size) (hl : l.length < 1000000000) (k : Nat) (d : L) :
    ∃ v' w', (∀ z, (builtin .append #[31, 31] 31 z #[v, .slice (some ⟨w.heap.size, 0, none⟩) 1 1]).run Tryd.prog (w.alloc (.cells #[.int .i64 (k : Int), .string (strL d)] 49)) = .ok (.value v') w') ∧ EvR base w' v' (l ++ [(k, d)]) ∧ Kept (fun x => base ≤ x) w w' ∧ (R < base → w'.heap[R]? = w.heap[R]?) := by
  obtain ⟨i0, hi0, hz0, hz1, hz2⟩ := info_ev
  have bA : Below w.heap.size w (w.alloc (.cells #[.int .i64 (k : Int), .string (strL d)] 49)) := (Below.refl _ _).alloc (Nat.le_refl _) _
  have h2 := h.keep bA
  obtain ⟨v', w', hr, h3, h4, -, -⟩ := run_append_own_at (P := Tryd.prog) (w.alloc (.cells #[.int .i64 (k : Int), .string (strL d)] 49)) base 31 31 49 i0 (.agg #[.int .i64 0, .string ⟨#[]⟩]) 2 24 Tryd.underlying31 hi0 hz0 hz1 hz2 rfl (by decide) v l.length (evv l) h2.row ⟨w.heap.size, 0, none⟩ 1 1 [.int .i64 (k : Int), .string (strL d)] rfl (fun j u hj => by
    match j, hj with
    | 0, hj => injection hj with hj; subst hj; exact World.cell?_alloc_new _ _ _ 0
    | 1, hj => injection hj with hj; subst hj; exact World.cell?_alloc_new _ _ _ 1
    | j + 2, hj => cases hj) (fun x hx => by simp only [List.mem_cons, List.not_mem_nil, or_false] at hx; rcases hx with rfl | rfl <;> rfl) (by unfold maxLen; omega) (by omega) (Nat.le_trans hb bA.size)
  have kp : Kept (fun x => base ≤ x) w w' := (Kept.of _ bA).grown h4 (fun k hk _ => (h2.row.lt k hk).1)
  refine ⟨v', w', fun z => by simp only [builtin, Sem.run_bind, Sem.run_pure, hr, Result.andThen_ok], ⟨by rw [evv_snoc, List.length_append]; exact h3⟩, kp, fun hR => kp.block R (by omega) (by omega)⟩
/-- One step of pass. -/
def passR (r : Hr) : Hr := { r with s := r.s.drop (min r.left r.s.length), left := r.left - min r.left r.s.length }
def passE (r : Hr) : List Ev := if r.pas = true then [] else [(0, r.s.take (min r.left r.s.length))]
set_option maxHeartbeats 8000000 in
theorem rpass_ok (w0 w : World) (R : Nat) (r : Hr) (h : RH w R r) (hR : R < w0.heap.size) (k0 : Kept (fun k => k = R) w0 w) (v : Value) (l : List Ev) (he : EvR w0.heap.size w v l) (hl : l.length < 1000000) (hz : r.s.length ≤ 4611686018427387903) (hzl : r.left ≤ 4611686018427387903) (h1 : 0 < r.left) (h2 : 0 < r.s.length) :
    Calls Tryd.prog 24 #[.pointer (some ⟨R, 0, none⟩), v] w fun e w' => ∃ v', e = .returned v' ∧ RH w' R (passR r) ∧ EvR w0.heap.size w' v' (l ++ passE r) ∧ Kept (fun k => k = R) w0 w' := by
  obtain ⟨s, hs, h⟩ := h
  have zs : s.size = r.s.length := by rw [← hs, toL_len]
  obtain ⟨n, hn⟩ : ∃ n, n = min r.left r.s.length := ⟨_, rfl⟩
  have hn0 : 0 < n := by omega
  have hns : n ≤ s.size := by omega
  have hnl : n ≤ r.left := by omega
  have fold : Hid ((if (s.size : Int) < (r.left : Int) then (s.size : Int) else (r.left : Int)) = (n : Int)) := by
    unfold Hid
    split <;> omega
  unfold passR passE
  rw [← hn]
  replace hn : Hid _ := hn
  obtain ⟨c, rs, b, f, lf, p, cd⟩ := r
  simp only at h1 h2 hz hzl hs hnl fold zs ⊢
  replace fold := fold.out
  have fold2 : (if s.size < lf then (s.size : Int) else (lf : Int)) = (n : Int) := by rw [← fold]; simp
  have c4 := h.cell 4 (v := .int .i64 (lf : Int)) rfl
  have c1 := h.cell 1 (v := .string s) rfl
  have c5 := h.cell 5 (v := .bool p) rfl
  have g1 : decide ((0 : Int) < (n : Int)) = true := decide_eq_true (by omega)
  have hsz : s.size ≤ 4611686018427387903 := by omega
  clear zs
  have ed : Hid (toL (s.extract n s.size) = rs.drop n) := by
    unfold Hid
    rw [toL_extract, hs]
  have et : Hid (s.extract 0 n = strL (rs.take n)) := toL_inj (by rw [toL_strL, toL_cut, hs]; simp)
  have sub : (lf : Int) - (n : Int) = ((lf - n : Nat) : Int) := by omega
  have bs := k0.size
  have hRw : R < w.heap.size := by omega
  cases p with
  | true =>
    have L1 : Hid (Lies (w.setCell ⟨R, 1, none⟩ (.string (s.extract n s.size))) R (rdV (s.extract n s.size) ⟨c, rs.drop n, b, f, lf, true, cd⟩)) := h.put 1 (by show 1 < 7; decide) _
    have K1 : Hid (Kept (fun k => k = R) w0 (w.setCell ⟨R, 1, none⟩ (.string (s.extract n s.size)))) := k0.set ⟨R, 1, none⟩ rfl _
    have E1 : Hid (EvR w0.heap.size (w.setCell ⟨R, 1, none⟩ (.string (s.extract n s.size))) v l) := he.set hR
    have f1 := h.free 1 (by show 1 < 7; decide)
    have c41 := L1.out.cell 4 (v := .int .i64 (lf : Int)) rfl
    have f41 := L1.out.free 4 (by show 4 < 7; decide)
    have L2 : Hid (RH (((w.setCell ⟨R, 1, none⟩ (.string (s.extract n s.size))).setCell ⟨R, 4, none⟩ (.int .i64 ((lf - n : Nat) : Int))).drew) R ⟨c, rs.drop n, b, f, lf - n, true, cd⟩) := ⟨s.extract n s.size, ed.out, (L1.out.put 4 (by show 4 < 7; decide) _).of_block rfl⟩
    have K2 : Hid (Kept (fun k => k = R) w0 (((w.setCell ⟨R, 1, none⟩ (.string (s.extract n s.size))).setCell ⟨R, 4, none⟩ (.int .i64 ((lf - n : Nat) : Int))).drew)) := (K1.out.set ⟨R, 4, none⟩ rfl _).drew
    have E2 : Hid (EvR w0.heap.size (((w.setCell ⟨R, 1, none⟩ (.string (s.extract n s.size))).setCell ⟨R, 4, none⟩ (.int .i64 ((lf - n : Nat) : Int))).drew) v (l ++ [])) := by rw [List.append_nil]; exact (E1.out.set hR).of fun _ _ => rfl
    rw [if_pos rfl]
    obtain ⟨L0, hL0⟩ : ∃ L0, L0 = l ++ ([] : List Ev) := ⟨_, rfl⟩
    rw [← hL0] at E2 ⊢
    clear L1 K1 E1 h he k0 hL0 et ed
    go_enter Tryd.func24, Tryd.ntmps24
    go_upto_region 1 with fail
    go_region
    all_goals
      go_wp2_with fail
      go_ret
      exact ⟨v, rfl, L2.out, E2.out, K2.out⟩
  | false =>
    obtain ⟨av, cv, rfl⟩ := he.slice
    have hed : EvR w0.heap.size w.drew (.slice av l.length cv) l := he.of fun _ _ => rfl
    obtain ⟨v2, w2, hap, he2, kp2, hR2⟩ := hed.app (R := R) bs (by omega) 0 (rs.take n)
    obtain ⟨av2, cv2, rfl⟩ := he2.slice
    have hw2 := hR2 hR
    have h2L : Lies w2 R (rdV s ⟨c, rs, b, f, lf, false, cd⟩) := h.of_block hw2
    have k2 : Kept (fun k => k = R) w0 w2 := ⟨kp2.os.trans k0.os, kp2.tape.trans k0.tape, kp2.output.trans k0.output, Nat.le_trans k0.size kp2.size, fun k hk hf => (kp2.block k (Nat.lt_of_lt_of_le hk k0.size) (by omega)).trans (k0.block k hk hf)⟩
    have c12 := h2L.cell 1 (v := .string s) rfl
    have f12 := h2L.free 1 (by show 1 < 7; decide)
    have L1 : Hid (Lies (w2.setCell ⟨R, 1, none⟩ (.string (s.extract n s.size))) R (rdV (s.extract n s.size) ⟨c, rs.drop n, b, f, lf, false, cd⟩)) := h2L.put 1 (by show 1 < 7; decide) _
    have c41 := L1.out.cell 4 (v := .int .i64 (lf : Int)) rfl
    have f41 := L1.out.free 4 (by show 4 < 7; decide)
    have L2 : Hid (RH ((w2.setCell ⟨R, 1, none⟩ (.string (s.extract n s.size))).setCell ⟨R, 4, none⟩ (.int .i64 ((lf - n : Nat) : Int))) R ⟨c, rs.drop n, b, f, lf - n, false, cd⟩) := ⟨s.extract n s.size, ed.out, L1.out.put 4 (by show 4 < 7; decide) _⟩
    have K2 : Hid (Kept (fun k => k = R) w0 ((w2.setCell ⟨R, 1, none⟩ (.string (s.extract n s.size))).setCell ⟨R, 4, none⟩ (.int .i64 ((lf - n : Nat) : Int)))) := (k2.set ⟨R, 1, none⟩ rfl _).set ⟨R, 4, none⟩ rfl _
    have E2 : Hid (EvR w0.heap.size ((w2.setCell ⟨R, 1, none⟩ (.string (s.extract n s.size))).setCell ⟨R, 4, none⟩ (.int .i64 ((lf - n : Nat) : Int))) (.slice av2 (l ++ [(0, rs.take n)]).length cv2) (l ++ [(0, rs.take n)])) := (he2.set hR).set hR
    rw [if_neg (by decide)]
    obtain ⟨L0, hL0⟩ : ∃ L0, L0 = l ++ [(0, rs.take n)] := ⟨_, rfl⟩
    rw [← hL0] at E2 hap ⊢
    have et' := et.out
    have hapd : Hid (∀ z, (builtin .append #[31, 31] 31 z #[.slice av l.length cv, .slice (some ⟨w.heap.size, 0, none⟩) 1 1]).run Tryd.prog (w.alloc (.cells #[.int .i64 0, .string (strL (rs.take n))] 49)).drew = .ok (.value (.slice av2 L0.length cv2)) w2) := hap
    generalize strL (rs.take n) = ST at hapd et'
    clear L1 h he k0 hL0 et ed h2L k2 kp2 hR2 hw2 he2 hed hap
    go_enter Tryd.func24, Tryd.ntmps24
    go_upto_region 1 with fail
    go_region
    all_goals
      go_wp2_with (refine obB2L _ rfl .append _ _ 31 31 rfl _ _ rfl rfl hapd.out ?_)
      go_ret
      exact ⟨_, rfl, L2.out, E2.out, K2.out⟩
end Go.Proofs.YtnngdlleicjegaaDoor
