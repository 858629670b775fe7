/-
  What the program's own queues do: Drop. No condition but what always holds of queues.
-/
import Derived.Test.YtiamlldooihkdaaFaPgF
namespace Go.Proofs.Ytiamlldooihkdaa
set_option maxRecDepth 100000
open Go.RowKit

theorem drop_none {f : FaQ} {x : Int} (h : tblE f.r x = none) : dropE f x = f ∧ lsE f.r x = [] := by
  have hn := (tbl_none f.r x).1 h
  refine ⟨?_, by unfold lsE; rw [h]⟩
  unfold dropE
  have e1 : f.r.filter (fun e => decide (e.id ≠ x)) = f.r := List.filter_eq_self.2 fun e he => by simpa using hn e he
  rw [e1]
  have e2 : (match f.r with | [] => f.sv | e :: _ => if e.id = x then false else f.sv) = f.sv := by
    cases hr : f.r with
    | nil => rfl
    | cons e t =>
      have := hn e (by rw [hr]; exact List.mem_cons_self ..)
      simp only [if_neg this]
  exact congrArg (fun b => (⟨f.lim, f.qu, f.r, b, f.pz⟩ : FaQ)) e2
theorem map_filter_id (r : List FaE) (x : Int) : (r.filter fun e => decide (e.id ≠ x)).map FaE.id = (r.map FaE.id).filter fun y => decide (y ≠ x) := by
  rw [List.filter_map]
  rfl
set_option maxHeartbeats 2000000 in
theorem fdrop_ok (B : Nat) (T : Tag) (f : FaQ) (x : Int) (w : World) (h : PG w B T (pgOf f)) (ok : f.Ok) (hx : In64 x) (hz : f.pz < 1073741824) :
    Calls Try.prog 14 #[ptr B, .int .i64 x] w fun e' w' => e' = .returned (.int .i64 (lsE f.r x).length) ∧ ∃ T', PG w' B T' (pgOf (dropE f x)) ∧ ExtT T T' w.heap.size ∧ Kept (fun k => T k ≠ none) w w' := by
  have hPG := Lib.hid h
  obtain ⟨rv, bm, S, h⟩ := h
  have c3 := h.h.cell 3 (v := .map (some bm)) rfl
  have hlen := len_cnt ok
  have hpz := ok.n
  cases htb : tblE f.r x with
  | none =>
    have hS : S x = none := by
      have := h.q x
      have e : (pgOf f).tb x = none := htb
      rw [e] at this
      exact this
    have hlk := h.look hx (v := .pointer none) (by rw [hS]; rfl) w rfl
    obtain ⟨e1, e2⟩ := drop_none htb
    rw [e1, e2]
    clear e1 e2 h hlen hpz ok hS htb
    go_enter Try.func14, Try.ntmps14
    go_wp2
    go_ret
    exact ⟨rfl, T, hPG.out, .refl _ _, .refl _ _⟩
  | some v =>
    obtain ⟨l, d⟩ := v
    obtain ⟨qb, pv, hS, hQ, hV, hT3, -⟩ := h.at (x := x) (l := l) (d := d) htb
    have hlk := h.look hx (v := ptr qb) (by rw [hS]; rfl) w rfl
    obtain ⟨e, he, rfl, rfl, rfl⟩ := tbl_some f.r x l d htb
    have hll := hlen.2 e he
    have hls : lsE f.r e.id = e.l := by unfold lsE; rw [htb]
    have hcf := cnt_filter f.r e.id ok.ids
    rw [hls] at hcf ⊢
    obtain ⟨pa, pc, rfl, -⟩ := hV.slice
    cases hr : f.r with
    | nil => rw [hr] at he; cases he
    | cons e0 t =>
      have CL := Lib.hid (fleave_ok B T _ e0.id (t.map FaE.id) e.id w hPG.out (show f.r.map FaE.id = _ by rw [hr]; rfl) ok.ids hx (show e.id ∈ f.r.map FaE.id from List.mem_map_of_mem he) (show (f.r.map FaE.id).length < _ by rw [List.length_map]; omega))
      have QL : Hid (∀ w1, Kept (Low T) w w1 → w1.cell? ⟨qb, 0, none⟩ = some (.slice pa e.l.length pc)) := fun w1 k =>
        (hQ.of_block (k.block qb (hQ.lt (by show 0 < 2; decide)) fun q => by rcases q with q | q | q <;> rw [hT3] at q <;> simp at q)).cell 0 rfl
      have QB : Hid (qb ≠ B) := fun q => by
        rw [q, h.tB] at hT3
        simp at hT3
      have EQ : Hid (pgOf (dropE f e.id) = ⟨f.lim, f.qu, (f.r.map FaE.id).filter (fun y => decide (y ≠ e.id)), updT (tblE f.r) e.id none, if e0.id = e.id then false else f.sv, (cntE f.r : Int) - e.l.length, f.pz⟩) := by
        unfold dropE pgOf
        simp only
        rw [map_filter_id, tbl_filter]
        have e2 : ((cntE (f.r.filter fun a => decide (a.id ≠ e.id)) : Nat) : Int) = (cntE f.r : Int) - e.l.length := by omega
        rw [e2]
        rw [hr]
        rfl
      have hll2 : (e.l.length : Int) ≤ cntE f.r := by omega
      have hcm : (cntE f.r : Int) ≤ 1073741824 := by omega
      obtain ⟨m, hm⟩ : ∃ m, m = cntE f.r := ⟨_, rfl⟩
      rw [← hm] at hll2 hcm EQ
      obtain ⟨n, hn⟩ : ∃ n, n = e.l.length := ⟨_, rfl⟩
      rw [← hn] at hll2 EQ QL ⊢
      have hrr := Lib.hid hr
      replace hm := Lib.hid hm
      replace hn := Lib.hid hn
      have hn64 : n ≤ 9223372036854775807 := by omega
      clear h hQ hV hS hT3 hPG ok hlen hpz hll hls hcf he hr htb hx
      go_enter Try.func14, Try.ntmps14
      go_wp2_with fail
      refine CL.out.mono ?_
      rintro e' w1 ⟨rfl, T1, ⟨rv1, bm1, S1, P1⟩, E1, K1⟩
      have q0 := QL.out w1 K1
      have c5 := P1.h.cell 5 (v := .int .i64 (m : Int)) (by rw [hm.out]; rfl)
      have z5 := P1.h.free 5 (by show 5 < 6; decide)
      have wc : wrap64 ((m : Int) - n) = (m : Int) - n := by unfold wrap64; omega
      have wc2 : IntKind.i64.wrap ((m : Int) - n) = (m : Int) - n := by
        simp only [IntKind.wrap, IntKind.bits, IntKind.signed]
        simp
        omega
      obtain ⟨v, hv⟩ : ∃ v, v = (m : Int) - n := ⟨_, rfl⟩
      rw [← hv] at EQ
      have wv : IntKind.i64.wrap ((m : Int) - n) = v := by rw [wc2, hv]
      have wv2 : wrap64 ((m : Int) - n) = v := by rw [wc, hv]
      obtain ⟨w2, hw2⟩ : ∃ w2, w2 = (w1.setCell ⟨B, 5, none⟩ (.int .i64 v)).drew := ⟨_, rfl⟩
      have kk : Kept (fun k => k = B) w1 w2 := by rw [hw2]; exact ((Kept.refl (fun k => k = B) w1).set ⟨B, 5, none⟩ rfl _).drew
      have P2 := P1.top (ids' := (f.r.map FaE.id).filter (fun y => decide (y ≠ e.id))) (sv' := if e0.id = e.id then false else f.sv) (cnt' := v) kk (by
        rw [hw2]
        exact (P1.h.put 5 (by show 5 < 6; decide) _).keep (by show 0 < 6; decide) (drewB _ _)) P1.r P1.tr
      have q02 : w2.cell? ⟨qb, 0, none⟩ = some (.slice pa n pc) := by
        rw [hw2]
        exact (World.cell?_setCell_other _ _ _ _ (by intro q; injection q with q; exact QB.out q.symm)).trans q0
      have FIN : Hid (∃ T', PG w2 B T' (pgOf (dropE f e.id)) ∧ ExtT T T' w.heap.size ∧ Kept (fun k => T k ≠ none) w w2) := by
        refine ⟨T1, ?_, E1, K1.low.tags (kk.mono fun k _ q => by rw [q, P1.tB]; simp) E1⟩
        rw [EQ.out]
        exact ⟨_, _, _, P2⟩
      replace q02 := Lib.hid q02
      replace hw2 := Lib.hid hw2
      replace hv := Lib.hid hv
      clear P1 P2 kk E1 K1 CL QL EQ wc wc2 hrr hll2 hcm
      go_upto_region 5 with fail
      go_region
      rw [← hw2.out]
      have q02 := q02.out
      clear q0 c5 z5 hw2
      go_wp2_with fail
      go_ret
      exact ⟨rfl, FIN.out⟩
end Go.Proofs.Ytiamlldooihkdaa
