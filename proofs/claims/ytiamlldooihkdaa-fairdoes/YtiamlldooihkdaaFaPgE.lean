/-
  What the program's own queues do: New; the first packet of the first one is taken. No condition but what always holds of queues.
-/
import Derived.Test.YtiamlldooihkdaaFaPgD
namespace Go.Proofs.Ytiamlldooihkdaa
set_option maxRecDepth 100000
open Go.RowKit

/-- The first one's packet is taken, its deficit being what its turn left. -/
def takeT (g : FaQ) : FaQ := match g.r with
  | [] => g
  | e :: t => if e.l.tail = [] then { g with r := t, sv := false } else { g with r := { e with l := e.l.tail, d := e.d - (hdE e).size } :: t, sv := true }
def turned (f : FaQ) : FaQ := match f.r with | [] => f | e :: t => { f with r := { e with d := dueE f e } :: t }
theorem take_turned (f : FaQ) : takeE f = takeT (turned f) := by
  unfold takeE takeT turned
  cases h : f.r with
  | nil => simp [h]
  | cons e t => rfl
theorem fnew_ok (lim qu : Int) (w : World) : Calls Try.prog 8 #[.int .i64 lim, .int .i64 qu] w fun e w' => ∃ B T, e = .returned (ptr B) ∧ PG w' B T (pgOf (newE lim qu)) ∧ (∀ k, T k ≠ none → w.heap.size ≤ k) ∧ Below w.heap.size w w' := by
  obtain ⟨R, hR⟩ : ∃ R, R = cutQ lim := ⟨_, rfl⟩
  obtain ⟨D, hD⟩ : ∃ D, D = cutQ qu := ⟨_, rfl⟩
  have W1 := Lib.hid fun w' => fwithin_ok lim w'
  have W2 := Lib.hid fun w' => fwithin_ok qu w'
  unfold newE
  rw [← hR] at W1 ⊢
  rw [← hD] at W2 ⊢
  clear hR hD
  obtain ⟨wm, hwm⟩ : ∃ wm, wm = w.alloc (.map #[] 0) := ⟨_, rfl⟩
  obtain ⟨bm, hbm⟩ : ∃ bm, bm = w.heap.size := ⟨_, rfl⟩
  have m1 : MapV MQ wm bm 0 fun _ => none := by rw [hwm, hbm]; exact MapV.made w
  have b1 : Below w.heap.size w wm := by rw [hwm]; exact (Below.refl _ _).alloc (Nat.le_refl _) _
  have e1 : wm.heap.size = w.heap.size + 1 := by rw [hwm]; simp
  have b2 : Below wm.heap.size wm (wm.alloc (.cells #[.int .i64 R, .int .i64 D, .slice none 0 0, .map (some bm), .bool false, .int .i64 0] 50)) := (Below.refl _ _).alloc (Nat.le_refl _) _
  have FIN : Hid (PG (wm.alloc (.cells #[.int .i64 R, .int .i64 D, .slice none 0 0, .map (some bm), .bool false, .int .i64 0] 50)) wm.heap.size (fun k => if k = wm.heap.size then some (0, 0) else if k = bm then some (1, 0) else none) (pgOf ⟨R, D, [], false, 0⟩)) := by
    refine ⟨.slice none 0 0, bm, fun _ => none, ⟨Lies.new wm _ _, RowZ.nil _, m1.keep b2, by simp, ?_, fun k hk => (by cases hk), fun x => rfl, fun k hk => ?_⟩⟩
    · rw [if_neg (by omega), if_pos rfl]
    · have := b2.size
      by_cases q : k = wm.heap.size
      · rw [q]
        simp
      · by_cases q2 : k = bm
        · omega
        · exact absurd (by rw [if_neg q, if_neg q2]) hk
  have BB : Hid (Below w.heap.size w (wm.alloc (.cells #[.int .i64 R, .int .i64 D, .slice none 0 0, .map (some bm), .bool false, .int .i64 0] 50))) := b1.trans (b2.mono b1.size)
  have TT : Hid (∀ k, (if k = wm.heap.size then some (0, 0) else if k = bm then some (1, 0) else none : Option (Nat × Int)) ≠ none → w.heap.size ≤ k) := fun k hk => by
    by_cases q : k = wm.heap.size
    · omega
    · by_cases q2 : k = bm
      · omega
      · exact absurd (by rw [if_neg q, if_neg q2]) hk
  clear m1 b1 b2 e1
  have hmm := @run_makeMap Try.prog
  go_enter Try.func8, Try.ntmps8
  go_wp2_with fail
  refine (W1.out w).mono ?_
  rintro e w' ⟨rfl, rfl⟩
  go_wp2_with fail
  refine (W2.out w).mono ?_
  rintro e w' ⟨rfl, rfl⟩
  go_wp2_with fail
  go_ret
  subst hwm hbm
  have e1 : (w.alloc (.map #[] 0)).heap.size = w.heap.size + 1 := by simp
  rw [e1] at FIN TT
  exact ⟨_, _, rfl, FIN.out, TT.out, BB.out⟩
set_option maxHeartbeats 4000000 in
theorem ftake_ok (B : Nat) (T : Tag) (f : FaQ) (e : FaE) (t : List FaE) (w : World) (h : PG w B T (pgOf f)) (hr : f.r = e :: t) (hne : e.l ≠ []) (hn : (f.r.map FaE.id).Nodup) (hx : In64 e.id) (hd : 0 ≤ e.d ∧ e.d ≤ 2162687) (hs : (hdE e).size ≤ 65535) (hl : cntE f.r < 1073741824) (hl2 : f.r.length < 1073741824) :
    Calls Try.prog 24 #[ptr B] w fun e' w' => e' = .returned (.tuple #[.int .i64 e.id, .string (hdE e)]) ∧ ∃ T', PG w' B T' (pgOf (takeT f)) ∧ ExtT T T' w.heap.size ∧ Kept (fun k => T k ≠ none) w w' := by
  obtain ⟨rv, bm, S, h⟩ := h
  have hids : (pgOf f).ids = e.id :: t.map FaE.id := by show f.r.map FaE.id = _; rw [hr]; rfl
  have hR := h.r
  rw [hids] at hR
  obtain ⟨g, o, c, rfl, cx, -, hc, hg⟩ := hR.first ki_ok rfl
  have htb : (pgOf f).tb e.id = some (e.l, e.d) := by show tblE f.r e.id = _; rw [hr]; exact tbl_head e t
  obtain ⟨qb, pv, hS, hQ, hV, hT3, hT4⟩ := h.at htb
  have hl3 : e.l = hdE e :: e.l.tail := by
    unfold hdE
    cases hl : e.l with
    | nil => exact absurd hl hne
    | cons s t => rfl
  rw [hl3] at hV
  obtain ⟨g2, o2, c2', rfl, cs, zs, hc2, hg2⟩ := hV.first ks_ok rfl
  obtain ⟨a3, n3, c3', hcut, r3, hob, hn3'⟩ := (hV.set ks_ok (k := 0) (j := 0) (x := ByteArray.empty) (u := .string ⟨#[]⟩) (by simp) (by show 0 < 1; decide) rfl).tl ks_ok
  have e0 : o2 + KS.n * 0 + 0 = o2 := by omega
  rw [e0] at r3
  have c2 := h.h.cell 2 (v := .slice (some ⟨g, o, none⟩) ((t.map FaE.id).length + 1) c) rfl
  have c3 := h.h.cell 3 (v := .map (some bm)) rfl
  have c4 := h.h.cell 4 (v := .bool f.sv) rfl
  have z4 := h.h.free 4 (by show 4 < 6; decide)
  have c5 := h.h.cell 5 (v := .int .i64 (cntE f.r)) rfl
  have z5 := h.h.free 5 (by show 5 < 6; decide)
  have q0 := hQ.cell 0 (v := .slice (some ⟨g2, o2, none⟩) (e.l.tail.length + 1) c2') rfl
  have y0 := hQ.free 0 (by show 0 < 2; decide)
  have q1 := hQ.cell 1 (v := .int .i64 e.d) rfl
  have y1 := hQ.free 1 (by show 1 < 2; decide)
  have hix : ∀ w', (Instr.indexAt 48 (.slice (some ⟨g, o, none⟩) ((t.map FaE.id).length + 1) c) (.int .i64 0)).run Try.prog w' = .ok (.pointer (some ⟨g, o, none⟩)) w' := fun w' => at_Z ki_ok g o _ c 0 w' (by omega) 0 rfl o (by show o = o + 1 * 0; omega)
  have hix2 : ∀ w', (Instr.indexAt 39 (.slice (some ⟨g2, o2, none⟩) (e.l.tail.length + 1) c2') (.int .i64 0)).run Try.prog w' = .ok (.pointer (some ⟨g2, o2, none⟩)) w' := fun w' => at_Z ks_ok g2 o2 (e.l.tail.length + 1) c2' 0 w' (by omega) 0 rfl o2 (by show o2 = o2 + 1 * 0; omega)
  have hlk := h.look hx (v := ptr qb) (by rw [hS]; rfl) w rfl
  replace cx : w.cell? ⟨g, o, none⟩ = some (.int .i64 e.id) := cx
  replace cs : w.cell? ⟨g2, o2, none⟩ = some (.string (hdE e)) := cs
  replace hcut : ∀ w', (Instr.sliceAt 39 (.slice (some ⟨g2, o2, none⟩) (e.l.tail.length + 1) c2') (some (.int .i64 1)) none none).run Try.prog w' = .ok (.slice a3 n3 c3') w' := hcut
  have hn3 : Hid (n3 = e.l.tail.length) := hn3'
  clear hn3'
  replace r3 : RowZ KS (w.setCell ⟨g2, o2, none⟩ (.string ⟨#[]⟩)) (.slice a3 n3 c3') e.l.tail := r3
  have ne1 : g2 ≠ qb := fun q => by
    have := hT4 g2 rfl
    rw [q, hT3] at this
    simp at this
  have ne2 : qb ≠ B := fun q => by
    rw [q, h.tB] at hT3
    simp at hT3
  have ne3 : g2 ≠ B := fun q => by
    have := hT4 g2 rfl
    rw [q, h.tB] at this
    simp at this
  obtain ⟨v, hv⟩ : ∃ v, v = e.d - (hdE e).size := ⟨_, rfl⟩
  have wv : wrap64 (e.d - (hdE e).size) = v := by rw [hv]; unfold wrap64; omega
  have hcp : 1 ≤ cntE f.r := by
    rw [hr, cntE, hl3]
    simp
    omega
  obtain ⟨m, hm⟩ : ∃ m : Nat, m = cntE f.r := ⟨_, rfl⟩
  rw [← hm] at c5 hcp hl
  have wc : wrap64 ((m : Int) - 1) = (m : Int) - 1 := by unfold wrap64; omega
  obtain ⟨w3, hw3⟩ : ∃ w3, w3 = ((w.setCell ⟨g2, o2, none⟩ (.string ⟨#[]⟩)).setCell ⟨qb, 0, none⟩ (.slice a3 n3 c3')).setCell ⟨qb, 1, none⟩ (.int .i64 v) := ⟨_, rfl⟩
  obtain ⟨w5, hw5⟩ : ∃ w5, w5 = (w3.setCell ⟨B, 4, none⟩ (.bool true)).setCell ⟨B, 5, none⟩ (.int .i64 ((m : Int) - 1)) := ⟨_, rfl⟩
  have kA : Kept (fun k => k = g2) w (w.setCell ⟨g2, o2, none⟩ (.string ⟨#[]⟩)) := (Kept.refl (fun k => k = g2) w).set ⟨g2, o2, none⟩ rfl _
  have kB : Kept (fun k => k = qb) (w.setCell ⟨g2, o2, none⟩ (.string ⟨#[]⟩)) w3 := by
    rw [hw3]
    exact ((Kept.refl (fun k => k = qb) _).set ⟨qb, 0, none⟩ rfl _).set ⟨qb, 1, none⟩ rfl _
  have k3 : Kept (fun k => T k = some (3, e.id) ∨ T k = some (4, e.id)) w w3 := (kA.mono fun k _ q => .inr (by rw [q]; exact hT4 g2 rfl)).trans (kB.mono fun k _ q => .inl (by rw [q]; exact hT3))
  have l3 : Lies w3 qb [.slice a3 n3 c3', .int .i64 v] := by
    rw [hw3]
    exact ((hQ.of_block (kA.block qb (hQ.lt (by show 0 < 2; decide)) (fun q => ne1 q.symm))).put 0 (by show 0 < 2; decide) _).put 1 (by show 1 < 2; decide) _
  have hob' : ∀ k, (Value.slice a3 n3 c3').ownBlock = some k → k = g2 := fun k hk => by
    rw [hob] at hk
    injection hk with hk
    exact hk.symm
  have P3 := h.que e.id (v := some (e.l.tail, v)) k3 ⟨qb, _, hS, l3, r3.of fun k hk => kB.block k (r3.lt k hk) (by rw [hob' k hk]; exact ne1), hT3, fun k hk => by rw [hob' k hk]; exact hT4 g2 rfl⟩
  have k5 : Kept (fun k => k = B) w3 w5 := by
    rw [hw5]
    exact ((Kept.refl (fun k => k = B) w3).set ⟨B, 4, none⟩ rfl _).set ⟨B, 5, none⟩ rfl _
  have P5 := P3.top (ids' := (pgOf f).ids) (sv' := true) (cnt' := (m : Int) - 1) k5 (by
    rw [hw5]
    exact (P3.h.put 4 (by show 4 < 6; decide) _).put 5 (by show 5 < 6; decide) _) P3.r P3.tr
  have K5 : Kept (fun k => T k ≠ none) w w5 := (k3.mono fun k _ q => by rcases q with q | q <;> rw [q] <;> simp).trans (k5.mono fun k _ q => by rw [q, h.tB]; simp)
  have q05 : w5.cell? ⟨qb, 0, none⟩ = some (.slice a3 n3 c3') := (l3.of_block (k5.block qb (l3.lt (by show 0 < 2; decide)) ne2)).cell 0 rfl
  have PP : Hid (PG w5 B T ⟨f.lim, f.qu, f.r.map FaE.id, updT (tblE f.r) e.id (some (e.l.tail, v)), true, (m : Int) - 1, f.pz⟩) := ⟨_, _, _, P5⟩
  obtain ⟨N, hN⟩ : ∃ N, N = (t.map FaE.id).length + 1 := ⟨_, rfl⟩
  obtain ⟨N2, hN2⟩ : ∃ N, N = e.l.tail.length + 1 := ⟨_, rfl⟩
  rw [← hN] at hix c2
  rw [← hN2] at hix2 hcut q0
  replace hw3 := Lib.hid hw3
  replace hw5 := Lib.hid hw5
  replace q05 := Lib.hid q05
  replace hx := Lib.hid hx
  replace hn := Lib.hid hn
  replace hids := Lib.hid hids
  have KK := Lib.hid K5
  replace hl3 := Lib.hid hl3
  replace hm := Lib.hid hm
  replace hr := Lib.hid hr
  clear hR hV hQ hS hT3 hT4 hcp r3 hob hob' kA kB k3 l3 P3 k5 P5 K5 h htb hN hN2 hg hg2 hc hc2 hd hs hne e0
  replace hv := Lib.hid hv
  go_enter Try.func24, Try.ntmps24
  go_upto_region 9 with fail
  rw [← hw3.out, ← hw5.out]
  clear hw3 hw5 c2 c3 c4 c5 z4 z5 q0 q1 y0 y1 cx cs zs hlk hix hix2 hcut wv wc ne1 ne2 ne3
  have q05 := q05.out
  have hn64 : n3 ≤ 9223372036854775807 := by
    have h1 := hn3.out
    have h2 : e.l.tail.length ≤ e.l.length := by simp
    have h3 : e.l.length ≤ cntE f.r := by rw [hr.out, cntE]; omega
    have h4 := hm.out
    omega
  by_cases qq : e.l.tail = []
  · have n0 : n3 = 0 := by rw [hn3.out, qq]; rfl
    have hft : takeT f = { f with r := t, sv := false } := by unfold takeT; rw [hr.out]; simp only [qq, if_true]
    have hnd := hn.out
    rw [hr.out, List.map_cons] at hnd
    have CL := Lib.hid (fleave_ok B T _ e.id (t.map FaE.id) e.id w5 PP.out (show f.r.map FaE.id = _ by rw [hr.out]; rfl) hn.out hx.out (show e.id ∈ f.r.map FaE.id by rw [hr.out]; simp) (show (f.r.map FaE.id).length < _ by simpa using hl2))
    have FIN : Hid (∀ w' T', PG w' B T' ⟨f.lim, f.qu, (f.r.map FaE.id).filter (fun y => decide (y ≠ e.id)), updT (updT (tblE f.r) e.id (some (e.l.tail, v))) e.id none, if e.id = e.id then false else true, (m : Int) - 1, f.pz⟩ → PG w' B T' (pgOf (takeT f))) := fun w' T' h => by
      rw [hft]
      have e1 : (f.r.map FaE.id).filter (fun y => decide (y ≠ e.id)) = t.map FaE.id := by
        rw [hr.out]
        exact (tail_filter hnd).symm
      have e2 : updT (updT (tblE f.r) e.id (some (e.l.tail, v))) e.id none = tblE t := by
        rw [tbl_tail e t fun x hx q => (List.nodup_cons.1 hnd).1 (q ▸ List.mem_map_of_mem hx), hr.out]
        funext y
        unfold updT
        by_cases z : y = e.id
        · rw [if_pos z, if_pos z]
        · rw [if_neg z, if_neg z, if_neg z]
      have e3 : (m : Int) - 1 = (cntE t : Nat) := by
        have := hm.out
        have h1 : e.l.length = 1 := by
          have := congrArg List.length hl3.out
          rw [List.length_cons, qq] at this
          exact this
        rw [hr.out, cntE, h1] at this
        omega
      rw [e1, e2, e3, if_pos rfl] at h
      exact h
    subst n0
    clear hn3 hft hnd PP hl3
    replace qq := Lib.hid qq
    go_wp2_with fail
    refine CL.out.mono ?_
    rintro e' w6 ⟨rfl, T', P6, E6, K6⟩
    replace K6 := K6.low
    have FF : Hid (∃ T', PG w6 B T' (pgOf (takeT f)) ∧ ExtT T T' w.heap.size ∧ Kept (fun k => T k ≠ none) w w6) := ⟨T', FIN.out _ _ P6, fun k hk => E6 k (Nat.lt_of_lt_of_le hk KK.out.size), KK.out.trans K6⟩
    clear P6 E6 K6 CL FIN
    go_wp2_with fail
    go_ret2
    exact ⟨rfl, FF.out⟩
  · have n0 : n3 ≠ 0 := by
      rw [hn3.out]
      exact fun q => qq (List.eq_nil_of_length_eq_zero q)
    have n1 : ¬ (n3 : Int) = 0 := by omega
    have hft : takeT f = { f with r := { e with l := e.l.tail, d := e.d - (hdE e).size } :: t, sv := true } := by unfold takeT; rw [hr.out]; simp only [qq, if_false]
    have FF : Hid (∃ T', PG w5 B T' (pgOf (takeT f)) ∧ ExtT T T' w.heap.size ∧ Kept (fun k => T k ≠ none) w w5) := by
      refine ⟨T, ?_, .refl _ _, KK.out⟩
      rw [hft, ← hv.out]
      have e2 : tblE ({ e with l := e.l.tail, d := v } :: t) = updT (tblE f.r) e.id (some (e.l.tail, v)) := by rw [hr.out]; exact tbl_set_head e t _ _
      have e3 : (m : Int) - 1 = (cntE ({ e with l := e.l.tail, d := v } :: t) : Nat) := by
        have h1 := hm.out
        have h2 := congrArg List.length hl3.out
        rw [List.length_cons] at h2
        rw [hr.out, cntE] at h1
        simp only [cntE]
        omega
      have := PP.out
      rw [← e2, e3, hr.out] at this
      exact this
    replace qq := Lib.hid qq
    clear hn3 hft PP hl3
    go_wp2_with fail
    go_ret2
    exact ⟨rfl, FF.out⟩
end Go.Proofs.Ytiamlldooihkdaa
