/-
  The document's own queues: Drop. No condition but what always holds of queues, and how many were pushed.
-/
import Derived.Test.YtiamlldooihkdaaFaRa
import Derived.Test.YtiamlldooihkdaaObRun
namespace Go.Proofs.Ytiamlldooihkdaa
set_option maxRecDepth 100000
open Go.RowKit

theorem tbl_snoc (r : List FaE) (e : FaE) (x : Int) : tblE (r ++ [e]) x = match tblE r x with | some v => some v | none => if e.id = x then some (e.l, e.d) else none := by
  induction r with
  | nil => rfl
  | cons a t ih =>
    rw [List.cons_append, tblE, tblE]
    by_cases q : a.id = x
    · rw [if_pos q, if_pos q]
    · rw [if_neg q, if_neg q, ih]
theorem take_one {X : Type} (l : List X) (i : Nat) (d : X) (hi : i < l.length) : l.take (i + 1) = l.take i ++ [l.getD i d] := by
  rw [List.take_add_one, List.getElem?_eq_getElem hi, List.getD_eq_getElem?_getD, List.getElem?_eq_getElem hi]
  rfl
def svD (f : FaQ) (x : Int) (i : Nat) : Bool := if i = 0 then f.sv else (dropE f x).sv
def ftD (x : Int) (l : List QX) : List QX := l.filter fun y => decide (y.1.id ≠ x)
structure DrI (w wr : World) (R : Nat) (f : FaQ) (x : Int) (ws : List QX) (lv : Value) (i : Nat) (v : Value) : Prop where
  h : Lies wr R [.int .i64 f.lim, .int .i64 f.qu, lv, .bool (svD f x i)]
  r : RowZ KQ wr v (ftD x (ws.take i))
  o : ∀ k, v.ownBlock = some k → w.heap.size ≤ k
  k : Kept (fun k => k = R) w wr
theorem ls_at {f : FaQ} (ok : f.Ok) {i : Nat} (hi : i < f.r.length) {x : Int} (hx : (f.r.getD i fe0).id = x) : (lsE (f.r.take (i + 1)) x) = (f.r.getD i fe0).l := by
  have hn : tblE (f.r.take i) x = none := by
    refine (tbl_none _ _).2 fun a ha q => ?_
    have hid := ok.ids
    have e : f.r = f.r.take i ++ f.r.drop i := (List.take_append_drop i f.r).symm
    rw [e, List.map_append, List.nodup_append] at hid
    have hm : (f.r.getD i fe0) ∈ f.r.drop i := by
      rw [List.getD_eq_getElem?_getD, List.getElem?_eq_getElem hi]
      exact List.mem_iff_getElem.2 ⟨0, by simp; omega, by simp⟩
    exact hid.2.2 _ (List.mem_map_of_mem ha) _ (List.mem_map_of_mem hm) (q.trans hx.symm)
  unfold lsE
  rw [take_one f.r i fe0 hi, tbl_snoc, hn]
  simp only
  rw [if_pos hx]
theorem ls_off {f : FaQ} {i : Nat} (hi : i < f.r.length) {x : Int} (hx : (f.r.getD i fe0).id ≠ x) : lsE (f.r.take (i + 1)) x = lsE (f.r.take i) x := by
  unfold lsE
  rw [take_one f.r i fe0 hi, tbl_snoc]
  cases tblE (f.r.take i) x with
  | some v => rfl
  | none => simp only; rw [if_neg hx]
theorem sv_step {f : FaQ} {i : Nat} (hi : i < f.r.length) {x : Int} : svD f x (i + 1) = if i = 0 ∧ (f.r.getD i fe0).id = x then false else svD f x i := by
  unfold svD dropE
  rw [if_neg (Nat.succ_ne_zero i)]
  simp only
  cases hr : f.r with
  | nil => rw [hr] at hi; exact absurd hi (Nat.not_lt_zero _)
  | cons e t =>
    simp only
    cases i with
    | zero =>
      rw [if_pos rfl]
      show (if e.id = x then false else f.sv) = if (0 : Nat) = 0 ∧ e.id = x then false else f.sv
      simp
    | succ i => simp
set_option maxHeartbeats 4000000 in
theorem rdrop_ok {w : World} {R : Nat} {F : Nat → Prop} {f : FaQ} (h : RF w R F f) (x : Int) (hz : f.pz < 1000000) :
    Calls Try.prog 15 #[ptr R, .int .i64 x] w fun e w' => e = .returned (.int .i64 (lsE f.r x).length) ∧ RF w' R (more F w w') (dropE f x) ∧ Kept F w w' := by
  obtain ⟨hl, hR, ok, ws, lv, h, o1, o2⟩ := h
  have hn := ok.n
  have hlc := (len_cnt ok).1
  have hRl := hl R hR
  have hwl := h.len
  have I0 : Hid (DrI w w R f x ws lv 0 (.slice none 0 0)) := ⟨h.h, .nil _, fun k hk => (by cases hk), .refl _ _⟩
  -- the end
  have FIN : Hid (∀ wr v, DrI w wr R f x ws lv f.r.length v → RF (wr.setCell ⟨R, 2, none⟩ v) R (more F w (wr.setCell ⟨R, 2, none⟩ v)) (dropE f x) ∧ Kept F w (wr.setCell ⟨R, 2, none⟩ v)) := fun wr v D => by
    have K : Kept (fun k => k = R) w (wr.setCell ⟨R, 2, none⟩ v) := D.k.set ⟨R, 2, none⟩ rfl v
    have nv : ∀ k, v.ownBlock = some k → k ≠ R := fun k hk q => by have := D.o k hk; omega
    have KF : Kept F w (wr.setCell ⟨R, 2, none⟩ v) := K.mono fun k _ q => by rw [q]; exact hR
    refine ⟨RF.done hl hR (drop_ok ok x) K.size (ws := ftD x ws) (lv := v) ⟨?_, ?_, ?_, fun y hy => ?_, fun y hy k hk => ⟨(h.n1 y (List.mem_filter.1 hy).1 k hk).1, fun q => ?_⟩, fun q => nv R q rfl⟩ (fun k hk => .inr (D.o k hk)) (fun y hy k hk => .inl (o2 y (List.mem_filter.1 hy).1 k hk)), KF⟩
    · have := D.h.put 2 (by show 2 < 4; decide) v
      have e : svD f x f.r.length = (dropE f x).sv := by
        unfold svD
        by_cases q : f.r.length = 0
        · rw [if_pos q]
          unfold dropE
          rw [List.eq_nil_of_length_eq_zero q]
        · rw [if_neg q]
      rw [e] at this
      exact this
    · have := D.r
      rw [← hwl, List.take_length] at this
      exact this.of fun k hk => ((Kept.refl (fun k => k = R) wr).set ⟨R, 2, none⟩ rfl v).block k (this.lt k hk) (nv k hk)
    · show (ws.filter _).map Prod.fst = f.r.filter _
      rw [← h.e, List.filter_map]
      rfl
    · exact (h.s y (List.mem_filter.1 hy).1).of fun k hk => K.block k ((h.s y (List.mem_filter.1 hy).1).lt k hk) (h.n1 y (List.mem_filter.1 hy).1 k hk).1
    · have h1 := D.o k q
      have h2 := (h.s y (List.mem_filter.1 hy).1).lt k hk
      omega
  obtain ⟨a, c, rfl, -⟩ := h.slice
  obtain ⟨n, hnl⟩ : ∃ n, n = f.r.length := ⟨_, rfl⟩
  have hn1 : n < 1000000 := by omega
  -- an entry
  have AT : Hid (∀ i wr v, i < n → DrI w wr R f x ws (.slice a f.r.length c) i v → ∃ g o, a = some ⟨g, o, none⟩ ∧ (∀ w', (Instr.indexAt 51 (.slice a n c) (.int .i64 (i : Int))).run Try.prog w' = .ok (.pointer (some ⟨g, o + 3 * i, none⟩)) w') ∧ wr.cell? ⟨g, o + 3 * i, none⟩ = some (.int .i64 (f.r.getD i fe0).id) ∧ ∃ la lc, wr.cell? ⟨g, o + 3 * i + 1, none⟩ = some (.slice la (f.r.getD i fe0).l.length lc) ∧ wr.cell? ⟨g, o + 3 * i + 2, none⟩ = some (.int .i64 (f.r.getD i fe0).d) ∧
      -- where it stays
      ((f.r.getD i fe0).id ≠ x → ∃ va vn vc a' n' c' w', v = .slice va vn vc ∧ (∀ z, (builtin .append #[51, 51] 51 z #[.slice va vn vc, .slice (some ⟨wr.heap.size, 0, none⟩) 1 1]).run Try.prog (wr.alloc (.cells #[.int .i64 (f.r.getD i fe0).id, .slice la (f.r.getD i fe0).l.length lc, .int .i64 (f.r.getD i fe0).d] 58)) = .ok (.value (.slice a' n' c')) w') ∧ DrI w w' R f x ws (.slice a f.r.length c) (i + 1) (.slice a' n' c'))) := fun i wr v hi D => by
    have hi' : i < f.r.length := by omega
    obtain ⟨g, o, h1, hg, hgR, h2, h3, ⟨la, lc, ex, h4⟩, h5, -⟩ := h.at hi'
    rw [← hnl] at h2
    have eb := D.k.block g hg hgR
    refine ⟨g, o, h1, h2, (World.cell?_of_block (w := w) eb).trans h3, la, lc, (World.cell?_of_block (w := w) eb).trans h4, (World.cell?_of_block (w := w) eb).trans h5, fun hne => ?_⟩
    obtain ⟨va, vc, hv, -⟩ := D.r.slice
    have hfl : (ftD x (ws.take i)).length ≤ n := by
      have h6 := List.length_filter_le (fun y : QX => decide (y.1.id ≠ x)) (ws.take i)
      have h7 := List.length_take_le i ws
      show ((ws.take i).filter _).length ≤ n
      omega
    obtain ⟨a', n', c', w', hap, r', -, o', k'⟩ := D.r.snoc kq_ok (ws.getD i qx0) 58 51 (by show (_ + 1) * 40 ≤ _; omega) (by unfold maxLen; omega)
    have hcs : KQ.cells (ws.getD i qx0) = [.int .i64 (f.r.getD i fe0).id, .slice la (f.r.getD i fe0).l.length lc, .int .i64 (f.r.getD i fe0).d] := by rw [ex]; rfl
    rw [hcs, hv] at hap
    have hRw : R < wr.heap.size := Nat.lt_of_lt_of_le hRl D.k.size
    have nR : ¬ v.ownBlock = some R := fun q => by have := D.o R q; omega
    refine ⟨va, _, vc, a', n', c', w', hv, hap, ?_, ?_, fun k hk => ?_, ?_⟩
    · have := D.h.of_block (k'.block R hRw nR)
      rw [sv_step hi', if_neg (fun q => hne q.2)]
      exact this
    · rw [take_one ws i qx0 (by omega)]
      unfold ftD
      rw [List.filter_append]
      have : ([ws.getD i qx0].filter fun y : QX => decide (y.1.id ≠ x)) = [ws.getD i qx0] := by
        rw [ex, List.filter_cons, if_pos (decide_eq_true hne)]
        rfl
      rw [this]
      exact r'
    · rcases o' k hk with q | q
      · exact D.o k q
      · exact Nat.le_trans D.k.size q
    · exact ⟨k'.os.trans D.k.os, k'.tape.trans D.k.tape, k'.output.trans D.k.output, Nat.le_trans D.k.size k'.size, fun k hk hf => (k'.block k (Nat.lt_of_lt_of_le hk D.k.size) fun q => by have := D.o k q; omega).trans (D.k.block k hk hf)⟩
  -- where it goes
  have OFF : Hid (∀ i wr v, i < n → (f.r.getD i fe0).id = x → DrI w wr R f x ws (.slice a f.r.length c) i v → (i ≠ 0 → DrI w wr R f x ws (.slice a f.r.length c) (i + 1) v) ∧ (i = 0 → DrI w (wr.setCell ⟨R, 3, none⟩ (.bool false)) R f x ws (.slice a f.r.length c) (i + 1) v)) := fun i wr v hi hx D => by
    have hi' : i < f.r.length := by omega
    obtain ⟨g, o, -, -, -, -, -, ⟨la, lc, ex, -⟩, -, -⟩ := h.at hi'
    have hft : ftD x (ws.take (i + 1)) = ftD x (ws.take i) := by
      rw [take_one ws i qx0 (by omega)]
      unfold ftD
      rw [List.filter_append]
      have : ([ws.getD i qx0].filter fun y : QX => decide (y.1.id ≠ x)) = [] := by
        rw [ex, List.filter_cons, if_neg fun q => (of_decide_eq_true q) hx]
        rfl
      rw [this, List.append_nil]
    have hs := sv_step hi' (x := x)
    refine ⟨fun h0 => ⟨?_, by rw [hft]; exact D.r, D.o, D.k⟩, fun h0 => ⟨?_, ?_, D.o, D.k.set ⟨R, 3, none⟩ rfl _⟩⟩
    · rw [hs, if_neg fun q => h0 q.1]
      exact D.h
    · rw [hs, if_pos ⟨h0, hx⟩]
      exact D.h.put 3 (by show 3 < 4; decide) _
    · rw [hft]
      exact D.r.of fun k hk => ((Kept.refl (fun k => k = R) wr).set ⟨R, 3, none⟩ rfl (.bool false)).block k (D.r.lt k hk) fun q => by have := D.o k hk; omega
  have LA : Hid (∀ i, i < n → (f.r.getD i fe0).id = x → lsE (f.r.take (i + 1)) x = (f.r.getD i fe0).l) := fun i hi hx => ls_at ok (by omega) hx
  have LO : Hid (∀ i, i < n → (f.r.getD i fe0).id ≠ x → lsE (f.r.take (i + 1)) x = lsE (f.r.take i) x) := fun i hi hx => ls_off (by omega) hx
  have LN : Hid (lsE (f.r.take n) x = lsE f.r x) := by rw [hnl, List.take_length]; exact rfl
  have L6 : Hid (∀ i, i < n → (f.r.getD i fe0).l.length ≤ 9223372036854775807) := fun i hi => by
    have := (len_cnt ok).2 (f.r.getD i fe0) (by
      rw [List.getD_eq_getElem?_getD, List.getElem?_eq_getElem (by omega)]
      exact List.getElem_mem _)
    omega
  have hln := Lib.hid hnl
  rw [← hnl] at I0 FIN AT OFF
  clear h o1 o2 hl hR ok hn hlc hwl hz hRl hnl
  go_enter Try.func15, Try.ntmps15
  go_wp2_with fail
  go_loopg [5, 6, 7] n (fun g' s5 s6 s7 wr => ∃ i : Nat, i + g' = n ∧ s5 = .int .i64 (lsE (f.r.take i) x).length ∧ s7 = .int .i64 i ∧ Hid (DrI w wr R f x ws (.slice a n c) i s6))
  case atStart => exact ⟨0, by omega, rfl, rfl, I0⟩
  case round =>
    clear I0
    obtain ⟨i, hi, rfl, rfl, D⟩ := hrel
    have c2 := D.out.h.cell 2 rfl
    by_cases hlt : i < n
    · have q1 : decide (i < n) = true := decide_eq_true hlt
      have q2 : decide ((i : Int) < (n : Int)) = true := decide_eq_true (by omega)
      obtain ⟨g, o, rfl, ia, d0, la, lc, d1, d2, ST⟩ := AT.out i wr _ hlt D.out
      have OF := OFF.out i wr u6 hlt
      have l6 := Lib.hid (L6.out i hlt)
      have la1 := LA.out i hlt
      have lo1 := LO.out i hlt
      have wi : Hid (wrap64 ((i : Int) + 1) = (i : Int) + 1) := by unfold Hid wrap64; omega
      have gi : Hid (i + 1 + (n - (i + 1)) = n) := by unfold Hid; omega
      have gm : Hid (n - (i + 1) < gk) := by unfold Hid; omega
      clear hi
      obtain ⟨id, hid⟩ : ∃ y, y = (f.r.getD i fe0).id := ⟨_, rfl⟩
      obtain ⟨ll, hll⟩ : ∃ y, y = (f.r.getD i fe0).l.length := ⟨_, rfl⟩
      obtain ⟨dd, hdd⟩ : ∃ y, y = (f.r.getD i fe0).d := ⟨_, rfl⟩
      rw [← hid, ← hll, ← hdd] at ST
      rw [← hid] at d0 OF la1 lo1
      rw [← hll] at d1 l6
      rw [← hdd] at d2
      by_cases hx : id = x
      · have e1 : (id != x) = false := by simp [hx]
        have e2 : decide (id = x) = true := decide_eq_true hx
        have e3 : (id == x) = true := by simp [hx]
        have ln : Hid (Value.int .i64 (ll : Int) = .int .i64 ((lsE (f.r.take (i + 1)) x).length : Int)) := by unfold Hid; rw [la1 hx, hll]
        obtain ⟨OF1, OF2⟩ := OF hx D.out
        by_cases h0 : i = 0
        · have D2 := Lib.hid (OF2 h0)
          have c3 := D.out.h.cell 3 (v := .bool (svD f x i)) rfl
          have f3 := D.out.h.free 3 (by show 3 < 4; decide)
          subst h0
          subst hx
          have d0' : wr.cell? ⟨g, o, none⟩ = some (.int .i64 id) := d0
          have d1' : wr.cell? ⟨g, o + 1, none⟩ = some (.slice la ll lc) := d1
          clear OF1 OF2 OFF AT LA LO L6 ST la1 lo1 hid hll hdd D
          replace l6 := l6.out
          go_upto_region 5 with fail
          clear q1 q2 ia d0 d1 d2 e1 e2 e3 c2 c3 f3 l6 hlt d0' d1'
          replace wi := wi.out
          go_wp2_with fail
          go_roundg (n - (0 + 1))
          case measure => exact gm.out
          case rel => exact ⟨0 + 1, gi.out, ln.out, by go_num, D2⟩
        · have D2 := Lib.hid (OF1 h0)
          have h1 : decide ((i : Int) = 0) = false := decide_eq_false (by omega)
          have h2 : ((i : Int) == 0) = false := by simp; omega
          have h3 : ¬ (i : Int) = 0 := by omega
          subst hx
          clear OF1 OF2 OFF AT LA LO L6 ST la1 lo1 hid hll hdd D
          replace l6 := l6.out
          go_upto_region 5 with fail
          clear q1 q2 ia d0 d1 d2 e1 e2 e3 c2 l6 hlt h0 h1 h2 h3
          replace wi := wi.out
          go_wp2_with fail
          go_roundg (n - (i + 1))
          case measure => exact gm.out
          case rel => exact ⟨i + 1, gi.out, ln.out, by go_num, D2⟩
      · have e1 : (id != x) = true := by simp [hx]
        have e2 : decide (id = x) = false := decide_eq_false hx
        have e3 : (id == x) = false := by simp [hx]
        obtain ⟨va, vn, vc, a', n', c', w', rfl, hap, D2⟩ := ST hx
        have ln : Hid (Value.int .i64 ((lsE (f.r.take i) x).length : Int) = .int .i64 ((lsE (f.r.take (i + 1)) x).length : Int)) := by unfold Hid; rw [lo1 hx]
        replace hap := Lib.hid hap
        replace D2 := Lib.hid D2
        clear OF OFF AT LA LO L6 ST la1 lo1 hid hll hdd D
        replace l6 := l6.out
        go_upto_region 5 with (refine obB2L _ rfl .append (.tmp 27) (.tmp 35) 51 51 rfl (.slice va vn vc) (.slice (some ⟨wr.heap.size, 0, none⟩) 1 1) rfl rfl hap.out ?_)
        clear q1 q2 ia d0 d1 d2 e1 e2 e3 c2 l6 hlt hx hap
        replace wi := wi.out
        go_wp2_with fail
        go_roundg (n - (i + 1))
        case measure => exact gm.out
        case rel => exact ⟨i + 1, gi.out, ln.out, by go_num, D2⟩
    · obtain rfl : i = n := by omega
      have q1 : decide (i < i) = false := decide_eq_false hlt
      have q2 : decide ((i : Int) < (i : Int)) = false := decide_eq_false (by omega)
      obtain ⟨va, vc, hv, -⟩ := D.out.r.slice
      subst hv
      obtain ⟨E1, E2⟩ := FIN.out wr _ D.out
      have f2 := D.out.h.free 2 (by show 2 < 4; decide)
      replace E1 := Lib.hid E1
      replace E2 := Lib.hid E2
      have eL := Lib.hid (congrArg List.length LN.out)
      clear AT OFF LA LO L6 FIN D
      go_wp2_with fail
      go_ret
      exact ⟨by rw [← eL.out]; rfl, E1.out, E2.out⟩
end Go.Proofs.Ytiamlldooihkdaa
