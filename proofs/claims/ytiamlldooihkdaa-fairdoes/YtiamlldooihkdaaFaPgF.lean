/-
  What the program's own queues do: Push. No condition but what always holds of queues, and how many were pushed.
-/
import Derived.Test.YtiamlldooihkdaaFaAdd
namespace Go.Proofs.Ytiamlldooihkdaa
set_option maxRecDepth 100000
open Go.RowKit

theorem push_tb (f : FaQ) (x : Int) (s : ByteArray) (hp : pushE f x s = 0) (hn : (f.r.map FaE.id).Nodup) (l : List ByteArray) (d : Int) (ids : List Int)
    (hld : match tblE f.r x with | none => l = [] ∧ d = 0 ∧ ids = f.r.map FaE.id ++ [x] | some v => v = (l, d) ∧ ids = f.r.map FaE.id) :
    pgOf (pushQ f x s) = ⟨f.lim, f.qu, ids, updT (tblE f.r) x (some (l ++ [s], d)), f.sv, (cntE f.r : Int) + 1, f.pz + 1⟩ := by
  unfold pushQ
  rw [if_pos hp]
  unfold pgOf
  simp only
  rw [tbl_add, addL_ids, cnt_add _ _ _ hn]
  cases h : tblE f.r x with
  | none =>
    rw [h] at hld
    obtain ⟨rfl, rfl, rfl⟩ := hld
    rfl
  | some v =>
    rw [h] at hld
    obtain ⟨rfl, rfl⟩ := hld
    rfl
set_option maxHeartbeats 4000000 in
theorem fpush_ok (B : Nat) (T : Tag) (f : FaQ) (x : Int) (s : ByteArray) (w : World) (h : PG w B T (pgOf f)) (ok : f.Ok) (hx : In64 x) (hz : f.pz < 1000000) (hsz : s.size ≤ 9223372036854775807) :
    Calls Try.prog 10 #[ptr B, .int .i64 x, .string s] w fun e' w' => e' = .returned (.int .i64 (pushE f x s)) ∧ ∃ T', PG w' B T' (pgOf (pushQ f x s)) ∧ ExtT T T' w.heap.size ∧ Kept (fun k => T k ≠ none) w w' := by
  obtain ⟨rv, bm, S, h⟩ := h
  have c3 := h.h.cell 3 (v := .map (some bm)) rfl
  have hlen := len_cnt ok
  have hpz := ok.n
  have hPX := Lib.hid h
  -- an answer that leaves all as it was
  have NO : Hid (∀ w', pushE f x s ≠ 0 → Below w.heap.size w w' → ∃ T', PG w' B T' (pgOf (pushQ f x s)) ∧ ExtT T T' w.heap.size ∧ Kept (fun k => T k ≠ none) w w') := fun w' hp b => by
    have e : pgOf (pushQ f x s) = { pgOf f with n := f.pz + 1 } := by unfold pushQ; rw [if_neg hp]; rfl
    rw [e]
    have h1 := h.keep (fun k hk => b.block k (h.lt k hk)) b.size
    exact ⟨T, ⟨rv, bm, S, ⟨h1.h, h1.r, h1.m.more (by show f.pz ≤ f.pz + 1; omega), h1.tB, h1.tm, h1.tr, h1.q, h1.lt⟩⟩, .refl _ _, .of _ b⟩
  cases htb : tblE f.r x with
  | none =>
    have hS : S x = none := by
      have := h.q x
      have e : (pgOf f).tb x = none := htb
      rw [e] at this
      exact this
    have hlk := h.look hx (v := .pointer none) (by rw [hS]; rfl) w rfl
    by_cases hl : 65535 < s.size
    · have hpe : pushE f x s = 8 := by unfold pushE; rw [if_pos hl]
      have g1 : decide ((65535 : Int) < (s.size : Int)) = true := decide_eq_true (by omega)
      have g2 : decide (65535 < s.size) = true := decide_eq_true hl
      have NN := Lib.hid (NO.out w (by rw [hpe]; decide) (Below.refl _ _))
      rw [hpe]
      clear NO hPX h ok hlen hS htb hpe
      go_enter Try.func10, Try.ntmps10
      go_wp2
      go_ret
      exact ⟨rfl, NN.out⟩
    · have hpe : pushE f x s = 0 := by unfold pushE; rw [if_neg hl, htb]
      have g1 : decide ((65535 : Int) < (s.size : Int)) = false := decide_eq_false (by omega)
      have g2 : decide (65535 < s.size) = false := decide_eq_false hl
      have EQ : Hid (pgOf (pushQ f x s) = ⟨f.lim, f.qu, f.r.map FaE.id ++ [x], updT (tblE f.r) x (some ([] ++ [s], 0)), f.sv, (cntE f.r : Int) + 1, f.pz + 1⟩) := push_tb f x s hpe ok.ids [] 0 _ (by rw [htb]; exact ⟨rfl, rfl, rfl⟩)
      rw [hpe]
      obtain ⟨w1, hw1⟩ : ∃ w1, w1 = w.alloc (.cells #[.slice none 0 0, .int .i64 0] 56) := ⟨_, rfl⟩
      obtain ⟨qb, hqb⟩ : ∃ qb, qb = w.heap.size := ⟨_, rfl⟩
      have b1 : Below w.heap.size w w1 := by rw [hw1]; exact (Below.refl _ _).alloc (Nat.le_refl _) _
      have m1 : Hid (MapV MQ w1 bm f.pz S) := h.m.keep b1
      have c31 := (b1.cell (h.h.lt (by show 0 < 6; decide))).trans c3
      have hx' : -9223372036854775808 ≤ x ∧ x ≤ 9223372036854775807 := hx
      replace b1 := Lib.hid b1
      have hW1 := Lib.hid hw1
      have hcl := hlen.1
      clear h ok hlen hS htb hpe NO
      go_enter Try.func10, Try.ntmps10
      go_upto_region 6 with fail
      rw [← hqb, ← hw1]
      clear c3 hw1 hlk
      replace hqb := Lib.hid hqb
      go_upto_region 7 with (refine m1.out.wput mq_ok (by unfold maxLen; omega) rfl (.tmp 26) (.tmp 27) (.tmp 28) (.inl rfl) hx' rfl rfl rfl ?_)
      intro w2 m2 gr2
      obtain ⟨T2, P2, E2, K2⟩ := hPX.out.ins x hW1.out gr2 (by rw [← hqb.out]; exact m2)
      obtain ⟨a, n, c, a5, n5, c5, w5, hrv, hap, d2, z2, T3, P3, E3, K3⟩ := P2.appId x (by show (f.r.map FaE.id).length < _; rw [List.length_map]; omega)
      have c2 := P2.h.cell 2 (v := rv) rfl
      rw [hrv] at c2
      have hap := Lib.hid hap
      have K23 := Lib.hid (K2.tags K3 E2)
      have E23 := Lib.hid (E2.trans E3 K2.size)
      have hqs : (if x = x then some (ptr w.heap.size) else S x) = some (ptr qb) := by rw [if_pos rfl, hqb.out]
      have P3 := Lib.hid P3
      obtain ⟨w6, hw6⟩ : ∃ w6, w6 = w5.setCell ⟨B, 2, none⟩ (.slice a5 n5 c5) := ⟨_, rfl⟩
      rw [← hw6] at P3 K23
      clear K2 K3 E2 E3 P2 hrv c31 m2 gr2 m1
      go_upto_region 10 with (refine obB2L _ rfl .append (.tmp 33) (.tmp 35) 48 48 rfl (.slice a n c) (.slice (some ⟨w2.heap.size, 0, none⟩) 1 1) rfl rfl hap.out ?_)
      rw [← hw6]
      clear c2 hap d2 z2 hw6
      obtain ⟨a, n, c, a7, n7, c7, w7, hnl, q0, hap, q7, z7, -, T4, P4, E4, K4⟩ := P3.out.appS (x := x) (l := []) (d := 0) (by show updT (tblE f.r) x _ x = _; unfold updT; rw [if_pos rfl]) s (by simp) hqs
      have K24 := Lib.hid (K23.out.tags K4 E23.out)
      have E24 := Lib.hid (E23.out.trans E4 K23.out.size)
      replace hap := Lib.hid hap
      obtain ⟨w8, hw8⟩ : ∃ w8, w8 = w7.setCell ⟨qb, 0, none⟩ (.slice a7 n7 c7) := ⟨_, rfl⟩
      rw [← hw8] at P4 K24
      have c5 := P4.h.cell 5 (v := .int .i64 (cntE f.r)) rfl
      have z5 := P4.h.free 5 (by show 5 < 6; decide)
      have wc : wrap64 ((cntE f.r : Int) + 1) = (cntE f.r : Int) + 1 := by unfold wrap64; omega
      have FIN : Hid (∃ T', PG (w8.setCell ⟨B, 5, none⟩ (.int .i64 ((cntE f.r : Int) + 1))) B T' (pgOf (pushQ f x s)) ∧ ExtT T T' w.heap.size ∧ Kept (fun k => T k ≠ none) w (w8.setCell ⟨B, 5, none⟩ (.int .i64 ((cntE f.r : Int) + 1)))) := by
        have kk : Kept (fun k => k = B) w8 (w8.setCell ⟨B, 5, none⟩ (.int .i64 ((cntE f.r : Int) + 1))) := (Kept.refl (fun k => k = B) w8).set ⟨B, 5, none⟩ rfl _
        have P5 := P4.top (ids' := _) (sv' := f.sv) (cnt' := (cntE f.r : Int) + 1) kk (P4.h.put 5 (by show 5 < 6; decide) _) P4.r P4.tr
        refine ⟨T4, ?_, E24.out, K24.out.tags (kk.mono fun k _ q => by rw [q, P4.tB]; simp) E24.out⟩
        rw [EQ.out]
        have e : updT (updT (tblE f.r) x (some ([], 0))) x (some ([] ++ [s], 0)) = updT (tblE f.r) x (some ([] ++ [s], 0)) := by funext y; unfold updT; by_cases z : y = x <;> simp [z]
        rw [← e]
        exact ⟨_, _, _, P5⟩
      clear P4 E4 K4 K24 E24 P3 K23 E23 EQ hnl
      go_upto_region 11 with (refine obB2L _ rfl .append (.tmp 54) (.tmp 56) 39 39 rfl (.slice a n c) (.slice (some ⟨w6.heap.size, 0, none⟩) 1 1) rfl rfl hap.out ?_)
      rw [← hw8]
      clear hap q0 q7 z7 hw8
      go_wp2_with fail
      go_ret
      exact ⟨rfl, FIN.out⟩
  | some v =>
    obtain ⟨l, d⟩ := v
    obtain ⟨qb, pv, hS, hQ, hV, -, -⟩ := h.at (x := x) (l := l) (d := d) htb
    have hlk := h.look hx (v := ptr qb) (by rw [hS]; rfl) w rfl
    obtain ⟨e, he, rfl, rfl, rfl⟩ := tbl_some f.r x l d htb
    have hll := hlen.2 e he
    have hle := ok.ln e he
    obtain ⟨pa, pc, rfl, -⟩ := hV.slice
    have c0 := h.h.cell 0 (v := .int .i64 f.lim) rfl
    have q0 := hQ.cell 0 (v := .slice pa e.l.length pc) rfl
    by_cases hl : 65535 < s.size
    · have hpe : pushE f e.id s = 8 := by unfold pushE; rw [if_pos hl]
      have g1 : decide ((65535 : Int) < (s.size : Int)) = true := decide_eq_true (by omega)
      have g2 : decide (65535 < s.size) = true := decide_eq_true hl
      have NN := Lib.hid (NO.out w (by rw [hpe]; decide) (Below.refl _ _))
      rw [hpe]
      clear NO hPX h ok hlen hS htb hpe hV hQ c0 q0
      go_enter Try.func10, Try.ntmps10
      go_wp2
      go_ret
      exact ⟨rfl, NN.out⟩
    · have g1 : decide ((65535 : Int) < (s.size : Int)) = false := decide_eq_false (by omega)
      have g2 : decide (65535 < s.size) = false := decide_eq_false hl
      have h64 : e.l.length ≤ 9223372036854775807 := by omega
      by_cases hfull : (e.l.length : Int) = f.lim
      · have hpe : pushE f e.id s = 4 := by unfold pushE; rw [if_neg hl, htb]; simp only; rw [if_pos (by omega)]
        have g3 : decide ((e.l.length : Int) = f.lim) = true := decide_eq_true hfull
        have g4 : ((e.l.length : Int) == f.lim) = true := by simp [hfull]
        have NN : Hid _ := fun w' => NO.out w' (by rw [hpe]; decide)
        rw [hpe]
        replace hfull := Lib.hid hfull
        clear NO hPX h ok hlen hS htb hpe hV hQ hle
        go_enter Try.func10, Try.ntmps10
        go_wp2_with fail
        go_quiet (fail)
        go_wp2
        go_ret
        exact ⟨rfl, NN.out _ ⟨rfl, rfl, rfl, Nat.le_refl _, fun _ _ => rfl⟩⟩
      · have hpe : pushE f e.id s = 0 := by unfold pushE; rw [if_neg hl, htb]; simp only; rw [if_neg (by omega)]
        have g3 : decide ((e.l.length : Int) = f.lim) = false := decide_eq_false hfull
        have g4 : ((e.l.length : Int) == f.lim) = false := by simp [hfull]
        have EQ : Hid (pgOf (pushQ f e.id s) = ⟨f.lim, f.qu, f.r.map FaE.id, updT (tblE f.r) e.id (some (e.l ++ [s], e.d)), f.sv, (cntE f.r : Int) + 1, f.pz + 1⟩) := push_tb f e.id s hpe ok.ids e.l e.d _ (by rw [htb]; exact ⟨rfl, rfl⟩)
        rw [hpe]
        have P3 : Hid (∀ w6, Below w.heap.size w w6 → PX w6 B T { pgOf f with n := f.pz + 1 } rv bm S) := fun w6 b => by
          have h1 := h.keep (fun k hk => b.block k (h.lt k hk)) b.size
          exact ⟨h1.h, h1.r, h1.m.more (by show f.pz ≤ f.pz + 1; omega), h1.tB, h1.tm, h1.tr, h1.q, h1.lt⟩
        replace hfull := Lib.hid hfull
        replace htb := Lib.hid htb
        have hqs := hS
        clear NO hPX h ok hlen hS hpe hV hQ hle
        go_enter Try.func10, Try.ntmps10
        go_wp2_with fail
        go_quiet (fail)
        go_upto_region 10 with fail
        have b0 : Below w.heap.size w (w.drewN nq) := ⟨rfl, rfl, rfl, Nat.le_refl _, fun _ _ => rfl⟩
        clear c0 q0 hlk c3
        generalize w.drewN nq = w6 at *
        replace P3 := Lib.hid (P3.out w6 b0)
        have K23 := Lib.hid (Kept.of (fun k => T k ≠ none) b0)
        have E23 := Lib.hid (ExtT.refl T w.heap.size)
        clear b0
        obtain ⟨a, n, c, a7, n7, c7, w7, hnl, q0, hap, q7, z7, -, T4, P4, E4, K4⟩ := P3.out.appS (x := e.id) (l := e.l) (d := e.d) (htb.out) s (by omega) hqs
        have K24 := Lib.hid (K23.out.tags K4 E23.out)
        have E24 := Lib.hid (E23.out.trans E4 K23.out.size)
        replace hap := Lib.hid hap
        obtain ⟨w8, hw8⟩ : ∃ w8, w8 = w7.setCell ⟨qb, 0, none⟩ (.slice a7 n7 c7) := ⟨_, rfl⟩
        rw [← hw8] at P4 K24
        have c5 := P4.h.cell 5 (v := .int .i64 (cntE f.r)) rfl
        have z5 := P4.h.free 5 (by show 5 < 6; decide)
        have wc : wrap64 ((cntE f.r : Int) + 1) = (cntE f.r : Int) + 1 := by unfold wrap64; omega
        have FIN : Hid (∃ T', PG (w8.setCell ⟨B, 5, none⟩ (.int .i64 ((cntE f.r : Int) + 1))) B T' (pgOf (pushQ f e.id s)) ∧ ExtT T T' w.heap.size ∧ Kept (fun k => T k ≠ none) w (w8.setCell ⟨B, 5, none⟩ (.int .i64 ((cntE f.r : Int) + 1)))) := by
          have kk : Kept (fun k => k = B) w8 (w8.setCell ⟨B, 5, none⟩ (.int .i64 ((cntE f.r : Int) + 1))) := (Kept.refl (fun k => k = B) w8).set ⟨B, 5, none⟩ rfl _
          have P5 := P4.top (ids' := _) (sv' := f.sv) (cnt' := (cntE f.r : Int) + 1) kk (P4.h.put 5 (by show 5 < 6; decide) _) P4.r P4.tr
          refine ⟨T4, ?_, E24.out, K24.out.tags (kk.mono fun k _ q => by rw [q, P4.tB]; simp) E24.out⟩
          rw [EQ.out]
          skip
          skip
          exact ⟨_, _, _, P5⟩
        clear P4 E4 K4 K24 E24 P3 K23 E23 EQ hnl
        go_upto_region 11 with (refine obB2L _ rfl .append (.tmp 54) (.tmp 56) 39 39 rfl (.slice a n c) (.slice (some ⟨w6.heap.size, 0, none⟩) 1 1) rfl rfl hap.out ?_)
        rw [← hw8]
        clear hap q0 q7 z7 hw8
        go_wp2_with fail
        go_ret
        exact ⟨rfl, FIN.out⟩
end Go.Proofs.Ytiamlldooihkdaa
