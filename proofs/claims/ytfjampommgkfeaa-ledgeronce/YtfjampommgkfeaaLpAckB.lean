/-
  What Acked of the program's ledger does where the ranges are right and were sent. No condition but what always holds of a ledger; ranges are an int64's, at most 2^43 of them.
-/
import Derived.Test.YtfjampommgkfeaaLpAck
import Derived.Test.YtfjampommgkfeaaLpSent
import Derived.Deep.Cut
namespace Go.Proofs.Ytfjampommgkfeaa
set_option maxRecDepth 100000
open Go.RowKit Go.Sort

/-- The ledger when the first k of those that are told have come. -/
def grK (d : Ld) (ps : List Pk) (k : Nat) : Ld := { d with win := growAll d.thr (ps.take k) d.win }
theorem grK_next (d : Ld) (ps : List Pk) (k : Nat) (h : k < ps.length) : ({ grK d ps k with win := grow (grK d ps k).win (grK d ps k).thr (ps.getD k (0, 0, 0)).2.2 } : Ld) = grK d ps (k + 1) := by
  unfold grK
  rw [List.take_succ_eq_append_getElem h, growAll_snoc]
  simp [List.getD, List.getElem?_eq_getElem h]
/-- .. and when all have, of those that are left. -/
def d6 (d : Ld) (r : List Rg) : Ld := { d with l := restP d r, win := growAll d.thr (toldP d r) d.win, bo := if toldP d r = [] then d.bo else 0 }
theorem d6_win (d : Ld) (r : List Rg) (hd : Lw d) : 2400 ≤ (d6 d r).win ∧ (d6 d r).win ≤ 1073741824 := growAll_in (toldP d r) d.win hd.k.win fun q hq => (hd.k.nos q (List.mem_filter.1 hq).1).2.2
theorem late_is (r : List Rg) (hn : r ≠ []) : (fun p : Pk => lateB r p) = fun p => decide (p.1 ≤ hiR r - 3) := by
  funext p
  unfold lateB
  rw [decide_eq_true hn, Bool.true_and]
/-- What lies in memory behind the first take. -/
structure M4 (w w4 : World) (B : Nat) (F : Nat → Prop) (sv sv' tv : Value) (d : Ld) (r : List Rg) (K2 : Nat) : Prop where
  led : Lies w4 B (lgc sv' d)
  row : w4.ownsRow 0 58 3 sv' (restP d r).length (pks (restP d r))
  told : w4.ownsRow w.heap.size 58 3 tv (toldP d r).length (pks (toldP d r))
  own : sv'.ownBlock = sv.ownBlock
  box : w4.cell? ⟨K2, 0, none⟩ = some (.int .i64 (hiR r))
  kp : Kept F w w4
  hK : w.heap.size ≤ K2
  hB : B < w.heap.size
  ne : sv.ownBlock ≠ some B
theorem M4.move {w w4 w5 : World} {B : Nat} {F : Nat → Prop} {sv sv' tv : Value} {d : Ld} {r : List Rg} {K2 : Nat} (h : M4 w w4 B F sv sv' tv d r K2) (K : Kept (fun k => k = B) w4 w5) :
    w5.ownsRow 0 58 3 sv' (restP d r).length (pks (restP d r)) ∧ w5.ownsRow w.heap.size 58 3 tv (toldP d r).length (pks (toldP d r)) ∧ w5.cell? ⟨K2, 0, none⟩ = some (.int .i64 (hiR r)) := by
  have hB := h.hB
  refine ⟨row_block h.row fun k hk => K.block k (h.row.lt k hk).2 fun e => h.ne (by rw [← h.own, hk, e]), row_block h.told fun k hk => K.block k (h.told.lt k hk).2 (by have := (h.told.lt k hk).1; omega), ?_⟩
  have := World.block_lt_of_cell? w4 _ h.box
  have q := K.block K2 this (by have := h.hK; omega)
  exact (World.cell?_of_block (w := w4) (a := ⟨K2, 0, none⟩) q).trans h.box
/-- What is handed out in the end. -/
theorem ack_fin {w w4 w6 w7 w8 w9 w10 : World} {B : Nat} {F : Nat → Prop} {sv sv' sv7 tv u u' : Value} {d : Ld} {r : List Rg} {K2 : Nat} {o : Option Nat} (h4 : M4 w w4 B F sv sv' tv d r K2) (hlt : ∀ k, F k → k < w.heap.size) (hF : ∀ k, F k ↔ k = B ∨ o = some k) (hob : sv.ownBlock = o) (hoB : o ≠ some B) (hE : ackE d r = 0)
    (K6 : Kept (fun k => k = B) w4 w6) (O7 : w7.ownsRow 0 58 3 sv7 (leftP d r).length (pks (leftP d r))) (E7 : sv7.ownBlock = sv'.ownBlock) (K7 : Kept (fun k => k = B ∨ sv'.ownBlock = some k) w6 w7) (L8 : Lies w8 B (lgc sv7 (acked d r))) (K8 : Kept (fun k => k = B) w7 w8)
    (U9 : w9.ownsRow w8.heap.size 2 1 u (nosP (toldP d r)).length (n64 (nosP (toldP d r)))) (b9 : Below w8.heap.size w8 w9) (U10 : w10.ownsRow w9.heap.size 2 1 u' (nosP (lostP d r)).length (n64 (nosP (lostP d r)))) (b10 : Below w9.heap.size w9 w10) :
    ∃ F', N64 w10 (Free w F') u (toldN d r) ∧ N64 w10 (Free w F') u' (lostN d r) ∧ LS w10 B F' (acked d r) ∧ (∀ k, F' k → F k ∨ w.heap.size ≤ k) ∧ Kept F w w10 := by
  have e1 : toldN d r = nosP (toldP d r) := by unfold toldN; rw [if_pos hE]
  have e2 : lostN d r = nosP (lostP d r) := by unfold lostN; rw [if_pos hE]
  have z4 := h4.kp.size
  have z6 := K6.size
  have z7 := K7.size
  have z8 := K8.size
  have z9 := b9.size
  have el : (acked d r).l = leftP d r := by
    unfold acked
    rw [if_pos hE]
    exact (lose_top _ _).2.1
  have hFB : ∀ k, k = B ∨ sv'.ownBlock = some k → F k := fun k e => (hF k).2 (e.imp id fun q => by rw [← hob, ← h4.own]; exact q)
  have b8 : Below w8.heap.size w8 w10 := b9.trans (b10.mono b9.size)
  rw [e1, e2]
  refine ⟨F, ((own_n64 U9).keep b10).mono fun k hk => ⟨by omega, fun e => by have := hlt k e; omega⟩, (own_n64 U10).mono fun k hk => ⟨by omega, fun e => by have := hlt k e; omega⟩, ⟨o, ⟨sv7, L8.keep (by show 0 < 6; decide) b8, ?_, ?_⟩, hoB, hF⟩, fun k hk => .inl hk, ?_⟩
  · rw [el]
    have q : sv7.ownBlock = o := by rw [E7, h4.own, hob]
    refine row_block O7 fun k hk => ?_
    have := (O7.lt k hk).2
    rw [b8.block k (by omega), K8.block k this (fun e => hoB (by rw [← q, hk, e]))]
  · rw [E7, h4.own, hob]
  · exact (((h4.kp.trans (K6.mono fun k _ e => hFB k (.inl e))).trans (K7.mono fun k _ e => hFB k e)).trans (K8.mono fun k _ e => hFB k (.inl e))).add b8
set_option maxHeartbeats 8000000 in
theorem packed_main (w : World) (B : Nat) (F : Nat → Prop) (d : Ld) (r : List Rg) (rv : Value) (h : LS w B F d) (hd : Lw d) (hr : RgAt w rv r) (hl : r.length < 9223372036854775807) (hb : ∀ x ∈ r, In64 x.1 ∧ In64 x.2) (hfar : r ≠ [] → ∀ p cap, rv = .slice (some p) r.length cap → ¬ F p.block) (h0 : chkR r = 0) (hn : r ≠ []) (hx : ¬ d.top < hiR r) :
    Calls Try.prog 12 #[ptr B, rv] w fun e w' => ∃ u v, e = .returned (.tuple #[u, v, .int .i64 (ackE d r)]) ∧ ∃ F', N64 w' (Free w F') u (toldN d r) ∧ N64 w' (Free w F') v (lostN d r) ∧ LS w' B F' (acked d r) ∧ (∀ k, F' k → F k ∨ w.heap.size ≤ k) ∧ Kept F w w' := by
  have hE : ackE d r = 0 := by unfold ackE; rw [if_neg (by simp [h0]; omega)]
  have hlen := hd.len
  have hhi := hi_in h0 hn
  have hp := List.length_pos_iff.2 hn
  have b1 := (Below.refl w.heap.size w).alloc (Nat.le_refl _) (.cells #[rv] 27)
  have CK : Hid (Calls Try.prog 23 #[rv] (w.alloc (.cells #[rv] 27)) _) := pchk_ok rv r (w.alloc (.cells #[rv] 27)) (hr.keep b1) hl hb
  have hlt := h.lt
  obtain ⟨o, ⟨sv, L, ho, hob⟩, hoB, hF⟩ := id h
  have hne : sv.ownBlock ≠ some B := hob ▸ hoB
  have hB : B < w.heap.size := hlt B ((hF B).2 (.inl rfl))
  have ct := L.cell 1 (v := .int .i64 d.top) rfl
  -- what the walk needs of the world behind Check
  obtain ⟨a, cap, rfl, hc⟩ := id hr
  rcases hc with hc | ⟨g, p, rfl, hc⟩
  · exact absurd hc hn
  have hgF : ¬ F g := hfar hn ⟨g, p, none⟩ cap rfl
  have c2 := (hc 0 hp).2
  rw [show (r.getD 0 (0, 0)).2 = hiR r from rfl, show p + 2 * 0 + 1 = p + 1 from rfl] at c2
  have g1 : ((r.length : Int) == 0) = false := by rw [beq_eq_false_iff_ne]; omega
  have g2 : decide (d.top < hiR r) = false := decide_eq_false hx
  have ia := fun w' => at_rg0 g p r.length cap w' hp
  have pre : Hid (∀ w1, Below (w.alloc (.cells #[.slice (some ⟨g, p, none⟩) r.length cap] 27)).heap.size (w.alloc (.cells #[.slice (some ⟨g, p, none⟩) r.length cap] 27)) w1 → w1.cell? ⟨w.heap.size, 0, none⟩ = some (.slice (some ⟨g, p, none⟩) r.length cap) ∧ w1.cell? ⟨g, p + 1, none⟩ = some (.int .i64 (hiR r)) ∧ (w1.alloc (.cells #[.int .i64 (hiR r)] 2)).cell? ⟨B, 1, none⟩ = some (.int .i64 d.top) ∧ Below w.heap.size w w1 ∧ w.heap.size < w1.heap.size) := fun w1 b => by
    have bb := b1.trans (b.mono b1.size)
    have hz : (w.alloc (.cells #[.slice (some ⟨g, p, none⟩) r.length cap] 27)).heap.size = w.heap.size + 1 := by simp
    have := b.size
    exact ⟨(b.cell (by simp)).trans (by simp), (bb.cell (World.block_lt_of_cell? w _ c2)).trans c2, ((bb.alloc bb.size (.cells #[.int .i64 (hiR r)] 2)).cell (World.block_lt_of_cell? w _ ct)).trans ct, bb, by omega⟩
  -- the first take
  have CT : Hid (∀ w3, Below w.heap.size w w3 → ∀ K2, w.heap.size < K2 → K2 < w3.heap.size → w3.cell? ⟨w.heap.size, 0, none⟩ = some (.slice (some ⟨g, p, none⟩) r.length cap) → w3.cell? ⟨K2, 0, none⟩ = some (.int .i64 (hiR r)) → Calls Try.prog 24 #[ptr B, .func (.func 25) #[] #[.pointer (some ⟨w.heap.size, 0, none⟩)]] w3 fun e w4 => ∃ tv sv', e = .returned tv ∧ M4 w w4 B F sv sv' tv d r K2) := fun w3 b3 K2 hK1 hK2 k1 k2 => by
    have o3 := row_block (w' := w3) ho fun k hk => b3.block k (ho.lt k hk).2
    have hg : g < w.heap.size := World.block_lt_of_cell? w _ c2
    have z3 := b3.size
    refine (take_ok B sv d 25 _ (fun p => hasR r p.1) _ w3 (L.keep (by show 0 < 6; decide) b3) o3 hne hlen (fun w' K => ?_) (acked1_ok (.slice (some ⟨g, p, none⟩) r.length cap) r w.heap.size hl)).mono ?_
    · have n1 : ¬ sv.ownBlock = some w.heap.size := fun e => by have := (ho.lt _ e).2; omega
      have n2 : ¬ sv.ownBlock = some g := fun e => hgF ((hF g).2 (.inr (hob ▸ e)))
      refine ⟨(World.cell?_of_block (w := w3) (a := ⟨w.heap.size, 0, none⟩) (K.block w.heap.size (by omega) n1)).trans k1, _, cap, rfl, .inr ⟨g, p, rfl, fun k hk => ?_⟩⟩
      have q := (K.block g (by omega) n2).trans (b3.block g hg)
      obtain ⟨q1, q2⟩ := hc k hk
      exact ⟨(World.cell?_of_block (w := w) (a := ⟨g, p + 2 * k, none⟩) q).trans q1, (World.cell?_of_block (w := w) (a := ⟨g, p + 2 * k + 1, none⟩) q).trans q2⟩
    · rintro e w4 ⟨tv, sv', rfl, T4, L4, O4, E4, K4⟩
      have nk : ¬ (K2 = B ∨ sv.ownBlock = some K2) := fun e => by
        rcases e with e | e
        · omega
        · have := (ho.lt _ e).2; omega
      exact ⟨tv, sv', rfl, L4, O4, ⟨T4.1, T4.2.imp id fun ⟨g, cap, cur, q1, q2, q3⟩ => ⟨g, cap, cur, q1, by omega, q3⟩⟩, E4, (World.cell?_of_block (w := w3) (a := ⟨K2, 0, none⟩) (K4.block K2 hK2 nk)).trans k2, (Kept.of F b3).trans (K4.mono fun k _ e => (hF k).2 (e.imp id fun q => hob ▸ q)), by omega, hB, hne⟩
  replace b1 : Hid _ := b1
  replace hF : Hid _ := hF
  replace hlt : Hid _ := hlt
  replace hd : Hid (Lw d) := hd
  rw [h0] at CK
  rw [hE]
  replace hE : Hid (ackE d r = 0) := hE
  clear h hb hfar h0 L ho hc hr ct c2 hx hgF b1
  generalize hhi' : hiR r = hi at *
  generalize hM : r.length = M at *
  replace hhi' : Hid _ := hhi'
  replace hM : Hid _ := hM
  go_enter Try.func12, Try.ntmps12
  go_wp2_with fail
  refine Calls.mono CK.out ?_
  rintro e w1 ⟨rfl, b⟩
  obtain ⟨c1, c2, c3, b1, z1⟩ := pre.out w1 b
  have CT2 : Hid (∀ n, Calls Try.prog 24 #[ptr B, .func (.func 25) #[] #[.pointer (some ⟨w.heap.size, 0, none⟩)]] ((w1.alloc (.cells #[.int .i64 hi] 2)).drewN n) fun e w4 => ∃ tv sv', e = .returned tv ∧ M4 w w4 B F sv sv' tv d r w1.heap.size) := fun n => by
    have ba := b1.alloc b1.size (.cells #[.int .i64 hi] 2)
    refine CT.out ((w1.alloc (.cells #[.int .i64 hi] 2)).drewN n) (ba.trans ⟨rfl, rfl, rfl, Nat.le_refl _, fun _ _ => rfl⟩) w1.heap.size z1 ?_ ?_ ?_
    · show w1.heap.size < (w1.alloc (.cells #[.int .i64 hi] 2)).heap.size
      simp
    · refine (World.cell?_of_block (w := w1) (a := ⟨w.heap.size, 0, none⟩) ?_).trans c1
      exact (((Below.refl w1.heap.size w1).alloc (Nat.le_refl _) (.cells #[.int .i64 hi] 2)).block w.heap.size z1)
    · show (w1.alloc (.cells #[.int .i64 hi] 2)).cell? ⟨w1.heap.size, 0, none⟩ = _
      simp
  clear b b1 CK pre CT
  go_wp2_with fail
  go_quiet (fail)
  go_wp2_with fail
  refine Calls.mono (CT2.out _) ?_
  rintro e w4 ⟨tv, sv', rfl, M⟩
  replace M : Hid (M4 w w4 B F sv sv' tv d r w1.heap.size) := M
  generalize w1.heap.size = K2 at *
  clear CT2 c1 c2 c3 z1
  obtain ⟨ta, tc, rfl⟩ := rown_len M.out.told
  have hps : ∀ q ∈ toldP d r, 1 ≤ q.2.2 ∧ q.2.2 ≤ 1200 := fun q hq => (hd.out.k.nos q (List.mem_filter.1 hq).1).2.2
  replace hps : Hid _ := hps
  replace hoB : Hid _ := hoB
  replace hob : Hid _ := hob
  replace hoB := hoB.out
  replace hob := hob.out
  have htl : (toldP d r).length < 1048576 := Nat.lt_of_le_of_lt (List.length_filter_le ..) hlen
  have L0 : Hid (Lies w4 B (lgc sv' (grK d (toldP d r) 0))) := M.out.led
  go_wp2_with fail
  go_loopg [33] (toldP d r).length (fun g' iv wr => ∃ k : Nat, k + g' = (toldP d r).length ∧ iv = .int .i64 k ∧ Hid (Lies wr B (lgc sv' (grK d (toldP d r) k))) ∧ Hid (Kept (fun k => k = B) w4 wr))
  case atStart => exact ⟨0, by omega, rfl, L0, Kept.refl _ _⟩
  case round =>
    clear L0
    obtain ⟨k, hkk, rfl, L, K⟩ := hrel
    by_cases hlt' : k < (toldP d r).length
    · have g1 : decide ((k : Int) < ((toldP d r).length : Int)) = true := decide_eq_true (by omega)
      obtain ⟨qa, qc, hq, hc⟩ := own_pkAt (M.out.move K.out).2.1
      injection hq with hq1 _ hq2
      subst hq1 hq2
      rcases hc with hc0 | ⟨tg, po, rfl, hc1⟩
      · rw [hc0] at hlt'; simp at hlt'
      · obtain ⟨d0, d1, d2⟩ := hc1 k hlt'
        have ib := fun w' => at_ppk tg po (toldP d r).length tc k w' hlt' (k : Int) rfl (po + 3 * k) rfl
        have hs := hps.out ((toldP d r).getD k (0, 0, 0)) (by simp [List.getD, List.getElem?_eq_getElem hlt'])
        have gn := grK_next d (toldP d r) k hlt'
        have hw := growAll_in (thr := d.thr) ((toldP d r).take k) d.win hd.out.k.win fun q hq => hps.out q (List.mem_of_mem_take hq)
        generalize ((toldP d r).getD k (0, 0, 0)).1 = x at *
        generalize ((toldP d r).getD k (0, 0, 0)).2.1 = y at *
        generalize ((toldP d r).getD k (0, 0, 0)).2.2 = z at *
        have al : Below wr.heap.size wr (wr.alloc (.cells #[.int .i64 x, .int .i64 y, .int .i64 z] 58)) := (Below.refl _ _).alloc (Nat.le_refl _) _
        have CG : Hid (Calls Try.prog 27 #[ptr B, .int .i64 z] (wr.alloc (.cells #[.int .i64 x, .int .i64 y, .int .i64 z] 58)) _) := grow_ok B sv' (grK d (toldP d r) k) z _ (L.out.keep (by show 0 < 6; decide) al) hs hw
        rw [gn] at CG
        have KA : Hid (Kept (fun k => k = B) w4 (wr.alloc (.cells #[.int .i64 x, .int .i64 y, .int .i64 z] 58))) := K.out.add al
        clear al hs gn hw hc1 L K
        go_wp2_with fail
        refine Calls.mono CG.out ?_
        rintro e w5 ⟨rfl, L5, K5⟩
        have K5 : Hid (Kept (fun k => k = B) w4 w5) := KA.out.trans K5
        replace L5 : Hid _ := L5
        clear CG KA d0 d1 d2
        go_wp2_with fail
        go_roundg ((toldP d r).length - (k + 1))
        case measure => omega
        case rel => exact ⟨k + 1, by omega, by go_num, L5, K5⟩
    · have g1 : decide ((k : Int) < ((toldP d r).length : Int)) = false := decide_eq_false (by omega)
      obtain rfl : k = (toldP d r).length := by omega
      clear hkk hlt'
      by_cases he : toldP d r = []
      · have L6 : Hid (Lies wr B (lgc sv' (d6 d r))) := by
          have e : d6 d r = { grK d (toldP d r) (toldP d r).length with l := restP d r } := by unfold d6 grK; rw [if_pos he, List.take_length]
          rw [Hid, e]
          exact L.out
        have gl : decide ((0 : Int) < ((toldP d r).length : Int)) = false := decide_eq_false (by rw [he]; decide)
        have gl2 : decide (0 < (toldP d r).length) = false := decide_eq_false (by rw [he]; decide)
        replace he : Hid _ := he
        have K6 : Hid (Kept (fun k => k = B) w4 wr) := K
        clear L K
        obtain ⟨w6, hw6⟩ : ∃ w6, w6 = wr := ⟨_, rfl⟩
        subst hw6
        have Z6 : Hid (w6.ownsRow 0 58 3 sv' (restP d r).length (pks (restP d r)) ∧ w6.ownsRow w.heap.size 58 3 (.slice ta (toldP d r).length tc) (toldP d r).length (pks (toldP d r)) ∧ w6.cell? ⟨K2, 0, none⟩ = some (.int .i64 hi)) := by
          have := M.out.move K6.out
          rwa [hhi'.out] at this
        have CT6 : Hid (Calls Try.prog 24 #[ptr B, .func (.func 28) #[] #[.pointer (some ⟨K2, 0, none⟩)]] w6 _) := take_ok B sv' (d6 d r) 28 _ (fun p => decide (p.1 ≤ hi - 3)) _ w6 L6.out Z6.out.1 (by rw [M.out.own]; exact M.out.ne) (Nat.lt_of_le_of_lt (List.length_filter_le ..) hlen) (fun w' K => (World.cell?_of_block (w := w6) (a := ⟨K2, 0, none⟩) (K.block K2 (World.block_lt_of_cell? w6 _ Z6.out.2.2) (fun e => by have := hlt.out K2 ((hF.out K2).2 (.inr (by rw [← hob, ← M.out.own]; exact e))); have := M.out.hK; omega))).trans Z6.out.2.2) (acked2_ok hi K2 hhi)
        go_wp2_with fail
        refine Calls.mono CT6.out ?_
        rintro e w7 ⟨t7, sv7, rfl, T7, L7, O7, E7, K7⟩
        clear CT6
        have el : (d6 d r).l.filter (fun p => decide (p.1 ≤ hi - 3)) = lostP d r := by
          unfold lostP
          rw [late_is r hn, hhi'.out]
          rfl
        have er : (d6 d r).l.filter (fun p => !(fun p : Pk => decide (p.1 ≤ hi - 3)) p) = leftP d r := by
          unfold leftP
          have := late_is r hn
          rw [hhi'.out] at this
          show (restP d r).filter _ = (restP d r).filter _
          congr 1
          funext p
          rw [congrFun this p]
        rw [el] at T7
        rw [er] at O7
        have hl7 : (lostP d r).length < 1048576 := Nat.lt_of_le_of_lt (Nat.le_trans (List.length_filter_le ..) (List.length_filter_le ..)) hlen
        have CL : Hid (Calls Try.prog 29 #[ptr B, t7] w7 _) := lose_ok B sv7 (d6 d r) (lostP d r) t7 w7 L7 (own_pkAt T7) ((hd.out.k.rise.filter _).filter _) (by omega) (d6_win d r hd.out)
        have nB : ∀ k, w.heap.size ≤ k → ¬ (k = B ∨ sv'.ownBlock = some k) := fun k hk e => by
          have := hlt.out k ((hF.out k).2 (e.imp id fun q => by rw [← hob, ← M.out.own]; exact q))
          omega
        have T7' : Hid (w7.ownsRow w.heap.size 58 3 (.slice ta (toldP d r).length tc) (toldP d r).length (pks (toldP d r))) := row_block Z6.out.2.1 fun k hk => K7.block k (World.ownsRow.lt Z6.out.2.1 k hk).2 (nB k (World.ownsRow.lt Z6.out.2.1 k hk).1)
        obtain ⟨xa, xc, rfl⟩ := rown_len T7
        have z6 : w.heap.size ≤ w6.heap.size := Nat.le_trans M.out.kp.size K6.out.size
        replace T7 : Hid (w7.ownsRow w6.heap.size 58 3 (.slice xa (lostP d r).length xc) (lostP d r).length (pks (lostP d r))) := T7
        replace O7 : Hid (w7.ownsRow 0 58 3 sv7 (leftP d r).length (pks (leftP d r))) := O7
        replace K7 : Hid (Kept (fun k => k = B ∨ sv'.ownBlock = some k) w6 w7) := K7
        replace E7 : Hid _ := E7
        replace nB : Hid _ := nB
        clear L7 Z6 el er L6
        go_wp2_with fail
        refine Calls.mono CL.out ?_
        rintro e w8 ⟨rfl, L8, K8⟩
        clear CL
        have L8' : Hid (Lies w8 B (lgc sv7 (acked d r))) := by
          have e : acked d r = lose { d6 d r with l := leftP d r } (nosP (lostP d r)) := by unfold acked; rw [if_pos hE.out]; rfl
          rw [Hid, e, lgc_lose]
          exact L8
        have hBB := M.out.hB
        have T8 : w8.ownsRow w.heap.size 58 3 (.slice ta (toldP d r).length tc) (toldP d r).length (pks (toldP d r)) := row_block T7'.out fun k hk => K8.block k (World.ownsRow.lt T7'.out k hk).2 (by have := (World.ownsRow.lt T7'.out k hk).1; omega)
        have X8 : w8.ownsRow w6.heap.size 58 3 (.slice xa (lostP d r).length xc) (lostP d r).length (pks (lostP d r)) := row_block T7.out fun k hk => K8.block k (World.ownsRow.lt T7.out k hk).2 (by have := (World.ownsRow.lt T7.out k hk).1; omega)
        have CN : Hid (Calls Try.prog 30 #[.slice ta (toldP d r).length tc] w8 _) := numbers_ok _ (toldP d r) w8 (own_pkAt T8) (Nat.lt_of_le_of_lt (List.length_filter_le ..) hlen)
        replace X8 : Hid (w8.ownsRow w6.heap.size 58 3 (.slice xa (lostP d r).length xc) (lostP d r).length (pks (lostP d r))) := X8
        replace K8 : Hid (Kept (fun k => k = B) w7 w8) := K8
        clear L8 T8 T7 T7'
        go_wp2_with fail
        refine Calls.mono CN.out ?_
        rintro e w9 ⟨u, rfl, U9, b9⟩
        clear CN
        have CM : Hid (Calls Try.prog 30 #[.slice xa (lostP d r).length xc] w9 _) := numbers_ok _ (lostP d r) w9 (own_pkAt (row_block X8.out fun k hk => b9.block k (World.ownsRow.lt X8.out k hk).2)) hl7
        replace U9 : Hid (w9.ownsRow w8.heap.size 2 1 u (nosP (toldP d r)).length (n64 (nosP (toldP d r)))) := U9
        replace b9 : Hid (Below w8.heap.size w8 w9) := b9
        clear X8
        go_wp2_with fail
        refine Calls.mono CM.out ?_
        rintro e w10 ⟨u', rfl, U10, b10⟩
        clear CM
        have FF : Hid _ := ack_fin M.out hlt.out hF.out hob hoB hE.out K6.out O7.out E7.out K7.out L8'.out K8.out U9.out b9.out U10 b10
        clear U10 b10
        go_wp2_with fail
        exact bodyPost_ret (v := .tuple #[u, u', .int .i64 0]) (by simp [results, Try.results12, go_sem]) rfl ⟨_, _, rfl, FF.out⟩
      · have L6 : Hid (Lies (wr.setCell ⟨B, 5, none⟩ (.int .i64 0)) B (lgc sv' (d6 d r))) := by
          have e : d6 d r = { grK d (toldP d r) (toldP d r).length with l := restP d r, bo := 0 } := by unfold d6 grK; rw [if_neg he, List.take_length]
          rw [Hid, e]
          exact L.out.put 5 (by show 5 < 6; decide) (.int .i64 0)
        have hpos := List.length_pos_iff.2 he
        have gl : decide ((0 : Int) < ((toldP d r).length : Int)) = true := decide_eq_true (by omega)
        have gl2 : decide (0 < (toldP d r).length) = true := decide_eq_true hpos
        have c5 := L.out.cell 5 (v := .int .i64 d.bo) rfl
        have f5 := L.out.free 5 (by show 5 < 6; decide)
        replace he : Hid _ := he
        have K6 : Hid (Kept (fun k => k = B) w4 (wr.setCell ⟨B, 5, none⟩ (.int .i64 0))) := keptR0 _ B 5 _ K.out
        clear L K hpos
        go_upto_region 16 with fail
        clear c5 f5 gl gl2
        generalize wr.setCell ⟨B, 5, none⟩ (.int .i64 0) = w6 at *
        have Z6 : Hid (w6.ownsRow 0 58 3 sv' (restP d r).length (pks (restP d r)) ∧ w6.ownsRow w.heap.size 58 3 (.slice ta (toldP d r).length tc) (toldP d r).length (pks (toldP d r)) ∧ w6.cell? ⟨K2, 0, none⟩ = some (.int .i64 hi)) := by
          have := M.out.move K6.out
          rwa [hhi'.out] at this
        have CT6 : Hid (Calls Try.prog 24 #[ptr B, .func (.func 28) #[] #[.pointer (some ⟨K2, 0, none⟩)]] w6 _) := take_ok B sv' (d6 d r) 28 _ (fun p => decide (p.1 ≤ hi - 3)) _ w6 L6.out Z6.out.1 (by rw [M.out.own]; exact M.out.ne) (Nat.lt_of_le_of_lt (List.length_filter_le ..) hlen) (fun w' K => (World.cell?_of_block (w := w6) (a := ⟨K2, 0, none⟩) (K.block K2 (World.block_lt_of_cell? w6 _ Z6.out.2.2) (fun e => by have := hlt.out K2 ((hF.out K2).2 (.inr (by rw [← hob, ← M.out.own]; exact e))); have := M.out.hK; omega))).trans Z6.out.2.2) (acked2_ok hi K2 hhi)
        go_wp2_with fail
        refine Calls.mono CT6.out ?_
        rintro e w7 ⟨t7, sv7, rfl, T7, L7, O7, E7, K7⟩
        clear CT6
        have el : (d6 d r).l.filter (fun p => decide (p.1 ≤ hi - 3)) = lostP d r := by
          unfold lostP
          rw [late_is r hn, hhi'.out]
          rfl
        have er : (d6 d r).l.filter (fun p => !(fun p : Pk => decide (p.1 ≤ hi - 3)) p) = leftP d r := by
          unfold leftP
          have := late_is r hn
          rw [hhi'.out] at this
          show (restP d r).filter _ = (restP d r).filter _
          congr 1
          funext p
          rw [congrFun this p]
        rw [el] at T7
        rw [er] at O7
        have hl7 : (lostP d r).length < 1048576 := Nat.lt_of_le_of_lt (Nat.le_trans (List.length_filter_le ..) (List.length_filter_le ..)) hlen
        have CL : Hid (Calls Try.prog 29 #[ptr B, t7] w7 _) := lose_ok B sv7 (d6 d r) (lostP d r) t7 w7 L7 (own_pkAt T7) ((hd.out.k.rise.filter _).filter _) (by omega) (d6_win d r hd.out)
        have nB : ∀ k, w.heap.size ≤ k → ¬ (k = B ∨ sv'.ownBlock = some k) := fun k hk e => by
          have := hlt.out k ((hF.out k).2 (e.imp id fun q => by rw [← hob, ← M.out.own]; exact q))
          omega
        have T7' : Hid (w7.ownsRow w.heap.size 58 3 (.slice ta (toldP d r).length tc) (toldP d r).length (pks (toldP d r))) := row_block Z6.out.2.1 fun k hk => K7.block k (World.ownsRow.lt Z6.out.2.1 k hk).2 (nB k (World.ownsRow.lt Z6.out.2.1 k hk).1)
        obtain ⟨xa, xc, rfl⟩ := rown_len T7
        have z6 : w.heap.size ≤ w6.heap.size := Nat.le_trans M.out.kp.size K6.out.size
        replace T7 : Hid (w7.ownsRow w6.heap.size 58 3 (.slice xa (lostP d r).length xc) (lostP d r).length (pks (lostP d r))) := T7
        replace O7 : Hid (w7.ownsRow 0 58 3 sv7 (leftP d r).length (pks (leftP d r))) := O7
        replace K7 : Hid (Kept (fun k => k = B ∨ sv'.ownBlock = some k) w6 w7) := K7
        replace E7 : Hid _ := E7
        replace nB : Hid _ := nB
        clear L7 Z6 el er L6
        go_wp2_with fail
        refine Calls.mono CL.out ?_
        rintro e w8 ⟨rfl, L8, K8⟩
        clear CL
        have L8' : Hid (Lies w8 B (lgc sv7 (acked d r))) := by
          have e : acked d r = lose { d6 d r with l := leftP d r } (nosP (lostP d r)) := by unfold acked; rw [if_pos hE.out]; rfl
          rw [Hid, e, lgc_lose]
          exact L8
        have hBB := M.out.hB
        have T8 : w8.ownsRow w.heap.size 58 3 (.slice ta (toldP d r).length tc) (toldP d r).length (pks (toldP d r)) := row_block T7'.out fun k hk => K8.block k (World.ownsRow.lt T7'.out k hk).2 (by have := (World.ownsRow.lt T7'.out k hk).1; omega)
        have X8 : w8.ownsRow w6.heap.size 58 3 (.slice xa (lostP d r).length xc) (lostP d r).length (pks (lostP d r)) := row_block T7.out fun k hk => K8.block k (World.ownsRow.lt T7.out k hk).2 (by have := (World.ownsRow.lt T7.out k hk).1; omega)
        have CN : Hid (Calls Try.prog 30 #[.slice ta (toldP d r).length tc] w8 _) := numbers_ok _ (toldP d r) w8 (own_pkAt T8) (Nat.lt_of_le_of_lt (List.length_filter_le ..) hlen)
        replace X8 : Hid (w8.ownsRow w6.heap.size 58 3 (.slice xa (lostP d r).length xc) (lostP d r).length (pks (lostP d r))) := X8
        replace K8 : Hid (Kept (fun k => k = B) w7 w8) := K8
        clear L8 T8 T7 T7'
        go_wp2_with fail
        refine Calls.mono CN.out ?_
        rintro e w9 ⟨u, rfl, U9, b9⟩
        clear CN
        have CM : Hid (Calls Try.prog 30 #[.slice xa (lostP d r).length xc] w9 _) := numbers_ok _ (lostP d r) w9 (own_pkAt (row_block X8.out fun k hk => b9.block k (World.ownsRow.lt X8.out k hk).2)) hl7
        replace U9 : Hid (w9.ownsRow w8.heap.size 2 1 u (nosP (toldP d r)).length (n64 (nosP (toldP d r)))) := U9
        replace b9 : Hid (Below w8.heap.size w8 w9) := b9
        clear X8
        go_wp2_with fail
        refine Calls.mono CM.out ?_
        rintro e w10 ⟨u', rfl, U10, b10⟩
        clear CM
        have FF : Hid _ := ack_fin M.out hlt.out hF.out hob hoB hE.out K6.out O7.out E7.out K7.out L8'.out K8.out U9.out b9.out U10 b10
        clear U10 b10
        go_wp2_with fail
        exact bodyPost_ret (v := .tuple #[u, u', .int .i64 0]) (by simp [results, Try.results12, go_sem]) rfl ⟨_, _, rfl, FF.out⟩
theorem pgAcked (w : World) (B : Nat) (F : Nat → Prop) (d : Ld) (r : List Rg) (rv : Value) (h : LS w B F d) (hd : Lw d) (hr : RgAt w rv r) (hl : r.length * 16 ≤ 140737488351232) (hb : ∀ x ∈ r, In64 x.1 ∧ In64 x.2) (hfar : r ≠ [] → ∀ p cap, rv = .slice (some p) r.length cap → ¬ F p.block) :
    Calls Try.prog 12 #[ptr B, rv] w fun e w' => ∃ u v, e = .returned (.tuple #[u, v, .int .i64 (ackE d r)]) ∧ ∃ F', N64 w' (Free w F') u (toldN d r) ∧ N64 w' (Free w F') v (lostN d r) ∧ LS w' B F' (acked d r) ∧ (∀ k, F' k → F k ∨ w.heap.size ≤ k) ∧ Kept F w w' := by
  by_cases h0 : chkR r = 0
  · by_cases hn : r = []
    · exact packed_easy w B F d r rv h hr (by omega) hb (.inr (.inl hn))
    · by_cases hx : d.top < hiR r
      · exact packed_easy w B F d r rv h hr (by omega) hb (.inr (.inr hx))
      · exact packed_main w B F d r rv h hd hr (by omega) hb hfar h0 hn hx
  · exact packed_easy w B F d r rv h hr (by omega) hb (.inl h0)
theorem face : Face LS where
  lt := LS.lt
  keep := LS.keep
  new := pg_new
  sent := pg_sent
  acked := pgAcked
  expire := pg_expire
  flight := pg_flight
  window := pg_window
  wait := pg_wait
end Go.Proofs.Ytfjampommgkfeaa
