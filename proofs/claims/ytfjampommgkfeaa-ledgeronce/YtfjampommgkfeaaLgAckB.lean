/-
  What the document's own Acked of a ledger does where nothing is wrong. Fewer than 2^40 packets; no other condition but what always holds of a ledger.
-/
import Derived.Test.YtfjampommgkfeaaLgAck
namespace Go.Proofs.Ytfjampommgkfeaa
set_option maxRecDepth 100000
open Go.RowKit Go.Sort

theorem rg_move {w w' : World} {a : Option Addr} {n cp : Nat} {l : List Rg} (h : RgAt w (.slice a n cp) l) (k : l ≠ [] → ∀ p, a = some p → w'.heap[p.block]? = w.heap[p.block]?) : RgAt w' (.slice a n cp) l := by
  obtain ⟨a', cp', e, hc⟩ := h
  refine ⟨a', cp', e, ?_⟩
  injection e with e1 e2 e3
  subst e1
  rcases hc with h | ⟨g, o, rfl, hc⟩
  · exact .inl h
  · by_cases hl : l = []
    · exact .inl hl
    · have hb := k hl _ rfl
      exact .inr ⟨g, o, rfl, fun j hj => ⟨(World.cell?_of_block (a := ⟨g, o + 2 * j, none⟩) hb).trans (hc j hj).1, (World.cell?_of_block (a := ⟨g, o + 2 * j + 1, none⟩) hb).trans (hc j hj).2⟩⟩
theorem row_low {w : World} {b b' size n : Nat} {t : TypeId} {v : Value} {xs : List Value} (h : w.ownsRow b t size v n xs) (hb : b' ≤ b) : w.ownsRow b' t size v n xs := by
  refine ⟨h.1, ?_⟩
  rcases h.2 with q | ⟨g, cap, cur, e, q, r⟩
  · exact .inl q
  · exact .inr ⟨g, cap, cur, e, Nat.le_trans hb q, r⟩
def tkP (d : Ld) (r : List Rg) (k : Nat) : List Pk := (d.l.take k).filter fun p => hasR r p.1
def rkP (d : Ld) (r : List Rg) (k : Nat) : List Pk := (d.l.take k).filter fun p => !hasR r p.1
def stK (d : Ld) (r : List Rg) (k : Nat) : Ld := { d with win := growAll d.thr (tkP d r k) d.win, bo := if tkP d r k = [] then d.bo else 0 }
theorem tk_yes {d : Ld} {r : List Rg} {k : Nat} {p : Pk} (h : k < d.l.length) (hp : d.l.getD k (0, 0, 0) = p) (hh : hasR r p.1 = true) : tkP d r (k + 1) = tkP d r k ++ [p] ∧ rkP d r (k + 1) = rkP d r k := by
  unfold tkP rkP
  rw [filter_take d.l _ k h, filter_take d.l _ k h, hp, hh]
  exact ⟨by simp, by simp⟩
theorem tk_no {d : Ld} {r : List Rg} {k : Nat} {p : Pk} (h : k < d.l.length) (hp : d.l.getD k (0, 0, 0) = p) (hh : hasR r p.1 = false) : tkP d r (k + 1) = tkP d r k ∧ rkP d r (k + 1) = rkP d r k ++ [p] := by
  unfold tkP rkP
  rw [filter_take d.l _ k h, filter_take d.l _ k h, hp, hh]
  exact ⟨by simp, by simp⟩
def lkP (r : List Rg) (Z : List Pk) (j : Nat) : List Pk := (Z.take j).filter fun p => lateB r p
def fkP (r : List Rg) (Z : List Pk) (j : Nat) : List Pk := (Z.take j).filter fun p => !lateB r p
theorem lk_yes {r : List Rg} {Z : List Pk} {j : Nat} {p : Pk} (h : j < Z.length) (hp : Z.getD j (0, 0, 0) = p) (hh : lateB r p = true) : lkP r Z (j + 1) = lkP r Z j ++ [p] ∧ fkP r Z (j + 1) = fkP r Z j := by
  unfold lkP fkP
  rw [filter_take Z _ j h, filter_take Z _ j h, hp, hh]
  exact ⟨by simp, by simp⟩
theorem lk_no {r : List Rg} {Z : List Pk} {j : Nat} {p : Pk} (h : j < Z.length) (hp : Z.getD j (0, 0, 0) = p) (hh : lateB r p = false) : lkP r Z (j + 1) = lkP r Z j ∧ fkP r Z (j + 1) = fkP r Z j ++ [p] := by
  unfold lkP fkP
  rw [filter_take Z _ j h, filter_take Z _ j h, hp, hh]
  exact ⟨by simp, by simp⟩
theorem fk_len (r : List Rg) (Z : List Pk) (j : Nat) : (lkP r Z j).length ≤ j ∧ (fkP r Z j).length ≤ j := by
  have h1 := List.length_filter_le (fun p => lateB r p) (Z.take j)
  have h2 := List.length_filter_le (fun p => !lateB r p) (Z.take j)
  rw [List.length_take] at h1 h2
  exact ⟨by show (lkP r Z j).length ≤ j; unfold lkP; omega, by show (fkP r Z j).length ≤ j; unfold fkP; omega⟩
theorem tk_len (d : Ld) (r : List Rg) (k : Nat) : (tkP d r k).length ≤ k ∧ (rkP d r k).length ≤ k := by
  have h1 := List.length_filter_le (fun p => hasR r p.1) (d.l.take k)
  have h2 := List.length_filter_le (fun p => !hasR r p.1) (d.l.take k)
  rw [List.length_take] at h1 h2
  exact ⟨by show (tkP d r k).length ≤ k; unfold tkP; omega, by show (rkP d r k).length ≤ k; unfold rkP; omega⟩
set_option maxHeartbeats 16000000 in
/-- The part behind the tests, in a world that holds the set. -/
theorem rack_yes (R : Nat) (o : Option Nat) (d : Ld) (r : List Rg) (rv : Value) (w : World) (h : RB w R o d) (hk : Lk d) (hne : o ≠ some R) (hl : d.l.length < 1099511627776) (hr : RgAt w rv r) (hrR : r ≠ [] → ∀ p cap, rv = .slice (some p) r.length cap → p.block ≠ R) (hrl : r.length < 1099511627776) (he : ackE d r = 0) :
    Calls Try.prog 13 #[.pointer (some ⟨R, 0, none⟩), rv] w fun e w' => ∃ u v o', e = .returned (.tuple #[u, v, .int .i64 0]) ∧ I64At w' u (nosP (toldP d r)) ∧ I64At w' v (nosP (lostP d r)) ∧ RB w' R o' (ack d r) ∧ (∀ k, o' = some k → w.heap.size ≤ k) ∧ Kept (fun k => k = R) w w' := by
  obtain ⟨i0, hi0, hz0, hz1, hz2⟩ := info_i64
  obtain ⟨i1, hi1, hy0, hy1, hy2⟩ := info_rpk
  obtain ⟨hc0, htop⟩ : chkR r = 0 ∧ (r = [] ∨ ¬ d.top < hiR r) := by
    unfold ackE at he
    split at he
    · cases he
    · rename_i q
      refine ⟨Decidable.byContradiction fun e => q (.inl e), ?_⟩
      by_cases e : r = []
      · exact .inl e
      · exact .inr fun e2 => q (.inr ⟨e, e2⟩)
  have hwin := hk.win
  have hthr := hk.thr
  have hsz : Hid (∀ p ∈ d.l, 1 ≤ p.2.2 ∧ p.2.2 ≤ 1200) := fun p hp => ⟨(hk.nos p hp).2.2.1, (hk.nos p hp).2.2.2⟩
  replace hk : Hid _ := hk
  obtain ⟨sv, h1, h2, h3⟩ := h
  obtain ⟨da, dc, rfl⟩ := rown_len h2
  have hR : R < w.heap.size := h1.lt (by show 0 < 6; decide)
  have c1 := fun d' os => cell_regrown (h1.cell 1 (v := .int .i64 d.top) rfl) d' os
  have CK : Hid (∀ d' os, _) := fun d' os => Calls.regrown_of (P := Try.prog) (w := w) (d := d') (os := os) (rchk_ok rv r (Go.Sort.grow (redrawn w d') os) (hr.keep (below_regrown w d' os)) (by omega))
  rw [hc0] at CK
  obtain ⟨a, cap, rfl, hc⟩ := hr
  have HR0 : RgAt w (.slice a r.length cap) r := ⟨a, cap, rfl, hc⟩
  have MAIN : ∀ w1, Below w.heap.size w w1 → Hid (A1 (w1.alloc (.cells #[.slice a r.length cap] 70)) (w1.alloc (.cells #[.slice a r.length cap] 70)) R w1.heap.size (.slice a r.length cap) (lgc (.slice da d.l.length dc) (stK d r 0)) (nosP (tkP d r 0)) (rkP d r 0) (.slice none 0 0) (.slice none 0 0)) ∧ Hid (World.ownsRow (w1.alloc (.cells #[.slice a r.length cap] 70)) 0 60 3 (.slice da d.l.length dc) d.l.length (pks d.l)) ∧ Hid (∀ w', Kept (fun k => k = R) (w1.alloc (.cells #[.slice a r.length cap] 70)) w' → RgAt w' (.slice a r.length cap) r) ∧ Hid (Below w.heap.size w (w1.alloc (.cells #[.slice a r.length cap] 70))) := fun w1 b1 => by
    have b2 : Below w.heap.size w (w1.alloc (.cells #[.slice a r.length cap] 70)) := b1.trans (((Below.refl _ _).alloc (Nat.le_refl _) _).mono b1.size)
    have z : (w1.alloc (.cells #[.slice a r.length cap] 70)).heap.size = w1.heap.size + 1 := by simp
    have zz := b1.size
    refine ⟨⟨h1.keep (by show 0 < 6; decide) b2, World.ownsRow_nil _ _ _ _, World.ownsRow_nil _ _ _ _, Lies.new w1 _ _, Kept.refl _ _, by omega, by omega, by omega⟩, row_block h2 fun k hk => b2.block k (h2.lt k hk).2, fun w' kk => ?_, b2⟩
    refine rg_move (HR0.keep b2) fun hn p hp => kk.block _ ?_ ?_
    · subst hp
      rcases hc with q | ⟨g, o, q, hc'⟩
      · exact absurd q hn
      · injection q with q
        subst q
        have := World.block_lt_of_cell? w _ (hc' 0 (List.length_pos_iff.2 hn)).1
        have := b2.size
        show g < _
        simp at *
        omega
    · exact hrR hn p cap (by rw [hp])
  replace MAIN : Hid _ := MAIN
  have hgR : Hid (∀ k, (Value.slice da d.l.length dc).ownBlock = some k → ¬ k = R) := fun k hk e => hne (by rw [← h3, hk, e])
  replace h1 : Hid _ := h1
  have hrR2 := hrR
  replace hrR2 : Hid _ := hrR2
  clear h2 h3 HR0 hrR hne he
  go_enter Try.func13, Try.ntmps13
  go_wp2_with fail
  by_cases hn : r = []
  · have g3 : decide ((0 : Int) < (r.length : Int)) = false := decide_eq_false (by rw [hn]; decide)
    have g3' : decide (0 < r.length) = false := decide_eq_false (by rw [hn]; decide)
    have hlate : Hid (∀ p, lateB r p = false) := fun p => by unfold lateB; rw [hn]; rfl
    replace hn : Hid _ := hn
    clear htop hc
    refine wp_region_quiet_below (by kernel_rfl) (by kernel_rfl) ?_
    repeat (go_big_quiet_step (first | (go_at_call 31; exact CK.out _ _)))
    refine wpQuiet_nil ?_
    intro _ hw'
    obtain ⟨⟨dq, osq⟩, hw''⟩ := hw'
    subst hw''
    have B1 : Below w.heap.size w (Go.Sort.grow (redrawn w dq) osq) := below_regrown w dq osq
    simp only
    generalize Go.Sort.grow (redrawn w dq) osq = w1 at *
    obtain ⟨A0, h2, hrv, BW⟩ := MAIN.out w1 B1
    clear MAIN CK c1 B1 h1
    go_wp2
    generalize w1.alloc (.cells #[.slice a r.length cap] 70) = W at *
    generalize w1.heap.size = S at *
    go_loopg [8, 10, 12] d.l.length (fun g' tv cv iv wr => ∃ k : Nat, k + g' = d.l.length ∧ iv = .int .i64 k ∧ Hid (A1 W wr R S (.slice a r.length cap) (lgc (.slice da d.l.length dc) (stK d r k)) (nosP (tkP d r k)) (rkP d r k) tv cv))
    case atStart => exact ⟨0, by omega, rfl, A0⟩
    case round =>
      obtain ⟨k, hk, rfl, A⟩ := hrel
      obtain ⟨ta, tc, rfl⟩ := rown_len A.out.told
      obtain ⟨ra, rc, rfl⟩ := rown_len A.out.rest
      have y0 := A.out.led.cell 0 (v := .slice da d.l.length dc) rfl
      have kl := tk_len d r k
      by_cases hlt : k < d.l.length
      · have g1 : decide ((k : Int) < (d.l.length : Int)) = true := decide_eq_true (by omega)
        cases da with
        | none =>
          exfalso
          rcases h2.out.2 with ⟨_, q⟩ | ⟨g, _, _, q, _⟩
          · omega
          · injection q with q; cases q
        | some pp =>
          obtain ⟨g, rfl⟩ : ∃ g, pp = ⟨g, 0, none⟩ := by
            rcases h2.out.2 with ⟨q, _⟩ | ⟨g, _, _, q, _⟩
            · cases q
            · injection q with q
              injection q with q
              exact ⟨g, q⟩
          obtain ⟨-, z0, z1, z2⟩ := row_cells h2.out k hlt
          have gl := (h2.out.lt g rfl).2
          have gb : wr.heap[g]? = W.heap[g]? := A.out.kp.block g gl (hgR.out g rfl)
          have x0 := (World.cell?_of_block (a := ⟨g, 3 * k, none⟩) gb).trans z0
          have x1 := (World.cell?_of_block (a := ⟨g, 3 * k + 1, none⟩) gb).trans z1
          have x2 := (World.cell?_of_block (a := ⟨g, 3 * k + 2, none⟩) gb).trans z2
          have ia := fun w' => at_rpk g 0 d.l.length dc k w' hlt (k : Int) rfl (3 * k) (by omega)
          have ty := @tk_yes d r k _ hlt rfl
          have tn := @tk_no d r k _ hlt rfl
          have sin := hsz.out (d.l.getD k (0, 0, 0)) (by simp [List.getD, List.getElem?_eq_getElem hlt])
          generalize d.l.getD k (0, 0, 0) = p at *
          obtain ⟨n, t, s⟩ := p
          simp only at x0 x1 x2 ty tn sin
          clear z0 z1 z2 gb gl
          have al : Below wr.heap.size wr (wr.alloc (.cells #[.int .i64 n, .int .i64 t, .int .i64 s] 60)) := (Below.refl _ _).alloc (Nat.le_refl _) _
          have A3 := A.out.keep (by show 0 < 6; decide) al
          have P3 : Hid (Lies (wr.alloc (.cells #[.int .i64 n, .int .i64 t, .int .i64 s] 60)) wr.heap.size [.int .i64 n, .int .i64 t, .int .i64 s]) := Lies.new wr _ _
          have HS : Hid _ := rhas_b S (.slice a r.length cap) r n (wr.alloc (.cells #[.int .i64 n, .int .i64 t, .int .i64 s] 60)) A3.set (hrv.out _ A3.kp) hrl
          replace A3 : Hid _ := A3
          replace sin : Hid _ := sin
          clear al
          cases hh : hasR r n
          · rw [hh] at HS
            obtain ⟨e1, e2⟩ := tn hh
            have al4 : Below (wr.alloc (.cells #[.int .i64 n, .int .i64 t, .int .i64 s] 60)).heap.size (wr.alloc (.cells #[.int .i64 n, .int .i64 t, .int .i64 s] 60)) ((wr.alloc (.cells #[.int .i64 n, .int .i64 t, .int .i64 s] 60)).alloc (.cells #[.int .i64 n, .int .i64 t, .int .i64 s] 60)) := (Below.refl _ _).alloc (Nat.le_refl _) _
            have A4 := A3.out.keep (by show 0 < 6; decide) al4
            have z3 : (wr.alloc (.cells #[.int .i64 n, .int .i64 t, .int .i64 s] 60)).heap.size = wr.heap.size + 1 := by simp
            have hnews : Hid (∀ j u, (pkc (n, t, s))[j]? = some u → ((wr.alloc (.cells #[.int .i64 n, .int .i64 t, .int .i64 s] 60)).alloc (.cells #[.int .i64 n, .int .i64 t, .int .i64 s] 60)).cell? ((⟨wr.heap.size + 1, 0, none⟩ : Addr).add j) = some u) := fun j u hj => by
              rw [Addr.add_lit, ← z3]
              exact (Lies.new (wr.alloc (.cells #[.int .i64 n, .int .i64 t, .int .i64 s] 60)) (pkc (n, t, s)) 60).r j u hj
            have fin : Hid (∀ v' w5, w5.ownsRow W.heap.size 60 3 v' ((rkP d r k).length + 1) (pks (rkP d r k) ++ pkc (n, t, s)) → ((wr.alloc (.cells #[.int .i64 n, .int .i64 t, .int .i64 s] 60)).alloc (.cells #[.int .i64 n, .int .i64 t, .int .i64 s] 60)).grownBy w5 (Value.slice ra (rkP d r k).length rc).ownBlock → Hid (A1 W w5 R S (.slice a r.length cap) (lgc (.slice (some ⟨g, 0, none⟩) d.l.length dc) (stK d r (k + 1))) (nosP (tkP d r (k + 1))) (rkP d r (k + 1)) (.slice ta (nosP (tkP d r k)).length tc) v')) := fun v' w5 q1 q2 => by
              have := A4.addP q1 q2
              unfold Hid stK
              rw [e1, e2]
              exact this
            have o4 : Hid (World.ownsRow ((wr.alloc (.cells #[.int .i64 n, .int .i64 t, .int .i64 s] 60)).alloc (.cells #[.int .i64 n, .int .i64 t, .int .i64 s] 60)) W.heap.size 60 3 (.slice ra (rkP d r k).length rc) (rkP d r k).length (pks (rkP d r k))) := A4.rest
            have hWs : W.heap.size ≤ ((wr.alloc (.cells #[.int .i64 n, .int .i64 t, .int .i64 s] 60)).alloc (.cells #[.int .i64 n, .int .i64 t, .int .i64 s] 60)).heap.size := A4.kp.size
            replace e1 : Hid _ := e1
            replace e2 : Hid _ := e2
            clear A4 al4 z3 hh ty tn A A3 P3
            go_wp2_with fail
            refine Calls.mono HS.out ?_
            rintro _ w3 ⟨rfl, rfl⟩
            go_wp2_with (at_builtin; refine wpList_append_own_at _ rfl _ _ 40 rfl W.heap.size 60 i1 (.agg #[.int .i64 0, .int .i64 0, .int .i64 0]) 3 24 Try.underlying40 hi1 hy0 hy1 hy2 rfl (by decide) (.slice ra (rkP d r k).length rc) (rkP d r k).length (pks (rkP d r k)) rfl o4.out ⟨wr.heap.size + 1, 0, none⟩ 1 1 (pkc (n, t, s)) rfl rfl hnews.out (pkc_one _) (by have := kl.2; unfold maxLen; omega) (by have := kl.2; omega) hWs ?_; intro v' w5 q1 q2 q3 q4; have R1 := fin.out v' w5 q1 q2; clear q1 q2 q3 q4)
            go_roundg (d.l.length - (k + 1))
            case measure => omega
            case rel => exact ⟨k + 1, by omega, by go_num, R1⟩
          · rw [hh] at HS
            obtain ⟨e1, e2⟩ := ty hh
            have al4 : Below (wr.alloc (.cells #[.int .i64 n, .int .i64 t, .int .i64 s] 60)).heap.size (wr.alloc (.cells #[.int .i64 n, .int .i64 t, .int .i64 s] 60)) ((wr.alloc (.cells #[.int .i64 n, .int .i64 t, .int .i64 s] 60)).alloc (.cells #[.int .i64 n] 2)) := (Below.refl _ _).alloc (Nat.le_refl _) _
            have A4 := A3.out.keep (by show 0 < 6; decide) al4
            have z3 : (wr.alloc (.cells #[.int .i64 n, .int .i64 t, .int .i64 s] 60)).heap.size = wr.heap.size + 1 := by simp
            have P4 := P3.out.keep (by show 0 < 3; decide) al4
            have hnews : Hid (∀ j u, ([.int .i64 n] : List Value)[j]? = some u → ((wr.alloc (.cells #[.int .i64 n, .int .i64 t, .int .i64 s] 60)).alloc (.cells #[.int .i64 n] 2)).cell? ((⟨wr.heap.size + 1, 0, none⟩ : Addr).add j) = some u) := fun j u hj => by
              rw [Addr.add_lit, ← z3]
              exact (Lies.new (wr.alloc (.cells #[.int .i64 n, .int .i64 t, .int .i64 s] 60)) [.int .i64 n] 2).r j u hj
            have tl := A.out.told
            have wz : wr.heap.size < ((wr.alloc (.cells #[.int .i64 n, .int .i64 t, .int .i64 s] 60)).alloc (.cells #[.int .i64 n] 2)).heap.size := by simp; omega
            have fin : Hid (∀ v' w5, w5.ownsRow W.heap.size 2 1 v' ((nosP (tkP d r k)).length + 1) (n64 (nosP (tkP d r k)) ++ [.int .i64 n]) → ((wr.alloc (.cells #[.int .i64 n, .int .i64 t, .int .i64 s] 60)).alloc (.cells #[.int .i64 n] 2)).grownBy w5 (Value.slice ta (nosP (tkP d r k)).length tc).ownBlock → Hid (A1 W w5 R S (.slice a r.length cap) (lgc (.slice (some ⟨g, 0, none⟩) d.l.length dc) (stK d r k)) (nosP (tkP d r k) ++ [n]) (rkP d r k) v' (.slice ra (rkP d r k).length rc)) ∧ Hid (Lies w5 wr.heap.size [.int .i64 n, .int .i64 t, .int .i64 s])) := fun v' w5 q1 q2 => by
              refine ⟨A4.addT q1 q2, P4.of_block (q2.block _ wz fun e => ?_)⟩
              have := (tl.lt _ e.symm).2
              omega
            have o4 : Hid (World.ownsRow ((wr.alloc (.cells #[.int .i64 n, .int .i64 t, .int .i64 s] 60)).alloc (.cells #[.int .i64 n] 2)) W.heap.size 2 1 (.slice ta (nosP (tkP d r k)).length tc) (nosP (tkP d r k)).length (n64 (nosP (tkP d r k)))) := A4.told
            have hWs : W.heap.size ≤ ((wr.alloc (.cells #[.int .i64 n, .int .i64 t, .int .i64 s] 60)).alloc (.cells #[.int .i64 n] 2)).heap.size := A4.kp.size
            have nl : (nosP (tkP d r k)).length ≤ k := by rw [nos_len]; exact kl.1
            have wb := growAll_in (thr := d.thr) (tkP d r k) d.win hwin (fun p hp => hsz.out p (List.mem_of_mem_take (List.mem_filter.1 hp).1))
            obtain ⟨wk, hwk⟩ : ∃ wk, growAll d.thr (tkP d r k) d.win = wk := ⟨_, rfl⟩
            have sw : (stK d r k).win = wk := hwk
            rw [hwk] at wb
            have st1 : stK d r (k + 1) = { d with win := grow wk d.thr s, bo := 0 } := by
              unfold stK
              rw [e1, growAll_snoc, hwk, if_neg (by simp)]
            replace sw : Hid _ := sw
            replace st1 : Hid _ := st1
            replace hwk : Hid _ := hwk
            replace e1 : Hid _ := e1
            replace e2 : Hid _ := e2
            clear A4 al4 z3 hh ty tn A A3 P3 P4 tl wz
            go_wp2_with fail
            refine Calls.mono HS.out ?_
            rintro _ w3 ⟨rfl, rfl⟩
            go_wp2_with (at_builtin; refine wpList_append_own_at _ rfl _ _ 32 rfl W.heap.size 2 i0 (.int .i64 0) 1 8 Try.underlying32 hi0 hz0 hz1 hz2 rfl (by decide) (.slice ta (nosP (tkP d r k)).length tc) (nosP (tkP d r k)).length (n64 (nosP (tkP d r k))) rfl o4.out ⟨wr.heap.size + 1, 0, none⟩ 1 1 [.int .i64 n] rfl rfl hnews.out (fun u hu => by simp at hu; subst hu; rfl) (by unfold maxLen; omega) (by omega) hWs ?_; intro v' w5 q1 q2 q3 q4; obtain ⟨A5, P5⟩ := fin.out v' w5 q1 q2; clear q1 q2 q3 q4 fin o4 hnews hWs)
            have r2 := A5.out.led.cell 2 (v := .int .i64 (stK d r k).win) rfl
            have r3 := A5.out.led.cell 3 (v := .int .i64 d.thr) rfl
            rw [sw.out] at r2
            go_region
            have A6 : Hid (A1 W w5.drew R S (.slice a r.length cap) (lgc (.slice (some ⟨g, 0, none⟩) d.l.length dc) (stK d r k)) (nosP (tkP d r k) ++ [n]) (rkP d r k) v' (.slice ra (rkP d r k).length rc)) := A5.out.keep (by show 0 < 6; decide) (drewB _ _)
            have P6 : Hid (Lies w5.drew wr.heap.size [.int .i64 n, .int .i64 t, .int .i64 s]) := P5.out.of_block rfl
            clear r2 r3 A5 P5 x0 x1 x2 y0 HS ia
            generalize w5.drew = w6 at *
            generalize wr.heap.size = P at *
            have r2 := A6.out.led.cell 2 (v := .int .i64 (stK d r k).win) rfl
            rw [sw.out] at r2
            have f2 := A6.out.led.free 2 (by show 2 < 6; decide)
            have p2 := P6.out.cell 2 (v := .int .i64 s) rfl
            by_cases hwt : wk < d.thr
            · have g4 : decide (wk < d.thr) = true := decide_eq_true hwt
              obtain ⟨X, hX⟩ : ∃ X, wk + s = X := ⟨_, rfl⟩
              have sum : wrap64 (wk + s) = X := by have := sin.out; rw [← hX]; unfold wrap64; omega
              have gX : Hid (grow wk d.thr s = min X 1073741824) := by unfold Hid grow; rw [if_pos hwt, hX]
              replace hX : Hid _ := hX
              go_wp2
              go_region
              have A7 : Hid (A1 W (w6.setCell ⟨R, 2, none⟩ (.int .i64 X)).drew R S (.slice a r.length cap) (lgc (.slice (some ⟨g, 0, none⟩) d.l.length dc) { stK d r k with win := X }) (nosP (tkP d r k) ++ [n]) (rkP d r k) v' (.slice ra (rkP d r k).length rc)) := (A6.out.put 2 (by show 2 < 6; decide) (.int .i64 X) rfl).keep (by show 0 < 6; decide) (drewB _ _)
              clear A6 P6 r2 f2 p2
              generalize (w6.setCell ⟨R, 2, none⟩ (.int .i64 X)).drew = w7 at *
              have r2 := A7.out.led.cell 2 (v := .int .i64 X) rfl
              have f2 := A7.out.led.free 2 (by show 2 < 6; decide)
              have f5 := A7.out.led.free 5 (by show 5 < 6; decide)
              have r5 := A7.out.led.cell 5 (v := .int .i64 (stK d r k).bo) rfl
              have A9 : Hid (∀ m : Int, m = grow wk d.thr s → Hid (A1 W ((w7.setCell ⟨R, 2, none⟩ (.int .i64 m)).setCell ⟨R, 5, none⟩ (.int .i64 0)) R S (.slice a r.length cap) (lgc (.slice (some ⟨g, 0, none⟩) d.l.length dc) (stK d r (k + 1))) (nosP (tkP d r (k + 1))) (rkP d r (k + 1)) v' (.slice ra (rkP d r k).length rc))) := fun m hm => by
                have := (A7.out.put 2 (by show 2 < 6; decide) (.int .i64 m) rfl).put 5 (by show 5 < 6; decide) (.int .i64 0) rfl
                unfold Hid
                rw [st1.out, e1.out, e2.out, ← hm]
                unfold nosP at *
                rw [List.map_append]
                exact this
              by_cases hm : X < 1073741824
              · have R1 := A9.out X (by rw [gX.out]; omega)
                have g5 : decide (X < 1073741824) = true := decide_eq_true hm
                have g6 : decide (1073741824 < X) = false := decide_eq_false (by omega)
                replace R1 : Hid _ := R1
                clear A9 A7 gX
                go_wp2
                go_roundg (d.l.length - (k + 1))
                case measure => omega
                case rel => exact ⟨k + 1, by omega, by go_num, R1.out⟩
              · have R1 := A9.out 1073741824 (by rw [gX.out]; omega)
                replace R1 : Hid _ := R1
                clear A9 A7 gX
                have g5 : decide (X < 1073741824) = false := decide_eq_false hm
                by_cases hm2 : 1073741824 < X
                · have g6 : decide (1073741824 < X) = true := decide_eq_true hm2
                  go_wp2
                  go_roundg (d.l.length - (k + 1))
                  case measure => omega
                  case rel => exact ⟨k + 1, by omega, by go_num, R1.out⟩
                · obtain rfl : X = 1073741824 := by omega
                  clear g5 hm hm2
                  go_wp2
                  go_roundg (d.l.length - (k + 1))
                  case measure => omega
                  case rel => exact ⟨k + 1, by omega, by go_num, R1.out⟩
            · have g4 : decide (wk < d.thr) = false := decide_eq_false hwt
              obtain ⟨X, hX⟩ : ∃ X, wk + 1200 * s / wk = X := ⟨_, rfl⟩
              have dv : 0 ≤ 1200 * s / wk ∧ 1200 * s / wk ≤ 1200 * s := by
                have := sin.out
                exact ⟨Int.ediv_nonneg (by omega) (by omega), Int.ediv_le_self _ (by omega)⟩
              have sum : wrap64 (wk + wrap64 ((wrap64 (1200 * s)).tdiv wk)) = X := by
                have := sin.out
                have e1 : wrap64 (1200 * s) = 1200 * s := by unfold wrap64; omega
                rw [e1, Int.tdiv_eq_ediv_of_nonneg (by omega)]
                have e2 : wrap64 (1200 * s / wk) = 1200 * s / wk := by unfold wrap64; omega
                rw [e2, ← hX]
                unfold wrap64
                omega
              have gX : Hid (grow wk d.thr s = min X 1073741824) := by unfold Hid grow; rw [if_neg hwt, hX]
              replace hX : Hid _ := hX
              clear dv
              go_wp2
              go_region
              have A7 : Hid (A1 W (w6.setCell ⟨R, 2, none⟩ (.int .i64 X)).drew R S (.slice a r.length cap) (lgc (.slice (some ⟨g, 0, none⟩) d.l.length dc) { stK d r k with win := X }) (nosP (tkP d r k) ++ [n]) (rkP d r k) v' (.slice ra (rkP d r k).length rc)) := (A6.out.put 2 (by show 2 < 6; decide) (.int .i64 X) rfl).keep (by show 0 < 6; decide) (drewB _ _)
              clear A6 P6 r2 f2 p2
              generalize (w6.setCell ⟨R, 2, none⟩ (.int .i64 X)).drew = w7 at *
              have r2 := A7.out.led.cell 2 (v := .int .i64 X) rfl
              have f2 := A7.out.led.free 2 (by show 2 < 6; decide)
              have f5 := A7.out.led.free 5 (by show 5 < 6; decide)
              have r5 := A7.out.led.cell 5 (v := .int .i64 (stK d r k).bo) rfl
              have A9 : Hid (∀ m : Int, m = grow wk d.thr s → Hid (A1 W ((w7.setCell ⟨R, 2, none⟩ (.int .i64 m)).setCell ⟨R, 5, none⟩ (.int .i64 0)) R S (.slice a r.length cap) (lgc (.slice (some ⟨g, 0, none⟩) d.l.length dc) (stK d r (k + 1))) (nosP (tkP d r (k + 1))) (rkP d r (k + 1)) v' (.slice ra (rkP d r k).length rc))) := fun m hm => by
                have := (A7.out.put 2 (by show 2 < 6; decide) (.int .i64 m) rfl).put 5 (by show 5 < 6; decide) (.int .i64 0) rfl
                unfold Hid
                rw [st1.out, e1.out, e2.out, ← hm]
                unfold nosP at *
                rw [List.map_append]
                exact this
              by_cases hm : X < 1073741824
              · have R1 := A9.out X (by rw [gX.out]; omega)
                have g5 : decide (X < 1073741824) = true := decide_eq_true hm
                have g6 : decide (1073741824 < X) = false := decide_eq_false (by omega)
                replace R1 : Hid _ := R1
                clear A9 A7 gX
                go_wp2
                go_roundg (d.l.length - (k + 1))
                case measure => omega
                case rel => exact ⟨k + 1, by omega, by go_num, R1.out⟩
              · have R1 := A9.out 1073741824 (by rw [gX.out]; omega)
                replace R1 : Hid _ := R1
                clear A9 A7 gX
                have g5 : decide (X < 1073741824) = false := decide_eq_false hm
                by_cases hm2 : 1073741824 < X
                · have g6 : decide (1073741824 < X) = true := decide_eq_true hm2
                  go_wp2
                  go_roundg (d.l.length - (k + 1))
                  case measure => omega
                  case rel => exact ⟨k + 1, by omega, by go_num, R1.out⟩
                · obtain rfl : X = 1073741824 := by omega
                  clear g5 hm hm2
                  go_wp2
                  go_roundg (d.l.length - (k + 1))
                  case measure => omega
                  case rel => exact ⟨k + 1, by omega, by go_num, R1.out⟩
      · have g1 : decide ((k : Int) < (d.l.length : Int)) = false := decide_eq_false (by omega)
        obtain rfl : k = d.l.length := by omega
        have eT : tkP d r d.l.length = toldP d r := by unfold tkP toldP; rw [List.take_length]
        have eP : rkP d r d.l.length = restP d r := by unfold rkP restP; rw [List.take_length]
        have A8 := A.out
        rw [eT, eP] at A8
        have eZl : (restP d r).length < 1099511627776 := by
          rw [← eP]
          have := kl.2
          omega
        rw [eT, eP]
        obtain ⟨Z, hZ⟩ : ∃ Z, restP d r = Z := ⟨_, rfl⟩
        obtain ⟨T, hT⟩ : ∃ T, toldP d r = T := ⟨_, rfl⟩
        rw [hZ, hT] at A8
        rw [hZ] at eZl
        rw [hZ, hT]
        have st8 : Hid (stK d r d.l.length = { d with win := growAll d.thr T d.win, bo := if T = [] then d.bo else 0 }) := by rw [← hT, ← eT]; rfl
        replace A8 : Hid _ := A8
        replace hZ : Hid _ := hZ
        replace hT : Hid _ := hT
        clear A eT eP kl
        obtain ⟨W2, hW2⟩ : ∃ W2, wr = W2 := ⟨_, rfl⟩
        rw [hW2] at A8 y0 ⊢
        clear hW2 hk
        go_wp2
        go_loopg [9, 11, 14] Z.length (fun g' lv ev iv wr => ∃ j : Nat, j + g' = Z.length ∧ iv = .int .i64 j ∧ (∃ la lc, lv = .slice la (nosP (lkP r Z j)).length lc) ∧ Hid (World.ownsRow wr W2.heap.size 2 1 lv (nosP (lkP r Z j)).length (n64 (nosP (lkP r Z j)))) ∧ Hid (World.ownsRow wr W2.heap.size 60 3 ev (fkP r Z j).length (pks (fkP r Z j))) ∧ Hid (Below W2.heap.size W2 wr))
        case atStart => exact ⟨0, by omega, rfl, ⟨_, _, rfl⟩, World.ownsRow_nil _ _ _ _, World.ownsRow_nil _ _ _ _, Below.refl _ _⟩
        case round =>
          obtain ⟨j, hj, rfl, ⟨la, lc, rfl⟩, lost, left, bel⟩ := hrel
          obtain ⟨ea, ec, rfl⟩ := rown_len left.out
          have fl2 := fk_len r Z j
          by_cases hlt : j < Z.length
          · have g1 : decide ((j : Int) < (Z.length : Int)) = true := decide_eq_true (by omega)
            have hrow := A8.out.rest
            cases ra with
            | none =>
              exfalso
              rcases hrow.2 with ⟨_, q⟩ | ⟨g, _, _, q, _⟩
              · omega
              · injection q with q; cases q
            | some pp =>
              obtain ⟨g, rfl⟩ : ∃ g, pp = ⟨g, 0, none⟩ := by
                rcases hrow.2 with ⟨q, _⟩ | ⟨g, _, _, q, _⟩
                · cases q
                · injection q with q
                  injection q with q
                  exact ⟨g, q⟩
              obtain ⟨-, z0, z1, z2⟩ := row_cells hrow j hlt
              have x0 := (bel.out.cell (World.block_lt_of_cell? W2 _ z0)).trans z0
              have x1 := (bel.out.cell (World.block_lt_of_cell? W2 _ z1)).trans z1
              have x2 := (bel.out.cell (World.block_lt_of_cell? W2 _ z2)).trans z2
              have ia := fun w' => at_rpk g 0 Z.length rc j w' hlt (j : Int) rfl (3 * j) (by omega)
              have sl := @lk_yes r Z j _ hlt rfl
              have sn := @lk_no r Z j _ hlt rfl
              generalize Z.getD j (0, 0, 0) = p at *
              obtain ⟨n, t, s⟩ := p
              simp only at x0 x1 x2 z0 z1 z2
              clear hrow
              have hlt' : lateB r (n, t, s) = false := hlate.out _
              go_wp2_with fail
              refine wp_region_quiet_below (by kernel_rfl) (by kernel_rfl) ?_
              repeat (go_big_quiet_step (fail))
              refine wpQuiet_nil ?_
              intro _ hw'
              obtain ⟨⟨dq, osq⟩, hw''⟩ := hw'
              subst hw''
              have BQ : Below W2.heap.size W2 (Go.Sort.grow (redrawn wr dq) osq) := bel.out.trans ((below_regrown wr dq osq).mono bel.out.size)
              have lostQ := row_block (w' := Go.Sort.grow (redrawn wr dq) osq) lost.out fun k hk => (below_regrown wr dq osq).block k (lost.out.lt k hk).2
              have leftQ := row_block (w' := Go.Sort.grow (redrawn wr dq) osq) left.out fun k hk => (below_regrown wr dq osq).block k (left.out.lt k hk).2
              simp only
              clear lost left bel x0 x1 x2
              generalize Go.Sort.grow (redrawn wr dq) osq = wq at *
              replace x0 := (BQ.cell (World.block_lt_of_cell? W2 _ z0)).trans z0
              replace x1 := (BQ.cell (World.block_lt_of_cell? W2 _ z1)).trans z1
              replace x2 := (BQ.cell (World.block_lt_of_cell? W2 _ z2)).trans z2
              obtain ⟨f1, f2⟩ := sn hlt'
              have alq : Below wq.heap.size wq (wq.alloc (.cells #[.int .i64 n, .int .i64 t, .int .i64 s] 60)) := (Below.refl _ _).alloc (Nat.le_refl _) _
              have o4 : Hid (World.ownsRow (wq.alloc (.cells #[.int .i64 n, .int .i64 t, .int .i64 s] 60)) W2.heap.size 60 3 (.slice ea (fkP r Z j).length ec) (fkP r Z j).length (pks (fkP r Z j))) := row_block leftQ fun k hk => alq.block k (leftQ.lt k hk).2
              have hnews : Hid (∀ j u, (pkc (n, t, s))[j]? = some u → (wq.alloc (.cells #[.int .i64 n, .int .i64 t, .int .i64 s] 60)).cell? ((⟨wq.heap.size, 0, none⟩ : Addr).add j) = some u) := fun j u hj => by
                rw [Addr.add_lit]
                exact (Lies.new wq (pkc (n, t, s)) 60).r j u hj
              have BA : Below W2.heap.size W2 (wq.alloc (.cells #[.int .i64 n, .int .i64 t, .int .i64 s] 60)) := BQ.trans (alq.mono BQ.size)
              have LA := row_block (w' := (wq.alloc (.cells #[.int .i64 n, .int .i64 t, .int .i64 s] 60))) lostQ fun k hk => alq.block k (lostQ.lt k hk).2
              have fin : Hid (∀ v' w5, w5.ownsRow W2.heap.size 60 3 v' ((fkP r Z j).length + 1) (pks (fkP r Z j) ++ pkc (n, t, s)) → (wq.alloc (.cells #[.int .i64 n, .int .i64 t, .int .i64 s] 60)).grownBy w5 (Value.slice ea (fkP r Z j).length ec).ownBlock → Hid (World.ownsRow w5 W2.heap.size 2 1 (.slice la (nosP (lkP r Z j)).length lc) (nosP (lkP r Z (j + 1))).length (n64 (nosP (lkP r Z (j + 1))))) ∧ Hid (World.ownsRow w5 W2.heap.size 60 3 v' (fkP r Z (j + 1)).length (pks (fkP r Z (j + 1)))) ∧ Hid (Below W2.heap.size W2 w5)) := fun v' w5 q1 q2 => by
                refine ⟨?_, ?_, BA.grown q2 BA.size (fun k hk => (o4.out.lt k hk).1)⟩
                · rw [Hid, f1]
                  exact row_block LA fun k hk => q2.block k (LA.lt k hk).2 (fun e => kind_ne o4.out LA (by decide) e.symm hk)
                · rw [Hid, f2, pks_snoc, List.length_append]
                  exact q1
              have hWs : W2.heap.size ≤ (wq.alloc (.cells #[.int .i64 n, .int .i64 t, .int .i64 s] 60)).heap.size := BA.size
              replace f1 : Hid _ := f1
              replace f2 : Hid _ := f2
              clear lostQ leftQ LA BA alq BQ hlt' sn sl
              go_wp2_with (at_builtin; refine wpList_append_own_at _ rfl _ _ 40 rfl W2.heap.size 60 i1 (.agg #[.int .i64 0, .int .i64 0, .int .i64 0]) 3 24 Try.underlying40 hi1 hy0 hy1 hy2 rfl (by decide) (.slice ea (fkP r Z j).length ec) (fkP r Z j).length (pks (fkP r Z j)) rfl o4.out ⟨wq.heap.size, 0, none⟩ 1 1 (pkc (n, t, s)) rfl rfl hnews.out (pkc_one _) (by have := fl2.2; unfold maxLen; omega) (by have := fl2.2; omega) hWs ?_; intro v' w5 q1 q2 q3 q4; obtain ⟨R1, R2, R3⟩ := fin.out v' w5 q1 q2; clear q1 q2 q3 q4)
              go_roundg (Z.length - (j + 1))
              case measure => omega
              case rel => exact ⟨j + 1, by omega, by go_num, by rw [f1.out]; exact ⟨_, _, rfl⟩, R1, R2, R3⟩
          · have g1 : decide ((j : Int) < (Z.length : Int)) = false := decide_eq_false (by omega)
            obtain rfl : j = Z.length := by omega
            have eL : lkP r Z Z.length = lostP d r := by unfold lkP lostP; rw [List.take_length, hZ.out]
            have eF : fkP r Z Z.length = leftP d r := by unfold fkP leftP; rw [List.take_length, hZ.out]
            have lost1 := lost.out
            have left1 := left.out
            rw [eL] at lost1
            rw [eF] at left1
            have ll : (nosP (lostP d r)).length < 1099511627776 := by rw [nos_len, ← eL]; have := fl2.1; omega
            rw [eL, eF]
            have wb := growAll_in (thr := d.thr) T d.win hwin (fun p hp => hsz.out p (by rw [← hT.out] at hp; exact (List.mem_filter.1 hp).1))
            have led1 := A8.out.led.keep (by show 0 < 6; decide) bel.out
            rw [st8.out] at led1
            obtain ⟨D, hD⟩ : ∃ D : Ld, D = { d with l := leftP d r, win := growAll d.thr T d.win, bo := if T = [] then d.bo else 0 } := ⟨_, rfl⟩
            have R2 : R < W2.heap.size := Nat.lt_of_lt_of_le A8.out.hR A8.out.kp.size
            have LA : Lies (wr.setCell ⟨R, 0, none⟩ (.slice ea (leftP d r).length ec)) R (lgc (.slice ea (leftP d r).length ec) D) := by
              rw [hD]
              exact led1.put 0 (by show 0 < 6; decide) _
            have lostA := row_block (w' := wr.setCell ⟨R, 0, none⟩ (.slice ea (leftP d r).length ec)) lost1 fun k hk => Below.heap_setCell _ _ _ _ (by show k ≠ R; have := (lost1.lt k hk).1; omega)
            have leftA := row_block (w' := wr.setCell ⟨R, 0, none⟩ (.slice ea (leftP d r).length ec)) left1 fun k hk => Below.heap_setCell _ _ _ _ (by show k ≠ R; have := (left1.lt k hk).1; omega)
            have toldA := row_block (w' := wr.setCell ⟨R, 0, none⟩ (.slice ea (leftP d r).length ec)) A8.out.told fun k hk => (Below.heap_setCell _ _ _ _ (by show k ≠ R; have := (A8.out.told.lt k hk).1; have := A8.out.hR; omega)).trans (bel.out.block k (A8.out.told.lt k hk).2)
            have KA : Kept (fun k => k = R) w (wr.setCell ⟨R, 0, none⟩ (.slice ea (leftP d r).length ec)) := keptR0 _ R 0 _ (((Kept.of _ BW.out).trans A8.out.kp).add bel.out)
            have LO : Hid _ := rlose_ok R (.slice ea (leftP d r).length ec) D (nosP (lostP d r)) (.slice la (nosP (lostP d r)).length lc) _ LA (row_i64 lostA) ll (by rw [hD]; exact wb)
            have f0 := led1.free 0 (by show 0 < 6; decide)
            have c0 := led1.cell 0 (v := .slice da d.l.length dc) rfl
            have zz : w.heap.size ≤ W2.heap.size := Nat.le_trans BW.out.size A8.out.kp.size
            have FIN : Hid (∀ w6, Lies w6 R (lgc (.slice ea (leftP d r).length ec) (lose D (nosP (lostP d r)))) → Kept (fun k => k = R) (wr.setCell ⟨R, 0, none⟩ (.slice ea (leftP d r).length ec)) w6 → I64At w6 (.slice ta (nosP T).length tc) (nosP (toldP d r)) ∧ I64At w6 (.slice la (nosP (lostP d r)).length lc) (nosP (lostP d r)) ∧ RB w6 R (Value.slice ea (leftP d r).length ec).ownBlock (ack d r) ∧ (∀ k, (Value.slice ea (leftP d r).length ec).ownBlock = some k → w.heap.size ≤ k) ∧ Kept (fun k => k = R) w w6) := fun w6 L6 K6 => by
              refine ⟨?_, ?_, ⟨_, ?_, ?_, rfl⟩, fun k hk => Nat.le_trans zz (leftA.lt k hk).1, KA.trans K6⟩
              · rw [hT.out]
                exact row_i64 (row_block toldA fun k hk => K6.block k (toldA.lt k hk).2 (by show ¬ k = R; have := (toldA.lt k hk).1; have := A8.out.hR; omega))
              · exact row_i64 (row_block lostA fun k hk => K6.block k (lostA.lt k hk).2 (by show ¬ k = R; have := (lostA.lt k hk).1; omega))
              · have e : ack d r = lose D (nosP (lostP d r)) := by unfold ack; rw [hT.out, hD]
                rw [e]
                exact L6
              · have e : (ack d r).l = leftP d r := by unfold ack; exact (lose_top _ _).2.1
                rw [e]
                exact row_low (row_block leftA fun k hk => K6.block k (leftA.lt k hk).2 (by show ¬ k = R; have := (leftA.lt k hk).1; omega)) (Nat.zero_le _)
            replace KA : Hid _ := KA
            clear lost1 left1 lost left led1 LA lostA leftA toldA eL eF hD
            go_wp2_with fail
            refine Calls.mono LO.out ?_
            rintro _ w6 ⟨rfl, L6, K6⟩
            have F := FIN.out w6 L6 K6
            replace F : Hid _ := F
            clear FIN LO L6 K6
            go_wp2
            exact bodyPost_ret (v := .tuple #[.slice ta (nosP T).length tc, .slice la (nosP (lostP d r)).length lc, .int .i64 0]) (by simp [results, Try.results13, go_sem]) rfl ⟨_, _, _, rfl, F.out.1, F.out.2.1, F.out.2.2.1, F.out.2.2.2.1, F.out.2.2.2.2⟩
  · have hp := List.length_pos_iff.2 hn
    have hin := hi_in hc0 hn
    rcases hc with hc | ⟨g0, p0, rfl, hc⟩
    · exact absurd hc hn
    · have hiC := (hc 0 hp).2
      have eh : (r.getD 0 (0, 0)).2 = hiR r := rfl
      rw [eh] at hiC
      have hgr : Hid (g0 ≠ R) := hrR2.out hn _ cap rfl
      have htp : ¬ d.top < hiR r := by have := htop.resolve_left hn; omega
      have c2 := fun d' os => cell_regrown hiC d' os
      have g3 : decide ((0 : Int) < (r.length : Int)) = true := decide_eq_true (by omega)
      have g3' : decide (0 < r.length) = true := decide_eq_true hp
      have g4 : decide (d.top < hiR r) = false := decide_eq_false htp
      have iar := fun w' => at_rg0 g0 p0 r.length cap w' hp
      have hlate : Hid (∀ p : Pk, lateB r p = decide (p.1 ≤ hiR r - 3)) := fun p => by unfold lateB; simp [hn]
      have hw3 : wrap64 (hiR r - 3) = hiR r - 3 := by unfold wrap64; omega
      replace hiC : Hid _ := hiC
      replace hn : Hid _ := hn
      obtain ⟨hi, hhi⟩ : ∃ hi, hiR r = hi := ⟨_, rfl⟩
      rw [hhi] at hiC c2 g4 hlate hw3
      replace hhi : Hid _ := hhi
      clear htop htp hc eh hin hp
      refine wp_region_quiet_below (by kernel_rfl) (by kernel_rfl) ?_
      repeat (go_big_quiet_step (first | (go_at_call 31; exact CK.out _ _)))
      refine wpQuiet_nil ?_
      intro _ hw'
      obtain ⟨⟨dq, osq⟩, hw''⟩ := hw'
      subst hw''
      have B1 : Below w.heap.size w (Go.Sort.grow (redrawn w dq) osq) := below_regrown w dq osq
      simp only
      generalize Go.Sort.grow (redrawn w dq) osq = w1 at *
      obtain ⟨A0, h2, hrv, BW⟩ := MAIN.out w1 B1
      clear MAIN CK c1 c2 B1 h1
      go_wp2
      generalize w1.alloc (.cells #[.slice (some ⟨g0, p0, none⟩) r.length cap] 70) = W at *
      generalize w1.heap.size = S at *
      go_loopg [8, 10, 12] d.l.length (fun g' tv cv iv wr => ∃ k : Nat, k + g' = d.l.length ∧ iv = .int .i64 k ∧ Hid (A1 W wr R S (.slice (some ⟨g0, p0, none⟩) r.length cap) (lgc (.slice da d.l.length dc) (stK d r k)) (nosP (tkP d r k)) (rkP d r k) tv cv))
      case atStart => exact ⟨0, by omega, rfl, A0⟩
      case round =>
        obtain ⟨k, hk, rfl, A⟩ := hrel
        obtain ⟨ta, tc, rfl⟩ := rown_len A.out.told
        obtain ⟨ra, rc, rfl⟩ := rown_len A.out.rest
        have y0 := A.out.led.cell 0 (v := .slice da d.l.length dc) rfl
        have kl := tk_len d r k
        by_cases hlt : k < d.l.length
        · have g1 : decide ((k : Int) < (d.l.length : Int)) = true := decide_eq_true (by omega)
          cases da with
          | none =>
            exfalso
            rcases h2.out.2 with ⟨_, q⟩ | ⟨g, _, _, q, _⟩
            · omega
            · injection q with q; cases q
          | some pp =>
            obtain ⟨g, rfl⟩ : ∃ g, pp = ⟨g, 0, none⟩ := by
              rcases h2.out.2 with ⟨q, _⟩ | ⟨g, _, _, q, _⟩
              · cases q
              · injection q with q
                injection q with q
                exact ⟨g, q⟩
            obtain ⟨-, z0, z1, z2⟩ := row_cells h2.out k hlt
            have gl := (h2.out.lt g rfl).2
            have gb : wr.heap[g]? = W.heap[g]? := A.out.kp.block g gl (hgR.out g rfl)
            have x0 := (World.cell?_of_block (a := ⟨g, 3 * k, none⟩) gb).trans z0
            have x1 := (World.cell?_of_block (a := ⟨g, 3 * k + 1, none⟩) gb).trans z1
            have x2 := (World.cell?_of_block (a := ⟨g, 3 * k + 2, none⟩) gb).trans z2
            have ia := fun w' => at_rpk g 0 d.l.length dc k w' hlt (k : Int) rfl (3 * k) (by omega)
            have ty := @tk_yes d r k _ hlt rfl
            have tn := @tk_no d r k _ hlt rfl
            have sin := hsz.out (d.l.getD k (0, 0, 0)) (by simp [List.getD, List.getElem?_eq_getElem hlt])
            generalize d.l.getD k (0, 0, 0) = p at *
            obtain ⟨n, t, s⟩ := p
            simp only at x0 x1 x2 ty tn sin
            clear z0 z1 z2 gb gl
            have al : Below wr.heap.size wr (wr.alloc (.cells #[.int .i64 n, .int .i64 t, .int .i64 s] 60)) := (Below.refl _ _).alloc (Nat.le_refl _) _
            have A3 := A.out.keep (by show 0 < 6; decide) al
            have P3 : Hid (Lies (wr.alloc (.cells #[.int .i64 n, .int .i64 t, .int .i64 s] 60)) wr.heap.size [.int .i64 n, .int .i64 t, .int .i64 s]) := Lies.new wr _ _
            have HS : Hid _ := rhas_b S (.slice (some ⟨g0, p0, none⟩) r.length cap) r n (wr.alloc (.cells #[.int .i64 n, .int .i64 t, .int .i64 s] 60)) A3.set (hrv.out _ A3.kp) hrl
            replace A3 : Hid _ := A3
            replace sin : Hid _ := sin
            clear al
            cases hh : hasR r n
            · rw [hh] at HS
              obtain ⟨e1, e2⟩ := tn hh
              have al4 : Below (wr.alloc (.cells #[.int .i64 n, .int .i64 t, .int .i64 s] 60)).heap.size (wr.alloc (.cells #[.int .i64 n, .int .i64 t, .int .i64 s] 60)) ((wr.alloc (.cells #[.int .i64 n, .int .i64 t, .int .i64 s] 60)).alloc (.cells #[.int .i64 n, .int .i64 t, .int .i64 s] 60)) := (Below.refl _ _).alloc (Nat.le_refl _) _
              have A4 := A3.out.keep (by show 0 < 6; decide) al4
              have z3 : (wr.alloc (.cells #[.int .i64 n, .int .i64 t, .int .i64 s] 60)).heap.size = wr.heap.size + 1 := by simp
              have hnews : Hid (∀ j u, (pkc (n, t, s))[j]? = some u → ((wr.alloc (.cells #[.int .i64 n, .int .i64 t, .int .i64 s] 60)).alloc (.cells #[.int .i64 n, .int .i64 t, .int .i64 s] 60)).cell? ((⟨wr.heap.size + 1, 0, none⟩ : Addr).add j) = some u) := fun j u hj => by
                rw [Addr.add_lit, ← z3]
                exact (Lies.new (wr.alloc (.cells #[.int .i64 n, .int .i64 t, .int .i64 s] 60)) (pkc (n, t, s)) 60).r j u hj
              have fin : Hid (∀ v' w5, w5.ownsRow W.heap.size 60 3 v' ((rkP d r k).length + 1) (pks (rkP d r k) ++ pkc (n, t, s)) → ((wr.alloc (.cells #[.int .i64 n, .int .i64 t, .int .i64 s] 60)).alloc (.cells #[.int .i64 n, .int .i64 t, .int .i64 s] 60)).grownBy w5 (Value.slice ra (rkP d r k).length rc).ownBlock → Hid (A1 W w5 R S (.slice (some ⟨g0, p0, none⟩) r.length cap) (lgc (.slice (some ⟨g, 0, none⟩) d.l.length dc) (stK d r (k + 1))) (nosP (tkP d r (k + 1))) (rkP d r (k + 1)) (.slice ta (nosP (tkP d r k)).length tc) v')) := fun v' w5 q1 q2 => by
                have := A4.addP q1 q2
                unfold Hid stK
                rw [e1, e2]
                exact this
              have o4 : Hid (World.ownsRow ((wr.alloc (.cells #[.int .i64 n, .int .i64 t, .int .i64 s] 60)).alloc (.cells #[.int .i64 n, .int .i64 t, .int .i64 s] 60)) W.heap.size 60 3 (.slice ra (rkP d r k).length rc) (rkP d r k).length (pks (rkP d r k))) := A4.rest
              have hWs : W.heap.size ≤ ((wr.alloc (.cells #[.int .i64 n, .int .i64 t, .int .i64 s] 60)).alloc (.cells #[.int .i64 n, .int .i64 t, .int .i64 s] 60)).heap.size := A4.kp.size
              replace e1 : Hid _ := e1
              replace e2 : Hid _ := e2
              clear A4 al4 z3 hh ty tn A A3 P3
              go_wp2_with fail
              refine Calls.mono HS.out ?_
              rintro _ w3 ⟨rfl, rfl⟩
              go_wp2_with (at_builtin; refine wpList_append_own_at _ rfl _ _ 40 rfl W.heap.size 60 i1 (.agg #[.int .i64 0, .int .i64 0, .int .i64 0]) 3 24 Try.underlying40 hi1 hy0 hy1 hy2 rfl (by decide) (.slice ra (rkP d r k).length rc) (rkP d r k).length (pks (rkP d r k)) rfl o4.out ⟨wr.heap.size + 1, 0, none⟩ 1 1 (pkc (n, t, s)) rfl rfl hnews.out (pkc_one _) (by have := kl.2; unfold maxLen; omega) (by have := kl.2; omega) hWs ?_; intro v' w5 q1 q2 q3 q4; have R1 := fin.out v' w5 q1 q2; clear q1 q2 q3 q4)
              go_roundg (d.l.length - (k + 1))
              case measure => omega
              case rel => exact ⟨k + 1, by omega, by go_num, R1⟩
            · rw [hh] at HS
              obtain ⟨e1, e2⟩ := ty hh
              have al4 : Below (wr.alloc (.cells #[.int .i64 n, .int .i64 t, .int .i64 s] 60)).heap.size (wr.alloc (.cells #[.int .i64 n, .int .i64 t, .int .i64 s] 60)) ((wr.alloc (.cells #[.int .i64 n, .int .i64 t, .int .i64 s] 60)).alloc (.cells #[.int .i64 n] 2)) := (Below.refl _ _).alloc (Nat.le_refl _) _
              have A4 := A3.out.keep (by show 0 < 6; decide) al4
              have z3 : (wr.alloc (.cells #[.int .i64 n, .int .i64 t, .int .i64 s] 60)).heap.size = wr.heap.size + 1 := by simp
              have P4 := P3.out.keep (by show 0 < 3; decide) al4
              have hnews : Hid (∀ j u, ([.int .i64 n] : List Value)[j]? = some u → ((wr.alloc (.cells #[.int .i64 n, .int .i64 t, .int .i64 s] 60)).alloc (.cells #[.int .i64 n] 2)).cell? ((⟨wr.heap.size + 1, 0, none⟩ : Addr).add j) = some u) := fun j u hj => by
                rw [Addr.add_lit, ← z3]
                exact (Lies.new (wr.alloc (.cells #[.int .i64 n, .int .i64 t, .int .i64 s] 60)) [.int .i64 n] 2).r j u hj
              have tl := A.out.told
              have wz : wr.heap.size < ((wr.alloc (.cells #[.int .i64 n, .int .i64 t, .int .i64 s] 60)).alloc (.cells #[.int .i64 n] 2)).heap.size := by simp; omega
              have fin : Hid (∀ v' w5, w5.ownsRow W.heap.size 2 1 v' ((nosP (tkP d r k)).length + 1) (n64 (nosP (tkP d r k)) ++ [.int .i64 n]) → ((wr.alloc (.cells #[.int .i64 n, .int .i64 t, .int .i64 s] 60)).alloc (.cells #[.int .i64 n] 2)).grownBy w5 (Value.slice ta (nosP (tkP d r k)).length tc).ownBlock → Hid (A1 W w5 R S (.slice (some ⟨g0, p0, none⟩) r.length cap) (lgc (.slice (some ⟨g, 0, none⟩) d.l.length dc) (stK d r k)) (nosP (tkP d r k) ++ [n]) (rkP d r k) v' (.slice ra (rkP d r k).length rc)) ∧ Hid (Lies w5 wr.heap.size [.int .i64 n, .int .i64 t, .int .i64 s])) := fun v' w5 q1 q2 => by
                refine ⟨A4.addT q1 q2, P4.of_block (q2.block _ wz fun e => ?_)⟩
                have := (tl.lt _ e.symm).2
                omega
              have o4 : Hid (World.ownsRow ((wr.alloc (.cells #[.int .i64 n, .int .i64 t, .int .i64 s] 60)).alloc (.cells #[.int .i64 n] 2)) W.heap.size 2 1 (.slice ta (nosP (tkP d r k)).length tc) (nosP (tkP d r k)).length (n64 (nosP (tkP d r k)))) := A4.told
              have hWs : W.heap.size ≤ ((wr.alloc (.cells #[.int .i64 n, .int .i64 t, .int .i64 s] 60)).alloc (.cells #[.int .i64 n] 2)).heap.size := A4.kp.size
              have nl : (nosP (tkP d r k)).length ≤ k := by rw [nos_len]; exact kl.1
              have wb := growAll_in (thr := d.thr) (tkP d r k) d.win hwin (fun p hp => hsz.out p (List.mem_of_mem_take (List.mem_filter.1 hp).1))
              obtain ⟨wk, hwk⟩ : ∃ wk, growAll d.thr (tkP d r k) d.win = wk := ⟨_, rfl⟩
              have sw : (stK d r k).win = wk := hwk
              rw [hwk] at wb
              have st1 : stK d r (k + 1) = { d with win := grow wk d.thr s, bo := 0 } := by
                unfold stK
                rw [e1, growAll_snoc, hwk, if_neg (by simp)]
              replace sw : Hid _ := sw
              replace st1 : Hid _ := st1
              replace hwk : Hid _ := hwk
              replace e1 : Hid _ := e1
              replace e2 : Hid _ := e2
              clear A4 al4 z3 hh ty tn A A3 P3 P4 tl wz
              go_wp2_with fail
              refine Calls.mono HS.out ?_
              rintro _ w3 ⟨rfl, rfl⟩
              go_wp2_with (at_builtin; refine wpList_append_own_at _ rfl _ _ 32 rfl W.heap.size 2 i0 (.int .i64 0) 1 8 Try.underlying32 hi0 hz0 hz1 hz2 rfl (by decide) (.slice ta (nosP (tkP d r k)).length tc) (nosP (tkP d r k)).length (n64 (nosP (tkP d r k))) rfl o4.out ⟨wr.heap.size + 1, 0, none⟩ 1 1 [.int .i64 n] rfl rfl hnews.out (fun u hu => by simp at hu; subst hu; rfl) (by unfold maxLen; omega) (by omega) hWs ?_; intro v' w5 q1 q2 q3 q4; obtain ⟨A5, P5⟩ := fin.out v' w5 q1 q2; clear q1 q2 q3 q4 fin o4 hnews hWs)
              have r2 := A5.out.led.cell 2 (v := .int .i64 (stK d r k).win) rfl
              have r3 := A5.out.led.cell 3 (v := .int .i64 d.thr) rfl
              rw [sw.out] at r2
              go_region
              have A6 : Hid (A1 W w5.drew R S (.slice (some ⟨g0, p0, none⟩) r.length cap) (lgc (.slice (some ⟨g, 0, none⟩) d.l.length dc) (stK d r k)) (nosP (tkP d r k) ++ [n]) (rkP d r k) v' (.slice ra (rkP d r k).length rc)) := A5.out.keep (by show 0 < 6; decide) (drewB _ _)
              have P6 : Hid (Lies w5.drew wr.heap.size [.int .i64 n, .int .i64 t, .int .i64 s]) := P5.out.of_block rfl
              clear r2 r3 A5 P5 x0 x1 x2 y0 HS ia
              generalize w5.drew = w6 at *
              generalize wr.heap.size = P at *
              have r2 := A6.out.led.cell 2 (v := .int .i64 (stK d r k).win) rfl
              rw [sw.out] at r2
              have f2 := A6.out.led.free 2 (by show 2 < 6; decide)
              have p2 := P6.out.cell 2 (v := .int .i64 s) rfl
              by_cases hwt : wk < d.thr
              · have g4 : decide (wk < d.thr) = true := decide_eq_true hwt
                obtain ⟨X, hX⟩ : ∃ X, wk + s = X := ⟨_, rfl⟩
                have sum : wrap64 (wk + s) = X := by have := sin.out; rw [← hX]; unfold wrap64; omega
                have gX : Hid (grow wk d.thr s = min X 1073741824) := by unfold Hid grow; rw [if_pos hwt, hX]
                replace hX : Hid _ := hX
                go_wp2
                go_region
                have A7 : Hid (A1 W (w6.setCell ⟨R, 2, none⟩ (.int .i64 X)).drew R S (.slice (some ⟨g0, p0, none⟩) r.length cap) (lgc (.slice (some ⟨g, 0, none⟩) d.l.length dc) { stK d r k with win := X }) (nosP (tkP d r k) ++ [n]) (rkP d r k) v' (.slice ra (rkP d r k).length rc)) := (A6.out.put 2 (by show 2 < 6; decide) (.int .i64 X) rfl).keep (by show 0 < 6; decide) (drewB _ _)
                clear A6 P6 r2 f2 p2
                generalize (w6.setCell ⟨R, 2, none⟩ (.int .i64 X)).drew = w7 at *
                have r2 := A7.out.led.cell 2 (v := .int .i64 X) rfl
                have f2 := A7.out.led.free 2 (by show 2 < 6; decide)
                have f5 := A7.out.led.free 5 (by show 5 < 6; decide)
                have r5 := A7.out.led.cell 5 (v := .int .i64 (stK d r k).bo) rfl
                have A9 : Hid (∀ m : Int, m = grow wk d.thr s → Hid (A1 W ((w7.setCell ⟨R, 2, none⟩ (.int .i64 m)).setCell ⟨R, 5, none⟩ (.int .i64 0)) R S (.slice (some ⟨g0, p0, none⟩) r.length cap) (lgc (.slice (some ⟨g, 0, none⟩) d.l.length dc) (stK d r (k + 1))) (nosP (tkP d r (k + 1))) (rkP d r (k + 1)) v' (.slice ra (rkP d r k).length rc))) := fun m hm => by
                  have := (A7.out.put 2 (by show 2 < 6; decide) (.int .i64 m) rfl).put 5 (by show 5 < 6; decide) (.int .i64 0) rfl
                  unfold Hid
                  rw [st1.out, e1.out, e2.out, ← hm]
                  unfold nosP at *
                  rw [List.map_append]
                  exact this
                by_cases hm : X < 1073741824
                · have R1 := A9.out X (by rw [gX.out]; omega)
                  have g5 : decide (X < 1073741824) = true := decide_eq_true hm
                  have g6 : decide (1073741824 < X) = false := decide_eq_false (by omega)
                  replace R1 : Hid _ := R1
                  clear A9 A7 gX
                  go_wp2
                  go_roundg (d.l.length - (k + 1))
                  case measure => omega
                  case rel => exact ⟨k + 1, by omega, by go_num, R1.out⟩
                · have R1 := A9.out 1073741824 (by rw [gX.out]; omega)
                  replace R1 : Hid _ := R1
                  clear A9 A7 gX
                  have g5 : decide (X < 1073741824) = false := decide_eq_false hm
                  by_cases hm2 : 1073741824 < X
                  · have g6 : decide (1073741824 < X) = true := decide_eq_true hm2
                    go_wp2
                    go_roundg (d.l.length - (k + 1))
                    case measure => omega
                    case rel => exact ⟨k + 1, by omega, by go_num, R1.out⟩
                  · obtain rfl : X = 1073741824 := by omega
                    clear g5 hm hm2
                    go_wp2
                    go_roundg (d.l.length - (k + 1))
                    case measure => omega
                    case rel => exact ⟨k + 1, by omega, by go_num, R1.out⟩
              · have g4 : decide (wk < d.thr) = false := decide_eq_false hwt
                obtain ⟨X, hX⟩ : ∃ X, wk + 1200 * s / wk = X := ⟨_, rfl⟩
                have dv : 0 ≤ 1200 * s / wk ∧ 1200 * s / wk ≤ 1200 * s := by
                  have := sin.out
                  exact ⟨Int.ediv_nonneg (by omega) (by omega), Int.ediv_le_self _ (by omega)⟩
                have sum : wrap64 (wk + wrap64 ((wrap64 (1200 * s)).tdiv wk)) = X := by
                  have := sin.out
                  have e1 : wrap64 (1200 * s) = 1200 * s := by unfold wrap64; omega
                  rw [e1, Int.tdiv_eq_ediv_of_nonneg (by omega)]
                  have e2 : wrap64 (1200 * s / wk) = 1200 * s / wk := by unfold wrap64; omega
                  rw [e2, ← hX]
                  unfold wrap64
                  omega
                have gX : Hid (grow wk d.thr s = min X 1073741824) := by unfold Hid grow; rw [if_neg hwt, hX]
                replace hX : Hid _ := hX
                clear dv
                go_wp2
                go_region
                have A7 : Hid (A1 W (w6.setCell ⟨R, 2, none⟩ (.int .i64 X)).drew R S (.slice (some ⟨g0, p0, none⟩) r.length cap) (lgc (.slice (some ⟨g, 0, none⟩) d.l.length dc) { stK d r k with win := X }) (nosP (tkP d r k) ++ [n]) (rkP d r k) v' (.slice ra (rkP d r k).length rc)) := (A6.out.put 2 (by show 2 < 6; decide) (.int .i64 X) rfl).keep (by show 0 < 6; decide) (drewB _ _)
                clear A6 P6 r2 f2 p2
                generalize (w6.setCell ⟨R, 2, none⟩ (.int .i64 X)).drew = w7 at *
                have r2 := A7.out.led.cell 2 (v := .int .i64 X) rfl
                have f2 := A7.out.led.free 2 (by show 2 < 6; decide)
                have f5 := A7.out.led.free 5 (by show 5 < 6; decide)
                have r5 := A7.out.led.cell 5 (v := .int .i64 (stK d r k).bo) rfl
                have A9 : Hid (∀ m : Int, m = grow wk d.thr s → Hid (A1 W ((w7.setCell ⟨R, 2, none⟩ (.int .i64 m)).setCell ⟨R, 5, none⟩ (.int .i64 0)) R S (.slice (some ⟨g0, p0, none⟩) r.length cap) (lgc (.slice (some ⟨g, 0, none⟩) d.l.length dc) (stK d r (k + 1))) (nosP (tkP d r (k + 1))) (rkP d r (k + 1)) v' (.slice ra (rkP d r k).length rc))) := fun m hm => by
                  have := (A7.out.put 2 (by show 2 < 6; decide) (.int .i64 m) rfl).put 5 (by show 5 < 6; decide) (.int .i64 0) rfl
                  unfold Hid
                  rw [st1.out, e1.out, e2.out, ← hm]
                  unfold nosP at *
                  rw [List.map_append]
                  exact this
                by_cases hm : X < 1073741824
                · have R1 := A9.out X (by rw [gX.out]; omega)
                  have g5 : decide (X < 1073741824) = true := decide_eq_true hm
                  have g6 : decide (1073741824 < X) = false := decide_eq_false (by omega)
                  replace R1 : Hid _ := R1
                  clear A9 A7 gX
                  go_wp2
                  go_roundg (d.l.length - (k + 1))
                  case measure => omega
                  case rel => exact ⟨k + 1, by omega, by go_num, R1.out⟩
                · have R1 := A9.out 1073741824 (by rw [gX.out]; omega)
                  replace R1 : Hid _ := R1
                  clear A9 A7 gX
                  have g5 : decide (X < 1073741824) = false := decide_eq_false hm
                  by_cases hm2 : 1073741824 < X
                  · have g6 : decide (1073741824 < X) = true := decide_eq_true hm2
                    go_wp2
                    go_roundg (d.l.length - (k + 1))
                    case measure => omega
                    case rel => exact ⟨k + 1, by omega, by go_num, R1.out⟩
                  · obtain rfl : X = 1073741824 := by omega
                    clear g5 hm hm2
                    go_wp2
                    go_roundg (d.l.length - (k + 1))
                    case measure => omega
                    case rel => exact ⟨k + 1, by omega, by go_num, R1.out⟩
        · have g1 : decide ((k : Int) < (d.l.length : Int)) = false := decide_eq_false (by omega)
          obtain rfl : k = d.l.length := by omega
          have eT : tkP d r d.l.length = toldP d r := by unfold tkP toldP; rw [List.take_length]
          have eP : rkP d r d.l.length = restP d r := by unfold rkP restP; rw [List.take_length]
          have A8 := A.out
          rw [eT, eP] at A8
          have eZl : (restP d r).length < 1099511627776 := by
            rw [← eP]
            have := kl.2
            omega
          rw [eT, eP]
          obtain ⟨Z, hZ⟩ : ∃ Z, restP d r = Z := ⟨_, rfl⟩
          obtain ⟨T, hT⟩ : ∃ T, toldP d r = T := ⟨_, rfl⟩
          rw [hZ, hT] at A8
          rw [hZ] at eZl
          rw [hZ, hT]
          have st8 : Hid (stK d r d.l.length = { d with win := growAll d.thr T d.win, bo := if T = [] then d.bo else 0 }) := by rw [← hT, ← eT]; rfl
          replace A8 : Hid _ := A8
          replace hZ : Hid _ := hZ
          replace hT : Hid _ := hT
          clear A eT eP kl
          obtain ⟨W2, hW2⟩ : ∃ W2, wr = W2 := ⟨_, rfl⟩
          rw [hW2] at A8 y0 ⊢
          clear hW2 hk
          go_wp2
          go_loopg [9, 11, 14] Z.length (fun g' lv ev iv wr => ∃ j : Nat, j + g' = Z.length ∧ iv = .int .i64 j ∧ (∃ la lc, lv = .slice la (nosP (lkP r Z j)).length lc) ∧ Hid (World.ownsRow wr W2.heap.size 2 1 lv (nosP (lkP r Z j)).length (n64 (nosP (lkP r Z j)))) ∧ Hid (World.ownsRow wr W2.heap.size 60 3 ev (fkP r Z j).length (pks (fkP r Z j))) ∧ Hid (Below W2.heap.size W2 wr))
          case atStart => exact ⟨0, by omega, rfl, ⟨_, _, rfl⟩, World.ownsRow_nil _ _ _ _, World.ownsRow_nil _ _ _ _, Below.refl _ _⟩
          case round =>
            obtain ⟨j, hj, rfl, ⟨la, lc, rfl⟩, lost, left, bel⟩ := hrel
            obtain ⟨ea, ec, rfl⟩ := rown_len left.out
            have fl2 := fk_len r Z j
            by_cases hlt : j < Z.length
            · have g1 : decide ((j : Int) < (Z.length : Int)) = true := decide_eq_true (by omega)
              have hrow := A8.out.rest
              cases ra with
              | none =>
                exfalso
                rcases hrow.2 with ⟨_, q⟩ | ⟨g, _, _, q, _⟩
                · omega
                · injection q with q; cases q
              | some pp =>
                obtain ⟨g, rfl⟩ : ∃ g, pp = ⟨g, 0, none⟩ := by
                  rcases hrow.2 with ⟨q, _⟩ | ⟨g, _, _, q, _⟩
                  · cases q
                  · injection q with q
                    injection q with q
                    exact ⟨g, q⟩
                obtain ⟨-, z0, z1, z2⟩ := row_cells hrow j hlt
                have x0 := (bel.out.cell (World.block_lt_of_cell? W2 _ z0)).trans z0
                have x1 := (bel.out.cell (World.block_lt_of_cell? W2 _ z1)).trans z1
                have x2 := (bel.out.cell (World.block_lt_of_cell? W2 _ z2)).trans z2
                have ia := fun w' => at_rpk g 0 Z.length rc j w' hlt (j : Int) rfl (3 * j) (by omega)
                have sl := @lk_yes r Z j _ hlt rfl
                have sn := @lk_no r Z j _ hlt rfl
                generalize Z.getD j (0, 0, 0) = p at *
                obtain ⟨n, t, s⟩ := p
                simp only at x0 x1 x2 z0 z1 z2
                clear hrow
                have hgb : W2.heap[g0]? = w.heap[g0]? := (A8.out.kp.block g0 (Nat.lt_of_lt_of_le (World.block_lt_of_cell? w _ hiC.out) BW.out.size) hgr.out).trans (BW.out.block g0 (World.block_lt_of_cell? w _ hiC.out))
                have hz := (World.cell?_of_block (a := ⟨g0, p0 + 2 * 0 + 1, none⟩) hgb).trans hiC.out
                have xh := (bel.out.cell (World.block_lt_of_cell? W2 _ hz)).trans hz
                have lt1 := hlate.out (n, t, s)
                simp only at lt1
                have cx := fun d' os => cell_regrown xh d' os
                have cn := fun d' os => cell_regrown x0 d' os
                clear hgb hz xh
                by_cases hq : n ≤ hi - 3
                · have g5 : decide (n ≤ hi - 3) = true := decide_eq_true hq
                  rw [g5] at lt1
                  have hlt' := lt1
                  clear lt1 hq
                  go_wp2_with fail
                  refine wp_region_quiet_below (by kernel_rfl) (by kernel_rfl) ?_
                  repeat (go_big_quiet_step (fail))
                  refine wpQuiet_nil ?_
                  intro _ hw'
                  obtain ⟨⟨dq, osq⟩, hw''⟩ := hw'
                  subst hw''
                  have BQ : Below W2.heap.size W2 (Go.Sort.grow (redrawn wr dq) osq) := bel.out.trans ((below_regrown wr dq osq).mono bel.out.size)
                  have lostQ := row_block (w' := Go.Sort.grow (redrawn wr dq) osq) lost.out fun k hk => (below_regrown wr dq osq).block k (lost.out.lt k hk).2
                  have leftQ := row_block (w' := Go.Sort.grow (redrawn wr dq) osq) left.out fun k hk => (below_regrown wr dq osq).block k (left.out.lt k hk).2
                  simp only
                  clear lost left bel x0 x1 x2
                  generalize Go.Sort.grow (redrawn wr dq) osq = wq at *
                  replace x0 := (BQ.cell (World.block_lt_of_cell? W2 _ z0)).trans z0
                  replace x1 := (BQ.cell (World.block_lt_of_cell? W2 _ z1)).trans z1
                  replace x2 := (BQ.cell (World.block_lt_of_cell? W2 _ z2)).trans z2
                  clear cx cn
                  obtain ⟨f1, f2⟩ := sl hlt'
                  have alq : Below wq.heap.size wq (wq.alloc (.cells #[.int .i64 n] 2)) := (Below.refl _ _).alloc (Nat.le_refl _) _
                  have o4 : Hid (World.ownsRow (wq.alloc (.cells #[.int .i64 n] 2)) W2.heap.size 2 1 (.slice la (nosP (lkP r Z j)).length lc) (nosP (lkP r Z j)).length (n64 (nosP (lkP r Z j)))) := row_block lostQ fun k hk => alq.block k (lostQ.lt k hk).2
                  have hnews : Hid (∀ j u, ([.int .i64 n] : List Value)[j]? = some u → (wq.alloc (.cells #[.int .i64 n] 2)).cell? ((⟨wq.heap.size, 0, none⟩ : Addr).add j) = some u) := fun j u hj => by
                    rw [Addr.add_lit]
                    exact (Lies.new wq [.int .i64 n] 2).r j u hj
                  have BA : Below W2.heap.size W2 (wq.alloc (.cells #[.int .i64 n] 2)) := BQ.trans (alq.mono BQ.size)
                  have LA := row_block (w' := (wq.alloc (.cells #[.int .i64 n] 2))) leftQ fun k hk => alq.block k (leftQ.lt k hk).2
                  have fn1 : nosP (lkP r Z (j + 1)) = nosP (lkP r Z j) ++ [n] := by rw [f1]; unfold nosP; rw [List.map_append]; rfl
                  have fin : Hid (∀ v' w5, w5.ownsRow W2.heap.size 2 1 v' ((nosP (lkP r Z j)).length + 1) (n64 (nosP (lkP r Z j)) ++ [.int .i64 n]) → (wq.alloc (.cells #[.int .i64 n] 2)).grownBy w5 (Value.slice la (nosP (lkP r Z j)).length lc).ownBlock → (∃ la lc, v' = .slice la (nosP (lkP r Z (j + 1))).length lc) ∧ Hid (World.ownsRow w5 W2.heap.size 2 1 v' (nosP (lkP r Z (j + 1))).length (n64 (nosP (lkP r Z (j + 1))))) ∧ Hid (World.ownsRow w5 W2.heap.size 60 3 (.slice ea (fkP r Z j).length ec) (fkP r Z (j + 1)).length (pks (fkP r Z (j + 1)))) ∧ Hid (Below W2.heap.size W2 w5)) := fun v' w5 q1 q2 => by
                    refine ⟨?_, ?_, ?_, BA.grown q2 BA.size (fun k hk => (o4.out.lt k hk).1)⟩
                    · obtain ⟨a', c', e⟩ := rown_len q1
                      exact ⟨a', c', by rw [e, fn1, List.length_append]; rfl⟩
                    · rw [Hid, fn1, n64_snoc, List.length_append]
                      exact q1
                    · rw [Hid, f2]
                      exact row_block LA fun k hk => q2.block k (LA.lt k hk).2 (fun e => kind_ne o4.out LA (by decide) e.symm hk)
                  have hWs : W2.heap.size ≤ (wq.alloc (.cells #[.int .i64 n] 2)).heap.size := BA.size
                  have nl : (nosP (lkP r Z j)).length ≤ j := by rw [nos_len]; exact fl2.1
                  replace f1 : Hid _ := f1
                  replace f2 : Hid _ := f2
                  replace fn1 : Hid _ := fn1
                  clear lostQ leftQ LA BA alq BQ hlt' sn sl
                  go_wp2_with (at_builtin; refine wpList_append_own_at _ rfl _ _ 32 rfl W2.heap.size 2 i0 (.int .i64 0) 1 8 Try.underlying32 hi0 hz0 hz1 hz2 rfl (by decide) (.slice la (nosP (lkP r Z j)).length lc) (nosP (lkP r Z j)).length (n64 (nosP (lkP r Z j))) rfl o4.out ⟨wq.heap.size, 0, none⟩ 1 1 [.int .i64 n] rfl rfl hnews.out (fun u hu => by simp at hu; subst hu; rfl) (by unfold maxLen; omega) (by omega) hWs ?_; intro v' w5 q1 q2 q3 q4; obtain ⟨R0, R1, R2, R3⟩ := fin.out v' w5 q1 q2; clear q1 q2 q3 q4)
                  go_roundg (Z.length - (j + 1))
                  case measure => omega
                  case rel => exact ⟨j + 1, by omega, by go_num, R0, R1, R2, R3⟩
                · have g5 : decide (n ≤ hi - 3) = false := decide_eq_false hq
                  rw [g5] at lt1
                  have hlt' := lt1
                  clear lt1 hq
                  go_wp2_with fail
                  refine wp_region_quiet_below (by kernel_rfl) (by kernel_rfl) ?_
                  repeat (go_big_quiet_step (fail))
                  refine wpQuiet_nil ?_
                  intro _ hw'
                  obtain ⟨⟨dq, osq⟩, hw''⟩ := hw'
                  subst hw''
                  have BQ : Below W2.heap.size W2 (Go.Sort.grow (redrawn wr dq) osq) := bel.out.trans ((below_regrown wr dq osq).mono bel.out.size)
                  have lostQ := row_block (w' := Go.Sort.grow (redrawn wr dq) osq) lost.out fun k hk => (below_regrown wr dq osq).block k (lost.out.lt k hk).2
                  have leftQ := row_block (w' := Go.Sort.grow (redrawn wr dq) osq) left.out fun k hk => (below_regrown wr dq osq).block k (left.out.lt k hk).2
                  simp only
                  clear lost left bel x0 x1 x2
                  generalize Go.Sort.grow (redrawn wr dq) osq = wq at *
                  replace x0 := (BQ.cell (World.block_lt_of_cell? W2 _ z0)).trans z0
                  replace x1 := (BQ.cell (World.block_lt_of_cell? W2 _ z1)).trans z1
                  replace x2 := (BQ.cell (World.block_lt_of_cell? W2 _ z2)).trans z2
                  clear cx cn
                  obtain ⟨f1, f2⟩ := sn hlt'
                  have alq : Below wq.heap.size wq (wq.alloc (.cells #[.int .i64 n, .int .i64 t, .int .i64 s] 60)) := (Below.refl _ _).alloc (Nat.le_refl _) _
                  have o4 : Hid (World.ownsRow (wq.alloc (.cells #[.int .i64 n, .int .i64 t, .int .i64 s] 60)) W2.heap.size 60 3 (.slice ea (fkP r Z j).length ec) (fkP r Z j).length (pks (fkP r Z j))) := row_block leftQ fun k hk => alq.block k (leftQ.lt k hk).2
                  have hnews : Hid (∀ j u, (pkc (n, t, s))[j]? = some u → (wq.alloc (.cells #[.int .i64 n, .int .i64 t, .int .i64 s] 60)).cell? ((⟨wq.heap.size, 0, none⟩ : Addr).add j) = some u) := fun j u hj => by
                    rw [Addr.add_lit]
                    exact (Lies.new wq (pkc (n, t, s)) 60).r j u hj
                  have BA : Below W2.heap.size W2 (wq.alloc (.cells #[.int .i64 n, .int .i64 t, .int .i64 s] 60)) := BQ.trans (alq.mono BQ.size)
                  have LA := row_block (w' := (wq.alloc (.cells #[.int .i64 n, .int .i64 t, .int .i64 s] 60))) lostQ fun k hk => alq.block k (lostQ.lt k hk).2
                  have fin : Hid (∀ v' w5, w5.ownsRow W2.heap.size 60 3 v' ((fkP r Z j).length + 1) (pks (fkP r Z j) ++ pkc (n, t, s)) → (wq.alloc (.cells #[.int .i64 n, .int .i64 t, .int .i64 s] 60)).grownBy w5 (Value.slice ea (fkP r Z j).length ec).ownBlock → Hid (World.ownsRow w5 W2.heap.size 2 1 (.slice la (nosP (lkP r Z j)).length lc) (nosP (lkP r Z (j + 1))).length (n64 (nosP (lkP r Z (j + 1))))) ∧ Hid (World.ownsRow w5 W2.heap.size 60 3 v' (fkP r Z (j + 1)).length (pks (fkP r Z (j + 1)))) ∧ Hid (Below W2.heap.size W2 w5)) := fun v' w5 q1 q2 => by
                    refine ⟨?_, ?_, BA.grown q2 BA.size (fun k hk => (o4.out.lt k hk).1)⟩
                    · rw [Hid, f1]
                      exact row_block LA fun k hk => q2.block k (LA.lt k hk).2 (fun e => kind_ne o4.out LA (by decide) e.symm hk)
                    · rw [Hid, f2, pks_snoc, List.length_append]
                      exact q1
                  have hWs : W2.heap.size ≤ (wq.alloc (.cells #[.int .i64 n, .int .i64 t, .int .i64 s] 60)).heap.size := BA.size
                  replace f1 : Hid _ := f1
                  replace f2 : Hid _ := f2
                  clear lostQ leftQ LA BA alq BQ hlt' sn sl
                  go_wp2_with (at_builtin; refine wpList_append_own_at _ rfl _ _ 40 rfl W2.heap.size 60 i1 (.agg #[.int .i64 0, .int .i64 0, .int .i64 0]) 3 24 Try.underlying40 hi1 hy0 hy1 hy2 rfl (by decide) (.slice ea (fkP r Z j).length ec) (fkP r Z j).length (pks (fkP r Z j)) rfl o4.out ⟨wq.heap.size, 0, none⟩ 1 1 (pkc (n, t, s)) rfl rfl hnews.out (pkc_one _) (by have := fl2.2; unfold maxLen; omega) (by have := fl2.2; omega) hWs ?_; intro v' w5 q1 q2 q3 q4; obtain ⟨R1, R2, R3⟩ := fin.out v' w5 q1 q2; clear q1 q2 q3 q4)
                  go_roundg (Z.length - (j + 1))
                  case measure => omega
                  case rel => exact ⟨j + 1, by omega, by go_num, by rw [f1.out]; exact ⟨_, _, rfl⟩, R1, R2, R3⟩
            · have g1 : decide ((j : Int) < (Z.length : Int)) = false := decide_eq_false (by omega)
              obtain rfl : j = Z.length := by omega
              have eL : lkP r Z Z.length = lostP d r := by unfold lkP lostP; rw [List.take_length, hZ.out]
              have eF : fkP r Z Z.length = leftP d r := by unfold fkP leftP; rw [List.take_length, hZ.out]
              have lost1 := lost.out
              have left1 := left.out
              rw [eL] at lost1
              rw [eF] at left1
              have ll : (nosP (lostP d r)).length < 1099511627776 := by rw [nos_len, ← eL]; have := fl2.1; omega
              rw [eL, eF]
              have wb := growAll_in (thr := d.thr) T d.win hwin (fun p hp => hsz.out p (by rw [← hT.out] at hp; exact (List.mem_filter.1 hp).1))
              have led1 := A8.out.led.keep (by show 0 < 6; decide) bel.out
              rw [st8.out] at led1
              obtain ⟨D, hD⟩ : ∃ D : Ld, D = { d with l := leftP d r, win := growAll d.thr T d.win, bo := if T = [] then d.bo else 0 } := ⟨_, rfl⟩
              have R2 : R < W2.heap.size := Nat.lt_of_lt_of_le A8.out.hR A8.out.kp.size
              have LA : Lies (wr.setCell ⟨R, 0, none⟩ (.slice ea (leftP d r).length ec)) R (lgc (.slice ea (leftP d r).length ec) D) := by
                rw [hD]
                exact led1.put 0 (by show 0 < 6; decide) _
              have lostA := row_block (w' := wr.setCell ⟨R, 0, none⟩ (.slice ea (leftP d r).length ec)) lost1 fun k hk => Below.heap_setCell _ _ _ _ (by show k ≠ R; have := (lost1.lt k hk).1; omega)
              have leftA := row_block (w' := wr.setCell ⟨R, 0, none⟩ (.slice ea (leftP d r).length ec)) left1 fun k hk => Below.heap_setCell _ _ _ _ (by show k ≠ R; have := (left1.lt k hk).1; omega)
              have toldA := row_block (w' := wr.setCell ⟨R, 0, none⟩ (.slice ea (leftP d r).length ec)) A8.out.told fun k hk => (Below.heap_setCell _ _ _ _ (by show k ≠ R; have := (A8.out.told.lt k hk).1; have := A8.out.hR; omega)).trans (bel.out.block k (A8.out.told.lt k hk).2)
              have KA : Kept (fun k => k = R) w (wr.setCell ⟨R, 0, none⟩ (.slice ea (leftP d r).length ec)) := keptR0 _ R 0 _ (((Kept.of _ BW.out).trans A8.out.kp).add bel.out)
              have LO : Hid _ := rlose_ok R (.slice ea (leftP d r).length ec) D (nosP (lostP d r)) (.slice la (nosP (lostP d r)).length lc) _ LA (row_i64 lostA) ll (by rw [hD]; exact wb)
              have f0 := led1.free 0 (by show 0 < 6; decide)
              have c0 := led1.cell 0 (v := .slice da d.l.length dc) rfl
              have zz : w.heap.size ≤ W2.heap.size := Nat.le_trans BW.out.size A8.out.kp.size
              have FIN : Hid (∀ w6, Lies w6 R (lgc (.slice ea (leftP d r).length ec) (lose D (nosP (lostP d r)))) → Kept (fun k => k = R) (wr.setCell ⟨R, 0, none⟩ (.slice ea (leftP d r).length ec)) w6 → I64At w6 (.slice ta (nosP T).length tc) (nosP (toldP d r)) ∧ I64At w6 (.slice la (nosP (lostP d r)).length lc) (nosP (lostP d r)) ∧ RB w6 R (Value.slice ea (leftP d r).length ec).ownBlock (ack d r) ∧ (∀ k, (Value.slice ea (leftP d r).length ec).ownBlock = some k → w.heap.size ≤ k) ∧ Kept (fun k => k = R) w w6) := fun w6 L6 K6 => by
                refine ⟨?_, ?_, ⟨_, ?_, ?_, rfl⟩, fun k hk => Nat.le_trans zz (leftA.lt k hk).1, KA.trans K6⟩
                · rw [hT.out]
                  exact row_i64 (row_block toldA fun k hk => K6.block k (toldA.lt k hk).2 (by show ¬ k = R; have := (toldA.lt k hk).1; have := A8.out.hR; omega))
                · exact row_i64 (row_block lostA fun k hk => K6.block k (lostA.lt k hk).2 (by show ¬ k = R; have := (lostA.lt k hk).1; omega))
                · have e : ack d r = lose D (nosP (lostP d r)) := by unfold ack; rw [hT.out, hD]
                  rw [e]
                  exact L6
                · have e : (ack d r).l = leftP d r := by unfold ack; exact (lose_top _ _).2.1
                  rw [e]
                  exact row_low (row_block leftA fun k hk => K6.block k (leftA.lt k hk).2 (by show ¬ k = R; have := (leftA.lt k hk).1; omega)) (Nat.zero_le _)
              replace KA : Hid _ := KA
              clear lost1 left1 lost left led1 LA lostA leftA toldA eL eF hD
              go_wp2_with fail
              refine Calls.mono LO.out ?_
              rintro _ w6 ⟨rfl, L6, K6⟩
              have F := FIN.out w6 L6 K6
              replace F : Hid _ := F
              clear FIN LO L6 K6
              go_wp2
              exact bodyPost_ret (v := .tuple #[.slice ta (nosP T).length tc, .slice la (nosP (lostP d r)).length lc, .int .i64 0]) (by simp [results, Try.results13, go_sem]) rfl ⟨_, _, _, rfl, F.out.1, F.out.2.1, F.out.2.2.1, F.out.2.2.2.1, F.out.2.2.2.2⟩
end Go.Proofs.Ytfjampommgkfeaa
