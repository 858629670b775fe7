/-
  The document's own queues: Next. No condition but what always holds of queues, and how many were pushed.
-/
import Derived.Test.YtiamlldooihkdaaFaRe
import Derived.Test.YtiamlldooihkdaaFaFp
import Derived.Deep.DeepCutAuto
namespace Go.Proofs.Ytiamlldooihkdaa
set_option maxRecDepth 100000
open Go.RowKit

theorem next_eq {f g : FaQ} (h : nextG g = nextG f) : nextV f = nextV g ∧ nextE f = nextE g := by
  unfold nextV nextA nextE
  rw [h]
  exact ⟨rfl, rfl⟩
theorem wrap_in2 {x y : Int} (e : x = y) (h0 : -9223372036854775808 ≤ y) (h1 : y ≤ 9223372036854775807) : wrap64 x = y := by subst e; unfold wrap64; omega
theorem ordD {X : Type} {K : RowK X} (hK : K.Ok) {w : World} {v : Value} {l : List X} (h : RowZ K w v l) (x : X) (ty : TypeId) (hk : (l.length + 1) * K.bytes ≤ 140737488355328) (hk2 : l.length + 1 ≤ maxLen) :
    ∃ v2 w2, (∀ z, (builtin .append #[K.st, K.st] ty z #[.slice (some ⟨w.heap.size, 0, none⟩) 1 1, v]).run Try.prog (w.alloc (.cells (K.cells x).toArray K.e)) = .ok (.value v2) w2) ∧ Below w.heap.size w w2 ∧ RowZ K w2 v2 (x :: l) ∧ ∀ k, v2.ownBlock = some k → w.heap.size ≤ k := by
  have b0 := al_b w (.cells (K.cells x).toArray K.e)
  obtain ⟨v2, w2, r2, z2, g2, o2⟩ := (RowZ.one_lit hK w x).app hK ty v l ((h.keep b0).src hK) (by simp only [List.length_singleton]; rw [Nat.add_comm]; exact hk) (by simp only [List.length_singleton]; omega)
  refine ⟨v2, w2, r2, b0.trans (grown_below b0.size g2 fun k hk => by have := own_lit hk; omega), z2, fun k hk => ?_⟩
  rcases o2 with q | q
  · rw [q] at hk
    have := own_lit hk
    omega
  · rw [q] at hk
    injection hk with hk
    have := b0.size
    omega
theorem NxI.fin {wr wc w2 : World} {R xb : Nat} {g : FaQ} {lv : Value} {xs : List Value} {sv : Bool} (h : NxI wr wc R xb g lv xs sv) (hx : 0 < xs.length) (b : Below wc.heap.size wc w2) (v2 : Value) : w2.cell? ⟨R, 2, none⟩ = some lv ∧ w2.frozen? ⟨R, 2, none⟩ = false ∧ Lies (w2.setCell ⟨R, 2, none⟩ v2) xb xs ∧ (w2.setCell ⟨R, 2, none⟩ v2).cell? ⟨R, 3, none⟩ = some (.bool sv) ∧ (w2.setCell ⟨R, 2, none⟩ v2).frozen? ⟨R, 3, none⟩ = false := by
  have h2 := h.below hx b
  have kk : Kept (fun k => k = R) w2 (w2.setCell ⟨R, 2, none⟩ v2) := (Kept.refl (fun k => k = R) w2).set ⟨R, 2, none⟩ rfl _
  have r1 := h.rl
  have r2 := h.xn
  have l3 := h2.h.put 2 (by show 2 < 4; decide) v2
  exact ⟨h2.h.cell 2 rfl, h2.h.free 2 (by show 2 < 4; decide), h2.x.of_block (kk.block xb (h2.x.lt hx) fun q => by omega), l3.cell 3 rfl, l3.free 3 (by show 3 < 4; decide)⟩

set_option linter.unusedSimpArgs false in
set_option maxHeartbeats 16000000 in
theorem rnext_ok {w : World} {R : Nat} {F : Nat → Prop} {f : FaQ} (h : RF w R F f) (hz : f.pz < 1000000) :
    Calls Try.prog 13 #[ptr R] w fun e w' => e = .returned (nextV f) ∧ RF w' R (more F w w') (nextE f) ∧ Kept F w w' := by
  have ok0 := h.ok
  have I0 : Hid (RF w R (more F w w) f ∧ Kept F w w) := ⟨h.mono (fun k hk => .inl hk) (fun k hk => by
    rcases hk with q | q
    · exact h.1 k q
    · omega), .refl _ _⟩
  have hl0 := Lib.hid h.1
  have SL0 := Lib.hid (SameL.refl ok0)
  have hpz := Lib.hid hz
  clear h ok0 hz
  go_enter Try.func13, Try.ntmps13
  go_wp2_with fail
  go_loopg [] (lackE f) (fun g' wr => ∃ (g : FaQ), lackE g = g' ∧ Hid (SameL f g) ∧ Hid (nextG g = nextG f) ∧ Hid (RF wr R (more F w wr) g ∧ Kept F w wr))
  case atStart => exact ⟨f, rfl, SL0, rfl, I0⟩
  case round =>
    clear I0 SL0
    obtain ⟨g, hgk, SL, NG, RR⟩ := hrel
    obtain ⟨hl, hR, ok, ws, lv, hf, o1, o2⟩ := RR.out.1
    obtain ⟨eV, eE⟩ := next_eq NG.out
    have c2 := hf.h.cell 2 rfl
    obtain ⟨a, c, rfl, -⟩ := hf.slice
    cases hgr : g.r with
    | nil =>
      rw [hgr] at c2 hf o1
      obtain ⟨n1, n2⟩ := next_none hgr
      have V0 : Hid (nextV f = .tuple #[.int .i64 0, .string ⟨#[]⟩, .bool false]) := by
        unfold Hid
        rw [eV]
        unfold nextV
        rw [n1]
        rfl
      have E0 : Hid (nextE f = g) := eE.trans n2
      have RR2 := Lib.hid RR.out
      clear hf n1 n2 eV eE NG SL RR o1 o2 hl hR ok hgk hpz hl0 hgr
      go_wp2_with fail
      go_ret3
      exact ⟨by rw [V0.out]; rfl, by rw [E0.out]; exact RR2.out.1, RR2.out.2⟩
    | cons e t =>
      have hq0 := ok.q0
      have hm : e ∈ g.r := by rw [hgr]; exact List.mem_cons_self ..
      have hne := ok.ne e hm
      have hdu := ok.due hgr
      have hsz := ok.hd hm
      have hlen := (len_cnt ok).1
      have hllen := (len_cnt ok).2 e hm
      have hn := ok.n
      have hpz2 : g.pz < 1000000 := by rw [SL.out.pz]; exact hpz.out
      have hi0 : 0 < g.r.length := by rw [hgr]; exact Nat.zero_lt_succ _
      have e0 : g.r.getD 0 fe0 = e := by rw [hgr]; rfl
      obtain ⟨g0, o, rfl, hg0, hgR, ia, d0, ⟨la, lc, ex, d1⟩, d2, -⟩ := hf.at hi0
      rw [e0] at d0 d1 d2 ex
      have hs := hf.s _ (hf.mem hi0).1
      rw [ex] at hs
      obtain ⟨s, lt, hel⟩ : ∃ s lt, e.l = s :: lt := by
        cases hel : e.l with
        | nil => exact absurd hel hne
        | cons s lt => exact ⟨s, lt, rfl⟩
      have hde : hdE e = s := by unfold hdE; rw [hel]; rfl
      obtain ⟨nn, hnn⟩ : ∃ n, n = g.r.length := ⟨_, rfl⟩
      rw [← hnn] at c2 ia hi0 hlen
      have q1 : decide (0 < nn) = true := decide_eq_true hi0
      have q2 : decide ((0 : Int) < (nn : Int)) = true := decide_eq_true (by omega)
      have ia0 : ∀ w', (Instr.indexAt 51 (.slice (some ⟨g0, o, none⟩) nn c) (.int .i64 0)).run Try.prog w' = .ok (.pointer (some ⟨g0, o, none⟩)) w' := ia
      replace d0 : wr.cell? ⟨g0, o, none⟩ = some (.int .i64 e.id) := d0
      replace d1 : wr.cell? ⟨g0, o + 1, none⟩ = some (.slice la e.l.length lc) := d1
      replace d2 : wr.cell? ⟨g0, o + 2, none⟩ = some (.int .i64 e.d) := d2
      have n64 : nn ≤ 9223372036854775807 := by omega
      have hs2 : RowZ KS wr (lsV (e, la, lc)) e.l := hs
      rw [hel] at hs2
      obtain ⟨gl, ol, cl, hlv, ts, -, -, hgl⟩ := hs2.first ks_ok rfl
      clear hs2
      have hla : la = some ⟨gl, ol, none⟩ ∧ lc = cl := by injection hlv with h1 h2 h3; exact ⟨h1, h3⟩
      obtain ⟨rfl, rfl⟩ := hla
      replace ts : wr.cell? ⟨gl, ol, none⟩ = some (.string s) := ts
      have hll : e.l.length = lt.length + 1 := by rw [hel]; rfl
      obtain ⟨ln, hln⟩ : ∃ n, n = e.l.length := ⟨_, rfl⟩
      rw [← hln] at d1 hll hllen
      obtain ⟨due, hdue⟩ : ∃ d, d = dueE g e := ⟨_, rfl⟩
      rw [← hdue] at hdu
      -- the copy
      have NX : Hid (NxI wr (wr.alloc (.cells #[.int .i64 e.id, .slice (some ⟨gl, ol, none⟩) ln lc, .int .i64 e.d] 58)) R wr.heap.size g (.slice (some ⟨g0, o, none⟩) nn c) [.int .i64 e.id, .slice (some ⟨gl, ol, none⟩) ln lc, .int .i64 e.d] g.sv) := by
        have b := al_b wr (.cells #[.int .i64 e.id, .slice (some ⟨gl, ol, none⟩) ln lc, .int .i64 e.d] 58)
        have hh := hf.h
        rw [← hnn] at hh
        exact ⟨.of _ b, Lies.new wr [.int .i64 e.id, .slice (some ⟨gl, ol, none⟩) ln lc, .int .i64 e.d] _, Nat.le_refl _, hl R hR, hh.keep (Nat.zero_lt_succ _) b⟩
      have l64 : ln ≤ 9223372036854775807 := by omega
      have ln0 : 0 < ln := by omega
      -- what is kept for the end
      rw [hde] at hsz
      have hdrop : (ws.drop 1).map Prod.fst = t := by rw [List.map_drop, hf.e, hgr]; rfl
      have hwl := hf.len
      rw [← hnn] at hf o1 hwl
      have glR := hf.n1 _ (hf.mem (by rw [← hnn]; exact hi0)).1 gl (by rw [ex]; rfl)
      obtain ⟨dq, hdq⟩ : ∃ d, d = dropZ 3 (some ⟨g0, o, none⟩) c 1 := ⟨_, rfl⟩
      obtain ⟨da, hda⟩ : ∃ d, d = dropZ 1 (some ⟨gl, ol, none⟩) lc 1 := ⟨_, rfl⟩
      have TS : Hid (∀ wc, Kept (fun k => k = R) wr wc → wc.cell? ⟨gl, ol, none⟩ = some (.string s)) := fun wc k => (World.cell?_of_block (w := wr) (k.block gl hgl glR.1)).trans ts
      have isx : ∀ w', (Instr.indexAt 39 (.slice (some ⟨gl, ol, none⟩) ln lc) (.int .i64 0)).run Try.prog w' = .ok (.pointer (some ⟨gl, ol, none⟩)) w' := fun w' => at_Z ks_ok gl ol ln lc 0 w' ln0 0 rfl ol (by show ol = ol + 1 * 0; omega)
      have CQ : Hid (∀ w', (Instr.sliceAt 51 (.slice (some ⟨g0, o, none⟩) nn c) (some (.int .i64 1)) none none).run Try.prog w' = .ok (.slice dq (nn - 1) (c - 1)) w') := fun w' => by rw [hdq]; exact run_cutZ kq_ok w' _ nn c 1 1 rfl hi0
      have CS : Hid (∀ w', (Instr.sliceAt 39 (.slice (some ⟨gl, ol, none⟩) ln lc) (some (.int .i64 1)) none none).run Try.prog w' = .ok (.slice da (ln - 1) (lc - 1)) w') := fun w' => by rw [hda]; exact run_cutZ ks_ok w' _ ln lc 1 1 rfl ln0
      have CUT : Hid (∀ wc xb xs sv, NxI wr wc R xb g (.slice (some ⟨g0, o, none⟩) nn c) xs sv → RowZ KQ wc (.slice dq (nn - 1) (c - 1)) (ws.drop 1)) := fun wc xb xs sv N => by
        rw [hdq]
        exact (hf.r.of fun k hk => N.k.block k (hf.r.lt k hk) fun q => hf.n2 (q ▸ hk)).cut kq_ok 1 (by rw [hwl]; exact hi0)
      have hdown : ∀ k, (Value.slice dq (nn - 1) (c - 1)).ownBlock = some k → (Value.slice (some ⟨g0, o, none⟩) nn c).ownBlock = some k := fun k hk => by
        rw [hdq, dropZ_block (l' := nn)] at hk
        exact hk
      have old : ∀ y ∈ ws.drop 1, (∃ x ∈ ws, (lsV y).ownBlock = (lsV x).ownBlock) ∧ RowZ KS wr (lsV y) y.1.l := fun y hy => ⟨⟨y, List.mem_of_mem_drop hy, rfl⟩, hf.s y (List.mem_of_mem_drop hy)⟩
      have e1m : ((e, some ⟨gl, ol, none⟩, lc) : QX) ∈ ws := by
        rw [← ex]
        exact (hf.mem (by rw [← hnn]; exact hi0)).1
      have htail : e.l.tail = lt := by rw [hel]; rfl
      have hturn : ((s.size : Int) ≤ due) = (turnE g = true) := by
        unfold turnE
        rw [hgr]
        simp only
        rw [hde, ← hdue]
        simp
      have VAL : Hid ((s.size : Int) ≤ due → nextV f = .tuple #[.int .i64 e.id, .string s, .bool true]) := fun q => by
        rw [eV]
        unfold nextV nextA
        rw [next_ready (hturn ▸ q), hgr]
        simp only
        rw [hde]
      have ENX : (s.size : Int) ≤ due → nextE f = if lt = [] then { g with r := t, sv := false } else { g with r := { e with l := lt, d := due - s.size } :: t, sv := true } := fun q => by
        rw [eE]
        unfold nextE
        rw [next_ready (hturn ▸ q)]
        unfold takeE
        rw [hgr]
        simp only
        rw [htail, hde, ← hdue]
      have OKN : (nextE f).Ok := by
        rw [eE]
        exact take_ok (next_ok ok) (next_turn hq0)
      have D1 : Hid (∀ wc xb xs, (s.size : Int) ≤ due → lt = [] → NxI wr wc R xb g (.slice (some ⟨g0, o, none⟩) nn c) xs true → RF ((wc.setCell ⟨R, 2, none⟩ (.slice dq (nn - 1) (c - 1))).setCell ⟨R, 3, none⟩ (.bool false)) R (more F w ((wc.setCell ⟨R, 2, none⟩ (.slice dq (nn - 1) (c - 1))).setCell ⟨R, 3, none⟩ (.bool false))) (nextE f) ∧ Kept F w ((wc.setCell ⟨R, 2, none⟩ (.slice dq (nn - 1) (c - 1))).setCell ⟨R, 3, none⟩ (.bool false))) := fun wc xb xs q hlt N => by
        have en := ENX q
        rw [if_pos hlt] at en
        have := (N.done hf hl hR o1 o2 (Below.refl _ _) (CUT.out wc xb xs true N) (fun k hk => .inl (hdown k hk)) old (g' := nextE f) (by rw [en]) (by rw [en]) (by rw [en]; exact hdrop) OKN).2 false (by rw [en])
        exact RF.steps hl0.out RR.out.2 this
      have D2 : Hid (∀ wc xb xs w2 v2, (s.size : Int) ≤ due → lt ≠ [] → NxI wr wc R xb g (.slice (some ⟨g0, o, none⟩) nn c) xs true → Below wc.heap.size wc w2 → RowZ KQ w2 v2 (({ e with l := lt, d := due - s.size }, da, lc - 1) :: ws.drop 1) → (∀ k, v2.ownBlock = some k → wc.heap.size ≤ k) → RF (w2.setCell ⟨R, 2, none⟩ v2) R (more F w (w2.setCell ⟨R, 2, none⟩ v2)) (nextE f) ∧ Kept F w (w2.setCell ⟨R, 2, none⟩ v2)) := fun wc xb xs w2 v2 q hlt N b z oz => by
        have en := ENX q
        rw [if_neg hlt] at en
        have hcut := hs.cut ks_ok 1 (by show 1 ≤ e.l.length; omega)
        have := (N.done hf hl hR o1 o2 b z (fun k hk => .inr (oz k hk)) (fun y hy => by
          rcases List.mem_cons.1 hy with rfl | hy
          · refine ⟨⟨_, e1m, ?_⟩, ?_⟩
            · show (Value.slice da lt.length (lc - 1)).ownBlock = _
              rw [hda, dropZ_block (l' := e.l.length)]
            · show RowZ KS wr (.slice da lt.length (lc - 1)) lt
              have el : e.l.length - 1 = lt.length := by omega
              have ed : e.l.drop 1 = lt := by rw [hel]; rfl
              rw [hda, ← el, ← ed]
              exact hcut
          · exact old y hy) (g' := nextE f) (by rw [en]) (by rw [en]) (by rw [en, List.map_cons, hdrop]) OKN).1 (by rw [en])
        exact RF.steps hl0.out RR.out.2 this
      have D3 : Hid (∀ wc xb xs sv w2 v2, ¬ (s.size : Int) ≤ due → NxI wr wc R xb g (.slice (some ⟨g0, o, none⟩) nn c) xs sv → Below wc.heap.size wc w2 → RowZ KQ w2 v2 (ws.drop 1 ++ [({ e with d := due }, some ⟨gl, ol, none⟩, lc)]) → (∀ k, v2.ownBlock = some k → wc.heap.size ≤ k) → RF ((w2.setCell ⟨R, 2, none⟩ v2).setCell ⟨R, 3, none⟩ (.bool false)) R (more F w ((w2.setCell ⟨R, 2, none⟩ v2).setCell ⟨R, 3, none⟩ (.bool false))) (stepE g) ∧ Kept F w ((w2.setCell ⟨R, 2, none⟩ v2).setCell ⟨R, 3, none⟩ (.bool false))) := fun wc xb xs sv w2 v2 q N b z oz => by
        have tf : turnE g = false := by
          cases ht : turnE g with
          | false => rfl
          | true => exact absurd (hturn ▸ ht) q
        have en : stepE g = { g with r := t ++ [{ e with d := due }], sv := false } := by
          unfold stepE
          rw [hgr]
          simp only
          rw [hdue]
        have := (N.done hf hl hR o1 o2 b z (fun k hk => .inr (oz k hk)) (fun y hy => by
          rcases List.mem_append.1 hy with hy | hy
          · exact old y hy
          · obtain rfl : y = ({ e with d := due }, some ⟨gl, ol, none⟩, lc) := by simpa using hy
            exact ⟨⟨_, e1m, rfl⟩, hs⟩) (g' := stepE g) (by rw [en]) (by rw [en]) (by rw [en, List.map_append, hdrop]; rfl) (step_ok ok tf)).2 false (by rw [en])
        exact RF.steps hl0.out RR.out.2 this
      have STP : Hid (¬ (s.size : Int) ≤ due → SameL f (stepE g) ∧ nextG (stepE g) = nextG f ∧ lackE (stepE g) < gk) := fun q => by
        have tf : turnE g = false := by
          cases ht : turnE g with
          | false => rfl
          | true => exact absurd (hturn ▸ ht) q
        have hl := lack_step hq0 tf
        exact ⟨SL.out.step tf, (next_step hq0 tf).trans NG.out, by omega⟩
      have zl : Hid (((ws.drop 1).length + 1) * KQ.bytes ≤ 140737488355328 ∧ (ws.drop 1).length + 1 ≤ maxLen) := by
        have : (ws.drop 1).length = nn - 1 := by rw [List.length_drop, hwl]
        refine ⟨?_, ?_⟩
        · show (_ + 1) * 40 ≤ _; omega
        · unfold maxLen; omega
      have LT : Hid ((ln - 1 = 0 → lt = []) ∧ (ln - 1 ≠ 0 → lt ≠ [])) := ⟨fun q => List.eq_nil_of_length_eq_zero (by omega), fun q z => q (by rw [z] at hll; simp at hll; omega)⟩
      have LL : Hid (ln = e.l.length ∧ ln - 1 = lt.length) := ⟨hln, by omega⟩
      have wdu : Hid (g.sv = false → wrap64 (e.d + g.qu) = due) := fun q => wrap_in2 (by rw [hdue]; unfold dueE; rw [q]; rfl) (by omega) (by omega)
      have wds : Hid (g.sv = true → e.d = due) := fun q => by rw [hdue]; unfold dueE; rw [q]; rfl
      have bdu : Hid (wrap64 (due - (s.size : Int)) = due - s.size) := wrap_in2 rfl (by omega) (by omega)
      clear hf hl hR ok o1 o2 hgr hel hln hnn hde hll ex hs hdue eV eE hlv hne hdu hsz hlen hllen hn hpz2 hm e0 hq0 hg0 hgR hgl ia hpz hdrop hwl glR hdq hda hdown old e1m htail hturn ENX OKN SL NG RR
      go_upto_region 3 with fail
      obtain ⟨w2, hw2⟩ : ∃ w2, w2 = wr.alloc (.cells #[.int .i64 e.id, .slice (some ⟨gl, ol, none⟩) ln lc, .int .i64 e.d] 58) := ⟨_, rfl⟩
      rw [← hw2] at NX ⊢
      clear hw2
      obtain ⟨xb, hxb⟩ : ∃ x, x = wr.heap.size := ⟨_, rfl⟩
      rw [← hxb] at NX ⊢
      clear d0 d1 d2 q1 q2 ia0 hxb ts
      have c3 := NX.out.h.cell 3 rfl
      replace isx := Lib.hid isx
      cases hsv : g.sv
      · rw [hsv] at c3 NX
        have N0 := NX
        have c1 := NX.out.h.cell 1 rfl
        replace wdu := Lib.hid (wdu.out hsv)
        clear NX wds
        go_upto_region 4 with fail
        have ND := N0.out.below (Nat.zero_lt_succ _) (drewB _ _)
        have hS := ND.h.cell 1 rfl
        have dx := ND.x.cell 2 rfl
        have dz := ND.x.free 2 (by show 2 < 3; decide)
        have N1 := Lib.hid (ND.setx 2 (by show 2 < 3; decide) (.int .i64 due))
        have hS1 := Lib.hid (N1.out.h.cell 1 rfl)
        replace wdu := wdu.out
        have wdv : IntKind.i64.wrap (e.d + g.qu) = due := by rw [IntKind.wrap_i64]; have := wdu; unfold wrap64 at this; exact this
        clear N0 ND c1 c2 c3
        refine wp_region_held (S := fun w' => w'.cell? ⟨R, 1, none⟩ = some (.int .i64 g.qu)) (by kernel_rfl) ?_
        change wpAnyH _ .any _ _ _ 9 (Array.replicate 9 false) _ w2.drew
        generalize w2.drew = w3 at *
        refine obTakeH (i := 0) (d := 24) (v := .pointer (some ⟨xb, 2, none⟩)) rfl rfl (by kernel_rfl) (by kernel_rfl) (by kernel_rfl) (fun _ _ _ h => h) rfl (fun w' hS => by go_simp) hS ?_
        refine obTakeH (i := 2) (d := 26) (v := .pointer (some ⟨R, 0, none⟩)) rfl rfl (by kernel_rfl) (by kernel_rfl) (by kernel_rfl) (fun _ _ _ h => h) rfl (fun w' hS => by go_simp) hS ?_
        refine obTakeH (i := 3) (d := 27) (v := .pointer (some ⟨R, 0, none⟩)) rfl rfl (by kernel_rfl) (by kernel_rfl) (by kernel_rfl) (fun _ _ _ h => h) rfl (fun w' hS => by go_simp) hS ?_
        refine obTakeH (i := 4) (d := 28) (v := .pointer (some ⟨R, 1, none⟩)) rfl rfl (by kernel_rfl) (by kernel_rfl) (by kernel_rfl) (fun _ _ _ h => h) rfl (fun w' hS => by go_simp) hS ?_
        refine obTakeH (i := 5) (d := 29) (v := .int .i64 g.qu) rfl rfl (by kernel_rfl) (by kernel_rfl) (by kernel_rfl) (fun _ _ _ h => h) rfl (fun w' hS => by go_simp) hS ?_
        try simp only [Act.put, List.setIfInBounds_toArray, List.set_cons_succ, List.set_cons_zero]
        refine wpAnyH_all (rs := [1]) (by kernel_rfl) (by simp) (fun y hy => ?_)
        obtain rfl : y = 1 := by simpa using hy
        clear hy
        refine wpOp_step rfl (fun K' hK => ?_)
        go_simp
        refine hK _ _ ⟨hS, ?_⟩
        clear hK K'
        try simp only [Act.put, List.setIfInBounds_toArray, List.set_cons_succ, List.set_cons_zero]
        refine wpAnyH_all (rs := [6]) (by kernel_rfl) (by simp) (fun y hy => ?_)
        obtain rfl : y = 6 := by simpa using hy
        clear hy
        refine wpOp_step rfl (fun K' hK => ?_)
        go_simp
        refine hK _ _ ⟨hS, ?_⟩
        clear hK K'
        try simp only [Act.put, List.setIfInBounds_toArray, List.set_cons_succ, List.set_cons_zero]
        refine obTakeH (i := 7) (d := 31) (v := .pointer (some ⟨xb, 2, none⟩)) rfl rfl (by kernel_rfl) (by kernel_rfl) (by kernel_rfl) (fun _ _ _ h => h) rfl (fun w' hS => by go_simp) hS ?_
        try simp only [Act.put, List.setIfInBounds_toArray, List.set_cons_succ, List.set_cons_zero]
        refine wpAnyH_all (rs := [8]) (by kernel_rfl) (by simp) (fun y hy => ?_)
        obtain rfl : y = 8 := by simpa using hy
        clear hy
        refine wpOp_step rfl (fun K' hK => ?_)
        go_simp
        refine hK _ _ ⟨hS1.out, ?_⟩
        clear hK K' hS dx dz wdu wdv
        try simp only [Act.put, List.setIfInBounds_toArray, List.set_cons_succ, List.set_cons_zero]
        refine wpAnyH_done (by kernel_rfl) ?_ 0
        generalize w3.setCell ⟨xb, 2, none⟩ (.int .i64 due) = wc at *
        have cx1 := N1.out.x.cell 1 rfl
        have cx2 := N1.out.x.cell 2 rfl
        have tsx := TS.out wc N1.out.k
        replace isx := isx.out
        by_cases hle : (s.size : Int) ≤ due
        · have g1 : decide ((s.size : Int) ≤ due) = true := decide_eq_true hle
          have fx2 := N1.out.x.free 2 (by show 2 < 3; decide)
          have N2 := Lib.hid (N1.out.setx 2 (by show 2 < 3; decide) (.int .i64 (due - (s.size : Int))))
          replace bdu := bdu.out
          replace hle := Lib.hid hle
          clear N1 D3 STP TS
          go_upto_region 8 with fail
          clear cx1 cx2 tsx isx g1 fx2 bdu
          generalize wc.setCell ⟨xb, 2, none⟩ (.int .i64 (due - (s.size : Int))) = wc2 at *
          have cx1 := N2.out.x.cell 1 rfl
          have fx1 := N2.out.x.free 1 (by show 1 < 3; decide)
          have N3 := Lib.hid (N2.out.setx 1 (by show 1 < 3; decide) (.slice da (ln - 1) (lc - 1)))
          have cs := CS.out
          clear N2
          go_upto_region 9 with fail
          clear cx1 fx1 cs CS
          generalize wc2.setCell ⟨xb, 1, none⟩ (.slice da (ln - 1) (lc - 1)) = wc3 at *
          have fr3 := N3.out.h.free 3 (by show 3 < 4; decide)
          have cr3 := N3.out.h.cell 3 rfl
          have N4 := Lib.hid (N3.out.setR true)
          clear N3
          go_upto_region 10 with fail
          clear fr3 cr3
          generalize wc3.setCell ⟨R, 3, none⟩ (.bool true) = wc4 at *
          have cx1 := N4.out.x.cell 1 rfl
          have cx0 := N4.out.x.cell 0 rfl
          have cr2 := N4.out.h.cell 2 rfl
          obtain ⟨lm, hlm⟩ : ∃ m, m = ln - 1 := ⟨_, rfl⟩
          rw [← hlm] at cx1 LT N4
          by_cases h0 : lm = 0
          · have D := D1.out wc4 xb _ hle.out (LT.out.1 h0) N4.out
            obtain ⟨y1, y2, y3, y4, y5⟩ := N4.out.fin (Nat.zero_lt_succ _) (Below.refl _ _) (.slice dq (nn - 1) (c - 1))
            have cy0 := y3.cell 0 rfl
            have V := Lib.hid (VAL.out hle.out)
            have cq := CQ.out
            have cy0' := Lib.hid cy0
            replace D := Lib.hid D
            subst h0
            have cz0 : Hid (((wc4.setCell ⟨R, 2, none⟩ (.slice dq (nn - 1) (c - 1))).setCell ⟨R, 3, none⟩ (.bool false)).cell? ⟨xb, 0, none⟩ = some (.int .i64 e.id)) := by
              have hne : xb ≠ R := by have := N4.out.xn; have := N4.out.rl; omega
              have kk : Kept (fun k => k = R) (wc4.setCell ⟨R, 2, none⟩ (.slice dq (nn - 1) (c - 1))) ((wc4.setCell ⟨R, 2, none⟩ (.slice dq (nn - 1) (c - 1))).setCell ⟨R, 3, none⟩ (.bool false)) := (Kept.refl (fun k => k = R) _).set ⟨R, 3, none⟩ rfl _
              exact (World.cell?_of_block (w := wc4.setCell ⟨R, 2, none⟩ (.slice dq (nn - 1) (c - 1))) (kk.block xb (y3.lt (Nat.zero_lt_succ _)) hne)).trans cy0
            replace cz0 := cz0.out
            clear hlm LT VAL D1 D2 CQ CUT N4 LL y3 y1
            go_wp2_with fail
            go_ret3
            exact ⟨by rw [V.out]; rfl, D.out.1, D.out.2⟩
          · have h1 : decide ((lm : Int) = 0) = false := decide_eq_false (by omega)
            have h2 : ((lm : Int) == 0) = false := by simp; omega
            have h3 : ¬ (lm : Int) = 0 := by omega
            have LTm := LT.out.2 h0
            go_upto_region 13 with fail
            have ND := N4.out.below (Nat.zero_lt_succ _) (drewB _ _)
            have hRC := CUT.out _ _ _ _ ND
            have b0 : Below wc4.heap.size wc4 wc4.drew := drewB _ _
            clear cx1 cx0 cr2 h0 h1 h2 h3 N4 D1 CUT LT
            refine wp_region_held (S := fun w' => w'.cell? ⟨xb, 0, none⟩ = some (.int .i64 e.id) ∧ w'.cell? ⟨xb, 1, none⟩ = some (.slice da lm (lc - 1)) ∧ w'.cell? ⟨xb, 2, none⟩ = some (.int .i64 (due - (s.size : Int)))) (by kernel_rfl) ?_
            change wpAnyH _ .any _ _ _ 12 (Array.replicate 12 false) _ wc4.drew
            generalize wc4.drew = wd at *
            obtain ⟨v2, w2x, hap, bp, zp, op⟩ := ordD kq_ok hRC ({ e with l := lt, d := due - (s.size : Int) }, da, lc - 1) 51 zl.out.1 zl.out.2
            have elm : lt.length = lm := by rw [hlm]; exact LL.out.2.symm
            obtain ⟨a2, c2x, hv2, -⟩ := zp.slice
            obtain ⟨n2x, hn2⟩ : ∃ n, n = ((({ e with l := lt, d := due - (s.size : Int) }, da, lc - 1) : QX) :: ws.drop 1).length := ⟨_, rfl⟩
            rw [← hn2] at hv2
            replace hap : ∀ z, (builtin .append #[51, 51] 51 z #[.slice (some ⟨wd.heap.size, 0, none⟩) 1 1, .slice dq (nn - 1) (c - 1)]).run Try.prog (wd.alloc (.cells #[.int .i64 e.id, .slice da lt.length (lc - 1), .int .i64 (due - (s.size : Int))] 58)) = .ok (.value v2) w2x := hap
            rw [elm, hv2] at hap
            have D := D2.out wd xb _ w2x v2 hle.out LTm ND bp zp op
            obtain ⟨y1, y2, y3, -, -⟩ := ND.fin (Nat.zero_lt_succ _) bp v2
            rw [hv2] at D y3
            have SB : Hid (∀ w', Below wd.heap.size wd w' → w'.cell? ⟨xb, 0, none⟩ = some (.int .i64 e.id) ∧ w'.cell? ⟨xb, 1, none⟩ = some (.slice da lm (lc - 1)) ∧ w'.cell? ⟨xb, 2, none⟩ = some (.int .i64 (due - (s.size : Int)))) := fun w' b => by
              have := (ND.below (Nat.zero_lt_succ _) b).x
              exact ⟨this.cell 0 rfl, this.cell 1 rfl, this.cell 2 rfl⟩
            have LD : Hid (∀ w', Below wd.heap.size wd w' → w'.cell? ⟨R, 2, none⟩ = some (.slice (some ⟨g0, o, none⟩) nn c)) := fun w' b => (ND.below (Nat.zero_lt_succ _) b).h.cell 2 rfl
            have FD := Lib.hid (And.intro y1 (And.intro y2 (And.intro (And.intro (y3.cell 0 rfl) (And.intro (y3.cell 1 rfl) (y3.cell 2 rfl))) D)))
            have V := Lib.hid (VAL.out hle.out)
            replace hap := Lib.hid hap
            replace bp := Lib.hid bp
            clear D y1 y2 y3 zp op hv2 hn2 elm hlm hRC ND b0 LL D2 VAL LTm zl
            have bw := Below.refl wd.heap.size wd
            have hS := SB.out wd bw
            refine obTakeH (i := 0) (d := 69) (v := .pointer (some ⟨R, 0, none⟩)) rfl rfl (by kernel_rfl) (by kernel_rfl) (by kernel_rfl) (fun _ _ _ h => h) rfl (fun w' hS => by obtain ⟨s1, s2, s3⟩ := hS; go_simp) hS ?_
            refine obTakeH (i := 1) (d := 70) (v := .agg #[.int .i64 e.id, .slice da lm (lc - 1), .int .i64 (due - (s.size : Int))]) rfl rfl (by kernel_rfl) (by kernel_rfl) (by kernel_rfl) (fun _ _ _ h => h) rfl (fun w' hS => by obtain ⟨s1, s2, s3⟩ := hS; go_simp) hS ?_
            refine obTakeH (i := 3) (d := 72) (v := .pointer (some ⟨R, 0, none⟩)) rfl rfl (by kernel_rfl) (by kernel_rfl) (by kernel_rfl) (fun _ _ _ h => h) rfl (fun w' hS => by obtain ⟨s1, s2, s3⟩ := hS; go_simp) hS ?_
            refine obTakeH (i := 4) (d := 73) (v := .pointer (some ⟨R, 0, none⟩)) rfl rfl (by kernel_rfl) (by kernel_rfl) (by kernel_rfl) (fun _ _ _ h => h) rfl (fun w' hS => by obtain ⟨s1, s2, s3⟩ := hS; go_simp) hS ?_
            refine obTakeH (i := 5) (d := 74) (v := .pointer (some ⟨R, 2, none⟩)) rfl rfl (by kernel_rfl) (by kernel_rfl) (by kernel_rfl) (fun _ _ _ h => h) rfl (fun w' hS => by obtain ⟨s1, s2, s3⟩ := hS; go_simp) hS ?_
            clear hS
            try simp only [Act.put, List.setIfInBounds_toArray, List.set_cons_succ, List.set_cons_zero]
            refine wpAnyH_all (rs := [2, 6]) (by kernel_rfl) (by simp) (fun y hy => ?_)
            have hy2 : y = 2 ∨ y = 6 := by simpa using hy
            clear hy
            rcases hy2 with rfl | rfl
            · refine wpOp_step rfl (fun K' hK => ?_)
              have bn := bw.alloc bw.size (.cells #[.int .i64 e.id, .slice da lm (lc - 1), .int .i64 (due - (s.size : Int))] 58)
              go_simp
              refine hK _ _ ⟨SB.out _ bn, ?_⟩
              clear hK K'
              replace bw := bn
              clear bn
              try simp only [Act.put, List.setIfInBounds_toArray, List.set_cons_succ, List.set_cons_zero]
              refine wpAnyH_all (rs := [6]) (by kernel_rfl) (by simp) (fun y hy => ?_)
              obtain rfl : y = 6 := by simpa using hy
              clear hy
              refine wpOp_step rfl (fun K' hK => ?_)
              have ld := LD.out _ bw
              go_simp
              refine hK _ _ ⟨SB.out _ bw, ?_⟩
              clear hK K' ld
              try simp only [Act.put, List.setIfInBounds_toArray, List.set_cons_succ, List.set_cons_zero]
              have hS := SB.out _ bw
              have cq := CQ.out
              refine obTakeH (i := 7) (d := 76) (v := .slice dq (nn - 1) (c - 1)) rfl rfl (by kernel_rfl) (by kernel_rfl) (by kernel_rfl) (fun _ _ _ h => h) rfl (fun w' hS => by go_simp) hS ?_
              clear hS cq
              try simp only [Act.put, List.setIfInBounds_toArray, List.set_cons_succ, List.set_cons_zero]
              refine wpAnyH_all (rs := [8]) (by kernel_rfl) (by simp) (fun y hy => ?_)
              obtain rfl : y = 8 := by simpa using hy
              clear hy
              refine wpOp_step rfl (fun K' hK => ?_)
              refine obB2 _ .append _ _ _ _ rfl _ _ rfl rfl hap.out ?_
              refine hK _ _ ⟨SB.out _ bp.out, ?_⟩
              clear hK K'
              try simp only [Act.put, List.setIfInBounds_toArray, List.set_cons_succ, List.set_cons_zero]
              have hS := SB.out _ bp.out
              refine obTakeH (i := 9) (d := 78) (v := .pointer (some ⟨R, 0, none⟩)) rfl rfl (by kernel_rfl) (by kernel_rfl) (by kernel_rfl) (fun _ _ _ h => h) rfl (fun w' hS => by go_simp) hS ?_
              refine obTakeH (i := 10) (d := 79) (v := .pointer (some ⟨R, 2, none⟩)) rfl rfl (by kernel_rfl) (by kernel_rfl) (by kernel_rfl) (fun _ _ _ h => h) rfl (fun w' hS => by go_simp) hS ?_
              clear hS
              try simp only [Act.put, List.setIfInBounds_toArray, List.set_cons_succ, List.set_cons_zero]
              refine wpAnyH_all (rs := [11]) (by kernel_rfl) (by simp) (fun y hy => ?_)
              obtain rfl : y = 11 := by simpa using hy
              clear hy
              refine wpOp_step rfl (fun K' hK => ?_)
              have y1 := FD.out.1
              have y2 := FD.out.2.1
              have y3 := FD.out.2.2.1
              go_simp
              refine hK _ _ ⟨y3, ?_⟩
              clear hK K' y1 y2
              try simp only [Act.put, List.setIfInBounds_toArray, List.set_cons_succ, List.set_cons_zero]
              refine wpAnyH_done (by kernel_rfl) ?_ 0
              have cz0 := y3.1
              have E1 := Lib.hid FD.out.2.2.2
              clear bw y3 FD SB LD hap bp CQ
              go_wp2_with fail
              go_ret3
              exact ⟨by rw [V.out]; rfl, E1.out.1, E1.out.2⟩
            · refine wpOp_step rfl (fun K' hK => ?_)
              have ld := LD.out _ bw
              go_simp
              refine hK _ _ ⟨SB.out _ bw, ?_⟩
              clear hK K' ld
              try simp only [Act.put, List.setIfInBounds_toArray, List.set_cons_succ, List.set_cons_zero]
              have hS := SB.out _ bw
              have cq := CQ.out
              refine obTakeH (i := 7) (d := 76) (v := .slice dq (nn - 1) (c - 1)) rfl rfl (by kernel_rfl) (by kernel_rfl) (by kernel_rfl) (fun _ _ _ h => h) rfl (fun w' hS => by go_simp) hS ?_
              clear hS cq
              try simp only [Act.put, List.setIfInBounds_toArray, List.set_cons_succ, List.set_cons_zero]
              refine wpAnyH_all (rs := [2]) (by kernel_rfl) (by simp) (fun y hy => ?_)
              obtain rfl : y = 2 := by simpa using hy
              clear hy
              refine wpOp_step rfl (fun K' hK => ?_)
              have bn := bw.alloc bw.size (.cells #[.int .i64 e.id, .slice da lm (lc - 1), .int .i64 (due - (s.size : Int))] 58)
              go_simp
              refine hK _ _ ⟨SB.out _ bn, ?_⟩
              clear hK K'
              replace bw := bn
              clear bn
              try simp only [Act.put, List.setIfInBounds_toArray, List.set_cons_succ, List.set_cons_zero]
              refine wpAnyH_all (rs := [8]) (by kernel_rfl) (by simp) (fun y hy => ?_)
              obtain rfl : y = 8 := by simpa using hy
              clear hy
              refine wpOp_step rfl (fun K' hK => ?_)
              refine obB2 _ .append _ _ _ _ rfl _ _ rfl rfl hap.out ?_
              refine hK _ _ ⟨SB.out _ bp.out, ?_⟩
              clear hK K'
              try simp only [Act.put, List.setIfInBounds_toArray, List.set_cons_succ, List.set_cons_zero]
              have hS := SB.out _ bp.out
              refine obTakeH (i := 9) (d := 78) (v := .pointer (some ⟨R, 0, none⟩)) rfl rfl (by kernel_rfl) (by kernel_rfl) (by kernel_rfl) (fun _ _ _ h => h) rfl (fun w' hS => by go_simp) hS ?_
              refine obTakeH (i := 10) (d := 79) (v := .pointer (some ⟨R, 2, none⟩)) rfl rfl (by kernel_rfl) (by kernel_rfl) (by kernel_rfl) (fun _ _ _ h => h) rfl (fun w' hS => by go_simp) hS ?_
              clear hS
              try simp only [Act.put, List.setIfInBounds_toArray, List.set_cons_succ, List.set_cons_zero]
              refine wpAnyH_all (rs := [11]) (by kernel_rfl) (by simp) (fun y hy => ?_)
              obtain rfl : y = 11 := by simpa using hy
              clear hy
              refine wpOp_step rfl (fun K' hK => ?_)
              have y1 := FD.out.1
              have y2 := FD.out.2.1
              have y3 := FD.out.2.2.1
              go_simp
              refine hK _ _ ⟨y3, ?_⟩
              clear hK K' y1 y2
              try simp only [Act.put, List.setIfInBounds_toArray, List.set_cons_succ, List.set_cons_zero]
              refine wpAnyH_done (by kernel_rfl) ?_ 0
              have cz0 := y3.1
              have E1 := Lib.hid FD.out.2.2.2
              clear bw y3 FD SB LD hap bp CQ
              go_wp2_with fail
              go_ret3
              exact ⟨by rw [V.out]; rfl, E1.out.1, E1.out.2⟩
        · have g1 : decide ((s.size : Int) ≤ due) = false := decide_eq_false hle
          replace STP := Lib.hid (STP.out hle)
          have D3' := D3.out
          go_upto_region 15 with fail
          have ND := N1.out.below (Nat.zero_lt_succ _) (drewB _ _)
          have hRC := CUT.out _ _ _ _ ND
          clear cx1 cx2 tsx isx g1 D1 D2 CUT VAL CS TS bdu D3
          refine wp_region_held (S := fun w' => w'.cell? ⟨xb, 0, none⟩ = some (.int .i64 e.id) ∧ w'.cell? ⟨xb, 1, none⟩ = some (.slice (some ⟨gl, ol, none⟩) ln lc) ∧ w'.cell? ⟨xb, 2, none⟩ = some (.int .i64 due)) (by kernel_rfl) ?_
          change wpAnyH _ .any _ _ _ 14 (Array.replicate 14 false) _ wc.drew
          generalize wc.drew = wd at *
          have SB : Hid (∀ w', Below wd.heap.size wd w' → w'.cell? ⟨xb, 0, none⟩ = some (.int .i64 e.id) ∧ w'.cell? ⟨xb, 1, none⟩ = some (.slice (some ⟨gl, ol, none⟩) ln lc) ∧ w'.cell? ⟨xb, 2, none⟩ = some (.int .i64 due)) := fun w' b => by
            have := (ND.below (Nat.zero_lt_succ _) b).x
            exact ⟨this.cell 0 rfl, this.cell 1 rfl, this.cell 2 rfl⟩
          have LD : Hid (∀ w', Below wd.heap.size wd w' → w'.cell? ⟨R, 2, none⟩ = some (.slice (some ⟨g0, o, none⟩) nn c)) := fun w' b => (ND.below (Nat.zero_lt_succ _) b).h.cell 2 rfl
          have eln : e.l.length = ln := LL.out.1.symm
          obtain ⟨vA1, wA1, hA1, bA1, vA2, wA2, hA2, bA2, zA, oA⟩ := ordA kq_ok hRC ({ e with d := due }, some ⟨gl, ol, none⟩, lc) 51 zl.out.1 zl.out.2
          replace hA1 : ∀ z, (builtin .append #[51, 51] 51 z #[.slice (some ⟨wd.heap.size, 0, none⟩) 0 0, .slice dq (nn - 1) (c - 1)]).run Try.prog (wd.alloc (.cells #[] 58)) = .ok (.value vA1) wA1 := hA1

          replace hA1 := Lib.hid hA1
          have DA := D3' wd xb _ _ wA2 vA2 hle ND bA2 zA oA
          obtain ⟨y1, y2, y3, y4, y5⟩ := ND.fin (Nat.zero_lt_succ _) bA2 vA2
          obtain ⟨aA, cA, hvA, -⟩ := zA.slice
          obtain ⟨nA, hnA⟩ : ∃ n, n = (ws.drop 1 ++ [(({ e with d := due }, some ⟨gl, ol, none⟩, lc) : QX)]).length := ⟨_, rfl⟩
          rw [← hnA] at hvA
          rw [hvA] at DA y3 y4 y5 hA2
          have FA := Lib.hid (And.intro y1 (And.intro y2 (And.intro (And.intro (y3.cell 0 rfl) (And.intro (y3.cell 1 rfl) (y3.cell 2 rfl))) (And.intro y4 (And.intro y5 DA)))))
          replace hA2 : ∀ z, (builtin .append #[51, 51] 51 z #[vA1, .slice (some ⟨wA1.heap.size, 0, none⟩) 1 1]).run Try.prog (wA1.alloc (.cells #[.int .i64 e.id, .slice (some ⟨gl, ol, none⟩) e.l.length lc, .int .i64 due] 58)) = .ok (.value (.slice aA nA cA)) wA2 := hA2
          rw [eln] at hA2
          replace hA2 := Lib.hid hA2
          clear DA zA oA hvA hnA y1 y2 y3 y4 y5
          replace bA1 := Lib.hid bA1
          replace bA2 := Lib.hid bA2
          obtain ⟨vB1, wB1, hB1, bB1, vB2, wB2, hB2, bB2, zB, oB⟩ := ordB kq_ok hRC ({ e with d := due }, some ⟨gl, ol, none⟩, lc) 51 zl.out.1 zl.out.2
          replace hB1 : ∀ z, (builtin .append #[51, 51] 51 z #[.slice (some ⟨wd.heap.size, 0, none⟩) 0 0, .slice dq (nn - 1) (c - 1)]).run Try.prog ((wd.alloc (.cells #[] 58)).alloc (.cells #[.int .i64 e.id, .slice (some ⟨gl, ol, none⟩) e.l.length lc, .int .i64 due] 58)) = .ok (.value vB1) wB1 := hB1
          rw [eln] at hB1
          replace hB1 := Lib.hid hB1
          have DB := D3' wd xb _ _ wB2 vB2 hle ND bB2 zB oB
          obtain ⟨y1, y2, y3, y4, y5⟩ := ND.fin (Nat.zero_lt_succ _) bB2 vB2
          obtain ⟨aB, cB, hvB, -⟩ := zB.slice
          obtain ⟨nB, hnB⟩ : ∃ n, n = (ws.drop 1 ++ [(({ e with d := due }, some ⟨gl, ol, none⟩, lc) : QX)]).length := ⟨_, rfl⟩
          rw [← hnB] at hvB
          rw [hvB] at DB y3 y4 y5 hB2
          have FB := Lib.hid (And.intro y1 (And.intro y2 (And.intro (And.intro (y3.cell 0 rfl) (And.intro (y3.cell 1 rfl) (y3.cell 2 rfl))) (And.intro y4 (And.intro y5 DB)))))
          replace hB2 : ∀ z, (builtin .append #[51, 51] 51 z #[vB1, .slice (some ⟨wd.heap.size + 1, 0, none⟩) 1 1]).run Try.prog wB1 = .ok (.value (.slice aB nB cB)) wB2 := hB2

          replace hB2 := Lib.hid hB2
          clear DB zB oB hvB hnB y1 y2 y3 y4 y5
          replace bB1 := Lib.hid bB1
          replace bB2 := Lib.hid bB2
          obtain ⟨vC1, wC1, hC1, bC1, vC2, wC2, hC2, bC2, zC, oC⟩ := ordC kq_ok hRC ({ e with d := due }, some ⟨gl, ol, none⟩, lc) 51 zl.out.1 zl.out.2
          replace hC1 : ∀ z, (builtin .append #[51, 51] 51 z #[.slice (some ⟨wd.heap.size + 1, 0, none⟩) 0 0, .slice dq (nn - 1) (c - 1)]).run Try.prog ((wd.alloc (.cells #[.int .i64 e.id, .slice (some ⟨gl, ol, none⟩) e.l.length lc, .int .i64 due] 58)).alloc (.cells #[] 58)) = .ok (.value vC1) wC1 := hC1
          rw [eln] at hC1
          replace hC1 := Lib.hid hC1
          have DC := D3' wd xb _ _ wC2 vC2 hle ND bC2 zC oC
          obtain ⟨y1, y2, y3, y4, y5⟩ := ND.fin (Nat.zero_lt_succ _) bC2 vC2
          obtain ⟨aC, cC, hvC, -⟩ := zC.slice
          obtain ⟨nC, hnC⟩ : ∃ n, n = (ws.drop 1 ++ [(({ e with d := due }, some ⟨gl, ol, none⟩, lc) : QX)]).length := ⟨_, rfl⟩
          rw [← hnC] at hvC
          rw [hvC] at DC y3 y4 y5 hC2
          have FC := Lib.hid (And.intro y1 (And.intro y2 (And.intro (And.intro (y3.cell 0 rfl) (And.intro (y3.cell 1 rfl) (y3.cell 2 rfl))) (And.intro y4 (And.intro y5 DC)))))
          replace hC2 : ∀ z, (builtin .append #[51, 51] 51 z #[vC1, .slice (some ⟨wd.heap.size, 0, none⟩) 1 1]).run Try.prog wC1 = .ok (.value (.slice aC nC cC)) wC2 := hC2

          replace hC2 := Lib.hid hC2
          clear DC zC oC hvC hnC y1 y2 y3 y4 y5
          replace bC1 := Lib.hid bC1
          replace bC2 := Lib.hid bC2
          clear D3' hRC ND eln LL zl hle
          have bw := Below.refl wd.heap.size wd
          have hS := SB.out wd bw
          refine obTakeH (i := 0) (d := 83) (v := .pointer (some ⟨R, 0, none⟩)) rfl rfl (by kernel_rfl) (by kernel_rfl) (by kernel_rfl) (fun _ _ _ h => h) rfl (fun w' hS => by obtain ⟨s1, s2, s3⟩ := hS; go_simp) hS ?_
          refine obTakeH (i := 2) (d := 85) (v := .pointer (some ⟨R, 0, none⟩)) rfl rfl (by kernel_rfl) (by kernel_rfl) (by kernel_rfl) (fun _ _ _ h => h) rfl (fun w' hS => by obtain ⟨s1, s2, s3⟩ := hS; go_simp) hS ?_
          refine obTakeH (i := 3) (d := 86) (v := .pointer (some ⟨R, 0, none⟩)) rfl rfl (by kernel_rfl) (by kernel_rfl) (by kernel_rfl) (fun _ _ _ h => h) rfl (fun w' hS => by obtain ⟨s1, s2, s3⟩ := hS; go_simp) hS ?_
          refine obTakeH (i := 4) (d := 87) (v := .pointer (some ⟨R, 2, none⟩)) rfl rfl (by kernel_rfl) (by kernel_rfl) (by kernel_rfl) (fun _ _ _ h => h) rfl (fun w' hS => by obtain ⟨s1, s2, s3⟩ := hS; go_simp) hS ?_
          refine obTakeH (i := 8) (d := 91) (v := .agg #[.int .i64 e.id, .slice (some ⟨gl, ol, none⟩) ln lc, .int .i64 due]) rfl rfl (by kernel_rfl) (by kernel_rfl) (by kernel_rfl) (fun _ _ _ h => h) rfl (fun w' hS => by obtain ⟨s1, s2, s3⟩ := hS; go_simp) hS ?_
          clear hS
          try simp only [Act.put, List.setIfInBounds_toArray, List.set_cons_succ, List.set_cons_zero]
          refine wpAnyH_all (rs := [1, 5, 9]) (by kernel_rfl) (by simp) (fun y hy => ?_)
          have hy2 : y = 1 ∨ y = 5 ∨ y = 9 := by simpa using hy
          clear hy
          rcases hy2 with rfl | rfl | rfl
          · refine wpOp_step rfl (fun K' hK => ?_)
            have bn := bw.alloc bw.size (.cells #[] 58)
            go_simp
            refine hK _ _ ⟨SB.out _ bn, ?_⟩
            clear hK K'
            replace bw := bn
            clear bn
            try simp only [Act.put, List.setIfInBounds_toArray, List.set_cons_succ, List.set_cons_zero]
            refine wpAnyH_all (rs := [5, 9]) (by kernel_rfl) (by simp) (fun y hy => ?_)
            have hy2 : y = 5 ∨ y = 9 := by simpa using hy
            clear hy
            rcases hy2 with rfl | rfl
            · refine wpOp_step rfl (fun K' hK => ?_)
              have ld := LD.out _ bw
              go_simp
              refine hK _ _ ⟨SB.out _ bw, ?_⟩
              clear hK K' ld
              try simp only [Act.put, List.setIfInBounds_toArray, List.set_cons_succ, List.set_cons_zero]
              have hS := SB.out _ bw
              have cq := CQ.out
              refine obTakeH (i := 6) (d := 89) (v := .slice dq (nn - 1) (c - 1)) rfl rfl (by kernel_rfl) (by kernel_rfl) (by kernel_rfl) (fun _ _ _ h => h) rfl (fun w' hS => by go_simp) hS ?_
              clear cq
              clear hS
              try simp only [Act.put, List.setIfInBounds_toArray, List.set_cons_succ, List.set_cons_zero]
              refine wpAnyH_all (rs := [7, 9]) (by kernel_rfl) (by simp) (fun y hy => ?_)
              have hy2 : y = 7 ∨ y = 9 := by simpa using hy
              clear hy
              rcases hy2 with rfl | rfl
              · refine wpOp_step rfl (fun K' hK => ?_)
                refine obB2 _ .append _ _ _ _ rfl _ _ rfl rfl hA1.out ?_
                refine hK _ _ ⟨SB.out _ bA1.out, ?_⟩
                clear hK K'
                have bw := bA1.out
                try simp only [Act.put, List.setIfInBounds_toArray, List.set_cons_succ, List.set_cons_zero]
                refine wpAnyH_all (rs := [9]) (by kernel_rfl) (by simp) (fun y hy => ?_)
                obtain rfl : y = 9 := by simpa using hy
                clear hy
                refine wpOp_step rfl (fun K' hK => ?_)
                have bn := bw.alloc bw.size (.cells #[.int .i64 e.id, .slice (some ⟨gl, ol, none⟩) ln lc, .int .i64 due] 58)
                go_simp
                refine hK _ _ ⟨SB.out _ bn, ?_⟩
                clear hK K'
                replace bw := bn
                clear bn
                try simp only [Act.put, List.setIfInBounds_toArray, List.set_cons_succ, List.set_cons_zero]
                refine wpAnyH_all (rs := [10]) (by kernel_rfl) (by simp) (fun y hy => ?_)
                obtain rfl : y = 10 := by simpa using hy
                clear hy
                refine wpOp_step rfl (fun K' hK => ?_)
                refine obB2 _ .append _ _ _ _ rfl _ _ rfl rfl hA2.out ?_
                refine hK _ _ ⟨SB.out _ bA2.out, ?_⟩
                clear hK K'
                try simp only [Act.put, List.setIfInBounds_toArray, List.set_cons_succ, List.set_cons_zero]
                have hS := SB.out _ bA2.out
                refine obTakeH (i := 11) (d := 94) (v := .pointer (some ⟨R, 0, none⟩)) rfl rfl (by kernel_rfl) (by kernel_rfl) (by kernel_rfl) (fun _ _ _ h => h) rfl (fun w' hS => by go_simp) hS ?_
                refine obTakeH (i := 12) (d := 95) (v := .pointer (some ⟨R, 2, none⟩)) rfl rfl (by kernel_rfl) (by kernel_rfl) (by kernel_rfl) (fun _ _ _ h => h) rfl (fun w' hS => by go_simp) hS ?_
                clear hS
                try simp only [Act.put, List.setIfInBounds_toArray, List.set_cons_succ, List.set_cons_zero]
                refine wpAnyH_all (rs := [13]) (by kernel_rfl) (by simp) (fun y hy => ?_)
                obtain rfl : y = 13 := by simpa using hy
                clear hy
                refine wpOp_step rfl (fun K' hK => ?_)
                have y1 := FA.out.1
                have y2 := FA.out.2.1
                have y3 := FA.out.2.2.1
                go_simp
                refine hK _ _ ⟨y3, ?_⟩
                clear hK K' y1 y2 y3
                try simp only [Act.put, List.setIfInBounds_toArray, List.set_cons_succ, List.set_cons_zero]
                refine wpAnyH_done (by kernel_rfl) ?_ 0
                have y4 := FA.out.2.2.2.1
                have y5 := FA.out.2.2.2.2.1
                have E1 := Lib.hid FA.out.2.2.2.2.2
                clear bw hA1 hA2 hB1 hB2 hC1 hC2 bA1 bA2 bB1 bB2 bC1 bC2 FA FB FC SB LD
                go_wp2_with fail
                go_roundg (lackE (stepE g))
                case measure => exact STP.out.2.2
                case rel => exact ⟨stepE g, rfl, STP.out.1, STP.out.2.1, E1.out⟩
              · refine wpOp_step rfl (fun K' hK => ?_)
                have bn := bw.alloc bw.size (.cells #[.int .i64 e.id, .slice (some ⟨gl, ol, none⟩) ln lc, .int .i64 due] 58)
                go_simp
                refine hK _ _ ⟨SB.out _ bn, ?_⟩
                clear hK K'
                replace bw := bn
                clear bn
                try simp only [Act.put, List.setIfInBounds_toArray, List.set_cons_succ, List.set_cons_zero]
                refine wpAnyH_all (rs := [7]) (by kernel_rfl) (by simp) (fun y hy => ?_)
                obtain rfl : y = 7 := by simpa using hy
                clear hy
                refine wpOp_step rfl (fun K' hK => ?_)
                refine obB2 _ .append _ _ _ _ rfl _ _ rfl rfl hB1.out ?_
                refine hK _ _ ⟨SB.out _ bB1.out, ?_⟩
                clear hK K'
                have bw := bB1.out
                try simp only [Act.put, List.setIfInBounds_toArray, List.set_cons_succ, List.set_cons_zero]
                refine wpAnyH_all (rs := [10]) (by kernel_rfl) (by simp) (fun y hy => ?_)
                obtain rfl : y = 10 := by simpa using hy
                clear hy
                refine wpOp_step rfl (fun K' hK => ?_)
                refine obB2 _ .append _ _ _ _ rfl _ _ rfl rfl hB2.out ?_
                refine hK _ _ ⟨SB.out _ bB2.out, ?_⟩
                clear hK K'
                try simp only [Act.put, List.setIfInBounds_toArray, List.set_cons_succ, List.set_cons_zero]
                have hS := SB.out _ bB2.out
                refine obTakeH (i := 11) (d := 94) (v := .pointer (some ⟨R, 0, none⟩)) rfl rfl (by kernel_rfl) (by kernel_rfl) (by kernel_rfl) (fun _ _ _ h => h) rfl (fun w' hS => by go_simp) hS ?_
                refine obTakeH (i := 12) (d := 95) (v := .pointer (some ⟨R, 2, none⟩)) rfl rfl (by kernel_rfl) (by kernel_rfl) (by kernel_rfl) (fun _ _ _ h => h) rfl (fun w' hS => by go_simp) hS ?_
                clear hS
                try simp only [Act.put, List.setIfInBounds_toArray, List.set_cons_succ, List.set_cons_zero]
                refine wpAnyH_all (rs := [13]) (by kernel_rfl) (by simp) (fun y hy => ?_)
                obtain rfl : y = 13 := by simpa using hy
                clear hy
                refine wpOp_step rfl (fun K' hK => ?_)
                have y1 := FB.out.1
                have y2 := FB.out.2.1
                have y3 := FB.out.2.2.1
                go_simp
                refine hK _ _ ⟨y3, ?_⟩
                clear hK K' y1 y2 y3
                try simp only [Act.put, List.setIfInBounds_toArray, List.set_cons_succ, List.set_cons_zero]
                refine wpAnyH_done (by kernel_rfl) ?_ 0
                have y4 := FB.out.2.2.2.1
                have y5 := FB.out.2.2.2.2.1
                have E1 := Lib.hid FB.out.2.2.2.2.2
                clear bw hA1 hA2 hB1 hB2 hC1 hC2 bA1 bA2 bB1 bB2 bC1 bC2 FA FB FC SB LD
                go_wp2_with fail
                go_roundg (lackE (stepE g))
                case measure => exact STP.out.2.2
                case rel => exact ⟨stepE g, rfl, STP.out.1, STP.out.2.1, E1.out⟩
            · refine wpOp_step rfl (fun K' hK => ?_)
              have bn := bw.alloc bw.size (.cells #[.int .i64 e.id, .slice (some ⟨gl, ol, none⟩) ln lc, .int .i64 due] 58)
              go_simp
              refine hK _ _ ⟨SB.out _ bn, ?_⟩
              clear hK K'
              replace bw := bn
              clear bn
              try simp only [Act.put, List.setIfInBounds_toArray, List.set_cons_succ, List.set_cons_zero]
              refine wpAnyH_all (rs := [5]) (by kernel_rfl) (by simp) (fun y hy => ?_)
              obtain rfl : y = 5 := by simpa using hy
              clear hy
              refine wpOp_step rfl (fun K' hK => ?_)
              have ld := LD.out _ bw
              go_simp
              refine hK _ _ ⟨SB.out _ bw, ?_⟩
              clear hK K' ld
              try simp only [Act.put, List.setIfInBounds_toArray, List.set_cons_succ, List.set_cons_zero]
              have hS := SB.out _ bw
              have cq := CQ.out
              refine obTakeH (i := 6) (d := 89) (v := .slice dq (nn - 1) (c - 1)) rfl rfl (by kernel_rfl) (by kernel_rfl) (by kernel_rfl) (fun _ _ _ h => h) rfl (fun w' hS => by go_simp) hS ?_
              clear cq
              clear hS
              try simp only [Act.put, List.setIfInBounds_toArray, List.set_cons_succ, List.set_cons_zero]
              refine wpAnyH_all (rs := [7]) (by kernel_rfl) (by simp) (fun y hy => ?_)
              obtain rfl : y = 7 := by simpa using hy
              clear hy
              refine wpOp_step rfl (fun K' hK => ?_)
              refine obB2 _ .append _ _ _ _ rfl _ _ rfl rfl hB1.out ?_
              refine hK _ _ ⟨SB.out _ bB1.out, ?_⟩
              clear hK K'
              have bw := bB1.out
              try simp only [Act.put, List.setIfInBounds_toArray, List.set_cons_succ, List.set_cons_zero]
              refine wpAnyH_all (rs := [10]) (by kernel_rfl) (by simp) (fun y hy => ?_)
              obtain rfl : y = 10 := by simpa using hy
              clear hy
              refine wpOp_step rfl (fun K' hK => ?_)
              refine obB2 _ .append _ _ _ _ rfl _ _ rfl rfl hB2.out ?_
              refine hK _ _ ⟨SB.out _ bB2.out, ?_⟩
              clear hK K'
              try simp only [Act.put, List.setIfInBounds_toArray, List.set_cons_succ, List.set_cons_zero]
              have hS := SB.out _ bB2.out
              refine obTakeH (i := 11) (d := 94) (v := .pointer (some ⟨R, 0, none⟩)) rfl rfl (by kernel_rfl) (by kernel_rfl) (by kernel_rfl) (fun _ _ _ h => h) rfl (fun w' hS => by go_simp) hS ?_
              refine obTakeH (i := 12) (d := 95) (v := .pointer (some ⟨R, 2, none⟩)) rfl rfl (by kernel_rfl) (by kernel_rfl) (by kernel_rfl) (fun _ _ _ h => h) rfl (fun w' hS => by go_simp) hS ?_
              clear hS
              try simp only [Act.put, List.setIfInBounds_toArray, List.set_cons_succ, List.set_cons_zero]
              refine wpAnyH_all (rs := [13]) (by kernel_rfl) (by simp) (fun y hy => ?_)
              obtain rfl : y = 13 := by simpa using hy
              clear hy
              refine wpOp_step rfl (fun K' hK => ?_)
              have y1 := FB.out.1
              have y2 := FB.out.2.1
              have y3 := FB.out.2.2.1
              go_simp
              refine hK _ _ ⟨y3, ?_⟩
              clear hK K' y1 y2 y3
              try simp only [Act.put, List.setIfInBounds_toArray, List.set_cons_succ, List.set_cons_zero]
              refine wpAnyH_done (by kernel_rfl) ?_ 0
              have y4 := FB.out.2.2.2.1
              have y5 := FB.out.2.2.2.2.1
              have E1 := Lib.hid FB.out.2.2.2.2.2
              clear bw hA1 hA2 hB1 hB2 hC1 hC2 bA1 bA2 bB1 bB2 bC1 bC2 FA FB FC SB LD
              go_wp2_with fail
              go_roundg (lackE (stepE g))
              case measure => exact STP.out.2.2
              case rel => exact ⟨stepE g, rfl, STP.out.1, STP.out.2.1, E1.out⟩
          · refine wpOp_step rfl (fun K' hK => ?_)
            have ld := LD.out _ bw
            go_simp
            refine hK _ _ ⟨SB.out _ bw, ?_⟩
            clear hK K' ld
            try simp only [Act.put, List.setIfInBounds_toArray, List.set_cons_succ, List.set_cons_zero]
            have hS := SB.out _ bw
            have cq := CQ.out
            refine obTakeH (i := 6) (d := 89) (v := .slice dq (nn - 1) (c - 1)) rfl rfl (by kernel_rfl) (by kernel_rfl) (by kernel_rfl) (fun _ _ _ h => h) rfl (fun w' hS => by go_simp) hS ?_
            clear cq
            clear hS
            try simp only [Act.put, List.setIfInBounds_toArray, List.set_cons_succ, List.set_cons_zero]
            refine wpAnyH_all (rs := [1, 9]) (by kernel_rfl) (by simp) (fun y hy => ?_)
            have hy2 : y = 1 ∨ y = 9 := by simpa using hy
            clear hy
            rcases hy2 with rfl | rfl
            · refine wpOp_step rfl (fun K' hK => ?_)
              have bn := bw.alloc bw.size (.cells #[] 58)
              go_simp
              refine hK _ _ ⟨SB.out _ bn, ?_⟩
              clear hK K'
              replace bw := bn
              clear bn
              try simp only [Act.put, List.setIfInBounds_toArray, List.set_cons_succ, List.set_cons_zero]
              refine wpAnyH_all (rs := [7, 9]) (by kernel_rfl) (by simp) (fun y hy => ?_)
              have hy2 : y = 7 ∨ y = 9 := by simpa using hy
              clear hy
              rcases hy2 with rfl | rfl
              · refine wpOp_step rfl (fun K' hK => ?_)
                refine obB2 _ .append _ _ _ _ rfl _ _ rfl rfl hA1.out ?_
                refine hK _ _ ⟨SB.out _ bA1.out, ?_⟩
                clear hK K'
                have bw := bA1.out
                try simp only [Act.put, List.setIfInBounds_toArray, List.set_cons_succ, List.set_cons_zero]
                refine wpAnyH_all (rs := [9]) (by kernel_rfl) (by simp) (fun y hy => ?_)
                obtain rfl : y = 9 := by simpa using hy
                clear hy
                refine wpOp_step rfl (fun K' hK => ?_)
                have bn := bw.alloc bw.size (.cells #[.int .i64 e.id, .slice (some ⟨gl, ol, none⟩) ln lc, .int .i64 due] 58)
                go_simp
                refine hK _ _ ⟨SB.out _ bn, ?_⟩
                clear hK K'
                replace bw := bn
                clear bn
                try simp only [Act.put, List.setIfInBounds_toArray, List.set_cons_succ, List.set_cons_zero]
                refine wpAnyH_all (rs := [10]) (by kernel_rfl) (by simp) (fun y hy => ?_)
                obtain rfl : y = 10 := by simpa using hy
                clear hy
                refine wpOp_step rfl (fun K' hK => ?_)
                refine obB2 _ .append _ _ _ _ rfl _ _ rfl rfl hA2.out ?_
                refine hK _ _ ⟨SB.out _ bA2.out, ?_⟩
                clear hK K'
                try simp only [Act.put, List.setIfInBounds_toArray, List.set_cons_succ, List.set_cons_zero]
                have hS := SB.out _ bA2.out
                refine obTakeH (i := 11) (d := 94) (v := .pointer (some ⟨R, 0, none⟩)) rfl rfl (by kernel_rfl) (by kernel_rfl) (by kernel_rfl) (fun _ _ _ h => h) rfl (fun w' hS => by go_simp) hS ?_
                refine obTakeH (i := 12) (d := 95) (v := .pointer (some ⟨R, 2, none⟩)) rfl rfl (by kernel_rfl) (by kernel_rfl) (by kernel_rfl) (fun _ _ _ h => h) rfl (fun w' hS => by go_simp) hS ?_
                clear hS
                try simp only [Act.put, List.setIfInBounds_toArray, List.set_cons_succ, List.set_cons_zero]
                refine wpAnyH_all (rs := [13]) (by kernel_rfl) (by simp) (fun y hy => ?_)
                obtain rfl : y = 13 := by simpa using hy
                clear hy
                refine wpOp_step rfl (fun K' hK => ?_)
                have y1 := FA.out.1
                have y2 := FA.out.2.1
                have y3 := FA.out.2.2.1
                go_simp
                refine hK _ _ ⟨y3, ?_⟩
                clear hK K' y1 y2 y3
                try simp only [Act.put, List.setIfInBounds_toArray, List.set_cons_succ, List.set_cons_zero]
                refine wpAnyH_done (by kernel_rfl) ?_ 0
                have y4 := FA.out.2.2.2.1
                have y5 := FA.out.2.2.2.2.1
                have E1 := Lib.hid FA.out.2.2.2.2.2
                clear bw hA1 hA2 hB1 hB2 hC1 hC2 bA1 bA2 bB1 bB2 bC1 bC2 FA FB FC SB LD
                go_wp2_with fail
                go_roundg (lackE (stepE g))
                case measure => exact STP.out.2.2
                case rel => exact ⟨stepE g, rfl, STP.out.1, STP.out.2.1, E1.out⟩
              · refine wpOp_step rfl (fun K' hK => ?_)
                have bn := bw.alloc bw.size (.cells #[.int .i64 e.id, .slice (some ⟨gl, ol, none⟩) ln lc, .int .i64 due] 58)
                go_simp
                refine hK _ _ ⟨SB.out _ bn, ?_⟩
                clear hK K'
                replace bw := bn
                clear bn
                try simp only [Act.put, List.setIfInBounds_toArray, List.set_cons_succ, List.set_cons_zero]
                refine wpAnyH_all (rs := [7]) (by kernel_rfl) (by simp) (fun y hy => ?_)
                obtain rfl : y = 7 := by simpa using hy
                clear hy
                refine wpOp_step rfl (fun K' hK => ?_)
                refine obB2 _ .append _ _ _ _ rfl _ _ rfl rfl hB1.out ?_
                refine hK _ _ ⟨SB.out _ bB1.out, ?_⟩
                clear hK K'
                have bw := bB1.out
                try simp only [Act.put, List.setIfInBounds_toArray, List.set_cons_succ, List.set_cons_zero]
                refine wpAnyH_all (rs := [10]) (by kernel_rfl) (by simp) (fun y hy => ?_)
                obtain rfl : y = 10 := by simpa using hy
                clear hy
                refine wpOp_step rfl (fun K' hK => ?_)
                refine obB2 _ .append _ _ _ _ rfl _ _ rfl rfl hB2.out ?_
                refine hK _ _ ⟨SB.out _ bB2.out, ?_⟩
                clear hK K'
                try simp only [Act.put, List.setIfInBounds_toArray, List.set_cons_succ, List.set_cons_zero]
                have hS := SB.out _ bB2.out
                refine obTakeH (i := 11) (d := 94) (v := .pointer (some ⟨R, 0, none⟩)) rfl rfl (by kernel_rfl) (by kernel_rfl) (by kernel_rfl) (fun _ _ _ h => h) rfl (fun w' hS => by go_simp) hS ?_
                refine obTakeH (i := 12) (d := 95) (v := .pointer (some ⟨R, 2, none⟩)) rfl rfl (by kernel_rfl) (by kernel_rfl) (by kernel_rfl) (fun _ _ _ h => h) rfl (fun w' hS => by go_simp) hS ?_
                clear hS
                try simp only [Act.put, List.setIfInBounds_toArray, List.set_cons_succ, List.set_cons_zero]
                refine wpAnyH_all (rs := [13]) (by kernel_rfl) (by simp) (fun y hy => ?_)
                obtain rfl : y = 13 := by simpa using hy
                clear hy
                refine wpOp_step rfl (fun K' hK => ?_)
                have y1 := FB.out.1
                have y2 := FB.out.2.1
                have y3 := FB.out.2.2.1
                go_simp
                refine hK _ _ ⟨y3, ?_⟩
                clear hK K' y1 y2 y3
                try simp only [Act.put, List.setIfInBounds_toArray, List.set_cons_succ, List.set_cons_zero]
                refine wpAnyH_done (by kernel_rfl) ?_ 0
                have y4 := FB.out.2.2.2.1
                have y5 := FB.out.2.2.2.2.1
                have E1 := Lib.hid FB.out.2.2.2.2.2
                clear bw hA1 hA2 hB1 hB2 hC1 hC2 bA1 bA2 bB1 bB2 bC1 bC2 FA FB FC SB LD
                go_wp2_with fail
                go_roundg (lackE (stepE g))
                case measure => exact STP.out.2.2
                case rel => exact ⟨stepE g, rfl, STP.out.1, STP.out.2.1, E1.out⟩
            · refine wpOp_step rfl (fun K' hK => ?_)
              have bn := bw.alloc bw.size (.cells #[.int .i64 e.id, .slice (some ⟨gl, ol, none⟩) ln lc, .int .i64 due] 58)
              go_simp
              refine hK _ _ ⟨SB.out _ bn, ?_⟩
              clear hK K'
              replace bw := bn
              clear bn
              try simp only [Act.put, List.setIfInBounds_toArray, List.set_cons_succ, List.set_cons_zero]
              refine wpAnyH_all (rs := [1]) (by kernel_rfl) (by simp) (fun y hy => ?_)
              obtain rfl : y = 1 := by simpa using hy
              clear hy
              refine wpOp_step rfl (fun K' hK => ?_)
              have bn := bw.alloc bw.size (.cells #[] 58)
              go_simp
              refine hK _ _ ⟨SB.out _ bn, ?_⟩
              clear hK K'
              replace bw := bn
              clear bn
              try simp only [Act.put, List.setIfInBounds_toArray, List.set_cons_succ, List.set_cons_zero]
              refine wpAnyH_all (rs := [7]) (by kernel_rfl) (by simp) (fun y hy => ?_)
              obtain rfl : y = 7 := by simpa using hy
              clear hy
              refine wpOp_step rfl (fun K' hK => ?_)
              refine obB2 _ .append _ _ _ _ rfl _ _ rfl rfl hC1.out ?_
              refine hK _ _ ⟨SB.out _ bC1.out, ?_⟩
              clear hK K'
              have bw := bC1.out
              try simp only [Act.put, List.setIfInBounds_toArray, List.set_cons_succ, List.set_cons_zero]
              refine wpAnyH_all (rs := [10]) (by kernel_rfl) (by simp) (fun y hy => ?_)
              obtain rfl : y = 10 := by simpa using hy
              clear hy
              refine wpOp_step rfl (fun K' hK => ?_)
              refine obB2 _ .append _ _ _ _ rfl _ _ rfl rfl hC2.out ?_
              refine hK _ _ ⟨SB.out _ bC2.out, ?_⟩
              clear hK K'
              try simp only [Act.put, List.setIfInBounds_toArray, List.set_cons_succ, List.set_cons_zero]
              have hS := SB.out _ bC2.out
              refine obTakeH (i := 11) (d := 94) (v := .pointer (some ⟨R, 0, none⟩)) rfl rfl (by kernel_rfl) (by kernel_rfl) (by kernel_rfl) (fun _ _ _ h => h) rfl (fun w' hS => by go_simp) hS ?_
              refine obTakeH (i := 12) (d := 95) (v := .pointer (some ⟨R, 2, none⟩)) rfl rfl (by kernel_rfl) (by kernel_rfl) (by kernel_rfl) (fun _ _ _ h => h) rfl (fun w' hS => by go_simp) hS ?_
              clear hS
              try simp only [Act.put, List.setIfInBounds_toArray, List.set_cons_succ, List.set_cons_zero]
              refine wpAnyH_all (rs := [13]) (by kernel_rfl) (by simp) (fun y hy => ?_)
              obtain rfl : y = 13 := by simpa using hy
              clear hy
              refine wpOp_step rfl (fun K' hK => ?_)
              have y1 := FC.out.1
              have y2 := FC.out.2.1
              have y3 := FC.out.2.2.1
              go_simp
              refine hK _ _ ⟨y3, ?_⟩
              clear hK K' y1 y2 y3
              try simp only [Act.put, List.setIfInBounds_toArray, List.set_cons_succ, List.set_cons_zero]
              refine wpAnyH_done (by kernel_rfl) ?_ 0
              have y4 := FC.out.2.2.2.1
              have y5 := FC.out.2.2.2.2.1
              have E1 := Lib.hid FC.out.2.2.2.2.2
              clear bw hA1 hA2 hB1 hB2 hC1 hC2 bA1 bA2 bB1 bB2 bC1 bC2 FA FB FC SB LD
              go_wp2_with fail
              go_roundg (lackE (stepE g))
              case measure => exact STP.out.2.2
              case rel => exact ⟨stepE g, rfl, STP.out.1, STP.out.2.1, E1.out⟩
          · refine wpOp_step rfl (fun K' hK => ?_)
            have bn := bw.alloc bw.size (.cells #[.int .i64 e.id, .slice (some ⟨gl, ol, none⟩) ln lc, .int .i64 due] 58)
            go_simp
            refine hK _ _ ⟨SB.out _ bn, ?_⟩
            clear hK K'
            replace bw := bn
            clear bn
            try simp only [Act.put, List.setIfInBounds_toArray, List.set_cons_succ, List.set_cons_zero]
            refine wpAnyH_all (rs := [1, 5]) (by kernel_rfl) (by simp) (fun y hy => ?_)
            have hy2 : y = 1 ∨ y = 5 := by simpa using hy
            clear hy
            rcases hy2 with rfl | rfl
            · refine wpOp_step rfl (fun K' hK => ?_)
              have bn := bw.alloc bw.size (.cells #[] 58)
              go_simp
              refine hK _ _ ⟨SB.out _ bn, ?_⟩
              clear hK K'
              replace bw := bn
              clear bn
              try simp only [Act.put, List.setIfInBounds_toArray, List.set_cons_succ, List.set_cons_zero]
              refine wpAnyH_all (rs := [5]) (by kernel_rfl) (by simp) (fun y hy => ?_)
              obtain rfl : y = 5 := by simpa using hy
              clear hy
              refine wpOp_step rfl (fun K' hK => ?_)
              have ld := LD.out _ bw
              go_simp
              refine hK _ _ ⟨SB.out _ bw, ?_⟩
              clear hK K' ld
              try simp only [Act.put, List.setIfInBounds_toArray, List.set_cons_succ, List.set_cons_zero]
              have hS := SB.out _ bw
              have cq := CQ.out
              refine obTakeH (i := 6) (d := 89) (v := .slice dq (nn - 1) (c - 1)) rfl rfl (by kernel_rfl) (by kernel_rfl) (by kernel_rfl) (fun _ _ _ h => h) rfl (fun w' hS => by go_simp) hS ?_
              clear cq
              clear hS
              try simp only [Act.put, List.setIfInBounds_toArray, List.set_cons_succ, List.set_cons_zero]
              refine wpAnyH_all (rs := [7]) (by kernel_rfl) (by simp) (fun y hy => ?_)
              obtain rfl : y = 7 := by simpa using hy
              clear hy
              refine wpOp_step rfl (fun K' hK => ?_)
              refine obB2 _ .append _ _ _ _ rfl _ _ rfl rfl hC1.out ?_
              refine hK _ _ ⟨SB.out _ bC1.out, ?_⟩
              clear hK K'
              have bw := bC1.out
              try simp only [Act.put, List.setIfInBounds_toArray, List.set_cons_succ, List.set_cons_zero]
              refine wpAnyH_all (rs := [10]) (by kernel_rfl) (by simp) (fun y hy => ?_)
              obtain rfl : y = 10 := by simpa using hy
              clear hy
              refine wpOp_step rfl (fun K' hK => ?_)
              refine obB2 _ .append _ _ _ _ rfl _ _ rfl rfl hC2.out ?_
              refine hK _ _ ⟨SB.out _ bC2.out, ?_⟩
              clear hK K'
              try simp only [Act.put, List.setIfInBounds_toArray, List.set_cons_succ, List.set_cons_zero]
              have hS := SB.out _ bC2.out
              refine obTakeH (i := 11) (d := 94) (v := .pointer (some ⟨R, 0, none⟩)) rfl rfl (by kernel_rfl) (by kernel_rfl) (by kernel_rfl) (fun _ _ _ h => h) rfl (fun w' hS => by go_simp) hS ?_
              refine obTakeH (i := 12) (d := 95) (v := .pointer (some ⟨R, 2, none⟩)) rfl rfl (by kernel_rfl) (by kernel_rfl) (by kernel_rfl) (fun _ _ _ h => h) rfl (fun w' hS => by go_simp) hS ?_
              clear hS
              try simp only [Act.put, List.setIfInBounds_toArray, List.set_cons_succ, List.set_cons_zero]
              refine wpAnyH_all (rs := [13]) (by kernel_rfl) (by simp) (fun y hy => ?_)
              obtain rfl : y = 13 := by simpa using hy
              clear hy
              refine wpOp_step rfl (fun K' hK => ?_)
              have y1 := FC.out.1
              have y2 := FC.out.2.1
              have y3 := FC.out.2.2.1
              go_simp
              refine hK _ _ ⟨y3, ?_⟩
              clear hK K' y1 y2 y3
              try simp only [Act.put, List.setIfInBounds_toArray, List.set_cons_succ, List.set_cons_zero]
              refine wpAnyH_done (by kernel_rfl) ?_ 0
              have y4 := FC.out.2.2.2.1
              have y5 := FC.out.2.2.2.2.1
              have E1 := Lib.hid FC.out.2.2.2.2.2
              clear bw hA1 hA2 hB1 hB2 hC1 hC2 bA1 bA2 bB1 bB2 bC1 bC2 FA FB FC SB LD
              go_wp2_with fail
              go_roundg (lackE (stepE g))
              case measure => exact STP.out.2.2
              case rel => exact ⟨stepE g, rfl, STP.out.1, STP.out.2.1, E1.out⟩
            · refine wpOp_step rfl (fun K' hK => ?_)
              have ld := LD.out _ bw
              go_simp
              refine hK _ _ ⟨SB.out _ bw, ?_⟩
              clear hK K' ld
              try simp only [Act.put, List.setIfInBounds_toArray, List.set_cons_succ, List.set_cons_zero]
              have hS := SB.out _ bw
              have cq := CQ.out
              refine obTakeH (i := 6) (d := 89) (v := .slice dq (nn - 1) (c - 1)) rfl rfl (by kernel_rfl) (by kernel_rfl) (by kernel_rfl) (fun _ _ _ h => h) rfl (fun w' hS => by go_simp) hS ?_
              clear cq
              clear hS
              try simp only [Act.put, List.setIfInBounds_toArray, List.set_cons_succ, List.set_cons_zero]
              refine wpAnyH_all (rs := [1]) (by kernel_rfl) (by simp) (fun y hy => ?_)
              obtain rfl : y = 1 := by simpa using hy
              clear hy
              refine wpOp_step rfl (fun K' hK => ?_)
              have bn := bw.alloc bw.size (.cells #[] 58)
              go_simp
              refine hK _ _ ⟨SB.out _ bn, ?_⟩
              clear hK K'
              replace bw := bn
              clear bn
              try simp only [Act.put, List.setIfInBounds_toArray, List.set_cons_succ, List.set_cons_zero]
              refine wpAnyH_all (rs := [7]) (by kernel_rfl) (by simp) (fun y hy => ?_)
              obtain rfl : y = 7 := by simpa using hy
              clear hy
              refine wpOp_step rfl (fun K' hK => ?_)
              refine obB2 _ .append _ _ _ _ rfl _ _ rfl rfl hC1.out ?_
              refine hK _ _ ⟨SB.out _ bC1.out, ?_⟩
              clear hK K'
              have bw := bC1.out
              try simp only [Act.put, List.setIfInBounds_toArray, List.set_cons_succ, List.set_cons_zero]
              refine wpAnyH_all (rs := [10]) (by kernel_rfl) (by simp) (fun y hy => ?_)
              obtain rfl : y = 10 := by simpa using hy
              clear hy
              refine wpOp_step rfl (fun K' hK => ?_)
              refine obB2 _ .append _ _ _ _ rfl _ _ rfl rfl hC2.out ?_
              refine hK _ _ ⟨SB.out _ bC2.out, ?_⟩
              clear hK K'
              try simp only [Act.put, List.setIfInBounds_toArray, List.set_cons_succ, List.set_cons_zero]
              have hS := SB.out _ bC2.out
              refine obTakeH (i := 11) (d := 94) (v := .pointer (some ⟨R, 0, none⟩)) rfl rfl (by kernel_rfl) (by kernel_rfl) (by kernel_rfl) (fun _ _ _ h => h) rfl (fun w' hS => by go_simp) hS ?_
              refine obTakeH (i := 12) (d := 95) (v := .pointer (some ⟨R, 2, none⟩)) rfl rfl (by kernel_rfl) (by kernel_rfl) (by kernel_rfl) (fun _ _ _ h => h) rfl (fun w' hS => by go_simp) hS ?_
              clear hS
              try simp only [Act.put, List.setIfInBounds_toArray, List.set_cons_succ, List.set_cons_zero]
              refine wpAnyH_all (rs := [13]) (by kernel_rfl) (by simp) (fun y hy => ?_)
              obtain rfl : y = 13 := by simpa using hy
              clear hy
              refine wpOp_step rfl (fun K' hK => ?_)
              have y1 := FC.out.1
              have y2 := FC.out.2.1
              have y3 := FC.out.2.2.1
              go_simp
              refine hK _ _ ⟨y3, ?_⟩
              clear hK K' y1 y2 y3
              try simp only [Act.put, List.setIfInBounds_toArray, List.set_cons_succ, List.set_cons_zero]
              refine wpAnyH_done (by kernel_rfl) ?_ 0
              have y4 := FC.out.2.2.2.1
              have y5 := FC.out.2.2.2.2.1
              have E1 := Lib.hid FC.out.2.2.2.2.2
              clear bw hA1 hA2 hB1 hB2 hC1 hC2 bA1 bA2 bB1 bB2 bC1 bC2 FA FB FC SB LD
              go_wp2_with fail
              go_roundg (lackE (stepE g))
              case measure => exact STP.out.2.2
              case rel => exact ⟨stepE g, rfl, STP.out.1, STP.out.2.1, E1.out⟩
      · rw [hsv] at c3 NX
        have wd := wds.out hsv
        rw [wd] at NX
        have N1 := NX
        clear wds wdu wd NX
        go_upto_region 5 with fail
        clear c2 c3
        rename World => wc
        have cx1 := N1.out.x.cell 1 rfl
        have cx2 := N1.out.x.cell 2 rfl
        have tsx := TS.out wc N1.out.k
        replace isx := isx.out
        by_cases hle : (s.size : Int) ≤ due
        · have g1 : decide ((s.size : Int) ≤ due) = true := decide_eq_true hle
          have fx2 := N1.out.x.free 2 (by show 2 < 3; decide)
          have N2 := Lib.hid (N1.out.setx 2 (by show 2 < 3; decide) (.int .i64 (due - (s.size : Int))))
          replace bdu := bdu.out
          replace hle := Lib.hid hle
          clear N1 D3 STP TS
          go_upto_region 8 with fail
          clear cx1 cx2 tsx isx g1 fx2 bdu
          generalize wc.setCell ⟨xb, 2, none⟩ (.int .i64 (due - (s.size : Int))) = wc2 at *
          have cx1 := N2.out.x.cell 1 rfl
          have fx1 := N2.out.x.free 1 (by show 1 < 3; decide)
          have N3 := Lib.hid (N2.out.setx 1 (by show 1 < 3; decide) (.slice da (ln - 1) (lc - 1)))
          have cs := CS.out
          clear N2
          go_upto_region 9 with fail
          clear cx1 fx1 cs CS
          generalize wc2.setCell ⟨xb, 1, none⟩ (.slice da (ln - 1) (lc - 1)) = wc3 at *
          have fr3 := N3.out.h.free 3 (by show 3 < 4; decide)
          have cr3 := N3.out.h.cell 3 rfl
          have N4 := Lib.hid (N3.out.setR true)
          clear N3
          go_upto_region 10 with fail
          clear fr3 cr3
          generalize wc3.setCell ⟨R, 3, none⟩ (.bool true) = wc4 at *
          have cx1 := N4.out.x.cell 1 rfl
          have cx0 := N4.out.x.cell 0 rfl
          have cr2 := N4.out.h.cell 2 rfl
          obtain ⟨lm, hlm⟩ : ∃ m, m = ln - 1 := ⟨_, rfl⟩
          rw [← hlm] at cx1 LT N4
          by_cases h0 : lm = 0
          · have D := D1.out wc4 xb _ hle.out (LT.out.1 h0) N4.out
            obtain ⟨y1, y2, y3, y4, y5⟩ := N4.out.fin (Nat.zero_lt_succ _) (Below.refl _ _) (.slice dq (nn - 1) (c - 1))
            have cy0 := y3.cell 0 rfl
            have V := Lib.hid (VAL.out hle.out)
            have cq := CQ.out
            have cy0' := Lib.hid cy0
            replace D := Lib.hid D
            subst h0
            have cz0 : Hid (((wc4.setCell ⟨R, 2, none⟩ (.slice dq (nn - 1) (c - 1))).setCell ⟨R, 3, none⟩ (.bool false)).cell? ⟨xb, 0, none⟩ = some (.int .i64 e.id)) := by
              have hne : xb ≠ R := by have := N4.out.xn; have := N4.out.rl; omega
              have kk : Kept (fun k => k = R) (wc4.setCell ⟨R, 2, none⟩ (.slice dq (nn - 1) (c - 1))) ((wc4.setCell ⟨R, 2, none⟩ (.slice dq (nn - 1) (c - 1))).setCell ⟨R, 3, none⟩ (.bool false)) := (Kept.refl (fun k => k = R) _).set ⟨R, 3, none⟩ rfl _
              exact (World.cell?_of_block (w := wc4.setCell ⟨R, 2, none⟩ (.slice dq (nn - 1) (c - 1))) (kk.block xb (y3.lt (Nat.zero_lt_succ _)) hne)).trans cy0
            replace cz0 := cz0.out
            clear hlm LT VAL D1 D2 CQ CUT N4 LL y3 y1
            go_wp2_with fail
            go_ret3
            exact ⟨by rw [V.out]; rfl, D.out.1, D.out.2⟩
          · have h1 : decide ((lm : Int) = 0) = false := decide_eq_false (by omega)
            have h2 : ((lm : Int) == 0) = false := by simp; omega
            have h3 : ¬ (lm : Int) = 0 := by omega
            have LTm := LT.out.2 h0
            go_upto_region 13 with fail
            have ND := N4.out.below (Nat.zero_lt_succ _) (drewB _ _)
            have hRC := CUT.out _ _ _ _ ND
            have b0 : Below wc4.heap.size wc4 wc4.drew := drewB _ _
            clear cx1 cx0 cr2 h0 h1 h2 h3 N4 D1 CUT LT
            refine wp_region_held (S := fun w' => w'.cell? ⟨xb, 0, none⟩ = some (.int .i64 e.id) ∧ w'.cell? ⟨xb, 1, none⟩ = some (.slice da lm (lc - 1)) ∧ w'.cell? ⟨xb, 2, none⟩ = some (.int .i64 (due - (s.size : Int)))) (by kernel_rfl) ?_
            change wpAnyH _ .any _ _ _ 12 (Array.replicate 12 false) _ wc4.drew
            generalize wc4.drew = wd at *
            obtain ⟨v2, w2x, hap, bp, zp, op⟩ := ordD kq_ok hRC ({ e with l := lt, d := due - (s.size : Int) }, da, lc - 1) 51 zl.out.1 zl.out.2
            have elm : lt.length = lm := by rw [hlm]; exact LL.out.2.symm
            obtain ⟨a2, c2x, hv2, -⟩ := zp.slice
            obtain ⟨n2x, hn2⟩ : ∃ n, n = ((({ e with l := lt, d := due - (s.size : Int) }, da, lc - 1) : QX) :: ws.drop 1).length := ⟨_, rfl⟩
            rw [← hn2] at hv2
            replace hap : ∀ z, (builtin .append #[51, 51] 51 z #[.slice (some ⟨wd.heap.size, 0, none⟩) 1 1, .slice dq (nn - 1) (c - 1)]).run Try.prog (wd.alloc (.cells #[.int .i64 e.id, .slice da lt.length (lc - 1), .int .i64 (due - (s.size : Int))] 58)) = .ok (.value v2) w2x := hap
            rw [elm, hv2] at hap
            have D := D2.out wd xb _ w2x v2 hle.out LTm ND bp zp op
            obtain ⟨y1, y2, y3, -, -⟩ := ND.fin (Nat.zero_lt_succ _) bp v2
            rw [hv2] at D y3
            have SB : Hid (∀ w', Below wd.heap.size wd w' → w'.cell? ⟨xb, 0, none⟩ = some (.int .i64 e.id) ∧ w'.cell? ⟨xb, 1, none⟩ = some (.slice da lm (lc - 1)) ∧ w'.cell? ⟨xb, 2, none⟩ = some (.int .i64 (due - (s.size : Int)))) := fun w' b => by
              have := (ND.below (Nat.zero_lt_succ _) b).x
              exact ⟨this.cell 0 rfl, this.cell 1 rfl, this.cell 2 rfl⟩
            have LD : Hid (∀ w', Below wd.heap.size wd w' → w'.cell? ⟨R, 2, none⟩ = some (.slice (some ⟨g0, o, none⟩) nn c)) := fun w' b => (ND.below (Nat.zero_lt_succ _) b).h.cell 2 rfl
            have FD := Lib.hid (And.intro y1 (And.intro y2 (And.intro (And.intro (y3.cell 0 rfl) (And.intro (y3.cell 1 rfl) (y3.cell 2 rfl))) D)))
            have V := Lib.hid (VAL.out hle.out)
            replace hap := Lib.hid hap
            replace bp := Lib.hid bp
            clear D y1 y2 y3 zp op hv2 hn2 elm hlm hRC ND b0 LL D2 VAL LTm zl
            have bw := Below.refl wd.heap.size wd
            have hS := SB.out wd bw
            refine obTakeH (i := 0) (d := 69) (v := .pointer (some ⟨R, 0, none⟩)) rfl rfl (by kernel_rfl) (by kernel_rfl) (by kernel_rfl) (fun _ _ _ h => h) rfl (fun w' hS => by obtain ⟨s1, s2, s3⟩ := hS; go_simp) hS ?_
            refine obTakeH (i := 1) (d := 70) (v := .agg #[.int .i64 e.id, .slice da lm (lc - 1), .int .i64 (due - (s.size : Int))]) rfl rfl (by kernel_rfl) (by kernel_rfl) (by kernel_rfl) (fun _ _ _ h => h) rfl (fun w' hS => by obtain ⟨s1, s2, s3⟩ := hS; go_simp) hS ?_
            refine obTakeH (i := 3) (d := 72) (v := .pointer (some ⟨R, 0, none⟩)) rfl rfl (by kernel_rfl) (by kernel_rfl) (by kernel_rfl) (fun _ _ _ h => h) rfl (fun w' hS => by obtain ⟨s1, s2, s3⟩ := hS; go_simp) hS ?_
            refine obTakeH (i := 4) (d := 73) (v := .pointer (some ⟨R, 0, none⟩)) rfl rfl (by kernel_rfl) (by kernel_rfl) (by kernel_rfl) (fun _ _ _ h => h) rfl (fun w' hS => by obtain ⟨s1, s2, s3⟩ := hS; go_simp) hS ?_
            refine obTakeH (i := 5) (d := 74) (v := .pointer (some ⟨R, 2, none⟩)) rfl rfl (by kernel_rfl) (by kernel_rfl) (by kernel_rfl) (fun _ _ _ h => h) rfl (fun w' hS => by obtain ⟨s1, s2, s3⟩ := hS; go_simp) hS ?_
            clear hS
            try simp only [Act.put, List.setIfInBounds_toArray, List.set_cons_succ, List.set_cons_zero]
            refine wpAnyH_all (rs := [2, 6]) (by kernel_rfl) (by simp) (fun y hy => ?_)
            have hy2 : y = 2 ∨ y = 6 := by simpa using hy
            clear hy
            rcases hy2 with rfl | rfl
            · refine wpOp_step rfl (fun K' hK => ?_)
              have bn := bw.alloc bw.size (.cells #[.int .i64 e.id, .slice da lm (lc - 1), .int .i64 (due - (s.size : Int))] 58)
              go_simp
              refine hK _ _ ⟨SB.out _ bn, ?_⟩
              clear hK K'
              replace bw := bn
              clear bn
              try simp only [Act.put, List.setIfInBounds_toArray, List.set_cons_succ, List.set_cons_zero]
              refine wpAnyH_all (rs := [6]) (by kernel_rfl) (by simp) (fun y hy => ?_)
              obtain rfl : y = 6 := by simpa using hy
              clear hy
              refine wpOp_step rfl (fun K' hK => ?_)
              have ld := LD.out _ bw
              go_simp
              refine hK _ _ ⟨SB.out _ bw, ?_⟩
              clear hK K' ld
              try simp only [Act.put, List.setIfInBounds_toArray, List.set_cons_succ, List.set_cons_zero]
              have hS := SB.out _ bw
              have cq := CQ.out
              refine obTakeH (i := 7) (d := 76) (v := .slice dq (nn - 1) (c - 1)) rfl rfl (by kernel_rfl) (by kernel_rfl) (by kernel_rfl) (fun _ _ _ h => h) rfl (fun w' hS => by go_simp) hS ?_
              clear hS cq
              try simp only [Act.put, List.setIfInBounds_toArray, List.set_cons_succ, List.set_cons_zero]
              refine wpAnyH_all (rs := [8]) (by kernel_rfl) (by simp) (fun y hy => ?_)
              obtain rfl : y = 8 := by simpa using hy
              clear hy
              refine wpOp_step rfl (fun K' hK => ?_)
              refine obB2 _ .append _ _ _ _ rfl _ _ rfl rfl hap.out ?_
              refine hK _ _ ⟨SB.out _ bp.out, ?_⟩
              clear hK K'
              try simp only [Act.put, List.setIfInBounds_toArray, List.set_cons_succ, List.set_cons_zero]
              have hS := SB.out _ bp.out
              refine obTakeH (i := 9) (d := 78) (v := .pointer (some ⟨R, 0, none⟩)) rfl rfl (by kernel_rfl) (by kernel_rfl) (by kernel_rfl) (fun _ _ _ h => h) rfl (fun w' hS => by go_simp) hS ?_
              refine obTakeH (i := 10) (d := 79) (v := .pointer (some ⟨R, 2, none⟩)) rfl rfl (by kernel_rfl) (by kernel_rfl) (by kernel_rfl) (fun _ _ _ h => h) rfl (fun w' hS => by go_simp) hS ?_
              clear hS
              try simp only [Act.put, List.setIfInBounds_toArray, List.set_cons_succ, List.set_cons_zero]
              refine wpAnyH_all (rs := [11]) (by kernel_rfl) (by simp) (fun y hy => ?_)
              obtain rfl : y = 11 := by simpa using hy
              clear hy
              refine wpOp_step rfl (fun K' hK => ?_)
              have y1 := FD.out.1
              have y2 := FD.out.2.1
              have y3 := FD.out.2.2.1
              go_simp
              refine hK _ _ ⟨y3, ?_⟩
              clear hK K' y1 y2
              try simp only [Act.put, List.setIfInBounds_toArray, List.set_cons_succ, List.set_cons_zero]
              refine wpAnyH_done (by kernel_rfl) ?_ 0
              have cz0 := y3.1
              have E1 := Lib.hid FD.out.2.2.2
              clear bw y3 FD SB LD hap bp CQ
              go_wp2_with fail
              go_ret3
              exact ⟨by rw [V.out]; rfl, E1.out.1, E1.out.2⟩
            · refine wpOp_step rfl (fun K' hK => ?_)
              have ld := LD.out _ bw
              go_simp
              refine hK _ _ ⟨SB.out _ bw, ?_⟩
              clear hK K' ld
              try simp only [Act.put, List.setIfInBounds_toArray, List.set_cons_succ, List.set_cons_zero]
              have hS := SB.out _ bw
              have cq := CQ.out
              refine obTakeH (i := 7) (d := 76) (v := .slice dq (nn - 1) (c - 1)) rfl rfl (by kernel_rfl) (by kernel_rfl) (by kernel_rfl) (fun _ _ _ h => h) rfl (fun w' hS => by go_simp) hS ?_
              clear hS cq
              try simp only [Act.put, List.setIfInBounds_toArray, List.set_cons_succ, List.set_cons_zero]
              refine wpAnyH_all (rs := [2]) (by kernel_rfl) (by simp) (fun y hy => ?_)
              obtain rfl : y = 2 := by simpa using hy
              clear hy
              refine wpOp_step rfl (fun K' hK => ?_)
              have bn := bw.alloc bw.size (.cells #[.int .i64 e.id, .slice da lm (lc - 1), .int .i64 (due - (s.size : Int))] 58)
              go_simp
              refine hK _ _ ⟨SB.out _ bn, ?_⟩
              clear hK K'
              replace bw := bn
              clear bn
              try simp only [Act.put, List.setIfInBounds_toArray, List.set_cons_succ, List.set_cons_zero]
              refine wpAnyH_all (rs := [8]) (by kernel_rfl) (by simp) (fun y hy => ?_)
              obtain rfl : y = 8 := by simpa using hy
              clear hy
              refine wpOp_step rfl (fun K' hK => ?_)
              refine obB2 _ .append _ _ _ _ rfl _ _ rfl rfl hap.out ?_
              refine hK _ _ ⟨SB.out _ bp.out, ?_⟩
              clear hK K'
              try simp only [Act.put, List.setIfInBounds_toArray, List.set_cons_succ, List.set_cons_zero]
              have hS := SB.out _ bp.out
              refine obTakeH (i := 9) (d := 78) (v := .pointer (some ⟨R, 0, none⟩)) rfl rfl (by kernel_rfl) (by kernel_rfl) (by kernel_rfl) (fun _ _ _ h => h) rfl (fun w' hS => by go_simp) hS ?_
              refine obTakeH (i := 10) (d := 79) (v := .pointer (some ⟨R, 2, none⟩)) rfl rfl (by kernel_rfl) (by kernel_rfl) (by kernel_rfl) (fun _ _ _ h => h) rfl (fun w' hS => by go_simp) hS ?_
              clear hS
              try simp only [Act.put, List.setIfInBounds_toArray, List.set_cons_succ, List.set_cons_zero]
              refine wpAnyH_all (rs := [11]) (by kernel_rfl) (by simp) (fun y hy => ?_)
              obtain rfl : y = 11 := by simpa using hy
              clear hy
              refine wpOp_step rfl (fun K' hK => ?_)
              have y1 := FD.out.1
              have y2 := FD.out.2.1
              have y3 := FD.out.2.2.1
              go_simp
              refine hK _ _ ⟨y3, ?_⟩
              clear hK K' y1 y2
              try simp only [Act.put, List.setIfInBounds_toArray, List.set_cons_succ, List.set_cons_zero]
              refine wpAnyH_done (by kernel_rfl) ?_ 0
              have cz0 := y3.1
              have E1 := Lib.hid FD.out.2.2.2
              clear bw y3 FD SB LD hap bp CQ
              go_wp2_with fail
              go_ret3
              exact ⟨by rw [V.out]; rfl, E1.out.1, E1.out.2⟩
        · have g1 : decide ((s.size : Int) ≤ due) = false := decide_eq_false hle
          replace STP := Lib.hid (STP.out hle)
          have D3' := D3.out
          go_upto_region 15 with fail
          have ND := N1.out.below (Nat.zero_lt_succ _) (drewB _ _)
          have hRC := CUT.out _ _ _ _ ND
          clear cx1 cx2 tsx isx g1 D1 D2 CUT VAL CS TS bdu D3
          refine wp_region_held (S := fun w' => w'.cell? ⟨xb, 0, none⟩ = some (.int .i64 e.id) ∧ w'.cell? ⟨xb, 1, none⟩ = some (.slice (some ⟨gl, ol, none⟩) ln lc) ∧ w'.cell? ⟨xb, 2, none⟩ = some (.int .i64 due)) (by kernel_rfl) ?_
          change wpAnyH _ .any _ _ _ 14 (Array.replicate 14 false) _ wc.drew
          generalize wc.drew = wd at *
          have SB : Hid (∀ w', Below wd.heap.size wd w' → w'.cell? ⟨xb, 0, none⟩ = some (.int .i64 e.id) ∧ w'.cell? ⟨xb, 1, none⟩ = some (.slice (some ⟨gl, ol, none⟩) ln lc) ∧ w'.cell? ⟨xb, 2, none⟩ = some (.int .i64 due)) := fun w' b => by
            have := (ND.below (Nat.zero_lt_succ _) b).x
            exact ⟨this.cell 0 rfl, this.cell 1 rfl, this.cell 2 rfl⟩
          have LD : Hid (∀ w', Below wd.heap.size wd w' → w'.cell? ⟨R, 2, none⟩ = some (.slice (some ⟨g0, o, none⟩) nn c)) := fun w' b => (ND.below (Nat.zero_lt_succ _) b).h.cell 2 rfl
          have eln : e.l.length = ln := LL.out.1.symm
          obtain ⟨vA1, wA1, hA1, bA1, vA2, wA2, hA2, bA2, zA, oA⟩ := ordA kq_ok hRC ({ e with d := due }, some ⟨gl, ol, none⟩, lc) 51 zl.out.1 zl.out.2
          replace hA1 : ∀ z, (builtin .append #[51, 51] 51 z #[.slice (some ⟨wd.heap.size, 0, none⟩) 0 0, .slice dq (nn - 1) (c - 1)]).run Try.prog (wd.alloc (.cells #[] 58)) = .ok (.value vA1) wA1 := hA1

          replace hA1 := Lib.hid hA1
          have DA := D3' wd xb _ _ wA2 vA2 hle ND bA2 zA oA
          obtain ⟨y1, y2, y3, y4, y5⟩ := ND.fin (Nat.zero_lt_succ _) bA2 vA2
          obtain ⟨aA, cA, hvA, -⟩ := zA.slice
          obtain ⟨nA, hnA⟩ : ∃ n, n = (ws.drop 1 ++ [(({ e with d := due }, some ⟨gl, ol, none⟩, lc) : QX)]).length := ⟨_, rfl⟩
          rw [← hnA] at hvA
          rw [hvA] at DA y3 y4 y5 hA2
          have FA := Lib.hid (And.intro y1 (And.intro y2 (And.intro (And.intro (y3.cell 0 rfl) (And.intro (y3.cell 1 rfl) (y3.cell 2 rfl))) (And.intro y4 (And.intro y5 DA)))))
          replace hA2 : ∀ z, (builtin .append #[51, 51] 51 z #[vA1, .slice (some ⟨wA1.heap.size, 0, none⟩) 1 1]).run Try.prog (wA1.alloc (.cells #[.int .i64 e.id, .slice (some ⟨gl, ol, none⟩) e.l.length lc, .int .i64 due] 58)) = .ok (.value (.slice aA nA cA)) wA2 := hA2
          rw [eln] at hA2
          replace hA2 := Lib.hid hA2
          clear DA zA oA hvA hnA y1 y2 y3 y4 y5
          replace bA1 := Lib.hid bA1
          replace bA2 := Lib.hid bA2
          obtain ⟨vB1, wB1, hB1, bB1, vB2, wB2, hB2, bB2, zB, oB⟩ := ordB kq_ok hRC ({ e with d := due }, some ⟨gl, ol, none⟩, lc) 51 zl.out.1 zl.out.2
          replace hB1 : ∀ z, (builtin .append #[51, 51] 51 z #[.slice (some ⟨wd.heap.size, 0, none⟩) 0 0, .slice dq (nn - 1) (c - 1)]).run Try.prog ((wd.alloc (.cells #[] 58)).alloc (.cells #[.int .i64 e.id, .slice (some ⟨gl, ol, none⟩) e.l.length lc, .int .i64 due] 58)) = .ok (.value vB1) wB1 := hB1
          rw [eln] at hB1
          replace hB1 := Lib.hid hB1
          have DB := D3' wd xb _ _ wB2 vB2 hle ND bB2 zB oB
          obtain ⟨y1, y2, y3, y4, y5⟩ := ND.fin (Nat.zero_lt_succ _) bB2 vB2
          obtain ⟨aB, cB, hvB, -⟩ := zB.slice
          obtain ⟨nB, hnB⟩ : ∃ n, n = (ws.drop 1 ++ [(({ e with d := due }, some ⟨gl, ol, none⟩, lc) : QX)]).length := ⟨_, rfl⟩
          rw [← hnB] at hvB
          rw [hvB] at DB y3 y4 y5 hB2
          have FB := Lib.hid (And.intro y1 (And.intro y2 (And.intro (And.intro (y3.cell 0 rfl) (And.intro (y3.cell 1 rfl) (y3.cell 2 rfl))) (And.intro y4 (And.intro y5 DB)))))
          replace hB2 : ∀ z, (builtin .append #[51, 51] 51 z #[vB1, .slice (some ⟨wd.heap.size + 1, 0, none⟩) 1 1]).run Try.prog wB1 = .ok (.value (.slice aB nB cB)) wB2 := hB2

          replace hB2 := Lib.hid hB2
          clear DB zB oB hvB hnB y1 y2 y3 y4 y5
          replace bB1 := Lib.hid bB1
          replace bB2 := Lib.hid bB2
          obtain ⟨vC1, wC1, hC1, bC1, vC2, wC2, hC2, bC2, zC, oC⟩ := ordC kq_ok hRC ({ e with d := due }, some ⟨gl, ol, none⟩, lc) 51 zl.out.1 zl.out.2
          replace hC1 : ∀ z, (builtin .append #[51, 51] 51 z #[.slice (some ⟨wd.heap.size + 1, 0, none⟩) 0 0, .slice dq (nn - 1) (c - 1)]).run Try.prog ((wd.alloc (.cells #[.int .i64 e.id, .slice (some ⟨gl, ol, none⟩) e.l.length lc, .int .i64 due] 58)).alloc (.cells #[] 58)) = .ok (.value vC1) wC1 := hC1
          rw [eln] at hC1
          replace hC1 := Lib.hid hC1
          have DC := D3' wd xb _ _ wC2 vC2 hle ND bC2 zC oC
          obtain ⟨y1, y2, y3, y4, y5⟩ := ND.fin (Nat.zero_lt_succ _) bC2 vC2
          obtain ⟨aC, cC, hvC, -⟩ := zC.slice
          obtain ⟨nC, hnC⟩ : ∃ n, n = (ws.drop 1 ++ [(({ e with d := due }, some ⟨gl, ol, none⟩, lc) : QX)]).length := ⟨_, rfl⟩
          rw [← hnC] at hvC
          rw [hvC] at DC y3 y4 y5 hC2
          have FC := Lib.hid (And.intro y1 (And.intro y2 (And.intro (And.intro (y3.cell 0 rfl) (And.intro (y3.cell 1 rfl) (y3.cell 2 rfl))) (And.intro y4 (And.intro y5 DC)))))
          replace hC2 : ∀ z, (builtin .append #[51, 51] 51 z #[vC1, .slice (some ⟨wd.heap.size, 0, none⟩) 1 1]).run Try.prog wC1 = .ok (.value (.slice aC nC cC)) wC2 := hC2

          replace hC2 := Lib.hid hC2
          clear DC zC oC hvC hnC y1 y2 y3 y4 y5
          replace bC1 := Lib.hid bC1
          replace bC2 := Lib.hid bC2
          clear D3' hRC ND eln LL zl hle
          have bw := Below.refl wd.heap.size wd
          have hS := SB.out wd bw
          refine obTakeH (i := 0) (d := 83) (v := .pointer (some ⟨R, 0, none⟩)) rfl rfl (by kernel_rfl) (by kernel_rfl) (by kernel_rfl) (fun _ _ _ h => h) rfl (fun w' hS => by obtain ⟨s1, s2, s3⟩ := hS; go_simp) hS ?_
          refine obTakeH (i := 2) (d := 85) (v := .pointer (some ⟨R, 0, none⟩)) rfl rfl (by kernel_rfl) (by kernel_rfl) (by kernel_rfl) (fun _ _ _ h => h) rfl (fun w' hS => by obtain ⟨s1, s2, s3⟩ := hS; go_simp) hS ?_
          refine obTakeH (i := 3) (d := 86) (v := .pointer (some ⟨R, 0, none⟩)) rfl rfl (by kernel_rfl) (by kernel_rfl) (by kernel_rfl) (fun _ _ _ h => h) rfl (fun w' hS => by obtain ⟨s1, s2, s3⟩ := hS; go_simp) hS ?_
          refine obTakeH (i := 4) (d := 87) (v := .pointer (some ⟨R, 2, none⟩)) rfl rfl (by kernel_rfl) (by kernel_rfl) (by kernel_rfl) (fun _ _ _ h => h) rfl (fun w' hS => by obtain ⟨s1, s2, s3⟩ := hS; go_simp) hS ?_
          refine obTakeH (i := 8) (d := 91) (v := .agg #[.int .i64 e.id, .slice (some ⟨gl, ol, none⟩) ln lc, .int .i64 due]) rfl rfl (by kernel_rfl) (by kernel_rfl) (by kernel_rfl) (fun _ _ _ h => h) rfl (fun w' hS => by obtain ⟨s1, s2, s3⟩ := hS; go_simp) hS ?_
          clear hS
          try simp only [Act.put, List.setIfInBounds_toArray, List.set_cons_succ, List.set_cons_zero]
          refine wpAnyH_all (rs := [1, 5, 9]) (by kernel_rfl) (by simp) (fun y hy => ?_)
          have hy2 : y = 1 ∨ y = 5 ∨ y = 9 := by simpa using hy
          clear hy
          rcases hy2 with rfl | rfl | rfl
          · refine wpOp_step rfl (fun K' hK => ?_)
            have bn := bw.alloc bw.size (.cells #[] 58)
            go_simp
            refine hK _ _ ⟨SB.out _ bn, ?_⟩
            clear hK K'
            replace bw := bn
            clear bn
            try simp only [Act.put, List.setIfInBounds_toArray, List.set_cons_succ, List.set_cons_zero]
            refine wpAnyH_all (rs := [5, 9]) (by kernel_rfl) (by simp) (fun y hy => ?_)
            have hy2 : y = 5 ∨ y = 9 := by simpa using hy
            clear hy
            rcases hy2 with rfl | rfl
            · refine wpOp_step rfl (fun K' hK => ?_)
              have ld := LD.out _ bw
              go_simp
              refine hK _ _ ⟨SB.out _ bw, ?_⟩
              clear hK K' ld
              try simp only [Act.put, List.setIfInBounds_toArray, List.set_cons_succ, List.set_cons_zero]
              have hS := SB.out _ bw
              have cq := CQ.out
              refine obTakeH (i := 6) (d := 89) (v := .slice dq (nn - 1) (c - 1)) rfl rfl (by kernel_rfl) (by kernel_rfl) (by kernel_rfl) (fun _ _ _ h => h) rfl (fun w' hS => by go_simp) hS ?_
              clear cq
              clear hS
              try simp only [Act.put, List.setIfInBounds_toArray, List.set_cons_succ, List.set_cons_zero]
              refine wpAnyH_all (rs := [7, 9]) (by kernel_rfl) (by simp) (fun y hy => ?_)
              have hy2 : y = 7 ∨ y = 9 := by simpa using hy
              clear hy
              rcases hy2 with rfl | rfl
              · refine wpOp_step rfl (fun K' hK => ?_)
                refine obB2 _ .append _ _ _ _ rfl _ _ rfl rfl hA1.out ?_
                refine hK _ _ ⟨SB.out _ bA1.out, ?_⟩
                clear hK K'
                have bw := bA1.out
                try simp only [Act.put, List.setIfInBounds_toArray, List.set_cons_succ, List.set_cons_zero]
                refine wpAnyH_all (rs := [9]) (by kernel_rfl) (by simp) (fun y hy => ?_)
                obtain rfl : y = 9 := by simpa using hy
                clear hy
                refine wpOp_step rfl (fun K' hK => ?_)
                have bn := bw.alloc bw.size (.cells #[.int .i64 e.id, .slice (some ⟨gl, ol, none⟩) ln lc, .int .i64 due] 58)
                go_simp
                refine hK _ _ ⟨SB.out _ bn, ?_⟩
                clear hK K'
                replace bw := bn
                clear bn
                try simp only [Act.put, List.setIfInBounds_toArray, List.set_cons_succ, List.set_cons_zero]
                refine wpAnyH_all (rs := [10]) (by kernel_rfl) (by simp) (fun y hy => ?_)
                obtain rfl : y = 10 := by simpa using hy
                clear hy
                refine wpOp_step rfl (fun K' hK => ?_)
                refine obB2 _ .append _ _ _ _ rfl _ _ rfl rfl hA2.out ?_
                refine hK _ _ ⟨SB.out _ bA2.out, ?_⟩
                clear hK K'
                try simp only [Act.put, List.setIfInBounds_toArray, List.set_cons_succ, List.set_cons_zero]
                have hS := SB.out _ bA2.out
                refine obTakeH (i := 11) (d := 94) (v := .pointer (some ⟨R, 0, none⟩)) rfl rfl (by kernel_rfl) (by kernel_rfl) (by kernel_rfl) (fun _ _ _ h => h) rfl (fun w' hS => by go_simp) hS ?_
                refine obTakeH (i := 12) (d := 95) (v := .pointer (some ⟨R, 2, none⟩)) rfl rfl (by kernel_rfl) (by kernel_rfl) (by kernel_rfl) (fun _ _ _ h => h) rfl (fun w' hS => by go_simp) hS ?_
                clear hS
                try simp only [Act.put, List.setIfInBounds_toArray, List.set_cons_succ, List.set_cons_zero]
                refine wpAnyH_all (rs := [13]) (by kernel_rfl) (by simp) (fun y hy => ?_)
                obtain rfl : y = 13 := by simpa using hy
                clear hy
                refine wpOp_step rfl (fun K' hK => ?_)
                have y1 := FA.out.1
                have y2 := FA.out.2.1
                have y3 := FA.out.2.2.1
                go_simp
                refine hK _ _ ⟨y3, ?_⟩
                clear hK K' y1 y2 y3
                try simp only [Act.put, List.setIfInBounds_toArray, List.set_cons_succ, List.set_cons_zero]
                refine wpAnyH_done (by kernel_rfl) ?_ 0
                have y4 := FA.out.2.2.2.1
                have y5 := FA.out.2.2.2.2.1
                have E1 := Lib.hid FA.out.2.2.2.2.2
                clear bw hA1 hA2 hB1 hB2 hC1 hC2 bA1 bA2 bB1 bB2 bC1 bC2 FA FB FC SB LD
                go_wp2_with fail
                go_roundg (lackE (stepE g))
                case measure => exact STP.out.2.2
                case rel => exact ⟨stepE g, rfl, STP.out.1, STP.out.2.1, E1.out⟩
              · refine wpOp_step rfl (fun K' hK => ?_)
                have bn := bw.alloc bw.size (.cells #[.int .i64 e.id, .slice (some ⟨gl, ol, none⟩) ln lc, .int .i64 due] 58)
                go_simp
                refine hK _ _ ⟨SB.out _ bn, ?_⟩
                clear hK K'
                replace bw := bn
                clear bn
                try simp only [Act.put, List.setIfInBounds_toArray, List.set_cons_succ, List.set_cons_zero]
                refine wpAnyH_all (rs := [7]) (by kernel_rfl) (by simp) (fun y hy => ?_)
                obtain rfl : y = 7 := by simpa using hy
                clear hy
                refine wpOp_step rfl (fun K' hK => ?_)
                refine obB2 _ .append _ _ _ _ rfl _ _ rfl rfl hB1.out ?_
                refine hK _ _ ⟨SB.out _ bB1.out, ?_⟩
                clear hK K'
                have bw := bB1.out
                try simp only [Act.put, List.setIfInBounds_toArray, List.set_cons_succ, List.set_cons_zero]
                refine wpAnyH_all (rs := [10]) (by kernel_rfl) (by simp) (fun y hy => ?_)
                obtain rfl : y = 10 := by simpa using hy
                clear hy
                refine wpOp_step rfl (fun K' hK => ?_)
                refine obB2 _ .append _ _ _ _ rfl _ _ rfl rfl hB2.out ?_
                refine hK _ _ ⟨SB.out _ bB2.out, ?_⟩
                clear hK K'
                try simp only [Act.put, List.setIfInBounds_toArray, List.set_cons_succ, List.set_cons_zero]
                have hS := SB.out _ bB2.out
                refine obTakeH (i := 11) (d := 94) (v := .pointer (some ⟨R, 0, none⟩)) rfl rfl (by kernel_rfl) (by kernel_rfl) (by kernel_rfl) (fun _ _ _ h => h) rfl (fun w' hS => by go_simp) hS ?_
                refine obTakeH (i := 12) (d := 95) (v := .pointer (some ⟨R, 2, none⟩)) rfl rfl (by kernel_rfl) (by kernel_rfl) (by kernel_rfl) (fun _ _ _ h => h) rfl (fun w' hS => by go_simp) hS ?_
                clear hS
                try simp only [Act.put, List.setIfInBounds_toArray, List.set_cons_succ, List.set_cons_zero]
                refine wpAnyH_all (rs := [13]) (by kernel_rfl) (by simp) (fun y hy => ?_)
                obtain rfl : y = 13 := by simpa using hy
                clear hy
                refine wpOp_step rfl (fun K' hK => ?_)
                have y1 := FB.out.1
                have y2 := FB.out.2.1
                have y3 := FB.out.2.2.1
                go_simp
                refine hK _ _ ⟨y3, ?_⟩
                clear hK K' y1 y2 y3
                try simp only [Act.put, List.setIfInBounds_toArray, List.set_cons_succ, List.set_cons_zero]
                refine wpAnyH_done (by kernel_rfl) ?_ 0
                have y4 := FB.out.2.2.2.1
                have y5 := FB.out.2.2.2.2.1
                have E1 := Lib.hid FB.out.2.2.2.2.2
                clear bw hA1 hA2 hB1 hB2 hC1 hC2 bA1 bA2 bB1 bB2 bC1 bC2 FA FB FC SB LD
                go_wp2_with fail
                go_roundg (lackE (stepE g))
                case measure => exact STP.out.2.2
                case rel => exact ⟨stepE g, rfl, STP.out.1, STP.out.2.1, E1.out⟩
            · refine wpOp_step rfl (fun K' hK => ?_)
              have bn := bw.alloc bw.size (.cells #[.int .i64 e.id, .slice (some ⟨gl, ol, none⟩) ln lc, .int .i64 due] 58)
              go_simp
              refine hK _ _ ⟨SB.out _ bn, ?_⟩
              clear hK K'
              replace bw := bn
              clear bn
              try simp only [Act.put, List.setIfInBounds_toArray, List.set_cons_succ, List.set_cons_zero]
              refine wpAnyH_all (rs := [5]) (by kernel_rfl) (by simp) (fun y hy => ?_)
              obtain rfl : y = 5 := by simpa using hy
              clear hy
              refine wpOp_step rfl (fun K' hK => ?_)
              have ld := LD.out _ bw
              go_simp
              refine hK _ _ ⟨SB.out _ bw, ?_⟩
              clear hK K' ld
              try simp only [Act.put, List.setIfInBounds_toArray, List.set_cons_succ, List.set_cons_zero]
              have hS := SB.out _ bw
              have cq := CQ.out
              refine obTakeH (i := 6) (d := 89) (v := .slice dq (nn - 1) (c - 1)) rfl rfl (by kernel_rfl) (by kernel_rfl) (by kernel_rfl) (fun _ _ _ h => h) rfl (fun w' hS => by go_simp) hS ?_
              clear cq
              clear hS
              try simp only [Act.put, List.setIfInBounds_toArray, List.set_cons_succ, List.set_cons_zero]
              refine wpAnyH_all (rs := [7]) (by kernel_rfl) (by simp) (fun y hy => ?_)
              obtain rfl : y = 7 := by simpa using hy
              clear hy
              refine wpOp_step rfl (fun K' hK => ?_)
              refine obB2 _ .append _ _ _ _ rfl _ _ rfl rfl hB1.out ?_
              refine hK _ _ ⟨SB.out _ bB1.out, ?_⟩
              clear hK K'
              have bw := bB1.out
              try simp only [Act.put, List.setIfInBounds_toArray, List.set_cons_succ, List.set_cons_zero]
              refine wpAnyH_all (rs := [10]) (by kernel_rfl) (by simp) (fun y hy => ?_)
              obtain rfl : y = 10 := by simpa using hy
              clear hy
              refine wpOp_step rfl (fun K' hK => ?_)
              refine obB2 _ .append _ _ _ _ rfl _ _ rfl rfl hB2.out ?_
              refine hK _ _ ⟨SB.out _ bB2.out, ?_⟩
              clear hK K'
              try simp only [Act.put, List.setIfInBounds_toArray, List.set_cons_succ, List.set_cons_zero]
              have hS := SB.out _ bB2.out
              refine obTakeH (i := 11) (d := 94) (v := .pointer (some ⟨R, 0, none⟩)) rfl rfl (by kernel_rfl) (by kernel_rfl) (by kernel_rfl) (fun _ _ _ h => h) rfl (fun w' hS => by go_simp) hS ?_
              refine obTakeH (i := 12) (d := 95) (v := .pointer (some ⟨R, 2, none⟩)) rfl rfl (by kernel_rfl) (by kernel_rfl) (by kernel_rfl) (fun _ _ _ h => h) rfl (fun w' hS => by go_simp) hS ?_
              clear hS
              try simp only [Act.put, List.setIfInBounds_toArray, List.set_cons_succ, List.set_cons_zero]
              refine wpAnyH_all (rs := [13]) (by kernel_rfl) (by simp) (fun y hy => ?_)
              obtain rfl : y = 13 := by simpa using hy
              clear hy
              refine wpOp_step rfl (fun K' hK => ?_)
              have y1 := FB.out.1
              have y2 := FB.out.2.1
              have y3 := FB.out.2.2.1
              go_simp
              refine hK _ _ ⟨y3, ?_⟩
              clear hK K' y1 y2 y3
              try simp only [Act.put, List.setIfInBounds_toArray, List.set_cons_succ, List.set_cons_zero]
              refine wpAnyH_done (by kernel_rfl) ?_ 0
              have y4 := FB.out.2.2.2.1
              have y5 := FB.out.2.2.2.2.1
              have E1 := Lib.hid FB.out.2.2.2.2.2
              clear bw hA1 hA2 hB1 hB2 hC1 hC2 bA1 bA2 bB1 bB2 bC1 bC2 FA FB FC SB LD
              go_wp2_with fail
              go_roundg (lackE (stepE g))
              case measure => exact STP.out.2.2
              case rel => exact ⟨stepE g, rfl, STP.out.1, STP.out.2.1, E1.out⟩
          · refine wpOp_step rfl (fun K' hK => ?_)
            have ld := LD.out _ bw
            go_simp
            refine hK _ _ ⟨SB.out _ bw, ?_⟩
            clear hK K' ld
            try simp only [Act.put, List.setIfInBounds_toArray, List.set_cons_succ, List.set_cons_zero]
            have hS := SB.out _ bw
            have cq := CQ.out
            refine obTakeH (i := 6) (d := 89) (v := .slice dq (nn - 1) (c - 1)) rfl rfl (by kernel_rfl) (by kernel_rfl) (by kernel_rfl) (fun _ _ _ h => h) rfl (fun w' hS => by go_simp) hS ?_
            clear cq
            clear hS
            try simp only [Act.put, List.setIfInBounds_toArray, List.set_cons_succ, List.set_cons_zero]
            refine wpAnyH_all (rs := [1, 9]) (by kernel_rfl) (by simp) (fun y hy => ?_)
            have hy2 : y = 1 ∨ y = 9 := by simpa using hy
            clear hy
            rcases hy2 with rfl | rfl
            · refine wpOp_step rfl (fun K' hK => ?_)
              have bn := bw.alloc bw.size (.cells #[] 58)
              go_simp
              refine hK _ _ ⟨SB.out _ bn, ?_⟩
              clear hK K'
              replace bw := bn
              clear bn
              try simp only [Act.put, List.setIfInBounds_toArray, List.set_cons_succ, List.set_cons_zero]
              refine wpAnyH_all (rs := [7, 9]) (by kernel_rfl) (by simp) (fun y hy => ?_)
              have hy2 : y = 7 ∨ y = 9 := by simpa using hy
              clear hy
              rcases hy2 with rfl | rfl
              · refine wpOp_step rfl (fun K' hK => ?_)
                refine obB2 _ .append _ _ _ _ rfl _ _ rfl rfl hA1.out ?_
                refine hK _ _ ⟨SB.out _ bA1.out, ?_⟩
                clear hK K'
                have bw := bA1.out
                try simp only [Act.put, List.setIfInBounds_toArray, List.set_cons_succ, List.set_cons_zero]
                refine wpAnyH_all (rs := [9]) (by kernel_rfl) (by simp) (fun y hy => ?_)
                obtain rfl : y = 9 := by simpa using hy
                clear hy
                refine wpOp_step rfl (fun K' hK => ?_)
                have bn := bw.alloc bw.size (.cells #[.int .i64 e.id, .slice (some ⟨gl, ol, none⟩) ln lc, .int .i64 due] 58)
                go_simp
                refine hK _ _ ⟨SB.out _ bn, ?_⟩
                clear hK K'
                replace bw := bn
                clear bn
                try simp only [Act.put, List.setIfInBounds_toArray, List.set_cons_succ, List.set_cons_zero]
                refine wpAnyH_all (rs := [10]) (by kernel_rfl) (by simp) (fun y hy => ?_)
                obtain rfl : y = 10 := by simpa using hy
                clear hy
                refine wpOp_step rfl (fun K' hK => ?_)
                refine obB2 _ .append _ _ _ _ rfl _ _ rfl rfl hA2.out ?_
                refine hK _ _ ⟨SB.out _ bA2.out, ?_⟩
                clear hK K'
                try simp only [Act.put, List.setIfInBounds_toArray, List.set_cons_succ, List.set_cons_zero]
                have hS := SB.out _ bA2.out
                refine obTakeH (i := 11) (d := 94) (v := .pointer (some ⟨R, 0, none⟩)) rfl rfl (by kernel_rfl) (by kernel_rfl) (by kernel_rfl) (fun _ _ _ h => h) rfl (fun w' hS => by go_simp) hS ?_
                refine obTakeH (i := 12) (d := 95) (v := .pointer (some ⟨R, 2, none⟩)) rfl rfl (by kernel_rfl) (by kernel_rfl) (by kernel_rfl) (fun _ _ _ h => h) rfl (fun w' hS => by go_simp) hS ?_
                clear hS
                try simp only [Act.put, List.setIfInBounds_toArray, List.set_cons_succ, List.set_cons_zero]
                refine wpAnyH_all (rs := [13]) (by kernel_rfl) (by simp) (fun y hy => ?_)
                obtain rfl : y = 13 := by simpa using hy
                clear hy
                refine wpOp_step rfl (fun K' hK => ?_)
                have y1 := FA.out.1
                have y2 := FA.out.2.1
                have y3 := FA.out.2.2.1
                go_simp
                refine hK _ _ ⟨y3, ?_⟩
                clear hK K' y1 y2 y3
                try simp only [Act.put, List.setIfInBounds_toArray, List.set_cons_succ, List.set_cons_zero]
                refine wpAnyH_done (by kernel_rfl) ?_ 0
                have y4 := FA.out.2.2.2.1
                have y5 := FA.out.2.2.2.2.1
                have E1 := Lib.hid FA.out.2.2.2.2.2
                clear bw hA1 hA2 hB1 hB2 hC1 hC2 bA1 bA2 bB1 bB2 bC1 bC2 FA FB FC SB LD
                go_wp2_with fail
                go_roundg (lackE (stepE g))
                case measure => exact STP.out.2.2
                case rel => exact ⟨stepE g, rfl, STP.out.1, STP.out.2.1, E1.out⟩
              · refine wpOp_step rfl (fun K' hK => ?_)
                have bn := bw.alloc bw.size (.cells #[.int .i64 e.id, .slice (some ⟨gl, ol, none⟩) ln lc, .int .i64 due] 58)
                go_simp
                refine hK _ _ ⟨SB.out _ bn, ?_⟩
                clear hK K'
                replace bw := bn
                clear bn
                try simp only [Act.put, List.setIfInBounds_toArray, List.set_cons_succ, List.set_cons_zero]
                refine wpAnyH_all (rs := [7]) (by kernel_rfl) (by simp) (fun y hy => ?_)
                obtain rfl : y = 7 := by simpa using hy
                clear hy
                refine wpOp_step rfl (fun K' hK => ?_)
                refine obB2 _ .append _ _ _ _ rfl _ _ rfl rfl hB1.out ?_
                refine hK _ _ ⟨SB.out _ bB1.out, ?_⟩
                clear hK K'
                have bw := bB1.out
                try simp only [Act.put, List.setIfInBounds_toArray, List.set_cons_succ, List.set_cons_zero]
                refine wpAnyH_all (rs := [10]) (by kernel_rfl) (by simp) (fun y hy => ?_)
                obtain rfl : y = 10 := by simpa using hy
                clear hy
                refine wpOp_step rfl (fun K' hK => ?_)
                refine obB2 _ .append _ _ _ _ rfl _ _ rfl rfl hB2.out ?_
                refine hK _ _ ⟨SB.out _ bB2.out, ?_⟩
                clear hK K'
                try simp only [Act.put, List.setIfInBounds_toArray, List.set_cons_succ, List.set_cons_zero]
                have hS := SB.out _ bB2.out
                refine obTakeH (i := 11) (d := 94) (v := .pointer (some ⟨R, 0, none⟩)) rfl rfl (by kernel_rfl) (by kernel_rfl) (by kernel_rfl) (fun _ _ _ h => h) rfl (fun w' hS => by go_simp) hS ?_
                refine obTakeH (i := 12) (d := 95) (v := .pointer (some ⟨R, 2, none⟩)) rfl rfl (by kernel_rfl) (by kernel_rfl) (by kernel_rfl) (fun _ _ _ h => h) rfl (fun w' hS => by go_simp) hS ?_
                clear hS
                try simp only [Act.put, List.setIfInBounds_toArray, List.set_cons_succ, List.set_cons_zero]
                refine wpAnyH_all (rs := [13]) (by kernel_rfl) (by simp) (fun y hy => ?_)
                obtain rfl : y = 13 := by simpa using hy
                clear hy
                refine wpOp_step rfl (fun K' hK => ?_)
                have y1 := FB.out.1
                have y2 := FB.out.2.1
                have y3 := FB.out.2.2.1
                go_simp
                refine hK _ _ ⟨y3, ?_⟩
                clear hK K' y1 y2 y3
                try simp only [Act.put, List.setIfInBounds_toArray, List.set_cons_succ, List.set_cons_zero]
                refine wpAnyH_done (by kernel_rfl) ?_ 0
                have y4 := FB.out.2.2.2.1
                have y5 := FB.out.2.2.2.2.1
                have E1 := Lib.hid FB.out.2.2.2.2.2
                clear bw hA1 hA2 hB1 hB2 hC1 hC2 bA1 bA2 bB1 bB2 bC1 bC2 FA FB FC SB LD
                go_wp2_with fail
                go_roundg (lackE (stepE g))
                case measure => exact STP.out.2.2
                case rel => exact ⟨stepE g, rfl, STP.out.1, STP.out.2.1, E1.out⟩
            · refine wpOp_step rfl (fun K' hK => ?_)
              have bn := bw.alloc bw.size (.cells #[.int .i64 e.id, .slice (some ⟨gl, ol, none⟩) ln lc, .int .i64 due] 58)
              go_simp
              refine hK _ _ ⟨SB.out _ bn, ?_⟩
              clear hK K'
              replace bw := bn
              clear bn
              try simp only [Act.put, List.setIfInBounds_toArray, List.set_cons_succ, List.set_cons_zero]
              refine wpAnyH_all (rs := [1]) (by kernel_rfl) (by simp) (fun y hy => ?_)
              obtain rfl : y = 1 := by simpa using hy
              clear hy
              refine wpOp_step rfl (fun K' hK => ?_)
              have bn := bw.alloc bw.size (.cells #[] 58)
              go_simp
              refine hK _ _ ⟨SB.out _ bn, ?_⟩
              clear hK K'
              replace bw := bn
              clear bn
              try simp only [Act.put, List.setIfInBounds_toArray, List.set_cons_succ, List.set_cons_zero]
              refine wpAnyH_all (rs := [7]) (by kernel_rfl) (by simp) (fun y hy => ?_)
              obtain rfl : y = 7 := by simpa using hy
              clear hy
              refine wpOp_step rfl (fun K' hK => ?_)
              refine obB2 _ .append _ _ _ _ rfl _ _ rfl rfl hC1.out ?_
              refine hK _ _ ⟨SB.out _ bC1.out, ?_⟩
              clear hK K'
              have bw := bC1.out
              try simp only [Act.put, List.setIfInBounds_toArray, List.set_cons_succ, List.set_cons_zero]
              refine wpAnyH_all (rs := [10]) (by kernel_rfl) (by simp) (fun y hy => ?_)
              obtain rfl : y = 10 := by simpa using hy
              clear hy
              refine wpOp_step rfl (fun K' hK => ?_)
              refine obB2 _ .append _ _ _ _ rfl _ _ rfl rfl hC2.out ?_
              refine hK _ _ ⟨SB.out _ bC2.out, ?_⟩
              clear hK K'
              try simp only [Act.put, List.setIfInBounds_toArray, List.set_cons_succ, List.set_cons_zero]
              have hS := SB.out _ bC2.out
              refine obTakeH (i := 11) (d := 94) (v := .pointer (some ⟨R, 0, none⟩)) rfl rfl (by kernel_rfl) (by kernel_rfl) (by kernel_rfl) (fun _ _ _ h => h) rfl (fun w' hS => by go_simp) hS ?_
              refine obTakeH (i := 12) (d := 95) (v := .pointer (some ⟨R, 2, none⟩)) rfl rfl (by kernel_rfl) (by kernel_rfl) (by kernel_rfl) (fun _ _ _ h => h) rfl (fun w' hS => by go_simp) hS ?_
              clear hS
              try simp only [Act.put, List.setIfInBounds_toArray, List.set_cons_succ, List.set_cons_zero]
              refine wpAnyH_all (rs := [13]) (by kernel_rfl) (by simp) (fun y hy => ?_)
              obtain rfl : y = 13 := by simpa using hy
              clear hy
              refine wpOp_step rfl (fun K' hK => ?_)
              have y1 := FC.out.1
              have y2 := FC.out.2.1
              have y3 := FC.out.2.2.1
              go_simp
              refine hK _ _ ⟨y3, ?_⟩
              clear hK K' y1 y2 y3
              try simp only [Act.put, List.setIfInBounds_toArray, List.set_cons_succ, List.set_cons_zero]
              refine wpAnyH_done (by kernel_rfl) ?_ 0
              have y4 := FC.out.2.2.2.1
              have y5 := FC.out.2.2.2.2.1
              have E1 := Lib.hid FC.out.2.2.2.2.2
              clear bw hA1 hA2 hB1 hB2 hC1 hC2 bA1 bA2 bB1 bB2 bC1 bC2 FA FB FC SB LD
              go_wp2_with fail
              go_roundg (lackE (stepE g))
              case measure => exact STP.out.2.2
              case rel => exact ⟨stepE g, rfl, STP.out.1, STP.out.2.1, E1.out⟩
          · refine wpOp_step rfl (fun K' hK => ?_)
            have bn := bw.alloc bw.size (.cells #[.int .i64 e.id, .slice (some ⟨gl, ol, none⟩) ln lc, .int .i64 due] 58)
            go_simp
            refine hK _ _ ⟨SB.out _ bn, ?_⟩
            clear hK K'
            replace bw := bn
            clear bn
            try simp only [Act.put, List.setIfInBounds_toArray, List.set_cons_succ, List.set_cons_zero]
            refine wpAnyH_all (rs := [1, 5]) (by kernel_rfl) (by simp) (fun y hy => ?_)
            have hy2 : y = 1 ∨ y = 5 := by simpa using hy
            clear hy
            rcases hy2 with rfl | rfl
            · refine wpOp_step rfl (fun K' hK => ?_)
              have bn := bw.alloc bw.size (.cells #[] 58)
              go_simp
              refine hK _ _ ⟨SB.out _ bn, ?_⟩
              clear hK K'
              replace bw := bn
              clear bn
              try simp only [Act.put, List.setIfInBounds_toArray, List.set_cons_succ, List.set_cons_zero]
              refine wpAnyH_all (rs := [5]) (by kernel_rfl) (by simp) (fun y hy => ?_)
              obtain rfl : y = 5 := by simpa using hy
              clear hy
              refine wpOp_step rfl (fun K' hK => ?_)
              have ld := LD.out _ bw
              go_simp
              refine hK _ _ ⟨SB.out _ bw, ?_⟩
              clear hK K' ld
              try simp only [Act.put, List.setIfInBounds_toArray, List.set_cons_succ, List.set_cons_zero]
              have hS := SB.out _ bw
              have cq := CQ.out
              refine obTakeH (i := 6) (d := 89) (v := .slice dq (nn - 1) (c - 1)) rfl rfl (by kernel_rfl) (by kernel_rfl) (by kernel_rfl) (fun _ _ _ h => h) rfl (fun w' hS => by go_simp) hS ?_
              clear cq
              clear hS
              try simp only [Act.put, List.setIfInBounds_toArray, List.set_cons_succ, List.set_cons_zero]
              refine wpAnyH_all (rs := [7]) (by kernel_rfl) (by simp) (fun y hy => ?_)
              obtain rfl : y = 7 := by simpa using hy
              clear hy
              refine wpOp_step rfl (fun K' hK => ?_)
              refine obB2 _ .append _ _ _ _ rfl _ _ rfl rfl hC1.out ?_
              refine hK _ _ ⟨SB.out _ bC1.out, ?_⟩
              clear hK K'
              have bw := bC1.out
              try simp only [Act.put, List.setIfInBounds_toArray, List.set_cons_succ, List.set_cons_zero]
              refine wpAnyH_all (rs := [10]) (by kernel_rfl) (by simp) (fun y hy => ?_)
              obtain rfl : y = 10 := by simpa using hy
              clear hy
              refine wpOp_step rfl (fun K' hK => ?_)
              refine obB2 _ .append _ _ _ _ rfl _ _ rfl rfl hC2.out ?_
              refine hK _ _ ⟨SB.out _ bC2.out, ?_⟩
              clear hK K'
              try simp only [Act.put, List.setIfInBounds_toArray, List.set_cons_succ, List.set_cons_zero]
              have hS := SB.out _ bC2.out
              refine obTakeH (i := 11) (d := 94) (v := .pointer (some ⟨R, 0, none⟩)) rfl rfl (by kernel_rfl) (by kernel_rfl) (by kernel_rfl) (fun _ _ _ h => h) rfl (fun w' hS => by go_simp) hS ?_
              refine obTakeH (i := 12) (d := 95) (v := .pointer (some ⟨R, 2, none⟩)) rfl rfl (by kernel_rfl) (by kernel_rfl) (by kernel_rfl) (fun _ _ _ h => h) rfl (fun w' hS => by go_simp) hS ?_
              clear hS
              try simp only [Act.put, List.setIfInBounds_toArray, List.set_cons_succ, List.set_cons_zero]
              refine wpAnyH_all (rs := [13]) (by kernel_rfl) (by simp) (fun y hy => ?_)
              obtain rfl : y = 13 := by simpa using hy
              clear hy
              refine wpOp_step rfl (fun K' hK => ?_)
              have y1 := FC.out.1
              have y2 := FC.out.2.1
              have y3 := FC.out.2.2.1
              go_simp
              refine hK _ _ ⟨y3, ?_⟩
              clear hK K' y1 y2 y3
              try simp only [Act.put, List.setIfInBounds_toArray, List.set_cons_succ, List.set_cons_zero]
              refine wpAnyH_done (by kernel_rfl) ?_ 0
              have y4 := FC.out.2.2.2.1
              have y5 := FC.out.2.2.2.2.1
              have E1 := Lib.hid FC.out.2.2.2.2.2
              clear bw hA1 hA2 hB1 hB2 hC1 hC2 bA1 bA2 bB1 bB2 bC1 bC2 FA FB FC SB LD
              go_wp2_with fail
              go_roundg (lackE (stepE g))
              case measure => exact STP.out.2.2
              case rel => exact ⟨stepE g, rfl, STP.out.1, STP.out.2.1, E1.out⟩
            · refine wpOp_step rfl (fun K' hK => ?_)
              have ld := LD.out _ bw
              go_simp
              refine hK _ _ ⟨SB.out _ bw, ?_⟩
              clear hK K' ld
              try simp only [Act.put, List.setIfInBounds_toArray, List.set_cons_succ, List.set_cons_zero]
              have hS := SB.out _ bw
              have cq := CQ.out
              refine obTakeH (i := 6) (d := 89) (v := .slice dq (nn - 1) (c - 1)) rfl rfl (by kernel_rfl) (by kernel_rfl) (by kernel_rfl) (fun _ _ _ h => h) rfl (fun w' hS => by go_simp) hS ?_
              clear cq
              clear hS
              try simp only [Act.put, List.setIfInBounds_toArray, List.set_cons_succ, List.set_cons_zero]
              refine wpAnyH_all (rs := [1]) (by kernel_rfl) (by simp) (fun y hy => ?_)
              obtain rfl : y = 1 := by simpa using hy
              clear hy
              refine wpOp_step rfl (fun K' hK => ?_)
              have bn := bw.alloc bw.size (.cells #[] 58)
              go_simp
              refine hK _ _ ⟨SB.out _ bn, ?_⟩
              clear hK K'
              replace bw := bn
              clear bn
              try simp only [Act.put, List.setIfInBounds_toArray, List.set_cons_succ, List.set_cons_zero]
              refine wpAnyH_all (rs := [7]) (by kernel_rfl) (by simp) (fun y hy => ?_)
              obtain rfl : y = 7 := by simpa using hy
              clear hy
              refine wpOp_step rfl (fun K' hK => ?_)
              refine obB2 _ .append _ _ _ _ rfl _ _ rfl rfl hC1.out ?_
              refine hK _ _ ⟨SB.out _ bC1.out, ?_⟩
              clear hK K'
              have bw := bC1.out
              try simp only [Act.put, List.setIfInBounds_toArray, List.set_cons_succ, List.set_cons_zero]
              refine wpAnyH_all (rs := [10]) (by kernel_rfl) (by simp) (fun y hy => ?_)
              obtain rfl : y = 10 := by simpa using hy
              clear hy
              refine wpOp_step rfl (fun K' hK => ?_)
              refine obB2 _ .append _ _ _ _ rfl _ _ rfl rfl hC2.out ?_
              refine hK _ _ ⟨SB.out _ bC2.out, ?_⟩
              clear hK K'
              try simp only [Act.put, List.setIfInBounds_toArray, List.set_cons_succ, List.set_cons_zero]
              have hS := SB.out _ bC2.out
              refine obTakeH (i := 11) (d := 94) (v := .pointer (some ⟨R, 0, none⟩)) rfl rfl (by kernel_rfl) (by kernel_rfl) (by kernel_rfl) (fun _ _ _ h => h) rfl (fun w' hS => by go_simp) hS ?_
              refine obTakeH (i := 12) (d := 95) (v := .pointer (some ⟨R, 2, none⟩)) rfl rfl (by kernel_rfl) (by kernel_rfl) (by kernel_rfl) (fun _ _ _ h => h) rfl (fun w' hS => by go_simp) hS ?_
              clear hS
              try simp only [Act.put, List.setIfInBounds_toArray, List.set_cons_succ, List.set_cons_zero]
              refine wpAnyH_all (rs := [13]) (by kernel_rfl) (by simp) (fun y hy => ?_)
              obtain rfl : y = 13 := by simpa using hy
              clear hy
              refine wpOp_step rfl (fun K' hK => ?_)
              have y1 := FC.out.1
              have y2 := FC.out.2.1
              have y3 := FC.out.2.2.1
              go_simp
              refine hK _ _ ⟨y3, ?_⟩
              clear hK K' y1 y2 y3
              try simp only [Act.put, List.setIfInBounds_toArray, List.set_cons_succ, List.set_cons_zero]
              refine wpAnyH_done (by kernel_rfl) ?_ 0
              have y4 := FC.out.2.2.2.1
              have y5 := FC.out.2.2.2.2.1
              have E1 := Lib.hid FC.out.2.2.2.2.2
              clear bw hA1 hA2 hB1 hB2 hC1 hC2 bA1 bA2 bB1 bB2 bC1 bC2 FA FB FC SB LD
              go_wp2_with fail
              go_roundg (lackE (stepE g))
              case measure => exact STP.out.2.2
              case rel => exact ⟨stepE g, rfl, STP.out.1, STP.out.2.1, E1.out⟩
end Go.Proofs.Ytiamlldooihkdaa
