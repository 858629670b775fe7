/-
  What the program's own queues do: Next; all their calls as one word. No condition but what always holds of queues, and how many were pushed.
-/
import Derived.Test.YtiamlldooihkdaaFaPgG
namespace Go.Proofs.Ytiamlldooihkdaa
set_option maxRecDepth 100000
open Go.RowKit

theorem pg_turned (f : FaQ) {e : FaE} {t : List FaE} (hr : f.r = e :: t) : pgOf (turned f) = { pgOf f with tb := updT (tblE f.r) e.id (some (e.l, dueE f e)) } := by
  unfold turned pgOf
  rw [hr]
  simp only
  have := tbl_set_head e t e.l (dueE f e)
  rw [this]
  rfl
theorem pg_step (f : FaQ) {e : FaE} {t : List FaE} (hr : f.r = e :: t) (hn : (f.r.map FaE.id).Nodup) : pgOf (stepE f) = { pgOf (turned f) with ids := t.map FaE.id ++ [e.id], sv := false } := by
  unfold turned stepE pgOf
  rw [hr] at hn ⊢
  rw [List.map_cons, List.nodup_cons] at hn
  simp only
  have h1 := tbl_rot { e with d := dueE f e } t fun x hx q => hn.1 (q ▸ List.mem_map_of_mem hx)
  rw [h1, cntE_app]
  simp only [cntE, List.map_append, List.map_cons, List.map_nil]
  congr 1
  omega
/-- Whole rounds more leave all that always holds. -/
theorem addR_ok {f : FaQ} (h : f.Ok) (n : Int) (hn : 0 ≤ n) (hl : ∀ e ∈ f.r, e.d + n < (hdE e).size) : ({ f with r := f.r.map (addD n) } : FaQ).Ok := by
  have hm : ∀ e ∈ f.r.map (addD n), ∃ a ∈ f.r, e = addD n a := fun e he => by
    obtain ⟨a, ha, rfl⟩ := List.mem_map.1 he
    exact ⟨a, ha, rfl⟩
  have hd : ∀ e ∈ f.r.map (addD n), e.d ≤ 65535 := fun e he => by
    obtain ⟨a, ha, rfl⟩ := hm e he
    have h1 := hl a ha
    have h2 := h.hd ha
    show a.d + n ≤ 65535
    omega
  refine ⟨h.l0, h.l1, h.q0, h.q1, ?_, ?_, ?_, ?_, ?_, ?_, ?_, ?_, ?_⟩
  · have : (f.r.map (addD n)).map FaE.id = f.r.map FaE.id := by rw [List.map_map]; rfl
    show ((f.r.map (addD n)).map FaE.id).Nodup
    rw [this]
    exact h.ids
  · intro e he; obtain ⟨a, ha, rfl⟩ := hm e he; exact h.i64 a ha
  · intro e he; obtain ⟨a, ha, rfl⟩ := hm e he; exact h.ne a ha
  · intro e he; obtain ⟨a, ha, rfl⟩ := hm e he; exact h.ln a ha
  · intro e he; obtain ⟨a, ha, rfl⟩ := hm e he; exact h.sz a ha
  · intro e he
    obtain ⟨a, ha, rfl⟩ := hm e he
    have := h.d0 a ha
    show 0 ≤ a.d + n
    omega
  · exact fun e he => hd e (List.mem_of_mem_tail he)
  · intro e t he
    have h1 := hd e (by have : ({ f with r := f.r.map (addD n) } : FaQ).r = f.r.map (addD n) := rfl; rw [← this, he]; exact List.mem_cons_self ..)
    show e.d ≤ if f.sv then 1114111 else 65535
    split <;> omega
  · show cntE (f.r.map (addD n)) ≤ f.pz
    rw [cnt_map]
    exact h.n
theorem ls_map (r : List FaE) (n x : Int) : lsE (r.map (addD n)) x = lsE r x := by
  unfold lsE
  rw [tbl_map]
  cases tblE r x <;> rfl
def nextV (f : FaQ) : Value := .tuple #[.int .i64 (nextA f).1, .string (nextA f).2.1, .bool (nextA f).2.2]
set_option maxHeartbeats 4000000 in
theorem fnext_ok (B : Nat) (T : Tag) (f : FaQ) (w : World) (h : PG w B T (pgOf f)) (ok : f.Ok) (hz : f.pz < 1000000) :
    Calls Try.prog 12 #[ptr B] w fun e' w' => e' = .returned (nextV f) ∧ ∃ T', PG w' B T' (pgOf (nextE f)) ∧ ExtT T T' w.heap.size ∧ Kept (fun k => T k ≠ none) w w' := by
  have hpz := ok.n
  have hlc := (len_cnt ok).1
  by_cases hr : f.r = []
  · obtain ⟨e1, e2⟩ := next_none hr
    unfold nextV
    rw [e1, e2]
    have hPG := Lib.hid h
    obtain ⟨rv, bm, S, h⟩ := h
    have hR := h.r
    have hids : (pgOf f).ids = [] := by show f.r.map FaE.id = []; rw [hr]; rfl
    rw [hids] at hR
    obtain ⟨a, c, hrv, -⟩ := hR.slice
    have c2 := h.h.cell 2 (v := rv) rfl
    rw [hrv] at c2
    replace c2 : w.cell? ⟨B, 2, none⟩ = some (.slice a 0 c) := c2
    clear h hR hids hrv e1 e2 hr
    go_enter Try.func12, Try.ntmps12
    go_wp2
    go_ret3
    exact ⟨rfl, T, hPG.out, .refl _ _, .refl _ _⟩
  · obtain ⟨m, hm⟩ : ∃ m, m = f.r.length := ⟨_, rfl⟩
    have hmp : 0 < m := by rw [hm]; exact List.length_pos_iff.2 hr
    have hml : m < 1000000 := by omega
    have hlk := lack_le ok
    rw [← hm] at hlk
    have c2 : ∃ a c, w.cell? ⟨B, 2, none⟩ = some (.slice a m c) := by
      obtain ⟨rv, bm, S, h⟩ := h
      obtain ⟨a, c, hrv, -⟩ := h.r.slice
      have hl : (pgOf f).ids.length = m := by show (f.r.map FaE.id).length = m; rw [List.length_map, hm]
      rw [hl] at hrv
      exact ⟨a, c, by rw [← hrv]; exact h.h.cell 2 rfl⟩
    obtain ⟨a, c, c2⟩ := c2
    have hm0 : ¬ (m : Int) = 0 := by omega
    have hm2 : ((m : Int) == 0) = false := by simp; omega
    have hm1 : m ≤ 9223372036854775807 := by omega
    have hPG := Lib.hid h
    have hok := Lib.hid ok
    have hr' := Lib.hid hr
    have hm' := Lib.hid hm
    clear h ok hr hm hpz hlc
    go_enter Try.func12, Try.ntmps12
    go_wp2_with fail
    clear c2
    go_loopg [5] (lackE f) (fun g' s5 wr => ∃ (g : FaQ) (T' : Tag) (k : Nat), lackE g = g' ∧ s5 = .int .i64 ((k : Int) + 1) ∧ k + lackE g ≤ lackE f ∧ Hid (SameL f g) ∧ Hid (nextG g = nextG f) ∧ Hid (PG wr B T' (pgOf g)) ∧ Hid (ExtT T T' w.heap.size) ∧ Hid (Kept (fun k => T k ≠ none) w wr) ∧ Hid (k < m → ∀ e ∈ g.r.drop (m - k), e.d < (hdE e).size))
    case atStart => exact ⟨f, T, 0, rfl, rfl, by omega, .refl hok.out, rfl, hPG.out, .refl _ _, .refl _ _, fun _ e he => by rw [Nat.sub_zero, hm'.out, List.drop_length] at he; cases he⟩
    case round =>
      obtain ⟨g, T1, k, hgk, rfl, hk, SL, NG, P, E, K, AL⟩ := hrel
      have hgl := SL.out.len
      rw [← hm'.out] at hgl
      cases hgr : g.r with
      | nil => rw [hgr] at hgl; simp at hgl; omega
      | cons e t =>
        have he : e ∈ g.r := by rw [hgr]; exact List.mem_cons_self ..
        have hne := SL.out.ok.ne e he
        have hsz := SL.out.ok.hd he
        have hdd := SL.out.ok.due hgr
        have hx := SL.out.ok.i64 e he
        have hl3 : e.l = hdE e :: e.l.tail := by
          unfold hdE
          cases hl : e.l with
          | nil => exact absurd hl hne
          | cons s t => rfl
        have htb : (pgOf g).tb e.id = some (hdE e :: e.l.tail, e.d) := by
          rw [← hl3]
          show tblE g.r e.id = _
          rw [hgr]
          exact tbl_head e t
        have TU := fturn_ok B T1 (pgOf g) e.id (t.map FaE.id) (hdE e) e.l.tail e.d wr P.out (by show g.r.map FaE.id = _; rw [hgr]; rfl) htb hx hsz ⟨hdd.1, hdd.2.1⟩ ⟨SL.out.ok.q0, SL.out.ok.q1⟩
        have eT : decide (((hdE e).size : Int) ≤ dueP (pgOf g) e.d) = turnE g := by unfold turnE; rw [hgr]; rfl
        have eP : ({ pgOf g with tb := updT (pgOf g).tb e.id (some (hdE e :: e.l.tail, dueP (pgOf g) e.d)) } : FaP) = pgOf (turned g) := by
          rw [pg_turned g hgr, ← hl3]
          rfl
        rw [eT, eP] at TU
        replace TU := Lib.hid TU
        have hgr' := Lib.hid hgr
        cases ht : turnE g with
        | true =>
          rw [ht] at TU
          have hid := SL.out.ok.ids
          have hlc := (len_cnt SL.out.ok)
          have hcn := SL.out.cnt
          have hpf := hok.out.n
          have tr : (turned g).r = { e with d := dueE g e } :: t := by unfold turned; rw [hgr]
          have TK : Hid (∀ w1, PG w1 B T1 (pgOf (turned g)) → Calls Try.prog 24 #[ptr B] w1 _) := fun w1 h1 =>
            ftake_ok B T1 (turned g) { e with d := dueE g e } t w1 h1 tr hne (by rw [tr]; rw [hgr] at hid; exact hid) hx ⟨hdd.2.2.1, Int.le_trans hdd.2.2.2 (by decide)⟩ hsz
              (by
                have : cntE (turned g).r = cntE g.r := by rw [tr, hgr]; rfl
                omega)
              (by
                rw [tr, List.length_cons]
                have := congrArg List.length hgr
                rw [List.length_cons] at this
                omega)
          have e1 : nextG f = g := by rw [← NG.out]; exact next_ready ht
          have e2 : Hid (nextV f = .tuple #[.int .i64 e.id, .string (hdE e), .bool true]) := by
            show nextV f = _
            unfold nextV nextA
            rw [e1, hgr]
          have e3 : Hid (pgOf (takeT (turned g)) = pgOf (nextE f)) := by
            show _ = _
            unfold nextE
            rw [e1, take_turned]
          replace ht := Lib.hid ht
          clear hgr hne hsz hdd htb eT eP he hid hlc hcn hpf tr e1 NG AL hl3 hx P hgl
          go_wp2_with fail
          refine TU.out.mono ?_
          rintro e' w1 ⟨rfl, P1, K1⟩
          have C := Lib.hid (TK.out w1 P1)
          have K1 := Lib.hid (K.out.tags K1 E.out)
          clear TU TK K P1
          go_wp2_with fail
          refine C.out.mono ?_
          rintro e' w2 ⟨rfl, T2, P2, E2, K2⟩
          have FIN : Hid (∃ T', PG w2 B T' (pgOf (nextE f)) ∧ ExtT T T' w.heap.size ∧ Kept (fun k => T k ≠ none) w w2) := by
            rw [e3.out] at P2
            exact ⟨T2, P2, E.out.trans E2 K1.out.size, K1.out.tags K2 E.out⟩
          clear P2 E2 K2 C
          go_wp2_with fail
          go_ret3
          exact ⟨e2.out.symm ▸ rfl, FIN.out⟩
        | false =>
          rw [ht] at TU
          have hl1 := lack_step SL.out.ok.q0 ht
          have SL2 := Lib.hid (SL.out.step ht)
          have NG2 : Hid (nextG (stepE g) = nextG f) := (next_step SL.out.ok.q0 ht).trans NG.out
          have htl : t.length + 1 = m := by
            have := congrArg List.length hgr
            rw [List.length_cons] at this
            omega
          have tids : (pgOf (turned g)).ids = e.id :: t.map FaE.id := by rw [pg_turned g hgr]; show g.r.map FaE.id = _; rw [hgr]; rfl
          have PA : Hid (∀ w1, PG w1 B T1 (pgOf (turned g)) → Calls Try.prog 22 #[ptr B] w1 _) := fun w1 h1 => fpass_ok B T1 (pgOf (turned g)) e.id (t.map FaE.id) w1 h1 tids (by rw [List.length_map]; omega)
          have ES : Hid (({ pgOf (turned g) with ids := t.map FaE.id ++ [e.id], sv := false } : FaP) = pgOf (stepE g)) := (pg_step g hgr SL.out.ok.ids).symm
          have hdl : dueE g e < (hdE e).size := by
            unfold turnE at ht
            rw [hgr] at ht
            have := of_decide_eq_false ht
            omega
          have sr : (stepE g).r = t ++ [{ e with d := dueE g e }] := by unfold stepE; rw [hgr]
          have ssv : (stepE g).sv = false := by unfold stepE; rw [hgr]
          have AL2 : Hid (k + 1 ≤ m → ∀ x ∈ (stepE g).r.drop (m - (k + 1)), x.d < (hdE x).size) := fun hk x hx => by
            rw [sr, List.drop_append_of_le_length (by omega)] at hx
            rcases List.mem_append.1 hx with q | q
            · refine AL.out (by omega) x ?_
              rw [hgr, show m - k = m - (k + 1) + 1 by omega, List.drop_succ_cons]
              exact q
            · have : x = { e with d := dueE g e } := by simpa using q
              subst this
              exact hdl
          have slen : (stepE g).r.length = m := by rw [len_step, hgr, List.length_cons]; exact htl
          replace ht := Lib.hid ht
          have hkb : (k : Int) + 1 ≤ 9223372036854775806 := by omega
          have ew : wrap64 ((k : Int) + 1 + 1) = (k : Int) + 1 + 1 := by unfold wrap64; omega
          clear hgr hne hsz hdd htb eT eP he NG AL hl3 hx P hgl tids hdl sr htl SL
          go_wp2_with fail
          refine TU.out.mono ?_
          rintro e' w1 ⟨rfl, P1, K1⟩
          have C := Lib.hid (PA.out w1 P1)
          have K1 := Lib.hid (K.out.tags K1 E.out)
          clear TU PA K P1
          go_wp2_with fail
          refine C.out.mono ?_
          rintro e' w2 ⟨rfl, T2, P2, E2, K2⟩
          rw [ES.out] at P2
          have K2 := Lib.hid (K1.out.tags K2 E.out)
          have E2 := Lib.hid (E.out.trans E2 K1.out.size)
          obtain ⟨a2, c2', d2⟩ : ∃ a c, w2.cell? ⟨B, 2, none⟩ = some (.slice a m c) := by
            obtain ⟨rv, bm, S, h⟩ := P2
            obtain ⟨a, c, hrv, -⟩ := h.r.slice
            have hl : (pgOf (stepE g)).ids.length = m := by show ((stepE g).r.map FaE.id).length = m; rw [List.length_map, slen]
            rw [hl] at hrv
            exact ⟨a, c, by rw [← hrv]; exact h.h.cell 2 rfl⟩
          replace P2 := Lib.hid P2
          clear C K1 E ES
          by_cases hkm : k + 1 = m
          · have g1 : decide ((k : Int) + 1 = (m : Int)) = true := decide_eq_true (by omega)
            have g2 : (((k : Int) + 1) == (m : Int)) = true := by simp; omega
            have hall : ∀ x ∈ (stepE g).r, x.d < (hdE x).size := fun x hx => AL2.out (by omega) x (by rw [hkm, Nat.sub_self]; exact hx)
            have SK := Lib.hid (fskip_ok B T2 (stepE g) w2 P2.out SL2.out.ok (fun q => by rw [q] at slen; simp at slen; omega) (by omega) hall)
            replace hkm := Lib.hid hkm
            clear P2
            go_wp2_with fail
            refine SK.out.mono ?_
            rintro e' w3 ⟨rfl, n, hn, P3, K3⟩
            have hqu := SL2.out.qu
            have hn0 : (0 : Int) ≤ n * (stepE g).qu := Int.mul_nonneg (by omega) (by have := SL2.out.ok.q0; omega)
            obtain ⟨G, hG⟩ : ∃ G : FaQ, G = { stepE g with r := (stepE g).r.map (addD (n * (stepE g).qu)) } := ⟨_, rfl⟩
            have SL3 : Hid (SameL f G) := by
              rw [hG]
              exact ⟨addR_ok SL2.out.ok _ hn0 hn, SL2.out.lim, SL2.out.qu, SL2.out.pz, (cnt_map _ _).trans SL2.out.cnt, (List.length_map ..).trans SL2.out.len, fun x => (ls_map _ _ x).trans (SL2.out.ls x)⟩
            have NG3 : Hid (nextG G = nextG f) := by
              have h1 := rounds (stepE g) SL2.out.ok.q0 (stepE g).r n hn
              have h2 : ({ stepE g with r := (stepE g).r, sv := false } : FaQ) = stepE g := by rw [← ssv]
              have h3 : ({ stepE g with r := (stepE g).r.map (addD (n * (stepE g).qu)), sv := false } : FaQ) = G := by rw [hG, ← ssv]
              rw [h2, h3] at h1
              exact h1.trans NG2.out
            have hl3 : lackE G ≤ lackE (stepE g) := by
              rw [hG]
              unfold lackE
              exact Nat.add_le_add_right (lack_map _ _ hn0) _
            have P3 : Hid (PG w3 B T2 (pgOf G)) := by rw [hG]; exact P3
            have K3 := Lib.hid (K2.out.tags K3 E2.out)
            replace hG := Lib.hid hG
            clear hn hn0 hqu SK SL2 NG2 K2 AL2 hall d2
            have hkm' := hkm.out
            go_wp2_with fail
            go_roundg (lackE G)
            case measure => omega
            case rel => exact ⟨G, T2, k + 1, rfl, by go_num, by omega, SL3, NG3, P3, E2, K3, fun q => by omega⟩
          · have g1 : decide ((k : Int) + 1 = (m : Int)) = false := decide_eq_false (by omega)
            have g2 : (((k : Int) + 1) == (m : Int)) = false := by simp; omega
            have AL3 : Hid (k + 1 < m → ∀ x ∈ (stepE g).r.drop (m - (k + 1)), x.d < (hdE x).size) := fun q => AL2.out (by omega)
            replace hkm := Lib.hid hkm
            clear AL2
            go_wp2_with fail
            go_roundg (lackE (stepE g))
            case measure => omega
            case rel => exact ⟨stepE g, T2, k + 1, rfl, by go_num, by omega, SL2, NG2, P2, E2, K2, AL3⟩
end Go.Proofs.Ytiamlldooihkdaa
