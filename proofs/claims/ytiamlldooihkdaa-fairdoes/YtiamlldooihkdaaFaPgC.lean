/-
  What the program's own queues do: whole rounds in which nobody has enough are gone through at once. No condition but what always holds of queues.
-/
import Derived.Test.YtiamlldooihkdaaFaPgB
namespace Go.Proofs.Ytiamlldooihkdaa
set_option maxRecDepth 100000
open Go.RowKit

theorem PX.elem {w : World} {B : Nat} {T : Tag} {p : FaP} {rv : Value} {bm : Nat} {S : Int → Option Value} (h : PX w B T p rv bm S) {r : List FaE} (hp : p.ids = r.map FaE.id) {g o n c : Nat} (hrv : rv = .slice (some ⟨g, o, none⟩) n c) (i : Nat) (hi : i < r.length) :
    w.cell? ⟨g, o + i, none⟩ = some (.int .i64 (r.getD i fe0).id) ∧ n = r.length := by
  have hr := h.r
  rw [hp, hrv] at hr
  have c0 := (hr.cell ki_ok i 0 (by simpa using hi) (by show 0 < 1; decide)).1
  have e : (r.map FaE.id).getD i KI.x0 = (r.getD i fe0).id := by
    rw [List.getD_eq_getElem?_getD, List.getD_eq_getElem?_getD, List.getElem?_map, List.getElem?_eq_getElem hi]
    rfl
  rw [e] at c0
  have e2 : o + KI.n * i + 0 = o + i := by show o + 1 * i + 0 = o + i; omega
  rw [e2] at c0
  exact ⟨c0, by simpa using hr.get.1⟩
theorem getD_mem {r : List FaE} {i : Nat} (h : i < r.length) : r.getD i fe0 ∈ r := by
  rw [List.getD_eq_getElem?_getD, List.getElem?_eq_getElem h]
  exact List.getElem_mem _
theorem take_get {r : List FaE} {i : Nat} (h : i < r.length) : r.take (i + 1) = r.take i ++ [r.getD i fe0] ∧ r.drop i = r.getD i fe0 :: r.drop (i + 1) := by
  rw [List.getD_eq_getElem?_getD, List.getElem?_eq_getElem h]
  exact ⟨by rw [List.take_add_one, List.getElem?_eq_getElem h]; rfl, by rw [List.drop_eq_getElem_cons h]; rfl⟩
/-- Those up to the i-th have got n. -/
def mid (r : List FaE) (i : Nat) (n : Int) : List FaE := (r.take i).map (addD n) ++ r.drop i
theorem mid_at {r : List FaE} (hn : (r.map FaE.id).Nodup) {i : Nat} (h : i < r.length) (n : Int) : tblE (mid r i n) (r.getD i fe0).id = some ((r.getD i fe0).l, (r.getD i fe0).d) ∧ tblE (mid r (i + 1) n) = updT (tblE (mid r i n)) (r.getD i fe0).id (some ((r.getD i fe0).l, (r.getD i fe0).d + n)) := by
  obtain ⟨h1, h2⟩ := take_get h
  have hr : r = r.take i ++ r.getD i fe0 :: r.drop (i + 1) := by rw [← h2, List.take_append_drop]
  unfold mid
  rw [h1, h2]
  generalize r.getD i fe0 = e at *
  generalize r.take i = a at *
  generalize r.drop (i + 1) = b at *
  subst hr
  rw [List.map_append, List.map_cons, List.nodup_append] at hn
  have ha : ∀ x ∈ a, x.id ≠ e.id := fun x hx => hn.2.2 _ (List.mem_map_of_mem hx) _ (List.mem_cons_self ..)
  have hna : tblE (a.map (addD n)) e.id = none := (tbl_none _ _).2 fun x hx => by
    obtain ⟨y, hy, rfl⟩ := List.mem_map.1 hx
    exact ha y hy
  refine ⟨?_, ?_⟩
  · rw [tbl_app, hna]
    exact tbl_head e b
  · funext x
    unfold updT
    rw [List.map_append, List.append_assoc, List.map_cons, List.map_nil, List.cons_append, List.nil_append, tbl_app, tbl_app]
    by_cases q : x = e.id
    · rw [if_pos q, q, hna]
      exact tbl_head (addD n e) b
    · rw [if_neg q]
      cases tblE (a.map (addD n)) x with
      | some v => rfl
      | none =>
        show tblE (addD n e :: b) x = tblE (e :: b) x
        rw [tblE, tblE, if_neg (fun z : (addD n e).id = x => q z.symm), if_neg (fun z => q z.symm)]
set_option maxHeartbeats 4000000 in
theorem fskip_ok (B : Nat) (T : Tag) (f : FaQ) (w : World) (h : PG w B T (pgOf f)) (ok : f.Ok) (hne : f.r ≠ []) (hl : f.r.length < 1073741824) (hlk : ∀ e ∈ f.r, e.d < (hdE e).size) :
    Calls Try.prog 23 #[ptr B] w fun e w' => e = .returned (.tuple #[]) ∧ ∃ k : Nat, (∀ e ∈ f.r, e.d + k * f.qu < (hdE e).size) ∧ PG w' B T (pgOf { f with r := f.r.map (addD (k * f.qu)) }) ∧ Kept (fun k => T k ≠ none) w w' := by
  obtain ⟨rv, bm, S, h⟩ := h
  obtain ⟨a, c, hrv, hc, -, ha⟩ := h.r.slice
  have hlen : (pgOf f).ids.length = f.r.length := by show (f.r.map FaE.id).length = _; simp
  rw [hlen] at hrv hc ha
  obtain ⟨g, o, rfl, -, hg⟩ := ha (List.length_pos_iff.2 hne)
  clear ha hlen
  have hq0 := ok.q0
  have hq1 := ok.q1
  obtain ⟨m, hm⟩ : ∃ m, m = f.r.length := ⟨_, rfl⟩
  rw [← hm] at hrv hl
  have hmp : 0 < m := by rw [hm]; exact List.length_pos_iff.2 hne
  have hml : m ≤ 9223372036854775807 := by omega
  have hix : ∀ (i : Nat) (z : Int) w', i < m → z = i → (Instr.indexAt 48 (.slice (some ⟨g, o, none⟩) m c) (.int .i64 z)).run Try.prog w' = .ok (.pointer (some ⟨g, o + i, none⟩)) w' := fun i z w' hi hz => at_Z ki_ok g o m c i w' hi z hz (o + i) (by show o + i = o + 1 * i; omega)
  -- what is read of the i-th
  have EL : Hid (∀ i, i < m → In64 (f.r.getD i fe0).id ∧ 0 ≤ (f.r.getD i fe0).d ∧ (f.r.getD i fe0).d < (hdE (f.r.getD i fe0)).size ∧ (hdE (f.r.getD i fe0)).size ≤ 65535 ∧ (f.r.getD i fe0).l ≠ []) := fun i hi => by
    have hi : i < f.r.length := by omega
    have hm := getD_mem hi
    exact ⟨ok.i64 _ hm, ok.d0 _ hm, hlk _ hm, ok.hd hm, ok.ne _ hm⟩
  have c2 := h.h.cell 2 (v := rv) rfl
  have hP := Lib.hid h
  replace hm := Lib.hid hm
  have ids := Lib.hid ok.ids
  rw [hrv] at c2
  replace hrv := Lib.hid hrv
  replace hix := Lib.hid hix
  clear h ok hne hlk hc
  go_enter Try.func23, Try.ntmps23
  go_wp2_with fail
  clear c2
  go_loopg [2, 14] m (fun g' s2 s14 wr => ∃ (i : Nat) (R : Int), i + g' = m ∧ s14 = .int .i64 i ∧ s2 = .int .i64 R ∧ 0 ≤ R ∧ R ≤ 9223372036854775807 ∧ (0 < i → R ≤ 65535) ∧ Hid (∀ e ∈ f.r.take i, e.d + R * f.qu < (hdE e).size) ∧ Hid (Below w.heap.size w wr))
  case atStart => exact ⟨0, 9223372036854775807, by omega, rfl, rfl, by decide, by decide, by omega, by simp [Lib.hid], Below.refl _ _⟩
  case round =>
    obtain ⟨i, R, hi, rfl, rfl, hR0, hR1, hR2, HR, bel⟩ := hrel
    by_cases hlt : i < m
    · have g1 : decide ((i : Int) < (m : Int)) = true := decide_eq_true (by omega)
      have g1' : decide (i < m) = true := decide_eq_true hlt
      have hP1 := hP.out.keep (fun k hk => bel.out.block k (hP.out.lt k hk)) bel.out.size
      obtain ⟨hx, hd0, hd1, hd2, hd3⟩ := EL.out i hlt
      have hil : i < f.r.length := by rw [← hm.out]; exact hlt
      have ce := (hP1.elem (r := f.r) rfl hrv.out i hil).1
      have htb : (pgOf f).tb (f.r.getD i fe0).id = some ((f.r.getD i fe0).l, (f.r.getD i fe0).d) := tbl_mem f.r _ ids.out (getD_mem hil)
      obtain ⟨qb, pv, hS, hQ, hV, -, -⟩ := hP1.at htb
      have ht := (take_get hil).1
      obtain ⟨e, he⟩ : ∃ e, e = f.r.getD i fe0 := ⟨_, rfl⟩
      rw [← he] at hx hd0 hd1 hd2 hd3 ce hS hQ hV ht
      have hl2 : e.l = hdE e :: e.l.tail := by
        unfold hdE
        cases hl : e.l with
        | nil => exact absurd hl hd3
        | cons s t => rfl
      rw [hl2] at hV
      obtain ⟨g2, o2, c2', rfl, cs, _, hc2, hg2⟩ := hV.first ks_ok rfl
      have q0 := hQ.cell 0 (v := .slice (some ⟨g2, o2, none⟩) (e.l.tail.length + 1) c2') rfl
      have q1 := hQ.cell 1 (v := .int .i64 e.d) rfl
      have c1 := hP1.h.cell 1 (v := .int .i64 f.qu) rfl
      have c3 := hP1.h.cell 3 (v := .map (some bm)) rfl
      have hix0 := hix.out i i wr hlt rfl
      have hix2 : ∀ w', (Instr.indexAt 39 (.slice (some ⟨g2, o2, none⟩) (e.l.tail.length + 1) c2') (.int .i64 0)).run Try.prog w' = .ok (.pointer (some ⟨g2, o2, none⟩)) w' := fun w' => at_Z ks_ok g2 o2 (e.l.tail.length + 1) c2' 0 w' (by omega) 0 rfl o2 (by show o2 = o2 + 1 * 0; omega)
      have hlk := hP1.look hx (v := ptr qb) (by rw [hS]; rfl) wr rfl
      replace cs : wr.cell? ⟨g2, o2, none⟩ = some (.string (hdE e)) := cs
      obtain ⟨N2, hN2⟩ : ∃ N, N = e.l.tail.length + 1 := ⟨_, rfl⟩
      rw [← hN2] at hix2 q0
      obtain ⟨L, hL⟩ : ∃ L, L = ((hdE e).size : Int) - e.d := ⟨_, rfl⟩
      obtain ⟨Q, hQ2⟩ : ∃ Q, Q = (L - 1).tdiv f.qu := ⟨_, rfl⟩
      have hQe : Q = (L - 1) / f.qu := by rw [hQ2]; exact Int.tdiv_eq_ediv_of_nonneg (by omega)
      have hQ0 : 0 ≤ Q := by rw [hQe]; exact Int.ediv_nonneg (by omega) (by omega)
      have hQm : Q * f.qu ≤ L - 1 := by rw [hQe]; exact Int.ediv_mul_le _ (by omega)
      have hQ1 : Q ≤ 65535 := by
        have := Int.mul_le_mul_of_nonneg_left hq0 hQ0
        omega
      obtain ⟨R2, hR2e⟩ : ∃ R2, R2 = min R Q := ⟨_, rfl⟩
      have hn1 : (if Q < R then Q else R) = R2 := by rw [hR2e]; split <;> omega
      have w1 : IntKind.i64.wrap (((hdE e).size : Int) - e.d) = L := by
        simp only [IntKind.wrap, IntKind.bits, IntKind.signed]
        simp
        omega
      have w2 : wrap64 (((hdE e).size : Int) - e.d) = L := by unfold wrap64; omega
      have HR2 : Hid (∀ x ∈ f.r.take (i + 1), x.d + R2 * f.qu < (hdE x).size) := fun x hx => by
        rw [ht] at hx
        rcases List.mem_append.1 hx with q | q
        · have := HR.out x q
          have h3 : R2 * f.qu ≤ R * f.qu := Int.mul_le_mul_of_nonneg_right (by omega) (by omega)
          omega
        · have : x = e := by simpa using q
          subst this
          have h3 : R2 * f.qu ≤ Q * f.qu := Int.mul_le_mul_of_nonneg_right (by omega) (by omega)
          omega
      have hr0 : 0 ≤ R2 := by omega
      have hr1 : R2 ≤ 65535 := by omega
      have hL0 : 0 < L := by omega
      have hL1 : L ≤ 65535 := by omega
      have hs2 : (((hdE e).size : Nat) : Int) ≤ 65535 := by omega
      have hqne : f.qu ≠ 0 := by omega
      have hqn1 : ¬ f.qu = -1 := by omega
      replace hL := Lib.hid hL
      replace hQm := Lib.hid hQm
      replace hQe := Lib.hid hQe
      have hn2 := hR2e.symm
      have htd := hQ2.symm
      clear hR2e hQ2 he hN2 hl2 hV hQ hP1 htb ht hS hd3 hR2 HR hil hg2 hc2
      obtain ⟨hdx, hhd⟩ : ∃ s, s = hdE e := ⟨_, rfl⟩
      rw [← hhd] at *
      clear hhd
      go_wp2_with fail
      go_quiet (fail)
      have b1 : Hid (Below w.heap.size w (wr.drewN nq)) := bel.out.trans ⟨rfl, rfl, rfl, Nat.le_refl _, fun _ _ => rfl⟩
      go_wp2_with fail
      go_roundg (m - (i + 1))
      case measure => omega
      case rel => exact ⟨i + 1, R2, by omega, by go_num, rfl, hr0, by omega, fun _ => hr1, HR2, b1⟩
    · obtain rfl : i = m := by omega
      have g1 : decide ((i : Int) < (i : Int)) = false := decide_eq_false (by omega)
      have g1' : decide (i < i) = false := decide_eq_false hlt
      have hRm := hR2 hmp
      obtain ⟨k, rfl⟩ : ∃ k : Nat, R = k := ⟨R.toNat, by omega⟩
      rw [hm.out, List.take_length] at HR
      have hP1 := hP.out.keep (fun k hk => bel.out.block k (hP.out.lt k hk)) bel.out.size
      have c2 := hP1.h.cell 2 (v := .slice (some ⟨g, o, none⟩) i c) (congrArg some hrv.out)
      have hmul : 0 ≤ (k : Int) * f.qu ∧ (k : Int) * f.qu ≤ 65535 := by
        refine ⟨Int.mul_nonneg (by omega) (by omega), ?_⟩
        have h0 := HR.out _ (getD_mem (r := f.r) (i := 0) (by rw [← hm.out]; exact hmp))
        have h1 := EL.out 0 hmp
        omega
      obtain ⟨n, hn⟩ : ∃ n, n = (k : Int) * f.qu := ⟨_, rfl⟩
      rw [← hn] at hmul
      have w1 : IntKind.i64.wrap ((k : Int) * f.qu) = n := by
        rw [← hn]
        simp only [IntKind.wrap, IntKind.bits, IntKind.signed]
        simp
        omega
      have FIN : Hid (∀ w', PX w' B T { pgOf f with tb := tblE (mid f.r i n) } rv bm S → Kept (fun k => T k ≠ none) w w' → ∃ k : Nat, (∀ e ∈ f.r, e.d + k * f.qu < (hdE e).size) ∧ PG w' B T (pgOf { f with r := f.r.map (addD (k * f.qu)) }) ∧ Kept (fun k => T k ≠ none) w w') := fun w' h1 h2 => by
        refine ⟨k, HR.out, ⟨rv, bm, S, ?_⟩, h2⟩
        have e1 : mid f.r i n = f.r.map (addD (k * f.qu)) := by
          unfold mid
          rw [hm.out, List.take_length, List.drop_length, List.append_nil, hn]
        have e2 : pgOf { f with r := f.r.map (addD (k * f.qu)) } = { pgOf f with tb := tblE (mid f.r i n) } := by
          rw [e1]
          unfold pgOf
          simp only [cnt_map, List.map_map]
          congr 1
        rw [e2]
        exact h1
      have hP2 : Hid (PX wr B T { pgOf f with tb := tblE (mid f.r 0 n) } rv bm S) := by
        have : mid f.r 0 n = f.r := by unfold mid; simp
        rw [this]
        exact hP1
      have K2 : Hid (Kept (fun k => T k ≠ none) w wr) := Kept.of _ bel.out
      replace HR := Lib.hid HR
      replace hn := Lib.hid hn
      clear hP hP1 hR0 hR1 hR2 bel
      go_wp2_with fail
      clear c2
      rename World => w3
      go_loopg [51] i (fun g' s51 wr => ∃ j : Nat, j + g' = i ∧ s51 = .int .i64 j ∧ Hid (PX wr B T { pgOf f with tb := tblE (mid f.r j n) } rv bm S) ∧ Hid (Kept (fun k => T k ≠ none) w wr))
      case atStart => exact ⟨0, by omega, rfl, hP2, K2⟩
      case round =>
        obtain ⟨j, hj, rfl, hP, KJ⟩ := hrel
        by_cases hlt : j < i
        · have g1 : decide ((j : Int) < (i : Int)) = true := decide_eq_true (by omega)
          have g1' : decide (j < i) = true := decide_eq_true hlt
          obtain ⟨hx, hd0, hd1, hd2, hd3⟩ := EL.out j hlt
          have hil : j < f.r.length := by rw [← hm.out]; exact hlt
          have ce := (hP.out.elem (r := f.r) rfl hrv.out j hil).1
          obtain ⟨htb, hup⟩ := mid_at ids.out hil n
          obtain ⟨qb, pv, hS, hQ, hV, hT3, hT4⟩ := hP.out.at htb
          obtain ⟨e, he⟩ : ∃ e, e = f.r.getD j fe0 := ⟨_, rfl⟩
          rw [← he] at hx hd0 hd1 hd2 hd3 ce hS hT3 hT4 hV hQ hup
          obtain ⟨pa, pc, hpv, -⟩ := hV.slice
          have q1 := hQ.cell 1 (v := .int .i64 e.d) rfl
          have z1 := hQ.free 1 (by show 1 < 2; decide)
          have c1 := hP.out.h.cell 1 (v := .int .i64 f.qu) rfl
          have c3 := hP.out.h.cell 3 (v := .map (some bm)) rfl
          have hix0 := hix.out j j wr hlt rfl
          have hlk := hP.out.look hx (v := ptr qb) (by rw [hS]; rfl) wr rfl
          have hlkd := hP.out.look hx (v := ptr qb) (by rw [hS]; rfl) wr.drew rfl
          obtain ⟨v, hv⟩ : ∃ v, v = e.d + n := ⟨_, rfl⟩
          have w2 : IntKind.i64.wrap (e.d + n) = v := by
            rw [hv]
            simp only [IntKind.wrap, IntKind.bits, IntKind.signed]
            simp
            omega
          have w2' : wrap64 (e.d + n) = v := by rw [hv]; unfold wrap64; omega
          obtain ⟨w4, hw4⟩ : ∃ w4, w4 = (wr.setCell ⟨qb, 1, none⟩ (.int .i64 v)).drew := ⟨_, rfl⟩
          have k4 : Kept (fun k => k = qb) wr w4 := by rw [hw4]; exact ((Kept.refl (fun k => k = qb) wr).set ⟨qb, 1, none⟩ rfl _).drew
          have l4 : Lies w4 qb [pv, .int .i64 v] := by
            rw [hw4]
            exact (hQ.put 1 (by show 1 < 2; decide) (.int .i64 v)).keep (by show 0 < 2; decide) (drewB _ _)
          have hP4 : Hid (PX w4 B T { pgOf f with tb := tblE (mid f.r (j + 1) n) } rv bm S) := by
            have := hP.out.que e.id (v := some (e.l, v)) (k4.mono fun k _ q => .inl (by rw [q]; exact hT3)) ⟨qb, pv, hS, l4, hV.of fun k hk => k4.block k (hV.lt k hk) (fun q => by
              have h1 := hT4 k hk
              rw [q, hT3] at h1
              simp at h1), hT3, hT4⟩
            rw [hup, ← hv]
            exact this
          have K4 : Hid (Kept (fun k => T k ≠ none) w w4) := KJ.out.trans (k4.mono fun k _ q => by rw [q, hT3]; simp)
          replace hv := Lib.hid hv
          replace hw4 := Lib.hid hw4
          clear hpv hQ hV hT3 hT4 hS htb hup k4 l4 hP KJ he hd0 hd1 hd2 hd3 hil
          go_wp2_with fail
          go_region
          rw [← hw4.out]
          go_wp2_with fail
          go_roundg (i - (j + 1))
          case measure => omega
          case rel => exact ⟨j + 1, by omega, by go_num, hP4, K4⟩
        · obtain rfl : j = i := by omega
          have g2 : decide ((j : Int) < (j : Int)) = false := decide_eq_false (by omega)
          have g2' : decide (j < j) = false := decide_eq_false hlt
          have FF := Lib.hid (FIN.out wr hP.out KJ.out)
          clear hP KJ FIN hP2 K2 HR hn
          go_wp2_with fail
          go_end0
          exact ⟨rfl, FF.out⟩
end Go.Proofs.Ytiamlldooihkdaa
