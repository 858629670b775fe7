/-
  What the program's own Routes answers of right rules. No condition.
-/
import Derived.Test.YtndaohiecpdmlaaGreatPoRts
namespace Go.Proofs.YtndaohiecpdmlaaGreat
set_option maxRecDepth 100000
open Go.RowKit Go.Sort

set_option maxHeartbeats 16000000 in
theorem routes_yes (l : List Ru) (v : Value) (w : World) (h : RusAt w v l) (HB : ∀ r ∈ l, RuB r) (hk : ruK l = 0) :
    Calls Tryz.prog 29 #[v] w fun e w' => ∃ vf fd ps st, e = .returned vf ∧ OwnK KT w' w.heap.size vf fd ∧ Below w.heap.size w w' ∧ fd.length ≤ 16 ∧ (∀ x, x ∈ ps ↔ ∃ r ∈ l, r.pro = x) ∧ st.Pairwise (· < ·) ∧ (∀ x, x ∈ st ↔ x ∈ rawS l) ∧ fd = prG (fun a => reachB l ps a) st [] := by
  obtain ⟨hl, HR⟩ := ruK_right.1 hk
  have C := Lib.hid (pchk18_ok l v w h HB (by omega))
  rw [hk] at C
  have PO := Lib.hid fun w' (b : Below w.heap.size w w') => protos_ok l v w' (h.keep b) hl
  have SO := Lib.hid fun w' (b : Below w.heap.size w w') => starts_ok l v w' (h.keep b) HB HR hl
  have RO := Lib.hid fun ps vp a (b0 : 0 ≤ a) (b1 : a < 4294967296) w' (b : Below w.heap.size w w') (hp : RowAt KI.n KI.cells KI.x0 w' vp ps) (hpl : ps.length ≤ 9223372036854775807) => reach_ok l ps v vp a b0 b1 w' (h.keep b) hp HB HR hl hpl
  have IN : Hid (∀ x, x ∈ rawS l → 0 ≤ x ∧ x < 4294967296) := fun x hx => raw_in HB HR hx
  obtain ⟨ad', cap', hv, -, -⟩ := h
  generalize l.length = nl at hv
  subst hv
  clear hk HB HR hl
  go_enter Tryz.func29, Tryz.ntmps29
  go_wp2_with fail
  refine C.out.mono ?_
  rintro e w1 ⟨rfl, b1⟩
  replace b1 := Lib.hid b1
  clear C
  go_wp2_with fail
  refine (PO.out w1 b1.out).mono ?_
  rintro e w2 ⟨vp, ps, rfl, O2, hpl, hpm, b2⟩
  obtain ⟨ap, cp, rfl⟩ := O2.slice
  have B2 := Lib.hid (b1.out.trans (b2.mono b1.out.size))
  replace O2 := Lib.hid (O2.row ki_ok)
  replace hpm := Lib.hid hpm
  clear b1 b2 PO
  go_wp2_with fail
  refine (SO.out w2 B2.out).mono ?_
  rintro e w3 ⟨vs, st, rfl, O3, hsl, hsp, hsm, b3⟩
  obtain ⟨as2, cs, rfl⟩ := O3.slice
  have B3 := Lib.hid (B2.out.trans (b3.mono B2.out.size))
  have P3 := Lib.hid (O2.out.keep b3)
  replace O3 := Lib.hid (O3.row ku_ok)
  replace hsm := Lib.hid hsm
  replace hsp := Lib.hid hsp
  clear B2 b3 SO O2
  obtain ⟨m, hm⟩ : ∃ m, m = st.length := ⟨_, rfl⟩
  obtain ⟨np, hnp⟩ : ∃ np, np = ps.length := ⟨_, rfl⟩
  rw [← hm] at O3 hsl ⊢
  rw [← hnp] at P3 ⊢
  replace hm := Lib.hid hm
  replace hpl := Lib.hid hpl
  replace hnp := Lib.hid hnp
  obtain ⟨f, hf⟩ : ∃ f : Int → Bool, f = fun a => reachB l ps a := ⟨_, rfl⟩
  replace hf := Lib.hid hf
  obtain ⟨F, hF⟩ : ∃ F, F = prG f st [] := ⟨_, rfl⟩
  replace hF := Lib.hid hF
  have bw : w.heap.size ≤ w3.heap.size := B3.out.size
  go_wp2_with fail
  go_loopg [3, 19] m (fun g' s3 s8 wr => ∃ (k : Nat) (a0 : Option Addr) (n0 c0 : Nat) (fd : List (Int × Int)), s3 = .slice a0 n0 c0 ∧ k + g' = m ∧ s8 = .int .i64 k ∧ n0 = fd.length ∧ n0 ≤ 16 ∧ Hid (OwnK KT wr w3.heap.size (.slice a0 n0 c0) fd) ∧ Hid (prG f (st.drop k) fd = F) ∧ Hid (Below w3.heap.size w3 wr))
  case atStart => exact ⟨0, none, 0, 0, [], rfl, by omega, rfl, rfl, by omega, .nil _ _, hF.out.symm, Below.refl _ _⟩
  case round =>
    obtain ⟨k, a0, n0, c0, fd, rfl, hk, rfl, hn0, hn16, O, E, b⟩ := hrel
    replace hn0 := Lib.hid hn0
    by_cases hlt : k < m
    · have g1 : decide ((k : Int) < (m : Int)) = true := decide_eq_true (by omega)
      have g1' : decide (k < m) = true := decide_eq_true hlt
      have hkl : k < st.length := by rw [← hm.out]; exact hlt
      obtain ⟨g, o, cap, e0, m0⟩ := numU_at (O3.out.keep b.out) hkl
      injection e0 with e1 e2 e3
      subst e1
      clear e2 e3
      have ia := fun w' => at_u32 g o m cs k w' hlt (k : Int) rfl (o + k) rfl
      have E1 := Lib.hid (E.out.symm.trans (prG_drop f st fd k hkl))
      have lin := IN.out _ ((hsm.out _).1 (by rw [List.getD_eq_getElem?_getD, List.getElem?_eq_getElem hkl]; exact List.getElem_mem _) : st.getD k 0 ∈ rawS l)
      obtain ⟨low, hlow⟩ : ∃ low, low = st.getD k 0 := ⟨_, rfl⟩
      rw [← hlow] at m0 E1 lin
      clear hlow
      have RC := Lib.hid (RO.out ps (.slice ap np cp) low lin.1 lin.2 wr (B3.out.trans (b.out.mono bw)) (P3.out.keep b.out) (by have := hpl.out; omega))
      have hfl : Hid (reachB l ps low = f low) := by
        show _ = _
        rw [hf.out]
      rw [hfl.out] at RC
      obtain ⟨T, hT⟩ : ∃ T, f low = T := ⟨_, rfl⟩
      rw [hT] at RC E1
      clear hT hfl E
      go_wp2_with fail
      refine RC.out.mono ?_
      rintro e w4 ⟨rfl, b4⟩
      have O4 := Lib.hid (O.out.keep b4)
      have b5 := Lib.hid (b.out.trans (b4.mono b.out.size))
      clear b4 RC O b
      cases T
      · have E2 := Lib.hid E1.out.symm
        simp only [Bool.false_eq_true, if_false] at E2
        go_wp2_with fail
        go_roundg (m - (k + 1))
        case measure => omega
        case rel => exact ⟨k + 1, a0, n0, c0, fd, rfl, by omega, by go_num, hn0.out, hn16, O4.out, E2.out, b5.out⟩
      · obtain ⟨H, hH⟩ : ∃ H, H = endH (st.drop (k + 1)) := ⟨_, rfl⟩
        rw [← hH] at E1
        have E2 := Lib.hid E1.out
        simp only [if_true] at E2
        clear E1
        replace hH := Lib.hid hH
        go_upto_if 33 with fail
        go_cut [8] (fun s wx => s = .int .u32 H ∧ wx = w4)
        case first =>
          by_cases hk1 : k + 1 < m
          · have q1 : decide ((k : Int) + 1 < (m : Int)) = true := decide_eq_true (by omega)
            have hkl1 : k + 1 < st.length := by rw [← hm.out]; exact hk1
            obtain ⟨g2, o2, cap2, e2, m2⟩ := numU_at (O3.out.keep b5.out) hkl1
            injection e2 with e3 e4 e5
            injection e3 with e3
            injection e3 with e3 e6
            subst e3 e6
            clear e4 e5
            have ib := fun w' => at_u32 g o m cs (k + 1) w' hk1 ((k : Int) + 1) (by omega) (o + (k + 1)) rfl
            have eH := Lib.hid (hH.out.trans (endH_more hkl1))
            obtain ⟨x, hx⟩ : ∃ x, x = st.getD (k + 1) 0 := ⟨_, rfl⟩
            rw [← hx] at m2 eH
            clear hx m0
            go_wp2_with fail
            go_meet
            exact ⟨by rw [eH.out]; rfl, rfl⟩
          · have q1 : decide ((k : Int) + 1 < (m : Int)) = false := decide_eq_false (by omega)
            have eH := Lib.hid (hH.out.trans (endH_last (by rw [← hm.out]; omega)))
            clear m0
            go_wp2_with fail
            go_meet
            exact ⟨by rw [eH.out], rfl⟩
        case rest =>
          obtain ⟨rfl, rfl⟩ := hcut
          obtain ⟨J, hJ⟩ : ∃ J, J = joinB fd low := ⟨_, rfl⟩
          rw [← hJ] at E2
          replace hJ := Lib.hid hJ
          clear m0
          have hrow := Lib.hid (O4.out.row kt_ok)
          have last : Hid (0 < n0 → ∃ gf, a0 = some ⟨gf, 0, none⟩ ∧ w3.heap.size ≤ gf ∧ wc.cell? ⟨gf, 3 * (n0 - 1) + 1, none⟩ = some (.int .u32 (fd.getD (n0 - 1) (0, 0)).2)) := fun h0 => by
            obtain ⟨a, cap, e, _, hr⟩ := hrow.out
            have hl : n0 - 1 < fd.length := by have := hn0.out; omega
            obtain ⟨gf, of, ha, hg, c⟩ := hr (n0 - 1) hl
            have c1 := c 1 (by decide)
            rcases O4.out.form with ⟨e2, e3⟩ | ⟨g', c', e2, _, hb, _⟩
            · rw [e3] at hl; simp at hl
            · injection e with q1 q2 q3
              injection e2 with r1 r2 r3
              rw [← q1, r1] at ha
              injection ha with ha
              injection ha with ha1 ha2
              subst ha1 ha2
              refine ⟨_, r1, hb, ?_⟩
              rw [Nat.zero_add] at c1
              exact c1
          go_upto_region 14 with fail
          go_cut [54] (fun s wx => s = .bool J ∧ wx = wc)
          case first =>
            by_cases h0 : 0 < n0
            · have q1 : decide ((0 : Int) ≤ (n0 : Int) - 1) = true := decide_eq_true (by omega)
              obtain ⟨gf, rfl, hgf, c1⟩ := last.out h0
              have ib := fun w' => at_ro gf 0 n0 c0 (n0 - 1) w' (by omega) ((n0 : Int) - 1) (by omega) (3 * (n0 - 1)) (by omega)
              have eJ : Hid (J = ((fd.getD (n0 - 1) (0, 0)).2 == IntKind.u32.wrap (low - 1))) := by
                show J = _
                rw [hJ.out]
                unfold joinB
                rw [← hn0.out, decide_eq_true h0, Bool.true_and]
                rfl
              obtain ⟨y, hy⟩ : ∃ y, y = (fd.getD (n0 - 1) (0, 0)).2 := ⟨_, rfl⟩
              rw [← hy] at c1 eJ
              clear hy
              go_wp2_with fail
              go_meet
              exact ⟨congrArg Value.bool eJ.out.symm, rfl⟩
            · have q1 : decide ((0 : Int) ≤ (n0 : Int) - 1) = false := decide_eq_false (by omega)
              have eJ : Hid (J = false) := by
                show J = _
                rw [hJ.out]
                unfold joinB
                rw [← hn0.out, decide_eq_false h0, Bool.false_and]
              go_wp2_with fail
              go_meet
              exact ⟨congrArg Value.bool eJ.out.symm, rfl⟩
          case rest =>
            obtain ⟨rfl, rfl⟩ := hcut
            cases J
            · have E3 := Lib.hid E2.out
              simp only [Bool.false_eq_true, if_false] at E3
              clear E2 last hrow
              by_cases h16 : n0 = 16
              · have z16 : (n0 == 16) = true := by simpa using h16
                have z16' : ((n0 : Int) == 16) = true := by simp [h16]
                have E4 : Hid (fd = prG (fun a => reachB l ps a) st []) := by
                  have e := E3.out
                  rw [if_pos (by rw [← hn0.out]; exact h16)] at e
                  show _ = _
                  rw [← e, hF.out, hf.out]
                have hfl : Hid (fd.length ≤ 16) := by rw [← hn0.out]; exact hn16
                have O5 := Lib.hid (O4.out.base (b2 := w.heap.size) fun g hg => Nat.le_trans bw (O4.out.lt g hg).1)
                have B5 := Lib.hid (B3.out.trans (b5.out.mono bw))
                replace h16 := Lib.hid h16
                clear O4 b5 E3
                go_wp2_with fail
                go_ret
                exact ⟨_, fd, ps, st, rfl, O5.out, B5.out, hfl.out, hpm.out, hsp.out, hsm.out, E4.out⟩
              · have z16 : (n0 == 16) = false := by simpa using h16
                have z16' : ((n0 : Int) == 16) = false := by simp; omega
                have hfl : fd.length = n0 := hn0.out.symm
                have E4 : Hid (prG f (st.drop (k + 1)) (fd ++ [(low, H)]) = F) := by
                  have e := E3.out
                  rw [if_neg (by rw [hfl]; exact h16)] at e
                  exact e.symm
                obtain ⟨a6, c6, w6, hap6, O6, BB6⟩ := O4.out.snoc kt_ok b5.out.size (low, H) 82 61 (by rw [hfl]; show (n0 + 1) * 16 ≤ _; omega) (by rw [hfl]; unfold maxLen; omega)
                rw [hfl] at hap6 O6
                have B6 := Lib.hid (BB6 w3 b5.out)
                replace O6 := Lib.hid O6
                replace hap6 : Hid (∀ z, (builtin .append #[61, 61] 61 z #[.slice a0 n0 c0, .slice (some ⟨wc.heap.size, 0, none⟩) 1 1]).run Tryz.prog (wc.alloc (.cells #[.int .u32 low, .int .u32 H, .int .i64 0] 82)) = .ok (.value (.slice a6 (n0 + 1) c6)) w6) := hap6
                have hfl2 : Hid (n0 + 1 = (fd ++ [(low, H)]).length) := by
                  show _ = _
                  rw [List.length_append, hfl]
                  rfl
                clear BB6 O4 b5 E3 hfl
                go_wp2_with (refine obB2L _ rfl .append (.tmp 63) (.tmp 67) 61 61 rfl (.slice a0 n0 c0) (.slice (some ⟨wc.heap.size, 0, none⟩) 1 1) rfl rfl hap6.out ?_)
                go_roundg (m - (k + 1))
                case measure => omega
                case rel => exact ⟨k + 1, a6, n0 + 1, c6, fd ++ [(low, H)], rfl, by omega, by go_num, hfl2.out, by omega, O6.out, E4.out, B6.out⟩
            · have h0 : 0 < n0 := by
                have e := hJ.out
                unfold joinB at e
                rw [← hn0.out] at e
                rcases Nat.eq_zero_or_pos n0 with q | q
                · rw [q] at e; simp at e
                · exact q
              have E3 := Lib.hid E2.out
              simp only [if_true] at E3
              obtain ⟨gf, rfl, hgf, c1⟩ := last.out h0
              have ib := fun w' => at_ro gf 0 n0 c0 (n0 - 1) w' (by omega) ((n0 : Int) - 1) (by omega) (3 * (n0 - 1)) (by omega)
              have hlt3 : n0 - 1 < fd.length := by have := hn0.out; omega
              obtain ⟨O6, f1⟩ := O4.out.put kt_ok (k := n0 - 1) (j := 1) (x := ((fd.getD (n0 - 1) (0, 0)).1, H)) (u := .int .u32 H) hlt3 (by decide) rfl
              have hk3 : KT.n = 3 := rfl
              rw [hk3] at O6 f1
              have e6 : fd.set (n0 - 1) ((fd.getD (n0 - 1) (0, 0)).1, H) = setH fd H := by unfold setH; rw [← hn0.out]
              rw [e6] at O6
              have O7 := Lib.hid O6
              have B6 : Hid (Below w3.heap.size w3 (wc.setCell ⟨gf, 3 * (n0 - 1) + 1, none⟩ (.int .u32 H))) :=
                ((Kept.of (fun q => w3.heap.size ≤ q) b5.out).set ⟨gf, 3 * (n0 - 1) + 1, none⟩ hgf _).below (Nat.le_refl _) fun q hq => hq
              have hfl2 : Hid (n0 = (setH fd H).length) := by
                show _ = _
                unfold setH
                rw [List.length_set]
                exact hn0.out
              have E4 : Hid (prG f (st.drop (k + 1)) (setH fd H) = F) := E3.out.symm
              generalize (fd.getD (n0 - 1) (0, 0)).2 = y at c1
              clear O6 e6 hk3 O4 b5 E3 E2 last hrow hlt3
              go_wp2_with fail
              go_roundg (m - (k + 1))
              case measure => omega
              case rel => exact ⟨k + 1, some ⟨gf, 0, none⟩, n0, c0, setH fd H, rfl, by omega, by go_num, hfl2.out, hn16, O7.out, E4.out, B6.out⟩
    · obtain rfl : k = m := by omega
      have g1 : decide ((k : Int) < (k : Int)) = false := decide_eq_false (by omega)
      have g1' : decide (k < k) = false := decide_eq_false hlt
      have E2 : Hid (fd = prG (fun a => reachB l ps a) st []) := by
        have e := E.out
        rw [hm.out, prG_end] at e
        show _ = _
        rw [e, hF.out, hf.out]
      have hfl : Hid (fd.length ≤ 16) := by rw [← hn0.out]; exact hn16
      have O5 := Lib.hid (O.out.base (b2 := w.heap.size) fun g hg => Nat.le_trans bw (O.out.lt g hg).1)
      have B5 := Lib.hid (B3.out.trans (b.out.mono bw))
      clear O E b
      go_wp2_with fail
      go_ret
      exact ⟨_, fd, ps, st, rfl, O5.out, B5.out, hfl.out, hpm.out, hsp.out, hsm.out, E2.out⟩
end Go.Proofs.YtndaohiecpdmlaaGreat
