/-
  What the document's own Routes answers: the fold over the addresses at which something may change, the first sixteen of it; nothing of rules that are not right. No condition.
-/
import Derived.Test.YtndaohiecpdmlaaGreatPoBnd
import Derived.Test.YtndaohiecpdmlaaGreatPoRfS
namespace Go.Proofs.YtndaohiecpdmlaaGreat
set_option maxRecDepth 100000
open Go.RowKit Go.Sort

/-- What both answer: nothing of rules that are not right; else the fold's first sixteen. -/
def RtsOf (l : List Ru) (fd : List (Int × Int)) : Prop := (ruK l ≠ 0 → fd = []) ∧ (ruK l = 0 → ∃ bs, Bnd l bs ∧ fd = (rfG (goB l) bs false []).take 16)
theorem Bnd.same {l : List Ru} {a b : List Int} (h : Bnd l a) (h' : Bnd l b) : a = b := sorted_same h.srt h'.srt fun x => by rw [h.mem, h'.mem]
theorem RtsOf.same {l : List Ru} {a b : List (Int × Int)} (h : RtsOf l a) (h' : RtsOf l b) : a = b := by
  by_cases q : ruK l = 0
  · obtain ⟨x, h1, e1⟩ := h.2 q
    obtain ⟨y, h2, e2⟩ := h'.2 q
    rw [e1, e2, h1.same h2]
  · rw [h.1 q, h'.1 q]
theorem RtsOf.len {l : List Ru} {a : List (Int × Int)} (h : RtsOf l a) : a.length ≤ 16 := by
  by_cases q : ruK l = 0
  · obtain ⟨x, _, e1⟩ := h.2 q
    rw [e1, List.length_take]
    omega
  · rw [h.1 q]
    simp
/-- Rows of the document's routes. -/
def KD : RowK (Int × Int) := ⟨47, 67, 3, 16, fun x => [.int .u32 x.1, .int .u32 x.2, .int .i64 0], (0, 0)⟩
theorem kd_ok : KD.Ok := ⟨Tryz.underlying47, info_of (z := .agg #[.int .u32 0, .int .u32 0, .int .i64 0]) (by kernel_rfl) rfl, by decide, fun _ => rfl, fun x u hu => by
  simp [KD] at hu
  rcases hu with rfl | rfl | rfl <;> rfl⟩
theorem at_rd (B o N cap i : Nat) (w : World) (h : i < N) (z : Int) (hz : z = i) (p : Nat) (hp : p = o + 3 * i) :
    (Instr.indexAt 47 (.slice (some ⟨B, o, none⟩) N cap) (.int .i64 z)).run Tryz.prog w = .ok (.pointer (some ⟨B, p, none⟩)) w := by
  subst hz hp
  have e : Tryz.prog.elem 47 = 67 := by kernel_rfl
  rw [run_indexAt_slice (P := Tryz.prog) w 47 ⟨B, o, none⟩ N cap .i64 i (by rw [e]; exact Tryz.underlying47), if_pos (by omega), e]
  have s : (sizeOf 67).run Tryz.prog w = .ok 3 w := Tryz.sizeOf67 w
  rw [s]
  simp [Addr.add_mid, Nat.mul_comm]
/-- The fold, a step at a place. -/
theorem rfG_drop (f : Int → Bool) (bs : List Int) (j : Bool) (out : List (Int × Int)) (k : Nat) (hk : k + 1 < bs.length) : rfG f (bs.drop k) j out =
    if f (bs.getD k 0) then (if j then rfG f (bs.drop (k + 1)) true (setH out (bs.getD (k + 1) 0 - 1)) else rfG f (bs.drop (k + 1)) true (out ++ [(bs.getD k 0, bs.getD (k + 1) 0 - 1)])) else rfG f (bs.drop (k + 1)) false out := by
  rw [List.drop_eq_getElem_cons (by omega : k < bs.length), List.drop_eq_getElem_cons hk, rfG, List.getD_eq_getElem?_getD, List.getElem?_eq_getElem (by omega : k < bs.length), List.getD_eq_getElem?_getD, List.getElem?_eq_getElem hk]
  rfl
theorem rfG_end (f : Int → Bool) (bs : List Int) (j : Bool) (out : List (Int × Int)) (k : Nat) (hk : bs.length ≤ k + 1) : rfG f (bs.drop k) j out = out := by
  have h : (bs.drop k).length ≤ 1 := by rw [List.length_drop]; omega
  revert h
  generalize bs.drop k = r
  intro h
  match r, h with
  | [], _ => rfl
  | [_], _ => rfl
theorem Bnd.at {l : List Ru} {bs : List Int} (h : Bnd l bs) (HB : ∀ r ∈ l, RuB r) (hk : ruK l = 0) {k : Nat} (hkl : k + 1 < bs.length) : 0 ≤ bs.getD k 0 ∧ bs.getD k 0 < bs.getD (k + 1) 0 ∧ bs.getD (k + 1) 0 ≤ 4294967296 := by
  have e : ∀ i (hi : i < bs.length), bs.getD i 0 = bs[i] := fun i hi => by rw [List.getD_eq_getElem?_getD, List.getElem?_eq_getElem hi]; rfl
  rw [e k (by omega), e (k + 1) hkl]
  exact ⟨(h.rng HB hk _ (List.getElem_mem _)).1, List.pairwise_iff_getElem.1 h.srt k (k + 1) (by omega) hkl (by omega), (h.rng HB hk _ (List.getElem_mem _)).2⟩
theorem setH_pos {fd : List (Int × Int)} {h : Int} (hp : 0 < fd.length) : 0 < (setH fd h).length := by rw [setH_len]; exact hp
theorem rsomeG_ok (l : List Ru) (v : Value) (a : Int) (b0 : 0 ≤ a) (b1 : a < 4294967296) (w : World) (h : RusAt w v l) (HB : ∀ r ∈ l, RuB r) (hk : ruK l = 0) :
    Calls Tryz.prog 32 #[v, .int .u32 a] w fun e w' => e = .returned (.bool (goB l a)) ∧ Below w.heap.size w w' := by
  refine (rsome_ok l v a b0 b1 w h HB hk).mono ?_
  rintro e w2 ⟨B, rfl, e2, e3⟩
  refine ⟨?_, e3⟩
  have : B = goB l a := by rw [Bool.eq_iff_iff, e2, goB_goes hk]
  rw [this]
set_option maxHeartbeats 16000000 in
theorem rroutes_no (l : List Ru) (v : Value) (w : World) (h : RusAt w v l) (HB : ∀ r ∈ l, RuB r) (hl : l.length ≤ 9223372036854775807) (hk : ruK l ≠ 0) :
    Calls Tryz.prog 20 #[v] w fun e w' => e = .returned (.slice none 0 0) ∧ Below w.heap.size w w' := by
  have C := Lib.hid (rchk18_ok l v w h HB hl)
  obtain ⟨ad, cap, hv, -, -⟩ := h
  generalize l.length = n at hv
  obtain ⟨K, hK⟩ : ∃ K, K = ruK l := ⟨_, rfl⟩
  rw [← hK] at C hk
  have z : (K != 0) = true := by simpa using hk
  clear hK hk
  subst hv
  go_enter Tryz.func20, Tryz.ntmps20
  go_wp2_with (go_at_call 26; refine C.out.mono ?_; rintro e w1 ⟨rfl, b1⟩)
  go_ret
  exact ⟨rfl, b1⟩
set_option maxHeartbeats 16000000 in
theorem rroutes_yes (l : List Ru) (v : Value) (w : World) (h : RusAt w v l) (HB : ∀ r ∈ l, RuB r) (hk : ruK l = 0) :
    Calls Tryz.prog 20 #[v] w fun e w' => ∃ vf fd, e = .returned vf ∧ RowAt KD.n KD.cells KD.x0 w' vf fd ∧ Below w.heap.size w w' ∧ RtsOf l fd := by
  obtain ⟨hl, HR⟩ := ruK_right.1 hk
  have C := Lib.hid (rchk18_ok l v w h HB (by omega))
  rw [hk] at C
  have BO := Lib.hid fun w' (b : Below w.heap.size w w') => rbounds_ok l v w' (h.keep b) HB hk
  have SO := Lib.hid fun a (b0 : 0 ≤ a) (b1 : a < 4294967296) w' (b : Below w.heap.size w w') => rsomeG_ok l v a b0 b1 w' (h.keep b) HB hk
  have BA := Lib.hid fun bs (b : Bnd l bs) k (hkl : k + 1 < bs.length) => b.at HB hk hkl
  have FIN : Hid (∀ bs fd, Bnd l bs → fd = (rfG (goB l) bs false []).take 16 → RtsOf l fd) := fun bs fd b e => ⟨fun c => absurd hk c, fun _ => ⟨bs, b, e⟩⟩
  obtain ⟨ad', cap', hv, -, -⟩ := h
  generalize l.length = nl at hv
  subst hv
  clear hk HB HR hl
  go_enter Tryz.func20, Tryz.ntmps20
  go_wp2_with fail
  refine C.out.mono ?_
  rintro e w1 ⟨rfl, b1⟩
  replace b1 := Lib.hid b1
  clear C
  go_wp2_with fail
  refine (BO.out w1 b1.out).mono ?_
  rintro e w2 ⟨vb, bs, rfl, O2, hbl, hbn, b2⟩
  obtain ⟨ab, cb, rfl⟩ := O2.slice
  have B2 := Lib.hid (b1.out.trans (b2.mono b1.out.size))
  replace O2 := Lib.hid O2
  replace hbn := Lib.hid hbn
  clear b1 b2 BO
  obtain ⟨m, hm⟩ : ∃ m, m = bs.length := ⟨_, rfl⟩
  rw [← hm] at O2 hbl ⊢
  have CB : Hid (0 < m → ∃ gB, ab = some ⟨gB, 0, none⟩ ∧ ∀ w', Below w2.heap.size w2 w' → ∀ i, i < m → w'.cell? ⟨gB, i, none⟩ = some (.int .i64 (bs.getD i 0))) := fun h0 => by
    obtain ⟨g, e, _, _, _⟩ := numL_at O2.out (k := 0) (by rw [← hm]; exact h0)
    refine ⟨g, e, fun w' b' i hi => ?_⟩
    obtain ⟨g', e', _, _, c⟩ := numL_at (O2.out.keep b') (k := i) (by rw [← hm]; exact hi)
    rw [e] at e'
    injection e' with e'
    injection e' with e'
    subst e'
    exact c
  replace hm := Lib.hid hm
  obtain ⟨f, hf⟩ : ∃ f : Int → Bool, f = goB l := ⟨_, rfl⟩
  rw [← hf] at SO FIN
  replace hf := Lib.hid hf
  obtain ⟨F, hF⟩ : ∃ F, F = rfG f bs false [] := ⟨_, rfl⟩
  replace hF := Lib.hid hF
  have bw : w.heap.size ≤ w2.heap.size := B2.out.size
  clear O2
  go_wp2_with fail
  go_loopg [3, 5, 6] m (fun g' s3 s5 s6 wr => ∃ (k : Nat) (a0 : Option Addr) (n0 c0 : Nat) (fd : List (Int × Int)) (j : Bool), s3 = .slice a0 n0 c0 ∧ s5 = .bool j ∧ k + g' = m ∧ s6 = .int .i64 (k : Int) ∧ n0 = fd.length ∧ n0 ≤ k ∧ (j = true → 0 < n0) ∧ Hid (OwnK KD wr w2.heap.size (.slice a0 n0 c0) fd) ∧ Hid (rfG f (bs.drop k) j fd = F) ∧ Hid (Below w2.heap.size w2 wr))
  case atStart => exact ⟨0, none, 0, 0, [], false, rfl, rfl, by omega, rfl, rfl, Nat.le_refl _, (fun c => by cases c), .nil _ _, hF.out.symm, Below.refl _ _⟩
  case round =>
    obtain ⟨k, a0, n0, c0, fd, j, rfl, rfl, hkg, rfl, hn0, hnk, hj0, O, E, b⟩ := hrel
    replace hn0 := Lib.hid hn0
    have wk : wrap64 ((k : Int) + 1) = (k : Int) + 1 := by unfold wrap64; omega
    by_cases hlt : k + 1 < m
    · have g1 : decide ((k : Int) + 1 < (m : Int)) = true := decide_eq_true (by omega)
      have hkl : k + 1 < bs.length := by rw [← hm.out]; exact hlt
      obtain ⟨gB, rfl, CC⟩ := CB.out (by omega)
      have ia := fun w' => at_i64 gB 0 m cb k w' (by omega) (k : Int) rfl k (by omega)
      have ib := fun w' => at_i64 gB 0 m cb (k + 1) w' hlt ((k : Int) + 1) (by omega) (k + 1) (by omega)
      replace CC := Lib.hid CC
      have c1 := CC.out wr b.out k (by omega)
      have E1 := Lib.hid (E.out.symm.trans (rfG_drop f bs j fd k hkl))
      have rg := BA.out bs hbn.out k hkl
      obtain ⟨low, hlow⟩ : ∃ low, low = bs.getD k 0 := ⟨_, rfl⟩
      obtain ⟨nx, hnx⟩ : ∃ nx, nx = bs.getD (k + 1) 0 := ⟨_, rfl⟩
      rw [← hlow, ← hnx] at rg E1
      rw [← hlow] at c1
      have wl : IntKind.u32.wrap low = low := by simp [IntKind.wrap, IntKind.bits, IntKind.signed]; omega
      have wn : IntKind.u32.wrap (nx - 1) = nx - 1 := by simp [IntKind.wrap, IntKind.bits, IntKind.signed]; omega
      have wn64 : wrap64 (nx - 1) = nx - 1 := by unfold wrap64; omega
      have SC := Lib.hid (SO.out low (by omega) (by omega) wr (B2.out.trans (b.out.mono bw)))
      obtain ⟨T, hT⟩ : ∃ T, f low = T := ⟨_, rfl⟩
      rw [hT] at SC E1
      replace hlow := Lib.hid hlow
      replace hnx := Lib.hid hnx
      clear hT E
      go_wp2_with fail
      refine SC.out.mono ?_
      rintro e w4 ⟨rfl, b4⟩
      have O4 := Lib.hid (O.out.keep b4)
      have b5 := Lib.hid (b.out.trans (b4.mono b.out.size))
      clear b4 SC O b c1
      cases T
      · have E2 := Lib.hid E1.out.symm
        simp only [Bool.false_eq_true, if_false] at E2
        go_wp2_with fail
        go_roundg (m - (k + 1))
        case measure => omega
        case rel => exact ⟨k + 1, a0, n0, c0, fd, false, rfl, rfl, by omega, by go_num, hn0.out, by omega, (fun c => by cases c), O4.out, E2.out, b5.out⟩
      · have c2 := CC.out w4 b5.out k (by omega)
        have c3 := CC.out w4 b5.out (k + 1) hlt
        rw [← hlow.out] at c2
        rw [← hnx.out] at c3
        clear hlow hnx
        cases j
        · have E4 : Hid (rfG f (bs.drop (k + 1)) true (fd ++ [(low, nx - 1)]) = F) := by
            have e := E1.out
            simp only [Bool.false_eq_true, if_false, if_true] at e
            exact e.symm
          have hfl : fd.length = n0 := hn0.out.symm
          obtain ⟨a6, c6, w6, hap6, O6, BB6⟩ := O4.out.snocs kd_ok b5.out.size [(low, nx - 1)] 67 47 (by rw [hfl]; show (n0 + 1) * 16 ≤ _; omega) (by rw [hfl]; show n0 + 1 ≤ _; unfold maxLen; omega)
          rw [show fd.length + [(low, nx - 1)].length = n0 + 1 by rw [hfl]; rfl] at hap6 O6
          have B6 := Lib.hid (BB6 w2 b5.out)
          replace O6 := Lib.hid O6
          replace hap6 : Hid (∀ z, (builtin .append #[47, 47] 47 z #[.slice a0 n0 c0, .slice (some ⟨w4.heap.size, 0, none⟩) 1 1]).run Tryz.prog (w4.alloc (.cells #[.int .u32 low, .int .u32 (nx - 1), .int .i64 0] 67)) = .ok (.value (.slice a6 (n0 + 1) c6)) w6) := hap6
          have hfl2 : Hid (n0 + 1 = (fd ++ [(low, nx - 1)]).length) := by
            show _ = _
            rw [List.length_append, hfl]
            rfl
          clear BB6 O4 b5 E1 hfl
          go_wp2_with (refine obB2L _ rfl .append (.tmp 43) (.tmp 51) 47 47 rfl (.slice a0 n0 c0) (.slice (some ⟨w4.heap.size, 0, none⟩) 1 1) rfl rfl hap6.out ?_)
          go_roundg (m - (k + 1))
          case measure => omega
          case rel => exact ⟨k + 1, a6, n0 + 1, c6, fd ++ [(low, nx - 1)], true, rfl, rfl, by omega, by go_num, hfl2.out, by omega, (fun _ => by omega), O6.out, E4.out, B6.out⟩
        · have h0 : 0 < n0 := hj0 rfl
          have E4 : Hid (rfG f (bs.drop (k + 1)) true (setH fd (nx - 1)) = F) := by
            have e := E1.out
            simp only [if_true] at e
            exact e.symm
          obtain ⟨gf, rfl, hgf⟩ : ∃ gf, a0 = some ⟨gf, 0, none⟩ ∧ w2.heap.size ≤ gf := by
            rcases O4.out.form with ⟨e2, e3⟩ | ⟨g', c', e2, _, hb, _⟩
            · have := hn0.out
              rw [e3] at this
              simp at this
              omega
            · injection e2 with r1 r2 r3
              exact ⟨g', r1, hb⟩
          have id := fun w' => at_rd gf 0 n0 c0 (n0 - 1) w' (by omega) ((n0 : Int) - 1) (by omega) (3 * (n0 - 1)) (by omega)
          have hlt3 : n0 - 1 < fd.length := by have := hn0.out; omega
          have cl : w4.cell? ⟨gf, 3 * (n0 - 1) + 1, none⟩ = some (.int .u32 (fd.getD (n0 - 1) (0, 0)).2) := by
            obtain ⟨a, cap, e, _, hr⟩ := O4.out.row kd_ok
            obtain ⟨g, o, ha, hg, c⟩ := hr (n0 - 1) hlt3
            injection e with q1 q2 q3
            rw [← q1] at ha
            injection ha with ha
            injection ha with ha1 ha2
            subst ha1 ha2
            have c1 := c 1 (by decide)
            rw [Nat.zero_add] at c1
            exact c1
          obtain ⟨O6, f1⟩ := O4.out.put kd_ok (k := n0 - 1) (j := 1) (x := ((fd.getD (n0 - 1) (0, 0)).1, nx - 1)) (u := .int .u32 (nx - 1)) hlt3 (by decide) rfl
          have hk3 : KD.n = 3 := rfl
          rw [hk3] at O6 f1
          have e6 : fd.set (n0 - 1) ((fd.getD (n0 - 1) (0, 0)).1, nx - 1) = setH fd (nx - 1) := by unfold setH; rw [← hn0.out]
          rw [e6] at O6
          have O7 := Lib.hid O6
          have B6 : Hid (Below w2.heap.size w2 (w4.setCell ⟨gf, 3 * (n0 - 1) + 1, none⟩ (.int .u32 (nx - 1)))) :=
            ((Kept.of (fun q => w2.heap.size ≤ q) b5.out).set ⟨gf, 3 * (n0 - 1) + 1, none⟩ hgf _).below (Nat.le_refl _) fun q hq => hq
          have hfl2 : Hid (n0 = (setH fd (nx - 1)).length) := by
            show _ = _
            rw [setH_len]
            exact hn0.out
          generalize (fd.getD (n0 - 1) (0, 0)).2 = y at cl
          clear O6 e6 hk3 O4 b5 E1 hlt3
          go_wp2_with fail
          go_roundg (m - (k + 1))
          case measure => omega
          case rel => exact ⟨k + 1, some ⟨gf, 0, none⟩, n0, c0, setH fd (nx - 1), true, rfl, rfl, by omega, by go_num, hfl2.out, by omega, (fun _ => h0), O7.out, E4.out, B6.out⟩
    · have g1 : decide ((k : Int) + 1 < (m : Int)) = false := decide_eq_false (by omega)
      have E2 : Hid (F = fd) := by
        have e := E.out
        rw [rfG_end f bs j fd k (by rw [← hm.out]; omega)] at e
        exact e.symm
      have hfl : Hid (fd.length = n0) := hn0.out.symm
      have B5 := Lib.hid (B2.out.trans (b.out.mono bw))
      have hfm : Hid (fd.take 16 = (rfG f bs false []).take 16) := by
        show _ = _
        rw [← E2.out, hF.out]
      by_cases h16 : 16 < n0
      · have q1 : decide ((16 : Int) < (n0 : Int)) = true := decide_eq_true (by omega)
        have q2 : decide (16 < n0) = true := decide_eq_true h16
        obtain ⟨g', rfl, hc0⟩ : ∃ g', a0 = some ⟨g', 0, none⟩ ∧ n0 ≤ c0 := by
          rcases O.out.form with ⟨e2, e3⟩ | ⟨g', c', e2, hc, _⟩
          · have := hfl.out
            rw [e3] at this
            simp at this
            omega
          · injection e2 with r1 r2 r3
            rw [← r2, ← r3] at hc
            exact ⟨g', r1, hc⟩
        have O6 := Lib.hid ((O.out.pre kd_ok (k := 16) (by rw [hfl.out]; omega)).row kd_ok)
        clear O E b CB
        go_wp2_with fail
        go_ret
        exact ⟨_, fd.take 16, rfl, O6.out, B5.out, FIN.out bs _ hbn.out hfm.out⟩
      · have q1 : decide ((16 : Int) < (n0 : Int)) = false := decide_eq_false (by omega)
        have q2 : decide (16 < n0) = false := decide_eq_false h16
        have O6 := Lib.hid (O.out.row kd_ok)
        have hfm2 : Hid (fd = (rfG f bs false []).take 16) := by
          show _ = _
          rw [← hfm.out, List.take_of_length_le (by rw [hfl.out]; omega)]
        clear O E b CB
        go_wp2_with fail
        go_ret
        exact ⟨_, fd, rfl, O6.out, B5.out, FIN.out bs _ hbn.out hfm2.out⟩
end Go.Proofs.YtndaohiecpdmlaaGreat
