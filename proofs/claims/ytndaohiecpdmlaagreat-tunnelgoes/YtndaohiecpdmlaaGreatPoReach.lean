/-
  What the program's own isReached answers: whether some port at which rules begin, or are over, is allowed with one of the protocols. No condition but that the rules are right.
-/
import Derived.Test.YtndaohiecpdmlaaGreatPoGat
import Derived.Test.YtndaohiecpdmlaaGreatMgA
namespace Go.Proofs.YtndaohiecpdmlaaGreat
set_option maxRecDepth 100000
open Go.RowKit Go.Sort

/-- Rows of numbers. -/
def KI : RowK Int := ⟨77, 3, 1, 8, fun x => [.int .i64 x], 0⟩
theorem ki_ok : KI.Ok := ⟨Tryz.underlying77, info_of (z := .int .i64 0) (by kernel_rfl) rfl, by decide, fun _ => rfl, fun x u hu => by
  simp [KI] at hu
  subst hu
  rfl⟩
theorem at_int (B o N cap i : Nat) (w : World) (h : i < N) (z : Int) (hz : z = i) (p : Nat) (hp : p = o + i) :
    (Instr.indexAt 77 (.slice (some ⟨B, o, none⟩) N cap) (.int .i64 z)).run Tryz.prog w = .ok (.pointer (some ⟨B, p, none⟩)) w := by
  subst hz hp
  have e : Tryz.prog.elem 77 = 3 := by kernel_rfl
  rw [run_indexAt_slice (P := Tryz.prog) w 77 ⟨B, o, none⟩ N cap .i64 i (by rw [e]; exact Tryz.underlying77), if_pos (by omega), e]
  have s : (sizeOf 3).run Tryz.prog w = .ok 1 w := Tryz.sizeOf3 w
  rw [s]
  simp [Addr.add_mid]
/-- Numbers where they stand. -/
theorem num_at {w : World} {v : Value} {ps : List Int} (h : RowAt KI.n KI.cells KI.x0 w v ps) {k : Nat} (hk : k < ps.length) : ∃ g o cap, v = .slice (some ⟨g, o, none⟩) ps.length cap ∧ w.cell? ⟨g, o + k, none⟩ = some (.int .i64 (ps.getD k 0)) := by
  obtain ⟨a, cap, e, _, h⟩ := h
  obtain ⟨g, o, ha, hg, c⟩ := h k hk
  have := c 0 (by decide)
  refine ⟨g, o, cap, by rw [e, ha], ?_⟩
  have hn : KI.n = 1 := rfl
  rw [hn, Nat.one_mul, Nat.add_zero] at this
  exact this
def oneB (l : List Ru) (p a : Int) : Bool := l.any fun r => con r p a && (sayL l p a r.fr || sayL l p a (r.up + 1))
def reachB (l : List Ru) (ps : List Int) (a : Int) : Bool := ps.any fun p => oneB l p a
theorem reach_drop (l : List Ru) (ps : List Int) (a : Int) (k : Nat) (hk : k < ps.length) : reachB l (ps.drop k) a = (oneB l (ps.getD k 0) a || reachB l (ps.drop (k + 1)) a) := by
  rw [List.drop_eq_getElem_cons hk, reachB, List.any_cons, List.getD_eq_getElem?_getD, List.getElem?_eq_getElem hk]
  rfl
theorem reach_end (l : List Ru) (ps : List Int) (a : Int) : reachB l (ps.drop ps.length) a = false := by rw [List.drop_length]; rfl
theorem gat_one {l : List Ru} {p a x : Int} (h : gatB l p a x = true) (hs : sayL l p a x = true) : oneB l p a = true := by
  unfold gatB at h
  rw [List.any_eq_true] at h
  obtain ⟨r, hr, h⟩ := h
  simp only [Bool.and_eq_true, Bool.or_eq_true, decide_eq_true_eq] at h
  unfold oneB
  rw [List.any_eq_true]
  refine ⟨r, hr, ?_⟩
  rw [h.1, Bool.true_and]
  rcases h.2 with e | e
  · rw [← e, hs]; rfl
  · rw [← e, hs]; simp
theorem gat_none {l : List Ru} {p a : Int} (h : ∀ x, gatB l p a x = true → sayL l p a x = false) : oneB l p a = false := by
  rw [Bool.eq_false_iff]
  intro c
  unfold oneB at c
  rw [List.any_eq_true] at c
  obtain ⟨r, hr, c⟩ := c
  simp only [Bool.and_eq_true, Bool.or_eq_true] at c
  have g : ∀ x, (x = r.fr ∨ x = r.up + 1) → gatB l p a x = true := fun x hx => by
    unfold gatB
    rw [List.any_eq_true]
    exact ⟨r, hr, by rw [c.1]; simpa using hx⟩
  rcases c.2 with e | e
  · rw [h _ (g _ (.inl rfl))] at e; cases e
  · rw [h _ (g _ (.inr rfl))] at e; cases e
set_option maxHeartbeats 8000000 in
theorem reach_ok (l : List Ru) (ps : List Int) (v vp : Value) (a : Int) (b0 : 0 ≤ a) (b1 : a < 4294967296) (w : World) (h : RusAt w v l) (hp : RowAt KI.n KI.cells KI.x0 w vp ps) (HB : ∀ r ∈ l, RuB r) (HR : ∀ r ∈ l, ruR r = true) (hl : l.length ≤ 32) (hpl : ps.length ≤ 9223372036854775807) :
    Calls Tryz.prog 47 #[v, vp, .int .u32 a] w fun e w' => e = .returned (.bool (reachB l ps a)) ∧ Below w.heap.size w w' := by
  have H := Lib.hid h
  have HP := Lib.hid hp
  have hvb : Hid (0 < l.length → ∀ g o m c, v = .slice (some ⟨g, o, none⟩) m c → g ≠ w.heap.size) := fun h0 g o m c e => by
    obtain ⟨g', o', cap, e', hg, _⟩ := h.at h0 rfl
    rw [e'] at e
    injection e with e
    injection e with e
    injection e with e
    omega
  have GT := Lib.hid fun p w' (b : Below w.heap.size w w') (s : SetU w' w.heap.size 0 fun _ => false) => gat_ok l v w.heap.size 0 (fun _ => false) p a b0 b1 w' (h.keep b) hvb.out HB HR hl s (by omega)
  have SY := Lib.hid fun p x w' (b : Below w.heap.size w w') => says_ok l v p a x b0 b1 w' (h.keep b) HB (by omega)
  obtain ⟨ad', c', hv, -, -⟩ := h
  obtain ⟨ap', cp', hvp, -, -⟩ := hp
  obtain ⟨m, hm⟩ : ∃ m, m = ps.length := ⟨_, rfl⟩
  rw [← hm] at hpl hvp
  replace hm := Lib.hid hm
  obtain ⟨E, hE⟩ : ∃ E, E = reachB l ps a := ⟨_, rfl⟩
  rw [← hE]
  have E0 : Hid (reachB l (ps.drop 0) a = E) := hE.symm
  clear hE
  generalize l.length = nl at hv
  subst hv hvp
  have S0 : Hid (SetU (w.alloc (.map #[] 0)) w.heap.size 0 fun _ => false) := SetU.made w
  have hmk := @run_makeMap Tryz.prog
  have bl0 : Hid (Below w.heap.size w (w.alloc (.map #[] 0))) := (Below.refl _ _).alloc (Nat.le_refl _) _
  clear hvb
  go_enter Tryz.func47, Tryz.ntmps47
  go_wp2_with fail
  go_loopg [14] m (fun g' iv wr => ∃ (k n : Nat) (T : Int → Bool), k + g' = m ∧ iv = .int .i64 k ∧ Hid (SetU wr w.heap.size n T) ∧ Hid (reachB l (ps.drop k) a = E) ∧ Hid (Below w.heap.size w wr))
  case atStart => exact ⟨0, 0, _, by omega, rfl, S0.out, E0.out, bl0.out⟩
  case round =>
    obtain ⟨k, n, T, hk, rfl, SS, EE, bl⟩ := hrel
    by_cases hlt : k < m
    · have g1 : decide ((k : Int) < (m : Int)) = true := decide_eq_true (by omega)
      have g1' : decide (k < m) = true := decide_eq_true hlt
      have hkp : k < ps.length := by rw [← hm.out]; exact hlt
      obtain ⟨g, o, cap, e0, m0⟩ := num_at (HP.out.keep bl.out) hkp
      injection e0 with e1 e2 e3
      subst e1 e3
      clear e2
      have ia := fun w' => at_int g o m cp' k w' hlt (k : Int) rfl (o + k) rfl
      have E1 := Lib.hid (EE.out.symm.trans (reach_drop l ps a k hkp))
      obtain ⟨p, hpp⟩ : ∃ p, p = ps.getD k 0 := ⟨_, rfl⟩
      rw [← hpp] at m0 E1
      clear hpp EE
      go_wp2_with (refine SS.out.wclr rfl _ rfl rfl ?_; intro w1 s1 g1; have S1 := Lib.hid s1; have bl1 := Lib.hid (bl.out.grown g1 bl.out.size (fun j hj => by injection hj with hj; exact Nat.le_of_eq hj)); clear s1 g1)
      refine (GT.out p w1 bl1.out S1.out).mono ?_
      rintro e w2 ⟨rfl, s2, k2⟩
      have S2 : Hid (SetU w2 w.heap.size 64 fun q => gatB l p a q) := (s2.more (by omega)).same fun q => by rw [Bool.false_or]
      have bl2 : Hid (Below w.heap.size w w2) := bl1.out.trans (k2.below bl1.out.size fun x hx => Nat.le_of_eq hx.symm)
      clear s2 k2 S1 bl1 SS bl m0
      go_wp2_with (refine S2.out.wrange rfl _ rfl rfl ?_; intro w3 cnt3 r3 g3 s3; have bl3 : Hid (Below w.heap.size w w3) := bl2.out.grown g3 bl2.out.size (fun j hj => by cases hj); have hr3 : w.heap.size ≤ w2.heap.size := bl2.out.size; go_frame)
      obtain ⟨R, hR⟩ : ∃ R, R = w2.heap.size := ⟨_, rfl⟩
      rw [← hR] at r3 hr3 ⊢
      have R3 : Hid (RangeU w3 w.heap.size R (fun q => gatB l p a q) (fun q => gatB l p a q) cnt3) := r3
      clear r3 g3 s3 hR bl2 S2
      go_loopw [10] (fun _ wx => ∃ (left : Int → Bool) (cnt : Nat), Hid (RangeU wx w.heap.size R (fun q => gatB l p a q) left cnt) ∧ Hid (∀ x, gatB l p a x = true → left x = false → sayL l p a x = false) ∧ Hid (Below w.heap.size w wx)) (fun _ wx => wx.rangeLeft w.heap.size R)
      case atStart => exact ⟨_, cnt3, R3.out, (fun x h1 h2 => by rw [h1] at h2; cases h2), bl3.out⟩
      case round =>
        obtain ⟨left, cnt, RR, NO, bl⟩ := hrel
        go_wp2_with (refine RR.out.wnext rfl _ rfl rfl ?_ ?_)
        · intro hd
          have E2 : Hid (reachB l (ps.drop (k + 1)) a = E) := by
            have e := E1.out
            rw [gat_none (fun x hx => NO.out x hx (hd x)), Bool.false_or] at e
            exact e.symm
          obtain ⟨n2, T2, S5⟩ := RR.out.set
          replace S5 := Lib.hid S5
          clear NO RR E1 hd
          go_wp2_with fail
          go_roundg (m - (k + 1))
          case measure => omega
          case rel => exact ⟨k + 1, n2, T2, by omega, by go_num, S5.out, E2.out, bl.out⟩
        · intro x w4 cnt4 hlx r4 hlt4 g4 s4 hen
          have hgx := Lib.hid (RR.out.sub hlx)
          have hc := RR.out.cnt
          have bl4 := Lib.hid (bl.out.grown g4 bl.out.size (fun j hj => by injection hj with hj; omega))
          have R4 := Lib.hid r4
          have SX := Lib.hid (SY.out p x w4 bl4.out)
          replace hlx := Lib.hid hlx
          clear RR bl r4 g4 s4
          go_wp2_with fail
          refine SX.out.mono ?_
          rintro e w5 ⟨rfl, b5⟩
          have bl5 := Lib.hid (bl4.out.trans (b5.mono bl4.out.size))
          have R5 := Lib.hid (R4.out.keep b5)
          have hc5 := R5.out.cnt
          clear b5 bl4 R4 SX
          cases hs : sayL l p a x with
          | true =>
            have F : Hid (E = true) := by
              have e := E1.out
              rw [gat_one hgx.out hs, Bool.true_or] at e
              exact e
            replace hs := Lib.hid hs
            go_wp2_with fail
            go_ret
            exact ⟨by rw [F.out]; rfl, bl5.out⟩
          | false =>
            have NO5 : Hid (∀ y, gatB l p a y = true → (left y && !decide (y = x)) = false → sayL l p a y = false) := fun y h1 h2 => by
              by_cases q : y = x
              · rw [q]; exact hs
              · rw [decide_eq_false q] at h2
                exact NO.out y h1 (by simpa using h2)
            replace hs := Lib.hid hs
            clear NO
            go_wp2_with fail
            go_roundw
            case rel => exact ⟨_, cnt4, R5.out, NO5.out, bl5.out⟩
            case measure =>
              rw [hc, hc5]
              exact hlt4
    · obtain rfl : k = m := by omega
      have g1 : decide ((k : Int) < (k : Int)) = false := decide_eq_false (by omega)
      have g1' : decide (k < k) = false := decide_eq_false hlt
      have F : Hid (E = false) := by
        have := EE.out
        rw [hm.out, reach_end] at this
        exact this.symm
      go_wp2_with fail
      go_ret
      exact ⟨by rw [F.out]; rfl, bl.out⟩
end Go.Proofs.YtndaohiecpdmlaaGreat
