/-
  What the program's own startsOf answers: the addresses at which rules begin, or are over, rising. No condition but that the rules are right.
-/
import Derived.Test.YtndaohiecpdmlaaGreatPoPro
namespace Go.Proofs.YtndaohiecpdmlaaGreat
set_option maxRecDepth 100000
open Go.RowKit Go.Sort

/-- Onto a row of one's own: one entry, from a block that is made for it. -/
theorem OwnK.snoc {X : Type} {K : RowK X} (hK : K.Ok) {w : World} {base : Nat} {v : Value} {d : List X} (h : OwnK K w base v d) (hb : base ≤ w.heap.size) (x : X) (t ty : TypeId) (hd : (d.length + 1) * K.bytes ≤ 140737488355328) (hd2 : d.length + 1 ≤ maxLen) :
    ∃ a c w', (∀ z, (builtin .append #[K.st, K.st] ty z #[v, .slice (some ⟨w.heap.size, 0, none⟩) 1 1]).run Tryz.prog (w.alloc (.cells (K.cells x).toArray t)) = .ok (.value (.slice a (d.length + 1) c)) w') ∧ OwnK K w' base (.slice a (d.length + 1) c) (d ++ [x]) ∧ ∀ w0, Below base w0 w → Below base w0 w' := by
  have b1 : Below w.heap.size w (w.alloc (.cells (K.cells x).toArray t)) := (Below.refl _ _).alloc (Nat.le_refl _) _
  obtain ⟨v5, w5, hap, O5, g5, -, -⟩ := (h.keep b1).cat hK (Nat.le_trans hb b1.size) (row_one w x t) hd hd2 ty
  obtain ⟨a, c, e⟩ := O5.slice
  rw [List.length_append] at e
  subst e
  refine ⟨a, c, w5, hap, O5, fun w0 b0 => ?_⟩
  have b2 : Below base w0 (w.alloc (.cells (K.cells x).toArray t)) := b0.alloc hb _
  refine ⟨g5.os.trans b2.os, g5.tape.trans b2.tape, g5.output.trans b2.output, Nat.le_trans b2.size g5.size, fun k hk => ?_⟩
  have hk2 : k < (w.alloc (.cells (K.cells x).toArray t)).heap.size := by
    have := b1.size
    omega
  exact (g5.block k hk2 (by
    intro q
    have := (h.lt k q.symm).1
    omega)).trans (b2.block k hk)
/-- The last address of a rule. -/
def hiR (r : Ru) : Int := r.ad + sz r.bits - 1
def rawR (r : Ru) : List Int := if hiR r = 4294967295 then [r.ad] else [r.ad, hiR r + 1]
def rawS (l : List Ru) : List Int := l.flatMap rawR
theorem rawS_len : ∀ l : List Ru, (rawS l).length ≤ 2 * l.length
  | [] => by simp [rawS]
  | r :: l => by
    have := rawS_len l
    unfold rawS at this ⊢
    rw [List.flatMap_cons, List.length_append, List.length_cons]
    have : (rawR r).length ≤ 2 := by unfold rawR; split <;> simp
    omega
theorem rawS_take (l : List Ru) (k : Nat) (hk : k < l.length) : rawS (l.take (k + 1)) = rawS (l.take k) ++ rawR (l.getD k ru0) := by
  unfold rawS
  rw [List.take_add_one, List.getElem?_eq_getElem hk, List.flatMap_append, List.getD_eq_getElem?_getD, List.getElem?_eq_getElem hk]
  simp
theorem hi_in {r : Ru} (hb : RuB r) (h : rt r.ad r.bits = true) : r.ad ≤ hiR r ∧ hiR r < 4294967296 := by
  obtain ⟨h0, h1, h2⟩ := rt_bits h
  have hz := sz_pos r.bits
  have hd : (sz r.bits) ∣ 4294967296 := by
    obtain ⟨e, he, es⟩ := sz_nat r.bits h0 h1
    rw [es]
    refine ⟨((2 ^ (32 - e) : Nat) : Int), ?_⟩
    rw [← Int.natCast_mul, ← Nat.pow_add, show e + (32 - e) = 32 by omega]
    rfl
  unfold hiR
  refine ⟨by omega, ?_⟩
  obtain ⟨c, hc⟩ := Int.dvd_of_emod_eq_zero h2
  obtain ⟨q, hq⟩ := hd
  have a1 := hb.a1
  rw [hc, hq] at a1
  have : c < q := Int.lt_of_mul_lt_mul_left a1 (Int.le_of_lt hz)
  have h3 : c + 1 ≤ q := by omega
  have h4 := Int.mul_le_mul_of_nonneg_left h3 (Int.le_of_lt hz)
  rw [Int.mul_add, Int.mul_one, ← hc, ← hq] at h4
  omega
theorem ends_r (r : Ru) (hb : RuB r) (h : rt r.ad r.bits = true) (w : World) : Calls Tryz.prog 61 #[.agg #[.int .u32 r.ad, .int .i64 r.bits]] w fun e w' => e = .returned (.tuple #[.int .u32 r.ad, .int .u32 (hiR r)]) ∧ Below w.heap.size w w' := ends_ok r.ad r.bits w hb.a0 hb.a1 h
set_option maxHeartbeats 8000000 in
theorem starts_ok (l : List Ru) (v : Value) (w : World) (h : RusAt w v l) (HB : ∀ r ∈ l, RuB r) (HR : ∀ r ∈ l, ruR r = true) (hl : l.length ≤ 32) :
    Calls Tryz.prog 46 #[v] w fun e w' => ∃ vp st, e = .returned vp ∧ OwnK KU w' w.heap.size vp st ∧ st.length ≤ 64 ∧ st.Pairwise (· < ·) ∧ (∀ x, x ∈ st ↔ x ∈ rawS l) ∧ Below w.heap.size w w' := by
  have H := Lib.hid h
  obtain ⟨ad', c', rfl, -, -⟩ := h
  replace HB := Lib.hid HB
  replace HR := Lib.hid HR
  obtain ⟨m, hm⟩ : ∃ m, m = l.length := ⟨_, rfl⟩
  rw [← hm] at H hl
  have hml : m ≤ 9223372036854775807 := by omega
  rw [← hm]
  replace hm := Lib.hid hm
  go_enter Tryz.func46, Tryz.ntmps46
  go_wp2_with fail
  go_loopg [3, 10] m (fun g' s3 s8 wr => ∃ (k : Nat) (a0 : Option Addr) (n0 c0 : Nat), s3 = .slice a0 n0 c0 ∧ k + g' = m ∧ s8 = .int .i64 k ∧ Hid (OwnK KU wr w.heap.size (.slice a0 n0 c0) (rawS (l.take k))) ∧ Hid (Below w.heap.size w wr))
  case atStart => exact ⟨0, none, 0, 0, rfl, by omega, rfl, .nil _ _, Below.refl _ _⟩
  case round =>
    obtain ⟨k, a0, n0, c0, rfl, hk, rfl, O, b⟩ := hrel
    by_cases hlt : k < m
    · have g1 : decide ((k : Int) < (m : Int)) = true := decide_eq_true (by omega)
      have g1' : decide (k < m) = true := decide_eq_true hlt
      have hkl : k < l.length := by rw [← hm.out]; exact hlt
      obtain ⟨g, o, cap, e0, hg, m0, m1, m2, m3, m4, m5⟩ := (H.out.keep b.out).at (k := k) hkl rfl
      injection e0 with e1 e2 e3
      subst e1 e3
      clear e2
      have ia := fun w' => at_rus g o m c' k w' hlt (k : Int) rfl (o + 6 * k) rfl
      have hmem : l.getD k ru0 ∈ l := by rw [List.getD_eq_getElem?_getD, List.getElem?_eq_getElem hkl]; exact List.getElem_mem _
      have hbr := HB.out _ hmem
      have hwr := ruR_w (HR.out _ hmem)
      have et := Lib.hid (rawS_take l k hkl)
      have hlen : (rawS (l.take k)).length ≤ 64 := by
        have := rawS_len (l.take k)
        rw [List.length_take] at this
        omega
      obtain ⟨r, hr⟩ : ∃ r, r = l.getD k ru0 := ⟨_, rfl⟩
      rw [← hr] at m0 m1 m2 m3 m4 m5 et hbr hwr
      clear hr hmem
      have hhi := hi_in hbr hwr.t
      have C := Lib.hid (ends_r r hbr hwr.t)
      obtain ⟨D, hD⟩ : ∃ D, D = rawS (l.take k) := ⟨_, rfl⟩
      rw [← hD] at O et hlen
      obtain ⟨hi, hhe⟩ : ∃ hi, hi = hiR r := ⟨_, rfl⟩
      have er : Hid (rawR r = if hi = 4294967295 then [r.ad] else [r.ad, hi + 1]) := by rw [hhe]; rfl
      rw [← hhe] at C hhi
      clear hhe hD
      have bx := box_below wr (ruO r)
      have hlo := hbr.a0
      obtain ⟨al, pro, ad, bits, fr, up⟩ := r
      unfold ruO at bx
      simp only at *
      have O1 := Lib.hid (O.out.keep bx)
      have B1 := Lib.hid (b.out.trans (bx.mono b.out.size))
      clear bx O b hbr hwr
      go_wp2_with fail
      refine (C.out _).mono ?_
      rintro e w1 ⟨rfl, b1⟩
      have O2 := Lib.hid (O1.out.keep b1)
      have B2 := Lib.hid (B1.out.trans (b1.mono B1.out.size))
      clear b1 O1 B1 C m0 m1 m2 m3 m4 m5
      obtain ⟨a5, c5, w5, hap5, O5, BB5⟩ := O2.out.snoc ku_ok B2.out.size ad 22 79 (by show (D.length + 1) * 4 ≤ _; omega) (by unfold maxLen; omega)
      have B5 := Lib.hid (BB5 w B2.out)
      replace O5 := Lib.hid O5
      replace hap5 : Hid (∀ z, (builtin .append #[79, 79] 79 z #[.slice a0 n0 c0, .slice (some ⟨w1.heap.size, 0, none⟩) 1 1]).run Tryz.prog (w1.alloc (.cells #[.int .u32 ad] 22)) = .ok (.value (.slice a5 (D.length + 1) c5)) w5) := hap5
      clear BB5 O2 B2
      go_upto_if 25 with (refine obB2L _ rfl .append (.tmp 20) (.tmp 22) 79 79 rfl (.slice a0 n0 c0) (.slice (some ⟨w1.heap.size, 0, none⟩) 1 1) rfl rfl hap5.out ?_)
      clear hap5
      by_cases hq : hi = 4294967295
      · have z : (hi != 4294967295) = false := by simp [hq]
        have e2 : Hid (rawS (l.take (k + 1)) = D ++ [ad]) := by
          show rawS (l.take (k + 1)) = _
          rw [et.out, er.out, if_pos hq]
        have O6 : Hid (OwnK KU w5 w.heap.size (.slice a5 (D.length + 1) c5) (rawS (l.take (k + 1)))) := e2.out ▸ O5.out
        replace hq := Lib.hid hq
        go_wp2_with fail
        go_roundg (m - (k + 1))
        case measure => omega
        case rel => exact ⟨k + 1, _, _, _, rfl, by omega, by go_num, O6.out, B5.out⟩
      · have z : (hi != 4294967295) = true := by simp [hq]
        have wu : IntKind.u32.wrap (hi + 1) = hi + 1 := by simp [IntKind.wrap, IntKind.bits, IntKind.signed]; omega
        obtain ⟨a6, c6, w6, hap6, O6, BB6⟩ := O5.out.snoc ku_ok B5.out.size (hi + 1) 22 79 (by rw [List.length_append]; show (D.length + 1 + 1) * 4 ≤ _; omega) (by rw [List.length_append]; show D.length + 1 + 1 ≤ _; unfold maxLen; omega)
        have B6 := Lib.hid (BB6 w B5.out)
        have e2 : Hid (rawS (l.take (k + 1)) = D ++ [ad] ++ [hi + 1]) := by
          show rawS (l.take (k + 1)) = _
          rw [et.out, er.out, if_neg hq, List.append_assoc]
          rfl
        rw [← e2.out] at O6
        have hl6 : (D ++ [ad]).length + 1 = D.length + 2 := by simp
        rw [hl6] at O6 hap6
        replace O6 := Lib.hid O6
        replace hap6 : Hid (∀ z, (builtin .append #[79, 79] 79 z #[.slice a5 (D.length + 1) c5, .slice (some ⟨w5.heap.size, 0, none⟩) 1 1]).run Tryz.prog (w5.alloc (.cells #[.int .u32 (hi + 1)] 22)) = .ok (.value (.slice a6 (D.length + 2) c6)) w6) := hap6
        clear BB6 O5 B5 hl6
        replace hq := Lib.hid hq
        go_wp2_with (refine obB2L _ rfl .append (.tmp 26) (.tmp 29) 79 79 rfl (.slice a5 (D.length + 1) c5) (.slice (some ⟨w5.heap.size, 0, none⟩) 1 1) rfl rfl hap6.out ?_)
        go_roundg (m - (k + 1))
        case measure => omega
        case rel => exact ⟨k + 1, _, _, _, rfl, by omega, by go_num, O6.out, B6.out⟩
    · obtain rfl : k = m := by omega
      have g1 : decide ((k : Int) < (k : Int)) = false := decide_eq_false (by omega)
      have g1' : decide (k < k) = false := decide_eq_false hlt
      rw [hm.out, List.take_length] at O
      have hlen : (rawS l).length ≤ 64 := by
        have := rawS_len l
        rw [← hm.out] at this
        omega
      have SC := Lib.hid (sort32 w.heap.size (.slice a0 n0 c0) _ wr O.out (by omega))
      go_wp2_with fail
      refine SC.out.mono ?_
      rintro e w1 ⟨rfl, d1, O1, p1, q1, k1⟩
      have B1 := Lib.hid (b.out.trans (k1.below b.out.size fun x hx => (O.out.lt x hx).1) : Below w.heap.size w w1)
      have hl1 : d1.length ≤ 64 := by rw [p1.length_eq]; exact hlen
      replace O1 := Lib.hid O1
      replace p1 := Lib.hid p1
      replace q1 := Lib.hid q1
      clear k1 SC O b
      have CC := Lib.hid (comp32 w.heap.size (.slice a0 n0 c0) d1 w1 O1.out (by omega) q1.out)
      go_wp2_with fail
      refine CC.out.mono ?_
      rintro e w2 ⟨v2, d2, rfl, O2, hl2, q2, hm2, hob, k2⟩
      have B2 := Lib.hid (B1.out.trans (k2.below B1.out.size fun x hx => (O1.out.lt x hx).1) : Below w.heap.size w w2)
      have M : Hid (∀ x, x ∈ d2 ↔ x ∈ rawS l) := fun x => by
        rw [hm2, p1.out.mem_iff]
      have hl3 : d2.length ≤ 64 := by omega
      replace O2 := Lib.hid O2
      replace q2 := Lib.hid q2
      clear hm2 k2 CC hob hl2 B1 O1 p1 q1
      go_wp2_with fail
      go_ret
      exact ⟨v2, d2, rfl, O2.out, hl3, q2.out, M.out, B2.out⟩
end Go.Proofs.YtndaohiecpdmlaaGreat
