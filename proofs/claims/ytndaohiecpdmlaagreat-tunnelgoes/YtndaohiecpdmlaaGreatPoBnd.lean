/-
  What the document's own bounds answers: the addresses at which something may change, rising, and the end. No condition but that the rules are right.
-/
import Derived.Test.YtndaohiecpdmlaaGreatPoCov
import Derived.Test.YtndaohiecpdmlaaGreatMgF
import Derived.Test.YtndaohiecpdmlaaGreatMgE
import Derived.Test.YtndaohiecpdmlaaGreatMgA
import Derived.Deep.DeepCutAuto
import Derived.BigQuiet
namespace Go.Proofs.YtndaohiecpdmlaaGreat
set_option maxRecDepth 100000
open Go.RowKit Go.Sort

/-- Rows of numbers of 64 bits. -/
def KL : RowK Int := ⟨63, 2, 1, 8, fun x => [.int .i64 x], 0⟩
theorem kl_ok : KL.Ok := ⟨Tryz.underlying63, info_of (z := .int .i64 0) (by kernel_rfl) rfl, by decide, fun _ => rfl, fun x u hu => by
  simp [KL] at hu
  subst hu
  rfl⟩
theorem at_i64 (B o N cap i : Nat) (w : World) (h : i < N) (z : Int) (hz : z = i) (p : Nat) (hp : p = o + i) :
    (Instr.indexAt 63 (.slice (some ⟨B, o, none⟩) N cap) (.int .i64 z)).run Tryz.prog w = .ok (.pointer (some ⟨B, p, none⟩)) w := by
  subst hz hp
  have e : Tryz.prog.elem 63 = 2 := by kernel_rfl
  rw [run_indexAt_slice (P := Tryz.prog) w 63 ⟨B, o, none⟩ N cap .i64 i (by rw [e]; exact Tryz.underlying63), if_pos (by omega), e]
  have s : (sizeOf 2).run Tryz.prog w = .ok 1 w := Tryz.sizeOf2 w
  rw [s]
  simp [Addr.add_mid]
theorem numL_at {w : World} {base n c : Nat} {a : Option Addr} {ps : List Int} (h : OwnK KL w base (.slice a n c) ps) {k : Nat} (hk : k < ps.length) : ∃ g, a = some ⟨g, 0, none⟩ ∧ base ≤ g ∧ n = ps.length ∧ w.cell? ⟨g, k, none⟩ = some (.int .i64 (ps.getD k 0)) := by
  rcases h.form with ⟨_, e⟩ | ⟨g, c', e, _, hb, _⟩
  · rw [e] at hk; simp at hk
  · obtain ⟨a', cap, e2, _, hr⟩ := h.row kl_ok
    injection e with e3 e4 e5
    obtain ⟨g2, o, ha, hg, c⟩ := hr k hk
    injection e2 with e6 e7 e8
    rw [← e6, e3] at ha
    injection ha with ha
    injection ha with h1 h2
    subst h1 h2
    have hn : KL.n = 1 := rfl
    have := c 0 (by decide)
    rw [hn, Nat.one_mul, Nat.add_zero, Nat.zero_add] at this
    exact ⟨g, e3, hb, e4, this⟩
theorem rends_r (r : Ru) (hb : RuB r) (h : rt r.ad r.bits = true) (w : World) : Calls Tryz.prog 49 #[.agg #[.int .u32 r.ad, .int .i64 r.bits]] w fun e w' => e = .returned (.tuple #[.int .u32 r.ad, .int .u32 (hiR r)]) ∧ Below w.heap.size w w' :=
  rends_ok r.ad r.bits w hb.a0 hb.a1 h (by have := hi_in hb h; unfold hiR at this; omega)
theorem bnS_take (l : List Ru) (k : Nat) (hk : k < l.length) : bnS (l.take (k + 1)) = bnS (l.take k) ++ bnR (l.getD k ru0) := by
  unfold bnS
  rw [List.take_add_one, List.getElem?_eq_getElem hk, List.flatMap_append, List.getD_eq_getElem?_getD, List.getElem?_eq_getElem hk]
  simp
theorem bn_len : ∀ l : List Ru, (l.flatMap bnR).length = 2 * l.length
  | [] => rfl
  | r :: l => by
    rw [List.flatMap_cons, List.length_append, bn_len l, List.length_cons]
    show 2 + _ = _
    omega
theorem bnS_len (l : List Ru) : (bnS l).length = 2 * l.length + 1 := by
  unfold bnS
  rw [List.length_cons, bn_len]
def cntG : List Int → Int → Nat
  | [], _ => 0
  | x :: r, a => (if a < x then 1 else 0) + cntG r a
theorem cnt_le : ∀ (l : List Int) {a b : Int}, a ≤ b → cntG l b ≤ cntG l a
  | [], _, _, _ => Nat.le_refl _
  | x :: r, a, b, h => by
    have := cnt_le r h
    unfold cntG
    split <;> split <;> omega
theorem cnt_lt : ∀ {l : List Int} {a b : Int}, b ∈ l → a < b → cntG l b < cntG l a
  | [], _, _, h, _ => by cases h
  | x :: r, a, b, h, hab => by
    unfold cntG
    rcases List.mem_cons.1 h with q | q
    · subst q
      have := cnt_le r (Int.le_of_lt hab)
      rw [if_neg (by omega), if_pos hab]
      omega
    · have := cnt_lt q hab
      split <;> split <;> omega
theorem sub_len : ∀ {a b : List Int}, a.Pairwise (· < ·) → (∀ x, x ∈ a → x ∈ b) → a.length ≤ b.length
  | [], _, _, _ => Nat.zero_le _
  | x :: a, b, hs, h => by
    have h1 := List.pairwise_cons.1 hs
    have hx := h x (List.mem_cons_self ..)
    have := sub_len (a := a) (b := b.erase x) h1.2 fun y hy => by
      have := h1.1 y hy
      rw [List.mem_erase_of_ne (by omega)]
      exact h y (List.mem_cons_of_mem _ hy)
    rw [List.length_erase_of_mem hx] at this
    have := List.length_pos_of_mem hx
    rw [List.length_cons]
    omega
/-- What has been found so far, up to an address. -/
structure Fnd (B out : List Int) (la : Int) : Prop where
  srt : out.Pairwise (· < ·)
  sub : ∀ x ∈ out, x ∈ B ∨ x = 4294967296
  top : ∀ x ∈ out, x ≤ la
  all : ∀ x ∈ B, x ≤ la → x ∈ out
  rng : -1 ≤ la ∧ la ≤ 4294967296
  nil : out.length = 0 → la = -1
  lst : 0 < out.length → out.getD (out.length - 1) 0 = la
theorem Fnd.len {B out : List Int} {la : Int} (h : Fnd B out la) : out.length ≤ B.length + 1 := by
  have := sub_len (b := B ++ [4294967296]) h.srt fun x hx => by
    rcases h.sub x hx with q | q <;> simp [q]
  simpa using this
theorem Fnd.start {B : List Int} (hB : ∀ x ∈ B, 0 ≤ x ∧ x ≤ 4294967296) : Fnd B [] (-1) :=
  ⟨.nil, by simp, by simp, fun x hx h => by have := hB x hx; omega, by omega, fun _ => rfl, fun h => by simp at h⟩
theorem Fnd.step {B out : List Int} {la m : Int} (h : Fnd B out la) (h1 : la < m) (h2 : m ≤ 4294967296) (h3 : m ∈ B ∨ m = 4294967296) (h4 : ∀ x ∈ B, la < x → m ≤ x) : Fnd B (out ++ [m]) m := by
  refine ⟨List.pairwise_append.2 ⟨h.srt, by simp, fun x hx y hy => ?_⟩, fun x hx => ?_, fun x hx => ?_, fun x hx hm => ?_, ?_, fun e => ?_, fun _ => ?_⟩
  · have : y = m := by simpa using hy
    have := h.top x hx
    omega
  · rcases List.mem_append.1 hx with q | q
    · exact h.sub x q
    · have : x = m := by simpa using q
      rw [this]; exact h3
  · rcases List.mem_append.1 hx with q | q
    · have := h.top x q
      omega
    · have : x = m := by simpa using q
      omega
  · by_cases q : x ≤ la
    · exact List.mem_append.2 (.inl (h.all x hx q))
    · have := h4 x hx (by omega)
      have : x = m := by omega
      simp [this]
  · have := h.rng
    omega
  · simp at e
  · rw [List.length_append, List.getD_eq_getElem?_getD, List.getElem?_append_right (by simp)]
    simp
theorem Fnd.done {l : List Ru} {out : List Int} {la : Int} (h : Fnd (bnS l) out la) (hB : ∀ x ∈ bnS l, 0 ≤ x ∧ x ≤ 4294967296) (hl : ¬ la < 4294967296) : Bnd l out := by
  have hr := h.rng
  have e : la = 4294967296 := by omega
  refine ⟨h.srt, fun x => ⟨h.sub x, ?_⟩⟩
  rintro (q | q)
  · exact h.all x q (by have := hB x q; omega)
  · rcases Nat.eq_zero_or_pos out.length with p | p
    · have := h.nil p
      omega
    · have e2 := h.lst p
      rw [q, ← e, ← e2, List.getD_eq_getElem?_getD, List.getElem?_eq_getElem (by omega)]
      exact List.getElem_mem _
set_option maxHeartbeats 16000000 in
theorem rbounds_ok (l : List Ru) (v : Value) (w : World) (h : RusAt w v l) (HB : ∀ r ∈ l, RuB r) (hk : ruK l = 0) :
    Calls Tryz.prog 31 #[v] w fun e w' => ∃ vb bs, e = .returned vb ∧ OwnK KL w' w.heap.size vb bs ∧ bs.length ≤ 66 ∧ Bnd l bs ∧ Below w.heap.size w w' := by
  obtain ⟨hl, HR⟩ := ruK_right.1 hk
  have H := Lib.hid h
  have IN : Hid (∀ x ∈ bnS l, 0 ≤ x ∧ x ≤ 4294967296) := fun x hx => bnS_in HB hk hx
  obtain ⟨ad', c', rfl, -, -⟩ := h
  replace HB := Lib.hid HB
  replace HR := Lib.hid HR
  obtain ⟨m, hm⟩ : ∃ m, m = l.length := ⟨_, rfl⟩
  rw [← hm] at H hl
  have hml : m ≤ 9223372036854775807 := by omega
  rw [← hm]
  have hBL : Hid ((bnS l).length = 2 * m + 1) := by rw [hm]; exact bnS_len l
  replace hm := Lib.hid hm
  clear hk
  go_enter Tryz.func31, Tryz.ntmps31
  go_wp2_with fail
  go_loopg [3, 4] m (fun g' s3 s4 wr => ∃ (k : Nat) (a0 : Option Addr) (n0 c0 : Nat), s3 = .slice a0 n0 c0 ∧ k + g' = m ∧ s4 = .int .i64 k ∧ Hid (OwnK KL wr w.heap.size (.slice a0 n0 c0) (bnS (l.take k))) ∧ Hid (Below w.heap.size w wr))
  case atStart => exact ⟨0, some ⟨w.heap.size, 0, none⟩, 1, 1, rfl, by omega, rfl, OwnK.lit kl_ok w [0] (by simp [maxLen]), (Below.refl _ _).alloc (Nat.le_refl _) _⟩
  case round =>
    obtain ⟨k, a0, n0, c0, rfl, hk, rfl, O, b⟩ := hrel
    by_cases hlt : k < m
    · have g1 : decide ((k : Int) < (m : Int)) = true := decide_eq_true (by omega)
      have g1' : decide (k < m) = true := decide_eq_true hlt
      have hkl : k < l.length := by rw [← hm.out]; exact hlt
      obtain ⟨g, o, cap, e0, hg, m0, m1, m2, m3, m4, m5⟩ := (H.out.keep b.out).at (k := k) hkl rfl
      injection e0 with e1 e2 e3
      subst e1 e3
      clear e2
      have ia := fun w' => at_rus g o m c' k w' hlt (k : Int) rfl (o + 6 * k) rfl
      have hmem : l.getD k ru0 ∈ l := by rw [List.getD_eq_getElem?_getD, List.getElem?_eq_getElem hkl]; exact List.getElem_mem _
      have hbr := HB.out _ hmem
      have hwr := ruR_w (HR.out _ hmem)
      have et := Lib.hid (bnS_take l k hkl)
      have hlen : (bnS (l.take k)).length ≤ 64 := by
        rw [bnS_len, List.length_take]
        omega
      obtain ⟨r, hr⟩ : ∃ r, r = l.getD k ru0 := ⟨_, rfl⟩
      rw [← hr] at m0 m1 m2 m3 m4 m5 et hbr hwr
      clear hr hmem
      have hhi := hi_in hbr hwr.t
      have C := Lib.hid (rends_r r hbr hwr.t)
      obtain ⟨D, hD⟩ : ∃ D, D = bnS (l.take k) := ⟨_, rfl⟩
      rw [← hD] at O et hlen
      unfold bnR at et
      obtain ⟨hi, hhe⟩ : ∃ hi, hi = hiR r := ⟨_, rfl⟩
      rw [← hhe] at C hhi et
      clear hhe hD
      have hlo := hbr.a0
      have hlo1 := hbr.a1
      obtain ⟨al, pro, ad, bits, fr, up⟩ := r
      simp only at *
      have wa : IntKind.i64.wrap ad = ad := by simp [IntKind.wrap, IntKind.bits, IntKind.signed]; omega
      have wh : IntKind.i64.wrap hi = hi := by simp [IntKind.wrap, IntKind.bits, IntKind.signed]; omega
      have wh1 : IntKind.i64.wrap (hi + 1) = hi + 1 := by simp [IntKind.wrap, IntKind.bits, IntKind.signed]; omega
      have wh2 : wrap64 (hi + 1) = hi + 1 := by unfold wrap64; omega
      clear hbr hwr
      go_wp2_with fail
      refine (C.out _).mono ?_
      rintro e w1 ⟨rfl, b1⟩
      have O2 := Lib.hid (O.out.keep b1)
      have B2 := Lib.hid (b.out.trans (b1.mono b.out.size))
      have hn : n0 = D.length := by
        obtain ⟨a, c, e⟩ := O.out.slice
        injection e
      subst hn
      clear b1 O b C m0 m1 m2 m3 m4 m5
      obtain ⟨a5, c5, w5, hap5, O5, BB5⟩ := O2.out.snocs kl_ok B2.out.size [ad, hi + 1] 2 63 (by show (D.length + 2) * 8 ≤ _; omega) (by show D.length + 2 ≤ _; unfold maxLen; omega)
      have B5 := Lib.hid (BB5 w B2.out)
      rw [← et.out] at O5
      replace O5 := Lib.hid O5
      replace hap5 : Hid (∀ z, (builtin .append #[63, 63] 63 z #[.slice a0 D.length c0, .slice (some ⟨w1.heap.size, 0, none⟩) 2 2]).run Tryz.prog (w1.alloc (.cells #[.int .i64 ad, .int .i64 (hi + 1)] 2)) = .ok (.value (.slice a5 (D.length + 2) c5)) w5) := hap5
      clear BB5 O2 B2 et
      go_wp2_with (refine obB2L _ rfl .append (.tmp 26) (.tmp 32) 63 63 rfl (.slice a0 D.length c0) (.slice (some ⟨w1.heap.size, 0, none⟩) 2 2) rfl rfl hap5.out ?_)
      go_roundg (m - (k + 1))
      case measure => omega
      case rel => exact ⟨k + 1, _, _, _, rfl, by omega, by go_num, O5.out, B5.out⟩
    · obtain rfl : k = m := by omega
      rename World => w3
      have g1 : decide ((k : Int) < (k : Int)) = false := decide_eq_false (by omega)
      have g1' : decide (k < k) = false := decide_eq_false hlt
      rw [hm.out, List.take_length] at O
      have hn : n0 = 2 * k + 1 := by
        obtain ⟨a, c, e⟩ := O.out.slice
        injection e with e1 e2 e3
        rw [e2]
        exact hBL.out
      subst hn
      obtain ⟨B, hB⟩ : ∃ B, B = bnS l := ⟨_, rfl⟩
      rw [← hB] at O IN hBL
      have FS0 : Hid (Fnd B [] (-1)) := Fnd.start IN.out
      replace hB := Lib.hid hB
      clear H HB HR g1 g1' hlt
      obtain ⟨N, hN⟩ : ∃ N, N = 2 * k + 1 := ⟨_, rfl⟩
      rw [← hN] at O hBL ⊢
      have hN6 : N ≤ 65 := by omega
      have hNp : 0 < N := by omega
      replace hN := Lib.hid hN
      have hNl : N ≤ 9223372036854775807 := by omega
      obtain ⟨gB, rfl, hx1, hx2, hx3⟩ := numL_at O.out (k := 0) (by rw [hBL.out]; omega)
      clear hx1 hx2 hx3
      have CB : Hid (∀ w', Below w3.heap.size w3 w' → ∀ i, i < N → w'.cell? ⟨gB, i, none⟩ = some (.int .i64 (B.getD i 0))) := fun w' b' i hi => by
        obtain ⟨g, e, _, _, c⟩ := numL_at (O.out.keep b') (k := i) (by rw [hBL.out]; exact hi)
        injection e with e
        injection e with e _
        subst e
        exact c
      have BM : Hid (∀ i, i < N → B.getD i 0 ∈ B) := fun i hi => by
        rw [List.getD_eq_getElem?_getD, List.getElem?_eq_getElem (by rw [hBL.out]; exact hi)]
        exact List.getElem_mem _
      have BJ : Hid (∀ x ∈ B, ∃ i, i < N ∧ B.getD i 0 = x) := fun x hx => by
        obtain ⟨i, hi, e⟩ := List.mem_iff_getElem.1 hx
        exact ⟨i, by rw [← hBL.out]; exact hi, by rw [List.getD_eq_getElem?_getD, List.getElem?_eq_getElem hi]; exact e⟩
      have bw := b.out.size
      clear O
      go_wp2_with fail
      go_loopg [7] (cntG (B ++ [4294967296]) (-1)) (fun g' s7 wr => ∃ (a1 : Option Addr) (n1 c1 : Nat) (out : List Int) (la : Int), s7 = .slice a1 n1 c1 ∧ n1 = out.length ∧ g' = cntG (B ++ [4294967296]) la ∧ Hid (OwnK KL wr w3.heap.size (.slice a1 n1 c1) out) ∧ Hid (Fnd B out la) ∧ Hid (Below w3.heap.size w3 wr))
      case atStart => exact ⟨none, 0, 0, [], -1, rfl, rfl, rfl, .nil _ _, FS0.out, Below.refl _ _⟩
      case round =>
        obtain ⟨a1, n1, c1, out, la, rfl, hn1, hg1, O1, F, b1⟩ := hrel
        have hlen : n1 ≤ 66 := by
          have := F.out.len
          rw [hBL.out] at this
          omega
        have ra := F.out.rng
        replace hn1 := Lib.hid hn1
        replace hg1 := Lib.hid hg1
        have LC : Hid (0 < n1 → ∃ g, (∀ w', (Instr.indexAt 63 (.slice a1 n1 c1) (.int .i64 ((n1 : Int) - 1))).run Tryz.prog w' = .ok (.pointer (some ⟨g, n1 - 1, none⟩)) w') ∧ ∀ w', Below wr.heap.size wr w' → w'.cell? ⟨g, n1 - 1, none⟩ = some (.int .i64 la)) := fun h0 => by
          have h1 : 0 < out.length := by rw [← hn1.out]; exact h0
          obtain ⟨g, e, _, _, _⟩ := numL_at O1.out (k := out.length - 1) (by omega)
          have c : ∀ w', Below wr.heap.size wr w' → w'.cell? ⟨g, n1 - 1, none⟩ = some (.int .i64 la) := fun w' b' => by
            obtain ⟨g', e', _, _, c⟩ := numL_at (O1.out.keep b') (k := out.length - 1) (by omega)
            rw [e] at e'
            injection e' with e'
            injection e' with e'
            subst e'
            rw [F.out.lst h1, ← hn1.out] at c
            exact c
          exact ⟨g, fun w' => by rw [e]; exact at_i64 g 0 n1 c1 (n1 - 1) w' (by omega) ((n1 : Int) - 1) (by omega) (n1 - 1) (by omega), c⟩
        have LN : Hid (n1 = 0 → la = -1) := fun h0 => F.out.nil (by rw [← hn1.out]; exact h0)
        by_cases hQ : 0 < n1 ∧ ¬ la < 4294967296
        · have z0 : ((n1 : Int) == 0) = false := by simp; omega
          have z1 : (n1 == 0) = false := by simp; omega
          have d0 : decide (la < 4294967296) = false := decide_eq_false hQ.2
          obtain ⟨g, ib, clw⟩ := LC.out hQ.1
          have cl := clw wr (Below.refl _ _)
          have hd : Hid (Bnd l out) := by
            have F2 := F.out
            rw [hB.out] at F2
            exact F2.done (by rw [← hB.out]; exact IN.out) hQ.2
          have hl2 : Hid (out.length ≤ 66) := by rw [← hn1.out]; exact hlen
          have O5 := Lib.hid (O1.out.base (b2 := w.heap.size) fun g hg => Nat.le_trans bw (O1.out.lt g hg).1)
          have B5 := Lib.hid (b.out.trans (b1.out.mono bw))
          clear O1 F b1 LC LN clw
          go_wp2_with fail
          go_ret
          exact ⟨_, rfl, out, O5.out, hl2.out, hd.out, B5.out⟩
        · have hla : la < 4294967296 := by
            by_cases h0 : n1 = 0
            · have := LN.out h0
              omega
            · omega
          have d0 : decide (la < 4294967296) = true := decide_eq_true hla
          by_cases h0 : n1 = 0
          case' pos =>
            have z0 : ((n1 : Int) == 0) = true := by simp [h0]
            have z1 : (n1 == 0) = true := by simp [h0]
            replace h0 := Lib.hid h0
            go_wp2_with fail
            clear z0 z1 h0
          case' neg =>
            have z0 : ((n1 : Int) == 0) = false := by simp [h0]
            have z1 : (n1 == 0) = false := by simp [h0]
            obtain ⟨g, ib, clw⟩ := LC.out (by omega)
            have cl := clw wr (Below.refl _ _)
            replace clw := Lib.hid clw
            replace h0 := Lib.hid h0
            go_wp2_with fail
            clear z0 z1 h0 ib cl clw
          all_goals
            rename World => w5
            go_loopg [8, 9] N (fun g' s8 s9 wr => ∃ (i : Nat) (x : Int), s8 = .int .i64 x ∧ s9 = .int .i64 (i : Int) ∧ i + g' = N ∧ Hid (la < x ∧ x ≤ 4294967296 ∧ (x ∈ B ∨ x = 4294967296) ∧ ∀ j, j < i → la < B.getD j 0 → x ≤ B.getD j 0) ∧ Hid (Below w5.heap.size w5 wr))
            case atStart => exact ⟨0, 4294967296, rfl, rfl, by omega, ⟨hla, by omega, .inr rfl, fun j hj => by omega⟩, Below.refl _ _⟩
            case round =>
              obtain ⟨i, x, rfl, rfl, hig, X, bi⟩ := hrel
              have b7 := Lib.hid (b1.out.trans (bi.out.mono b1.out.size))
              by_cases hlt : i < N
              · have g1 : decide ((i : Int) < (N : Int)) = true := decide_eq_true (by omega)
                have g1' : decide (i < N) = true := decide_eq_true hlt
                have ia := fun w' => at_i64 gB 0 N c0 i w' hlt (i : Int) rfl i (by omega)
                have cb := CB.out _ b7.out i hlt
                have bd : Hid (∀ n, Below w5.heap.size w5 (wr.drewN n)) := fun n => bi.out.trans ⟨rfl, rfl, rfl, Nat.le_refl _, fun _ _ => rfl⟩
                have bm := BM.out i hlt
                obtain ⟨y, hy⟩ : ∃ y, y = B.getD i 0 := ⟨_, rfl⟩
                rw [← hy] at cb bm
                have ry := IN.out y bm
                have yes : Hid (y < x → la < y → la < y ∧ y ≤ 4294967296 ∧ (y ∈ B ∨ y = 4294967296) ∧ ∀ j, j < i + 1 → la < B.getD j 0 → y ≤ B.getD j 0) := fun h1 h2 => ⟨h2, ry.2, .inl bm, fun j hj h3 => by
                  by_cases q : j = i
                  · rw [q, ← hy]
                    omega
                  · have := X.out.2.2.2 j (by omega) h3
                    omega⟩
                have no : Hid (¬ (y < x ∧ la < y) → la < x ∧ x ≤ 4294967296 ∧ (x ∈ B ∨ x = 4294967296) ∧ ∀ j, j < i + 1 → la < B.getD j 0 → x ≤ B.getD j 0) := fun h1 => ⟨X.out.1, X.out.2.1, X.out.2.2.1, fun j hj h3 => by
                  by_cases q : j = i
                  · rw [q, ← hy]
                    rw [q, ← hy] at h3
                    omega
                  · exact X.out.2.2.2 j (by omega) h3⟩
                clear hy bm X
                go_upto_region 13 with fail
                by_cases h1 : y < x
                · have d1 : decide (y < x) = true := decide_eq_true h1
                  by_cases h0 : n1 = 0
                  · have z0 : ((n1 : Int) == 0) = true := by simp [h0]
                    have z1 : (n1 == 0) = true := by simp [h0]
                    have X2 := Lib.hid (yes.out h1 (by rw [LN.out h0]; omega))
                    replace h0 := Lib.hid h0
                    clear yes no
                    go_quiet (fail)
                    go_wp2_with fail
                    go_roundg (N - (i + 1))
                    case measure => omega
                    case rel => exact ⟨i + 1, y, rfl, by go_num, by omega, X2.out, bd.out _⟩
                  · have z0 : ((n1 : Int) == 0) = false := by simp [h0]
                    have z1 : (n1 == 0) = false := by simp [h0]
                    obtain ⟨g, ib, clw⟩ := LC.out (by omega)
                    have cl := clw wr bi.out
                    replace clw := Lib.hid clw
                    replace h0 := Lib.hid h0
                    by_cases h2 : la < y
                    · have d2 : decide (la < y) = true := decide_eq_true h2
                      have X2 := Lib.hid (yes.out h1 h2)
                      clear yes no
                      go_quiet (fail)
                      go_wp2_with fail
                      go_roundg (N - (i + 1))
                      case measure => omega
                      case rel => exact ⟨i + 1, y, rfl, by go_num, by omega, X2.out, bd.out _⟩
                    · have d2 : decide (la < y) = false := decide_eq_false h2
                      have X2 := Lib.hid (no.out fun c => h2 c.2)
                      clear yes no
                      go_quiet (fail)
                      go_wp2_with fail
                      go_roundg (N - (i + 1))
                      case measure => omega
                      case rel => exact ⟨i + 1, x, rfl, by go_num, by omega, X2.out, bd.out _⟩
                · have d1 : decide (y < x) = false := decide_eq_false h1
                  have X2 := Lib.hid (no.out fun c => h1 c.1)
                  clear yes no
                  go_quiet (fail)
                  go_wp2_with fail
                  go_roundg (N - (i + 1))
                  case measure => omega
                  case rel => exact ⟨i + 1, x, rfl, by go_num, by omega, X2.out, bd.out _⟩
              · obtain rfl : i = N := by omega
                have g1 : decide ((i : Int) < (i : Int)) = false := decide_eq_false (by omega)
                have g1' : decide (i < i) = false := decide_eq_false hlt
                have O7 := Lib.hid (O1.out.keep bi.out)
                have FSt : Hid (Fnd B (out ++ [x]) x) := F.out.step X.out.1 X.out.2.1 X.out.2.2.1 fun z hz hlz => by
                  obtain ⟨j, hj, e⟩ := BJ.out z hz
                  have := X.out.2.2.2 j hj (by rw [e]; exact hlz)
                  rw [e] at this
                  exact this
                have hm2 : Hid (cntG (B ++ [4294967296]) x < cntG (B ++ [4294967296]) la) := cnt_lt (by
                  rcases X.out.2.2.1 with q | q
                  · exact List.mem_append.2 (.inl q)
                  · exact List.mem_append.2 (.inr (by simp [q]))) X.out.1
                obtain ⟨a6, c6, w6, hap6, O6, BB6⟩ := O7.out.snocs kl_ok b7.out.size [x] 2 63 (by show (out.length + 1) * 8 ≤ _; rw [← hn1.out]; omega) (by show out.length + 1 ≤ _; rw [← hn1.out]; unfold maxLen; omega)
                have B6 := Lib.hid (BB6 w3 b7.out)
                rw [show out.length + [x].length = n1 + 1 by rw [hn1.out]; rfl] at hap6 O6
                replace O6 := Lib.hid O6
                replace hap6 : Hid (∀ z, (builtin .append #[63, 63] 63 z #[.slice a1 n1 c1, .slice (some ⟨wr.heap.size, 0, none⟩) 1 1]).run Tryz.prog (wr.alloc (.cells #[.int .i64 x] 2)) = .ok (.value (.slice a6 (n1 + 1) c6)) w6) := hap6
                have hl6 : Hid (n1 + 1 = (out ++ [x]).length) := by
                  show _ = _
                  rw [List.length_append, hn1.out]
                  rfl
                clear BB6 O1 O7 b7 bi F X b1 LC LN
                go_wp2_with (refine obB2L _ rfl .append (.tmp 80) (.tmp 82) 63 63 rfl (.slice a1 n1 c1) (.slice (some ⟨wr.heap.size, 0, none⟩) 1 1) rfl rfl hap6.out ?_)
                go_roundg (cntG (B ++ [4294967296]) x)
                case measure => rw [hg1.out]; exact hm2.out
                case rel => exact ⟨a6, n1 + 1, c6, out ++ [x], x, rfl, hl6.out, rfl, O6.out, FSt.out, B6.out⟩
end Go.Proofs.YtndaohiecpdmlaaGreat
