/-
  The law FairShares returns true for every quantum, every two rows of sizes and every number of steps: two who always have packets get as many bytes, but for two quanta and two of the greatest packets. No condition.
-/
import Derived.Test.YtiamlldooihkdaaFaSw
import Derived.Test.YtiamlldooihkdaaObZer
import Derived.Test.YtiamlldooihkdaaObRun
import Derived.BigQuiet
import Derived.Test.YtiamlldooihkdaaFaOpen
import Derived.LaidLaws
namespace Go.Proofs.Ytiamlldooihkdaa.fairShares
set_option maxRecDepth 100000
open Go.ChangeShapes Go.WideShapes Go.ChangeAt Go.RowKit
open Go.ChangeMaps (open_string shut_string)

/-- Both rows' texts so far, and how long they are at most. -/
structure B2 (la lb : List ByteArray) (i K : Nat) : Prop where
  ea : la.length = i
  eb : lb.length = i
  sa : ∀ s ∈ la, s.size ≤ K + 1
  sb : ∀ s ∈ lb, s.size ≤ K + 1
  k : K < 200
theorem B2.more {la lb : List ByteArray} {i K : Nat} (h : B2 la lb i K) (x y : Nat) (hx : x < 200) (hy : y < 200) : B2 (la ++ [zerB (x + 1)]) (lb ++ [zerB (y + 1)]) (i + 1) (max K (max x y)) := by
  have hk := h.k
  refine ⟨by simp [h.ea], by simp [h.eb], fun s hs => ?_, fun s hs => ?_, by omega⟩
  · rcases List.mem_append.1 hs with q | q
    · have := h.sa s q; omega
    · obtain rfl : s = zerB (x + 1) := by simpa using q
      rw [zerB_size]; omega
  · rcases List.mem_append.1 hs with q | q
    · have := h.sb s q; omega
    · obtain rfl : s = zerB (y + 1) := by simpa using q
      rw [zerB_size]; omega
theorem max_at (x y : Nat) (w : World) (ty : TypeId) (z : Array TypeId) (v : Array Value) (_ : z = z) (_ : v = v) : ∀ q, (builtin .max #[3, 3] ty q #[.int .i64 (x : Int), .int .i64 (y : Int)]).run Try.prog w = .ok (.value (.int .i64 ((max x y : Nat) : Int))) w := fun q => by
  have e : (builtin .max #[3, 3] ty q #[.int .i64 (x : Int), .int .i64 (y : Int)]) = (do pure (.value (← Builtin.max_ #[3, 3] ty #[.int .i64 (x : Int), .int .i64 (y : Int)]))) := rfl
  rw [e]
  by_cases h : x < y
  · have e2 : max x y = y := by omega
    rw [e2]
    simp [Builtin.max_, Builtin.max2, h]
  · have e2 : max x y = x := by omega
    rw [e2]
    simp [Builtin.max_, Builtin.max2, h]
theorem wrap_in {x y : Int} (e : x = y) (h0 : -9223372036854775808 ≤ y) (h1 : y ≤ 9223372036854775807) : wrap64 x = y := by subst e; unfold wrap64; omega
theorem tmod_nat (i n : Nat) : ((i : Int).tmod (n : Int)) = ((i % n : Nat) : Int) := by
  rw [Int.tmod_eq_emod_of_nonneg (by omega)]
  omega
set_option maxHeartbeats 4000000 in
theorem walk (qu : Int) (va : Value) (la : List Int) (vb : Value) (lb : List Int) (st : Int) (W : World) (ha : RowAt 1 KN.cells 0 W va la) (hza : la.length * 8 ≤ 140737488351232) (hb : RowAt 1 KN.cells 0 W vb lb) (hzb : lb.length * 8 ≤ 140737488351232) :
    Calls Try.prog 5 #[.int .i64 qu, va, vb, .int .i64 st] W fun e w' => e = .returned (.bool true) ∧ Below W.heap.size W w' := by
  have WK := Lib.hid fun w' => works20_ok w'
  have HA := Lib.hid ha
  have HB := Lib.hid hb
  obtain ⟨aa, ca, rfl, -, -⟩ := ha
  obtain ⟨ab, cb, rfl, -, -⟩ := hb
  obtain ⟨r, hr1, hr2, hr3⟩ := place9 qu 500 (by decide) (by decide)
  obtain ⟨L, hL⟩ : ∃ L : Nat, (L : Int) = 1 + r := ⟨1 + r, by omega⟩
  have hL0 : 1 ≤ L ∧ L ≤ 500 := by omega
  have e2 : wrap64 (1 + r) = L := by unfold wrap64; omega
  have e3 : 1 + (r : Int) = L := hL.symm
  obtain ⟨M, hM1, hM2, hM3⟩ := place9 st 400 (by decide) (by decide)
  have hM4 : M < 400 := by omega
  obtain ⟨na, hna⟩ : ∃ n, n = la.length := ⟨_, rfl⟩
  obtain ⟨nb, hnb⟩ : ∃ n, n = lb.length := ⟨_, rfl⟩
  rw [← hna] at hza HA ⊢
  rw [← hnb] at hzb HB ⊢
  have na64 : na ≤ 9223372036854775807 := by omega
  have nb64 : nb ≤ 9223372036854775807 := by omega
  clear hL hM3 hna hnb
  have mod1 := Lib.hid hM1
  have mod2 := Lib.hid hM2
  clear hM1 hM2
  go_enter Try.func5, Try.ntmps5
  go_wp2_with fail
  refine (WK.out W).mono ?_
  rintro e w0 ⟨rfl, b0⟩
  clear WK
  by_cases hna : na = 0
  · subst hna
    replace b0 := Lib.hid b0
    go_wp2_with fail
    go_ret
    exact ⟨rfl, b0.out⟩
  by_cases hnb : nb = 0
  · subst hnb
    have q1 : decide ((na : Int) = 0) = false := decide_eq_false (by omega)
    have q2 : ((na : Int) == 0) = false := by simp; omega
    replace b0 := Lib.hid b0
    replace hna := Lib.hid hna
    go_wp2_with fail
    go_ret
    exact ⟨rfl, b0.out⟩
  have q1 : decide ((na : Int) = 0) = false := decide_eq_false (by omega)
  have q2 : ((na : Int) == 0) = false := by simp; omega
  have q3 : decide ((nb : Int) = 0) = false := decide_eq_false (by omega)
  have q4 : ((nb : Int) == 0) = false := by simp; omega
  have C := Lib.hid (fw_new 1000 (L : Int) b0)
  have hna2 : 0 < na := by omega
  have hnb2 : 0 < nb := by omega
  replace hna := Lib.hid hna
  replace hnb := Lib.hid hnb
  replace b0 := Lib.hid b0
  go_wp2_with fail
  refine C.out.mono ?_
  rintro e w1 ⟨B, rfl, h1⟩
  rw [bd_new (by omega) (by omega)] at h1
  clear C e2 e3 hr1 hr2 hr3 q1 q2 q3 q4
  replace h1 := Lib.hid h1
  go_wp2_with fail
  go_loopg [10, 11] 300 (fun g' s10 s11 wr => ∃ (i K : Nat) (ta tb : List ByteArray), i + g' = 300 ∧ s10 = .int .i64 K ∧ s11 = .int .i64 i ∧ B2 ta tb i K ∧ Hid (FW W wr B (bd (L : Int) ta tb)))
  case atStart => exact ⟨0, 0, [], [], by omega, rfl, rfl, ⟨rfl, rfl, by simp, by simp, by decide⟩, h1⟩
  case round =>
    obtain ⟨i, K, ta, tb, hi, rfl, rfl, b, h⟩ := hrel
    clear h1
    by_cases hlt : i < 300
    · have g1 : decide ((i : Int) < 300) = true := decide_eq_true (by omega)
      have g1' : decide (i < 300) = true := decide_eq_true hlt
      obtain ⟨ga, oa, rfl, hga, hca⟩ := HA.out.get (i % na) (Nat.mod_lt _ hna2)
      obtain ⟨gb, ob, rfl, hgb, hcb⟩ := HB.out.get (i % nb) (Nat.mod_lt _ hnb2)
      have ma := Nat.mod_lt i hna2
      have mb := Nat.mod_lt i hnb2
      have wa : (i : Int).tmod (na : Int) = ((i % na : Nat) : Int) := tmod_nat _ _
      have wb : (i : Int).tmod (nb : Int) = ((i % nb : Nat) : Int) := tmod_nat _ _
      obtain ⟨ja, hja⟩ : ∃ j, j = i % na := ⟨_, rfl⟩
      obtain ⟨jb, hjb⟩ : ∃ j, j = i % nb := ⟨_, rfl⟩
      rw [← hja] at hca ma wa
      rw [← hjb] at hcb mb wb
      have ia : ∀ w', (Instr.indexAt 40 (.slice (some ⟨ga, oa, none⟩) na ca) (.int .i64 ((i : Int).tmod (na : Int)))).run Try.prog w' = .ok (.pointer (some ⟨ga, oa + ja, none⟩)) w' := fun w' => at_Z kn_ok ga oa na ca ja w' ma ((i : Int).tmod (na : Int)) wa (oa + ja) (by show oa + ja = oa + 1 * ja; omega)
      have ib : ∀ w', (Instr.indexAt 40 (.slice (some ⟨gb, ob, none⟩) nb cb) (.int .i64 ((i : Int).tmod (nb : Int)))).run Try.prog w' = .ok (.pointer (some ⟨gb, ob + jb, none⟩)) w' := fun w' => at_Z kn_ok gb ob nb cb jb w' mb ((i : Int).tmod (nb : Int)) wb (ob + jb) (by show ob + jb = ob + 1 * jb; omega)
      have cA := (h.out.bel.cell hga).trans (hca 0 (by decide))
      have cB := (h.out.bel.cell hgb).trans (hcb 0 (by decide))
      rw [Nat.one_mul, Nat.add_zero] at cA cB
      obtain ⟨xa, hxa⟩ : ∃ x, x = la.getD ja 0 := ⟨_, rfl⟩
      obtain ⟨xb, hxb⟩ : ∃ x, x = lb.getD jb 0 := ⟨_, rfl⟩
      rw [← hxa] at cA
      rw [← hxb] at cB
      replace cA : wr.cell? ⟨ga, oa + ja, none⟩ = some (.int .i64 xa) := cA
      replace cB : wr.cell? ⟨gb, ob + jb, none⟩ = some (.int .i64 xb) := cB
      clear hca hcb hxa hxb
      obtain ⟨x, hx1, hx2, hx3⟩ := place9 xa 200 (by decide) (by decide)
      obtain ⟨y, hy1, hy2, hy3⟩ := place9 xb 200 (by decide) (by decide)
      have z5 : ¬ na = 0 := by omega
      have z6 : ¬ nb = 0 := by omega
      clear hja hjb wa wb
      have z1 : ¬ (na : Int) = 0 := by omega
      have z2 : ((na : Int) == 0) = false := by simp; omega
      have z3 : ¬ (nb : Int) = 0 := by omega
      have z4 : ((nb : Int) == 0) = false := by simp; omega
      go_upto_region 11 with fail
      replace hx1 := Lib.hid hx1
      replace hx2 := Lib.hid hx2
      replace hy1 := Lib.hid hy1
      replace hy2 := Lib.hid hy2
      obtain ⟨K2, hK2⟩ : ∃ k, k = max K (max x y) := ⟨_, rfl⟩
      obtain ⟨mx, hmx⟩ : ∃ k, k = max x y := ⟨_, rfl⟩
      have hK3 : K2 = max K mx := by rw [hmx]; exact hK2
      replace hK2 := Lib.hid hK2
      replace hK3 := Lib.hid hK3
      replace hmx := Lib.hid hmx
      obtain ⟨nx, hnx⟩ : ∃ n, n = x + 1 := ⟨_, rfl⟩
      obtain ⟨ny, hny⟩ : ∃ n, n = y + 1 := ⟨_, rfl⟩
      have wx : wrap64 ((x : Int) + 1) = (nx : Int) := by unfold wrap64; omega
      have wy : wrap64 ((y : Int) + 1) = (ny : Int) := by unfold wrap64; omega
      have wi : wrap64 ((i : Int) + 1) = (i : Int) + 1 := by unfold wrap64; omega
      replace wx := Lib.hid wx
      replace wy := Lib.hid wy
      replace wi := Lib.hid wi
      replace z1 := Lib.hid z1
      replace z2 := Lib.hid z2
      replace z3 := Lib.hid z3
      replace z4 := Lib.hid z4
      replace z5 := Lib.hid z5
      replace z6 := Lib.hid z6
      have tx : nx < 1000000 := by omega
      have ty : ny < 1000000 := by omega
      have mkx := fun w => mk_zer nx tx w
      have mky := fun w => mk_zer ny ty w
      have cvx := fun w => cv_zer nx w
      have cvy := fun w => cv_zer ny w
      have b2 : Hid (B2 (ta ++ [zerB nx]) (tb ++ [zerB ny]) (i + 1) K2) := by
        have := b.more x y (by omega) (by omega)
        rw [← hnx, ← hny, ← hK2.out] at this
        exact this
      have CP1 : Hid (∀ w, FW W w B (bd (L : Int) ta tb) → Calls Try.prog 10 #[ptr B, .int .i64 1, .string (zerB nx)] w fun e w' => e = .returned (.int .i64 0) ∧ FW W w' B (bd (L : Int) (ta ++ [zerB nx]) tb)) := fun w hw => by
        have z := zerB_size nx
        have z1 := b.ea
        have z2 := b.eb
        have c := bd_one (q := L) (la := ta) (lb := tb) (s := zerB nx) (by
          rcases Nat.eq_zero_or_pos i with q | q
          · left; exact List.eq_nil_of_length_eq_zero (by omega)
          · right; intro u; rw [u] at z1; simp at z1; omega) (by omega) (by omega)
        have := hw.push 1 (zerB nx) (by unfold In64; decide) (by show ta.length + tb.length < 1000000; omega) (by omega)
        rw [c.1, c.2] at this
        exact this
      have CP2 : Hid (∀ w, FW W w B (bd (L : Int) (ta ++ [zerB nx]) tb) → Calls Try.prog 10 #[ptr B, .int .i64 2, .string (zerB ny)] w fun e w' => e = .returned (.int .i64 0) ∧ FW W w' B (bd (L : Int) (ta ++ [zerB nx]) (tb ++ [zerB ny]))) := fun w hw => by
        have z := zerB_size ny
        have z1 := b.ea
        have z2 := b.eb
        have c := bd_two (q := L) (la := ta ++ [zerB nx]) (lb := tb) (s := zerB ny) (by simp) (by omega) (by omega)
        have := hw.push 2 (zerB ny) (by unfold In64; decide) (by show (ta ++ [zerB nx]).length + tb.length < 1000000; rw [List.length_append]; simp; omega) (by omega)
        rw [c.1, c.2] at this
        exact this
      have gi : Hid (i + 1 + (300 - (i + 1)) = 300) := by unfold Hid; omega
      have gm : Hid (300 - (i + 1) < gk) := by unfold Hid; omega
      replace hi := Lib.hid hi
      replace tx := Lib.hid tx
      replace ty := Lib.hid ty
      generalize zerB nx = sx at *
      generalize zerB ny = sy at *
      clear hK2 hnx hny b
      replace hx1 := hx1.out
      replace hx2 := hx2.out
      replace hy1 := hy1.out
      replace hy2 := hy2.out
      replace z1 := z1.out
      replace z2 := z2.out
      replace z3 := z3.out
      replace z4 := z4.out
      replace z5 := z5.out
      replace z6 := z6.out
      go_quiet (fail)
      have b1 : Below wr.heap.size wr (wr.drewN nq) := ⟨rfl, rfl, rfl, Nat.le_refl _, fun _ _ => rfl⟩
      replace h := Lib.hid (h.out.keep b1)
      clear b1 cA cB
      generalize wr.drewN nq = w2 at *
      clear ia ib hx1 hx2 hx3 hy1 hy2 hy3 z1 z2 z3 z4 z5 z6 ma mb hga hgb hna2 hnb2 na64 nb64 hza hzb
      replace wx := wx.out
      replace wy := wy.out
      replace wi := wi.out
      have mA := max_at x y w2 3 #[] #[] rfl rfl
      have mB := max_at K mx w2 3 #[] #[] rfl rfl
      rw [← hmx.out] at mA
      rw [← hK3.out] at mB
      replace mA := Lib.hid mA
      replace mB := Lib.hid mB
      clear hmx hK3
      go_upto_region 13 with (first | (refine obB2L _ rfl .max (.tmp 63) (.tmp 64) 3 3 rfl (.int .i64 (x : Int)) (.int .i64 (y : Int)) rfl rfl mA.out ?_) | (refine obB2L _ rfl .max (.tmp 62) (.tmp 65) 3 3 rfl (.int .i64 (K : Int)) (.int .i64 (mx : Int)) rfl rfl mB.out ?_))
      clear mA mB
      go_wp2_with fail
      refine (CP1.out _ (h.out.keep (zero_below _ _))).mono ?_
      rintro e w3 ⟨rfl, h3⟩
      replace h3 := Lib.hid h3
      clear CP1 h mkx cvx
      go_wp2_with fail
      refine (CP2.out _ (h3.out.keep (zero_below _ _))).mono ?_
      rintro e w4 ⟨rfl, h4⟩
      replace h4 := Lib.hid h4
      clear CP2 h3 mky cvy
      go_wp2_with fail
      go_roundg (300 - (i + 1))
      case measure => exact gm.out
      case rel => exact ⟨i + 1, K2, _, _, gi.out, rfl, by go_num, b2.out, h4.out⟩
    · obtain rfl : i = 300 := by omega
      have g1 : decide (((300 : Nat) : Int) < 300) = false := by decide
      have g1' : decide ((300 : Int) < 300) = false := by decide
      obtain ⟨K1, hK1⟩ : ∃ k, k = K + 1 := ⟨_, rfl⟩
      have hk := b.k
      have ek : wrap64 ((K : Int) + 1) = (K1 : Int) := by unfold wrap64; omega
      have SH : Hid (Sh (bd (L : Int) ta tb) L K1 ta tb 0) := by
        have z1 := b.ea
        have z2 := b.eb
        refine bd_sh (by omega) (fun q => by rw [q] at z1; cases z1) (fun q => by rw [q] at z2; cases z2) (by omega) (by omega) (fun s hs => ?_) (fun s hs => ?_)
        · have := b.sa s hs; omega
        · have := b.sb s hs; omega
      have hta := b.ea
      have htb := b.eb
      have K1b : K1 ≤ 200 := by omega
      clear b hi hlt HA HB na64 nb64 hza hzb hna hnb hna2 hnb2 hK1 hk
      generalize bd (L : Int) ta tb = f0 at *
      have SW : Hid (Sw W ((wr.alloc (.cells #[.int .i64 0, .int .i64 0, .int .i64 0] 42)).alloc (.cells #[.int .i64 0, .int .i64 0, .int .i64 0] 42)) B f0 wr.heap.size (wr.heap.size + 1) 0 0 ((0 : Nat) : Int) ((0 : Nat) : Int)) := Sw.made h.out _ _
      go_upto_region 18 with fail
      rw [ek]
      obtain ⟨C, hC⟩ : ∃ C, C = wr.heap.size + 1 := ⟨_, rfl⟩
      rw [← hC] at SW ⊢
      clear hC
      obtain ⟨w2, hw2⟩ : ∃ w2, w2 = (wr.alloc (.cells #[.int .i64 0, .int .i64 0, .int .i64 0] 42)).alloc (.cells #[.int .i64 0, .int .i64 0, .int .i64 0] 42) := ⟨_, rfl⟩
      rw [← hw2] at SW ⊢
      clear hw2
      obtain ⟨G, hG⟩ : ∃ G, G = wr.heap.size := ⟨_, rfl⟩
      rw [← hG] at SW ⊢
      clear hG ek h g1 g1'
      obtain ⟨q, hq⟩ : ∃ q, q = L + K1 := ⟨_, rfl⟩
      obtain ⟨qq, hqq⟩ : ∃ q, q = 2 * (L + K1) := ⟨_, rfl⟩
      have wq : Hid (wrap64 ((L : Int) + (K1 : Int)) = (q : Int)) := wrap_in (by omega) (by omega) (by omega)
      have wq2 : Hid (wrap64 (2 * (q : Int)) = (qq : Int)) := wrap_in (by omega) (by omega) (by omega)
      have hLK : Hid (L + K1 ≤ 700) := by unfold Hid; omega
      replace hqq := Lib.hid hqq
      clear hq
      have ini : Hid (ta.length + 0 = 300 ∧ tb.length + 0 = 300 ∧ (0 : Int) ≤ 0 ∧ (0 : Int) ≤ 200 * ((0 : Nat) : Int) ∧ (0 : Int) ≤ 0 ∧ (0 : Int) ≤ 200 * ((0 : Nat) : Int)) := ⟨hta, htb, by decide, by decide, by decide, by decide⟩
      clear hta htb hL0
      go_wp2_with fail
      go_loopg [16] M (fun g' s16 w3 => ∃ (j : Nat) (f : FaQ) (ma mb : List ByteArray) (g1 g2 : Int) (c1 c2 : Nat), j + g' = M ∧ s16 = .int .i64 j ∧ Hid (Sw W w3 B f G C g1 g2 c1 c2) ∧ Hid (Sh f L K1 ma mb (g1 - g2)) ∧ Hid (ma.length + c1 = 300 ∧ mb.length + c2 = 300 ∧ 0 ≤ g1 ∧ g1 ≤ 200 * (j : Int) ∧ 0 ≤ g2 ∧ g2 ≤ 200 * (j : Int)) ∧ c1 < 300 ∧ c2 < 300)
      case atStart => exact ⟨0, f0, ta, tb, 0, 0, 0, 0, by omega, rfl, SW, SH, ini, by decide, by decide⟩
      case round =>
        clear SW SH ini
        obtain ⟨j, f, ma, mb, g1, g2, c1, c2, hj, rfl, SW, SH, BD, hc1, hc2⟩ := hrel
        by_cases hlt : j < M
        · have q1 : Hid (decide ((j : Int) < (M : Int)) = true) := decide_eq_true (by omega)
          have q1' : Hid (decide (j < M) = true) := decide_eq_true hlt
          have wj : Hid (wrap64 ((j : Int) + 1) = (j : Int) + 1) := wrap_in rfl (by omega) (by omega)
          have gi : Hid (j + 1 + (M - (j + 1)) = M) := by unfold Hid; omega
          have gm : Hid (M - (j + 1) < gk) := by unfold Hid; omega
          have hj400 : j < 400 := by omega
          have hpz := SH.out.pz
          obtain ⟨b1, b2, b3, b4, b5, b6⟩ := BD.out
          rcases SH.out.next with ⟨s, t, hm, hA, hS⟩ | ⟨s, t, hm, hA, hS⟩
          · have hs : (s.size : Int) ≤ K1 := SH.out.sa s (by rw [hm]; exact List.mem_cons_self ..)
            have hml : ma.length = t.length + 1 := by rw [hm]; rfl
            obtain ⟨x, hx⟩ : ∃ x, x = g1 + (s.size : Int) := ⟨_, rfl⟩
            have wx : Hid (wrap64 (g1 + (s.size : Int)) = x) := wrap_in hx.symm (by omega) (by omega)
            have wc : Hid (wrap64 ((c1 : Int) + 1) = (c1 : Int) + 1) := wrap_in rfl (by omega) (by omega)
            have ed : (g1 - g2 + s.size) = (x - g2) := by omega
            rw [ed] at hS
            have bd2 : Hid (t.length + (c1 + 1) = 300 ∧ mb.length + c2 = 300 ∧ 0 ≤ x ∧ x ≤ 200 * ((j + 1 : Nat) : Int) ∧ 0 ≤ g2 ∧ g2 ≤ 200 * ((j + 1 : Nat) : Int)) := by unfold Hid; omega
            obtain ⟨d, hd⟩ : ∃ d, d = (x - g2) := ⟨_, rfl⟩
            have wd : Hid (wrap64 (x - g2) = d) := wrap_in hd.symm (by omega) (by omega)
            obtain ⟨dn, hdn⟩ : ∃ x, x = -d := ⟨_, rfl⟩
            have wn : Hid (wrap64 (-d) = dn) := wrap_in hdn.symm (by omega) (by omega)
            replace hdn := Lib.hid hdn
            have CN : Hid (Calls Try.prog 12 #[ptr B] wr fun e w' => e = .returned (.tuple #[.int .i64 1, .string s, .bool true]) ∧ Sw W w' B (nextE f) G C g1 g2 c1 c2) := by
              have := SW.out.next (by omega)
              have e : nextV f = .tuple #[.int .i64 1, .string s, .bool true] := by unfold nextV; rw [hA]
              rw [e] at this
              exact this
            have HS : Hid (t ≠ [] → Sh (nextE f) L K1 t mb (x - g2)) := hS
            have ht : Hid (c1 + 1 ≠ 300 → t ≠ []) := fun h q => h (by rw [q] at hml; simp at hml; omega)
            have hck : Hid (c1 + 1 ≠ 300 → c1 + 1 < 300) := fun h => by omega
            have ho : Hid (c2 ≠ 300) := by unfold Hid; omega
            replace hd := Lib.hid hd
            clear hx ed SW SH BD b1 b2 b3 b4 b5 b6 hpz hA hS hm hml hc1 hc2 hj400 hlt hs
            replace mod1 := mod1.out
            replace mod2 := mod2.out
            replace q1 := q1.out
            replace q1' := q1'.out
            go_wp2_with fail
            refine CN.out.mono ?_
            rintro e w4 ⟨rfl, S4⟩
            clear CN q1 q1' mod1 mod2
            have y1 := S4.lg.cell 1 rfl
            have y2 := S4.lg.free 1 (by show 1 < 3; decide)
            have S5 := Lib.hid (S4.g1 x)
            replace wx := wx.out
            clear S4
            go_upto_region 25 with fail
            clear y1 y2 wx
            generalize w4.setCell ⟨G, 1, none⟩ (.int .i64 x) = w5 at *
            have y1 := S5.out.lc.cell 1 rfl
            have y2 := S5.out.lc.free 1 (by show 1 < 3; decide)
            have S6 := Lib.hid (S5.out.c1 ((c1 : Int) + 1))
            replace wc := wc.out
            clear S5
            go_upto_region 26 with fail
            clear y1 y2 wc
            generalize w5.setCell ⟨C, 1, none⟩ (.int .i64 ((c1 : Int) + 1)) = w6 at *
            obtain ⟨n, hn⟩ : ∃ n, n = c1 + 1 := ⟨_, rfl⟩
            have en : (c1 : Int) + 1 = (n : Int) := by omega
            rw [en] at S6
            rw [← hn] at ht hck bd2
            clear en
            have y1 := S6.out.lc.cell 1 rfl
            have y2 := S6.out.lc.cell 2 rfl
            have bel := Lib.hid S6.out.bel
            have oq : ((c2 : Int) == 300) = false := by have := ho.out; simp; omega
            have oq2 : decide ((c2 : Int) = 300) = false := decide_eq_false (by have := ho.out; omega)
            have oq3 : ¬ (c2 : Int) = 300 := by have := ho.out; omega
            have oq4 : ¬ c2 = 300 := ho.out
            by_cases h3 : n = 300
            · subst h3
              go_wp2_with fail
              go_ret
              exact ⟨rfl, bel.out⟩
            · have nq : ((n : Int) == 300) = false := by simp; omega
              have nq2 : decide ((n : Int) = 300) = false := decide_eq_false (by omega)
              have nq3 : ¬ (n : Int) = 300 := by omega
              have H7 := HS.out (ht.out h3)
              have hn3 := Lib.hid (hck.out h3)
              have Hb := H7.bound (by omega)
              rw [← hd.out] at Hb
              have Hq : (qq : Int) = 2 * ((L : Int) + (K1 : Int)) := by have := hqq.out; omega
              rw [← Hq] at Hb
              have Hc : dn ≤ (qq : Int) := by have := hdn.out; omega
              have v1 : decide ((qq : Int) < d) = false := decide_eq_false (by omega)
              have v2 : decide ((qq : Int) < dn) = false := decide_eq_false (by omega)
              have v3 : ¬ (qq : Int) < d := by omega
              have v4 : ¬ (qq : Int) < dn := by omega
              clear Hq Hc
              have y3 := S6.out.lg.cell 1 rfl
              have y4 := S6.out.lg.cell 2 rfl
              replace H7 := Lib.hid H7
              clear HS ht hck Hb hd hn
              have ho2 : Hid (c2 < 300) := by have := bd2.out; have := ho.out; unfold Hid; omega
              replace wd := wd.out
              replace wn := wn.out
              replace wq := wq.out
              replace wq2 := wq2.out
              go_upto_region 20 with fail
              clear oq oq2 oq3 oq4 nq nq2 nq3 v1 v2 v3 v4 y1 y2 y3 y4 wd wn wq wq2 h3
              replace wj := wj.out
              go_wp2_with fail
              go_roundg (M - (j + 1))
              case measure => exact gm.out
              case rel => exact ⟨j + 1, nextE f, t, mb, x, g2, n, c2, gi.out, by go_num, S6, H7, bd2, hn3.out, ho2.out⟩
          · have hs : (s.size : Int) ≤ K1 := SH.out.sb s (by rw [hm]; exact List.mem_cons_self ..)
            have hml : mb.length = t.length + 1 := by rw [hm]; rfl
            obtain ⟨x, hx⟩ : ∃ x, x = g2 + (s.size : Int) := ⟨_, rfl⟩
            have wx : Hid (wrap64 (g2 + (s.size : Int)) = x) := wrap_in hx.symm (by omega) (by omega)
            have wc : Hid (wrap64 ((c2 : Int) + 1) = (c2 : Int) + 1) := wrap_in rfl (by omega) (by omega)
            have ed : (g1 - g2 - s.size) = (g1 - x) := by omega
            rw [ed] at hS
            have bd2 : Hid (ma.length + c1 = 300 ∧ t.length + (c2 + 1) = 300 ∧ 0 ≤ g1 ∧ g1 ≤ 200 * ((j + 1 : Nat) : Int) ∧ 0 ≤ x ∧ x ≤ 200 * ((j + 1 : Nat) : Int)) := by unfold Hid; omega
            obtain ⟨d, hd⟩ : ∃ d, d = (g1 - x) := ⟨_, rfl⟩
            have wd : Hid (wrap64 (g1 - x) = d) := wrap_in hd.symm (by omega) (by omega)
            obtain ⟨dn, hdn⟩ : ∃ x, x = -d := ⟨_, rfl⟩
            have wn : Hid (wrap64 (-d) = dn) := wrap_in hdn.symm (by omega) (by omega)
            replace hdn := Lib.hid hdn
            have CN : Hid (Calls Try.prog 12 #[ptr B] wr fun e w' => e = .returned (.tuple #[.int .i64 2, .string s, .bool true]) ∧ Sw W w' B (nextE f) G C g1 g2 c1 c2) := by
              have := SW.out.next (by omega)
              have e : nextV f = .tuple #[.int .i64 2, .string s, .bool true] := by unfold nextV; rw [hA]
              rw [e] at this
              exact this
            have HS : Hid (t ≠ [] → Sh (nextE f) L K1 ma t (g1 - x)) := hS
            have ht : Hid (c2 + 1 ≠ 300 → t ≠ []) := fun h q => h (by rw [q] at hml; simp at hml; omega)
            have hck : Hid (c2 + 1 ≠ 300 → c2 + 1 < 300) := fun h => by omega
            have ho : Hid (c1 ≠ 300) := by unfold Hid; omega
            replace hd := Lib.hid hd
            clear hx ed SW SH BD b1 b2 b3 b4 b5 b6 hpz hA hS hm hml hc1 hc2 hj400 hlt hs
            replace mod1 := mod1.out
            replace mod2 := mod2.out
            replace q1 := q1.out
            replace q1' := q1'.out
            go_wp2_with fail
            refine CN.out.mono ?_
            rintro e w4 ⟨rfl, S4⟩
            clear CN q1 q1' mod1 mod2
            have y1 := S4.lg.cell 2 rfl
            have y2 := S4.lg.free 2 (by show 2 < 3; decide)
            have S5 := Lib.hid (S4.g2 x)
            replace wx := wx.out
            clear S4
            go_upto_region 25 with fail
            clear y1 y2 wx
            generalize w4.setCell ⟨G, 2, none⟩ (.int .i64 x) = w5 at *
            have y1 := S5.out.lc.cell 2 rfl
            have y2 := S5.out.lc.free 2 (by show 2 < 3; decide)
            have S6 := Lib.hid (S5.out.c2 ((c2 : Int) + 1))
            replace wc := wc.out
            clear S5
            go_upto_region 26 with fail
            clear y1 y2 wc
            generalize w5.setCell ⟨C, 2, none⟩ (.int .i64 ((c2 : Int) + 1)) = w6 at *
            obtain ⟨n, hn⟩ : ∃ n, n = c2 + 1 := ⟨_, rfl⟩
            have en : (c2 : Int) + 1 = (n : Int) := by omega
            rw [en] at S6
            rw [← hn] at ht hck bd2
            clear en
            have y1 := S6.out.lc.cell 1 rfl
            have y2 := S6.out.lc.cell 2 rfl
            have bel := Lib.hid S6.out.bel
            have oq : ((c1 : Int) == 300) = false := by have := ho.out; simp; omega
            have oq2 : decide ((c1 : Int) = 300) = false := decide_eq_false (by have := ho.out; omega)
            have oq3 : ¬ (c1 : Int) = 300 := by have := ho.out; omega
            have oq4 : ¬ c1 = 300 := ho.out
            by_cases h3 : n = 300
            · subst h3
              go_wp2_with fail
              go_ret
              exact ⟨rfl, bel.out⟩
            · have nq : ((n : Int) == 300) = false := by simp; omega
              have nq2 : decide ((n : Int) = 300) = false := decide_eq_false (by omega)
              have nq3 : ¬ (n : Int) = 300 := by omega
              have H7 := HS.out (ht.out h3)
              have hn3 := Lib.hid (hck.out h3)
              have Hb := H7.bound (by omega)
              rw [← hd.out] at Hb
              have Hq : (qq : Int) = 2 * ((L : Int) + (K1 : Int)) := by have := hqq.out; omega
              rw [← Hq] at Hb
              have Hc : dn ≤ (qq : Int) := by have := hdn.out; omega
              have v1 : decide ((qq : Int) < d) = false := decide_eq_false (by omega)
              have v2 : decide ((qq : Int) < dn) = false := decide_eq_false (by omega)
              have v3 : ¬ (qq : Int) < d := by omega
              have v4 : ¬ (qq : Int) < dn := by omega
              clear Hq Hc
              have y3 := S6.out.lg.cell 1 rfl
              have y4 := S6.out.lg.cell 2 rfl
              replace H7 := Lib.hid H7
              clear HS ht hck Hb hd hn
              have ho2 : Hid (c1 < 300) := by have := bd2.out; have := ho.out; unfold Hid; omega
              replace wd := wd.out
              replace wn := wn.out
              replace wq := wq.out
              replace wq2 := wq2.out
              go_upto_region 20 with fail
              clear oq oq2 oq3 oq4 nq nq2 nq3 v1 v2 v3 v4 y1 y2 y3 y4 wd wn wq wq2 h3
              replace wj := wj.out
              go_wp2_with fail
              go_roundg (M - (j + 1))
              case measure => exact gm.out
              case rel => exact ⟨j + 1, nextE f, ma, t, g1, x, c1, n, gi.out, by go_num, S6, H7, bd2, ho2.out, hn3.out⟩
        · obtain rfl : j = M := by omega
          have q1 : decide ((j : Int) < (j : Int)) = false := decide_eq_false (by omega)
          have q1' : decide (j < j) = false := decide_eq_false hlt
          have bel := Lib.hid SW.out.bel
          replace mod1 := mod1.out
          replace mod2 := mod2.out
          go_wp2_with fail
          go_ret
          exact ⟨rfl, bel.out⟩


theorem contract (H : Type) (enc : TypeId × Value → H) (W : World) (base : Nat) (args : Array Value) (ds gs : List (DataW H)) (before : List MemPlace)
    (hval : ∀ (j : Nat) t v, Try.f5.params[j]? = some t → args[j]? = some v → Value.okWide Try.prog W .any base t v)
    (hW : DataW.Whole enc Try.prog Try.f5.params.toList Rows.fairSharesSpec.vars false W args.toList ds gs before)
    (hsz : (DataW.weightsEach Try.prog (Try.f5.params.toList ++ (OpenSpec.ofChange Rows.fairSharesSpec).bare.plain.varTypes Try.prog) (ds ++ gs)).all (· ≤ reachBytes) = true) :
    Calls Try.prog 5 args W fun e W' => ∃ v, e = .returned v ∧ Rows.fairSharesSpec.post enc Try.prog Try.f5 false true false false W args v W' := by
  have hW' := hW
  obtain ⟨p, q, hA0, hV, rfl, hfz, hnd⟩ := hW
  have hA : DataW.TrodAll enc Try.prog W 0 (fun _ => true) true Try.f5.params.toList args.toList ds p := hA0
  rw [Try.params5] at hA hval hsz
  obtain ⟨v0, vs0, d0, ds0, p0, q0, hargs, rfl, rfl, h0, r0⟩ := trodAll_cons hA
  obtain ⟨v1, vs1, d1, ds1, p1, q1, rfl, rfl, rfl, h1, r1⟩ := trodAll_cons r0
  obtain ⟨v2, vs2, d2, ds2, p2, q2, rfl, rfl, rfl, h2, r2⟩ := trodAll_cons r1
  obtain ⟨v3, vs3, d3, ds3, p3, q3, rfl, rfl, rfl, h3, r3⟩ := trodAll_cons r2
  obtain ⟨rfl, rfl, rfl⟩ := trodAll_nil r3
  obtain rfl : args = #[v0, v1, v2, v3] := by cases args; simp_all
  obtain ⟨rfl, rfl⟩ := trodVars_none hV
  obtain ⟨a0, rfl, rfl, rfl, w0⟩ := open_int Try.underlying3 (hval 0 3 v0 rfl rfl) h0
  have b0 := bounds_i64 w0
  have k1 := h1
  have lt1 : ∀ x ∈ p1, x.block < W.heap.size := by obtain ⟨m, hm⟩ := k1; exact DataW.trod_lt m _ _ _ hm
  obtain ⟨l1, hs1, hz1, hb1⟩ := open_nums (hval 1 40 v1 rfl rfl) h1 (fun n hn => by simpa using List.all_eq_true.1 hsz _ (DataW.weights_mem_each (j := 1) (t := 40) rfl rfl n hn))
  have k2 := h2
  have lt2 : ∀ x ∈ p2, x.block < W.heap.size := by obtain ⟨m, hm⟩ := k2; exact DataW.trod_lt m _ _ _ hm
  obtain ⟨l2, hs2, hz2, hb2⟩ := open_nums (hval 2 40 v2 rfl rfl) h2 (fun n hn => by simpa using List.all_eq_true.1 hsz _ (DataW.weights_mem_each (j := 2) (t := 40) rfl rfl n hn))
  obtain ⟨a3, rfl, rfl, rfl, w3⟩ := open_int Try.underlying3 (hval 3 3 v3 rfl rfl) h3
  have b3 := bounds_i64 w3
  clear hA0
  simp only [List.append_nil] at hW'
  refine (walk a0 v1 l1 v2 l2 a3 W hs1 hz1 hs2 hz2).mono fun e W' ⟨he, bel⟩ => ?_
  subst he
  exact ⟨_, rfl, _, _, _, [], _, [], hW', trodAll_mk1 (shut_bool Try.underlying4 _), (trodAll_cons_mk (shut_int Try.underlying3 w0) (trodAll_cons_mk (Below.trod laidOut (by kernel_rfl) (of_decide_eq_true (by kernel_rfl)) k1 bel lt1) (trodAll_cons_mk (Below.trod laidOut (by kernel_rfl) (of_decide_eq_true (by kernel_rfl)) k2 bel lt2) (trodAll_cons_mk (shut_int Try.underlying3 w3) trodAll_mk0)))), rfl, bel.frame _, fun h => by cases h⟩

theorem laid_met (os : Os) : laidMet Try.prog Rows.fairSharesRow.laid ((startWorld Try.prog os).forCall (fun _ _ => 0) ⟨#[], #[.int .i64 0, .slice none 0 0, .slice none 0 0, .int .i64 0], []⟩).memory :=
  laidMet_of_run' 8 (by kernel_rfl) (by kernel_rfl)
theorem reads (os : Os) {H : Type} (enc : TypeId × Value → H) : ∃ places, DataW.whole enc Try.prog ((startWorld Try.prog os).forCall (fun _ _ => 0) ⟨#[], #[.int .i64 0, .slice none 0 0, .slice none 0 0, .int .i64 0], []⟩).memory Try.f5.params.toList Rows.fairSharesSpec.vars false #[Value.int .i64 0, Value.slice none 0 0, Value.slice none 0 0, Value.int .i64 0].toList 8 = some ([.lit (.int .i64 0), .nil, .nil, .lit (.int .i64 0)], [], places) :=
  ⟨[], by kernel_rfl⟩

set_option maxRecDepth 100000 in
theorem lifted (os : Os) (started : os.Started) (H : Type) (enc : TypeId × Value → H) (F : Stop.Interp) :
    ReturnsInHanded {} Try.checked os 5 .any ((OpenSpec.ofChange Rows.fairSharesSpec).preRow enc Try.prog Try.f5 Rows.fairSharesRow.domain false Rows.fairSharesRow.laid) (((OpenSpec.ofChange Rows.fairSharesSpec).at F).post enc Try.prog Try.f5 false true false false) := by
  obtain ⟨places, hx⟩ := reads os enc
  refine returnsInHanded_of_row (C := Try.checked) (s := OpenSpec.ofChange Rows.fairSharesSpec) own started (by kernel_rfl) Try.func5
    (witness_row_at (enc := enc) (C := Try.checked) false (startWorld Try.prog os) #[.int .i64 0, .slice none 0 0, .slice none 0 0, .int .i64 0] rfl (by kernel_rfl) (by kernel_rfl) (by kernel_rfl)
      (OpenSpec.preRow_of_cond 8 hx (by kernel_rfl) (fun k hk => by cases hk) (by kernel_rfl) (laid_met os))) ?_
  intro W base args ds gs before hval hW _ _ hsz _ _ _
  exact contract H enc W base args ds gs before hval hW hsz

theorem said : Rows.FairSharesSaid :=
  OpenClaim.holds_of_cond 5 Try.f5 rfl rfl rfl rfl rfl rfl rfl ⟨rfl, rfl, rfl, rfl, rfl⟩ rfl rfl rfl rfl rfl (by kernel_rfl) Try.func5 (by kernel_rfl)
    (of_decide_eq_true (by kernel_rfl)) (by unfold Func.isWrapper; first | (rw [if_pos (by decide +kernel)]; kernel_rfl) | (rw [if_neg (by decide +kernel)]; exact ⟨rfl, rfl⟩))
    (fun os started H enc _ F => by rw [OpenClaim.pre_eq_preRow]; exact lifted os started H enc F)
end Go.Proofs.Ytiamlldooihkdaa.fairShares
namespace Go.Proofs.Ytiamlldooihkdaa
theorem fairShares_said : Rows.FairSharesSaid := fairShares.said
end Go.Proofs.Ytiamlldooihkdaa
