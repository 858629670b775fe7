/-
  The walk of TargetOrder: fields of a request in another order. The tables of Go's library lie as the row's list gives them.
-/
import Derived.Test.YtojfcflkanohoaaDoorTgWorks
import Derived.BigRegion
import Derived.Deep.DeepCutAuto
import Derived.RegionTactic
namespace Go.Proofs.YtojfcflkanohoaaDoor
set_option maxRecDepth 100000
open Go.RowKit Go.Sort

theorem place6 (a : Int) : ∃ x : Nat, wrap64 ((IntKind.u64.wrap a).tmod 6) = x ∧ IntKind.i64.wrap ((IntKind.u64.wrap a).tmod 6) = x ∧ x < 6 := by
  have h : 0 ≤ IntKind.u64.wrap a := by rw [IntKind.wrap_u64]; omega
  rw [Int.tmod_eq_emod_of_nonneg h]
  have h1 := Int.emod_nonneg (IntKind.u64.wrap a) (by omega : (6 : Int) ≠ 0)
  have h2 := Int.emod_lt_of_pos (IntKind.u64.wrap a) (by omega : (0 : Int) < 6)
  refine ⟨(IntKind.u64.wrap a % 6).toNat, ?_, ?_, by omega⟩
  · unfold wrap64; omega
  · simp [IntKind.wrap, IntKind.bits, IntKind.signed] at *
    omega
/-- Two places changed for one another. -/
def swp (l : List Fd) (i k : Nat) : List Fd := (l.set i (l.getD k nF)).set k (l.getD i nF)
theorem six (i : Nat) (h : i < 6) : i = 0 ∨ i = 1 ∨ i = 2 ∨ i = 3 ∨ i = 4 ∨ i = 5 := by omega
theorem swp_asks (ip : Bool) (a n : Int) (i k : Nat) (hi : i < 6) (hk : k < 6) (a0 : 0 ≤ a) (a1 : a < 4294967296) (hr : rightT ip a n = true) {ip' : Bool} {b m st : Int} (h : Asks (swp (fld6 cProxy ip a n) i k) ip' b m st) :
    if (i = 5) ↔ (k = 5) then ip' = ip ∧ b = a ∧ m = n ∧ st = 200 else st = 400 := by
  have r1 : rtE (nMeth, cConn) = 0 := by decide
  have r2 := rt_mid ip
  have r3 : rtE (nSchm, cHttps) = 0 := by decide
  have r4 : rtE (nAuth, cProxy) = 0 := by decide
  have r5 := rt_path ip a n a0 a1
  have r6 : rtE (nCaps, cYes) = 0 := by decide
  unfold fld6 at h
  rcases six i hi with rfl | rfl | rfl | rfl | rfl | rfl <;> rcases six k hk with rfl | rfl | rfl | rfl | rfl | rfl
  all_goals
    first
    | (rw [if_pos (by decide)]
       refine asks_ok (au := cProxy) ?_ rfl rfl rfl rfl (by decide) rfl rfl rfl hr a0 a1 h
       unfold chkS
       rw [if_neg (by simp [swp])]
       simp only [swp, List.set_cons_zero, List.set_cons_succ, List.getD_cons_zero, List.getD_cons_succ, fstE, r1, r2, r3, r4, r5, r6, if_true])
    | (rw [if_neg (by decide)]
       exact (asks_bad (pre_mark rfl) (by decide) h).2.2.2)
/-- Two fields of a row changed for one another, in memory. -/
theorem swp_cells (l : List Fd) (i k : Nat) (hl : l.length = 6) (hi : i < 6) (hk : k < 6) : ((((fCells l).set (2 * i) (.string (strL (l.getD k nF).1))).set (2 * i + 1) (.string (strL (l.getD k nF).2))).set (2 * k) (.string (strL (l.getD i nF).1))).set (2 * k + 1) (.string (strL (l.getD i nF).2)) = fCells (swp l i k) := by
  match l, hl with
  | [x0, x1, x2, x3, x4, x5], _ =>
    rcases six i hi with rfl | rfl | rfl | rfl | rfl | rfl <;> rcases six k hk with rfl | rfl | rfl | rfl | rfl | rfl <;> rfl
set_option maxHeartbeats 16000000 in
theorem order17_ok (ip : Bool) (a n x y : Int) (w : World) (t : Tab w) (a0 : 0 ≤ a) (a1 : a < 4294967296) :
    Calls Tryd.prog 7 #[tgV ip a n, .int .i64 x, .int .i64 y] w fun e w' => e = .returned (.bool true) ∧ Below w.heap.size w w' := by
  have lA := tbox w ip a n
  have bA := bx w (.cells #[.bool ip, .int .u32 a, .int .i64 n] 25)
  obtain ⟨wa, hwa⟩ : ∃ wa, wa = w.alloc (.cells #[.bool ip, .int .u32 a, .int .i64 n] 25) := ⟨_, rfl⟩
  rw [← hwa] at lA bA
  obtain ⟨K, hK⟩ : ∃ K, K = w.heap.size := ⟨_, rfl⟩
  have hKw : Hid (K < wa.heap.size) := by unfold Hid; rw [hK]; exact lA.lt (by show 0 < 3; decide)
  rw [← hK] at lA
  have tK : Hid (∀ w', Below w.heap.size w w' → Tab w') := fun w' b => t.keep b
  have BX := Lib.hid bA
  have LD := Lib.hid lA
  clear lA bA t
  have WK : Hid (∀ w', Below w.heap.size w w' → _) := fun w' b => works_ok w' (tK.out w' b)
  have FD : Hid (∀ w', Below w.heap.size w w' → Calls Tryd.prog 13 #[.string ⟨#[112, 114, 111, 120, 121]⟩, tgV ip a n] w' fun e w'' => FldT w' w'' e cProxy ip a n) := fun w' b => flds_ok cProxy ip a n w' (tK.out w' b).p a0 a1
  have PS : Hid (∀ w' v l, Below w.heap.size w w' → FdsAt w' v l → l.length = 6 → Calls Tryd.prog 8 #[v] w' fun e w'' => Ans l e ∧ Below w'.heap.size w' w'') := fun w' v l b h hl => parse17_ok l v w' (tK.out w' b) h (by rw [hl]; decide)
  obtain ⟨i, i1, i2, i3⟩ := place6 x
  obtain ⟨k, k1, k2, k3⟩ := place6 y
  unfold tgV at FD ⊢
  go_enter Tryd.func7, Tryd.ntmps7
  go_upto_region 1 with fail
  rw [← hwa, ← hK]
  clear hwa
  replace hK := Lib.hid hK
  go_wp2_with fail
  refine (WK.out wa BX.out).mono ?_
  rintro e w1 ⟨rfl, b1⟩
  have B1 := Lib.hid (BX.out.trans (b1.mono BX.out.size))
  have L1 := LD.out.keep (by show 0 < 3; decide) b1
  have c0 := L1.cell 0 (v := .bool ip) rfl
  have c1 := L1.cell 1 (v := .int .u32 a) rfl
  have c2 := L1.cell 2 (v := .int .i64 n) rfl
  replace L1 := Lib.hid L1
  have hK1 : Hid (K < w1.heap.size) := Nat.lt_of_lt_of_le hKw.out b1.size
  clear b1 BX LD WK hKw
  go_wp2_with fail
  refine (FD.out w1 B1.out).mono ?_
  rintro e w2 (⟨hr, g, rfl, l2, hg, b2⟩ | ⟨hr, rfl, b2⟩)
  · have B2 := Lib.hid (B1.out.trans (b2.mono B1.out.size))
    have M2 := Lib.hid (L1.out.keep (by show 0 < 3; decide) b2)
    have gK : Hid (K < g) := Nat.lt_of_lt_of_le hK1.out hg
    have g0 : Hid (w.heap.size ≤ g) := Nat.le_trans B1.out.size hg
    clear b2 B1 L1 FD c0 c1 c2 hK1
    have AS : Hid (∀ ip' b m st, Asks (swp (fld6 cProxy ip a n) i k) ip' b m st → if (i = 5) ↔ (k = 5) then ip' = ip ∧ b = a ∧ m = n ∧ st = 200 else st = 400) := fun ip' b m st h => swp_asks ip a n i k i3 k3 a0 a1 hr h
    have SC := Lib.hid (swp_cells (fld6 cProxy ip a n) i k rfl i3 k3)
    have sl : Hid ((swp (fld6 cProxy ip a n) i k).length = 6) := by unfold Hid swp; simp [fld6]
    have ll : (fld6 cProxy ip a n).length = 6 := rfl
    have lc : (fCells (fld6 cProxy ip a n)).length = 12 := rfl
    generalize fld6 cProxy ip a n = LL at *
    have gi := fCells_get LL i (by rw [ll]; exact i3)
    have gk' := fCells_get LL k (by rw [ll]; exact k3)
    have d0 := l2.cell (2 * i) gi.1
    have d1 := l2.cell (2 * i + 1) gi.2
    have d2 := l2.cell (2 * k) gk'.1
    have d3 := l2.cell (2 * k + 1) gk'.2
    have f0 := l2.free (2 * i) (by rw [lc]; omega)
    have f1 := l2.free (2 * i + 1) (by rw [lc]; omega)
    have f2 := l2.free (2 * k) (by rw [lc]; omega)
    have f3 := l2.free (2 * k + 1) (by rw [lc]; omega)
    have L3 := ((((l2.put (2 * i) (by rw [lc]; omega) (.string (strL (LL.getD k nF).1))).put (2 * i + 1) (by simp [lc]; omega) (.string (strL (LL.getD k nF).2))).put (2 * k) (by simp [lc]; omega) (.string (strL (LL.getD i nF).1))).put (2 * k + 1) (by simp [lc]; omega) (.string (strL (LL.getD i nF).2)))
    rw [SC.out] at L3
    obtain ⟨p, hp⟩ : ∃ p, p = 2 * i := ⟨_, rfl⟩
    obtain ⟨q, hq⟩ : ∃ q, q = 2 * k := ⟨_, rfl⟩
    have ia := fun w' => at_fds g 0 6 6 i w' i3 (i : Int) rfl p (by omega)
    have ib := fun w' => at_fds g 0 6 6 k w' k3 (k : Int) rfl q (by omega)
    rw [← hp] at d0 d1 f0 f1 L3
    rw [← hq] at d2 d3 f2 f3 L3
    have BE : Below w.heap.size w ((((w2.setCell ⟨g, p, none⟩ (.string (strL (LL.getD k nF).1))).setCell ⟨g, p + 1, none⟩ (.string (strL (LL.getD k nF).2))).setCell ⟨g, q, none⟩ (.string (strL (LL.getD i nF).1))).setCell ⟨g, q + 1, none⟩ (.string (strL (LL.getD i nF).2))) := ((((B2.out.setCell (p := ⟨g, p, none⟩) g0.out _).setCell (p := ⟨g, p + 1, none⟩) g0.out _).setCell (p := ⟨g, q, none⟩) g0.out _).setCell (p := ⟨g, q + 1, none⟩) g0.out _)
    have ME := M2.out.of_block (w' := ((((w2.setCell ⟨g, p, none⟩ (.string (strL (LL.getD k nF).1))).setCell ⟨g, p + 1, none⟩ (.string (strL (LL.getD k nF).2))).setCell ⟨g, q, none⟩ (.string (strL (LL.getD i nF).1))).setCell ⟨g, q + 1, none⟩ (.string (strL (LL.getD i nF).2)))) (by
      have hne : K ≠ g := by have := gK.out; omega
      exact (((Below.heap_setCell _ _ _ _ hne).trans (Below.heap_setCell _ _ _ _ hne)).trans (Below.heap_setCell _ _ _ _ hne)).trans (Below.heap_setCell _ _ _ _ hne))
    have FE := Flds0 sl.out L3
    generalize strL (LL.getD k nF).1 = S1 at *
    generalize strL (LL.getD k nF).2 = S2 at *
    generalize strL (LL.getD i nF).1 = S3 at *
    generalize strL (LL.getD i nF).2 = S4 at *
    replace FE := Lib.hid FE
    replace ME := Lib.hid ME
    replace BE := Lib.hid BE
    obtain ⟨w3, hw3⟩ : ∃ w3, w3 = ((((w2.setCell ⟨g, p, none⟩ (.string S1)).setCell ⟨g, p + 1, none⟩ (.string S2)).setCell ⟨g, q, none⟩ (.string S3)).setCell ⟨g, q + 1, none⟩ (.string S4)) := ⟨_, rfl⟩
    rw [← hw3] at FE ME BE
    replace hw3 := Lib.hid hw3
    have hpq : Hid (i = k ∨ (¬ p = q ∧ ¬ q = p ∧ ¬ p + 1 = q ∧ ¬ q = p + 1 ∧ ¬ p = q + 1 ∧ ¬ q + 1 = p)) := by unfold Hid; omega
    have ik : Hid (i = k → p = q) := by unfold Hid; omega
    have z5 : ((i : Int) == 5) = decide (i = 5) := by rw [Bool.eq_iff_iff, beq_iff_eq, decide_eq_true_eq]; omega
    have z6 : ((k : Int) == 5) = decide (k = 5) := by rw [Bool.eq_iff_iff, beq_iff_eq, decide_eq_true_eq]; omega
    have slx := sl
    clear L3 l2 gi gk' SC ll lc sl hp hq g0 M2 B2 hg
    go_upto_region 7 with fail
    go_cut [7] (fun u wc => u = .slice (some ⟨g, 0, none⟩) 6 6 ∧ w3.drew = wc)
    case first =>
      rcases hpq.out with rfl | ⟨n1, n2, n3, n4, n5, n6⟩
      · obtain rfl := ik.out rfl
        obtain rfl : S3 = S1 := by have := d0.symm.trans d2; injection this with this; injection this
        obtain rfl : S4 = S2 := by have := d1.symm.trans d3; injection this with this; injection this
        go_region
        all_goals
          go_wp2_with fail
          go_meet
          exact ⟨rfl, by rw [hw3.out]⟩
      · go_region
        all_goals
          go_wp2_with fail
          go_meet
          exact ⟨rfl, by rw [hw3.out]⟩
    case rest =>
      obtain ⟨rfl, rfl⟩ := hcut
      have dr : Below w3.heap.size w3 w3.drew := ⟨rfl, rfl, rfl, Nat.le_refl _, fun _ _ => rfl⟩
      have B3 := Lib.hid (BE.out.trans (dr.mono BE.out.size))
      have F3 := Lib.hid (FE.out.keep dr)
      have M3 := Lib.hid (ME.out.keep (by show 0 < 3; decide) dr)
      clear dr BE FE ME hw3 d0 d1 d2 d3 f0 f1 f2 f3 hpq ik ia ib
      generalize w3.drew = w4 at *
      obtain ⟨LX, hLX⟩ : ∃ LX, LX = swp LL i k := ⟨_, rfl⟩
      rw [← hLX] at F3 AS
      have lx6 : Hid (LX.length = 6) := by unfold Hid; rw [hLX]; exact slx.out
      clear hLX
      go_wp2_with fail
      refine (PS.out w4 _ LX B3.out F3.out lx6.out).mono ?_
      rintro e w5 ⟨⟨ip', b, m, st, hA, rfl⟩, b5⟩
      have AN := AS.out _ _ _ _ hA
      have B5 := Lib.hid (B3.out.trans (b5.mono B3.out.size))
      have M5 := M3.out.keep (by show 0 < 3; decide) b5
      clear hA b5 B3 M3 F3 PS AS
      have e0 := M5.cell 0 (v := .bool ip) rfl
      have e1 := M5.cell 1 (v := .int .u32 a) rfl
      have e2 := M5.cell 2 (v := .int .i64 n) rfl
      have lZ := Lies.new w5 [.bool ip', .int .u32 b, .int .i64 m] 25
      have bZ := bx w5 (.cells #[.bool ip', .int .u32 b, .int .i64 m] 25)
      obtain ⟨w6, hw6⟩ : ∃ w6, w6 = w5.alloc (.cells #[.bool ip', .int .u32 b, .int .i64 m] 25) := ⟨_, rfl⟩
      have lZ' : Lies w6 w5.heap.size [.bool ip', .int .u32 b, .int .i64 m] := by rw [hw6]; exact lZ
      rw [← hw6] at bZ
      have M6 := M5.keep (by show 0 < 3; decide) bZ
      have B6 := Lib.hid (B5.out.trans (bZ.mono B5.out.size))
      obtain ⟨Z, hZ⟩ : ∃ Z, Z = w5.heap.size := ⟨_, rfl⟩
      rw [← hZ] at lZ'
      have h0 := lZ'.cell 0 (v := .bool ip') rfl
      have h1 := lZ'.cell 1 (v := .int .u32 b) rfl
      have h2 := lZ'.cell 2 (v := .int .i64 m) rfl
      clear lZ lZ' bZ M5 B5 e0 e1 e2
      have e0 := M6.cell 0 (v := .bool ip) rfl
      have e1 := M6.cell 1 (v := .int .u32 a) rfl
      have e2 := M6.cell 2 (v := .int .i64 n) rfl
      clear M6
      unfold tgV
      go_upto_region 9 with fail
      rw [← hw6, ← hZ]
      clear hw6
      replace hZ := Lib.hid hZ
      by_cases q5 : i = 5
      · rw [decide_eq_true q5] at z5
        by_cases q6 : k = 5
        · rw [decide_eq_true q6] at z6
          rw [if_pos (by simp [q5, q6])] at AN
          obtain ⟨rfl, rfl, rfl, rfl⟩ := AN
          clear q5 q6
          go_wp2_with fail
          go_ret
          exact ⟨rfl, B6.out⟩
        · rw [decide_eq_false q6] at z6
          rw [if_neg (by simp [q5, q6])] at AN
          subst AN
          clear q5 q6
          go_wp2_with fail
          go_ret
          exact ⟨rfl, B6.out⟩
      · rw [decide_eq_false q5] at z5
        by_cases q6 : k = 5
        · rw [decide_eq_true q6] at z6
          rw [if_neg (by simp [q5, q6])] at AN
          subst AN
          clear q5 q6
          go_wp2_with fail
          go_ret
          exact ⟨rfl, B6.out⟩
        · rw [decide_eq_false q6] at z6
          rw [if_pos (by simp [q5, q6])] at AN
          obtain ⟨rfl, rfl, rfl, rfl⟩ := AN
          clear q5 q6
          go_wp2_with fail
          go_ret
          exact ⟨rfl, B6.out⟩
  · have B2 := Lib.hid (B1.out.trans (b2.mono B1.out.size))
    clear b2 B1 L1 FD c0 c1 c2
    go_wp2_with fail
    go_ret
    exact ⟨rfl, B2.out⟩
end Go.Proofs.YtojfcflkanohoaaDoor
