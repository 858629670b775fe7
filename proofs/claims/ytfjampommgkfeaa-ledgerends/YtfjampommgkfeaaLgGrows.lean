/-
  The law LedgerGrows returns true for every row of sizes, by what is asked of the program's calls (Face). No other condition.
-/
import Derived.Test.YtfjampommgkfeaaLgWorks
import Derived.Test.YtfjampommgkfeaaLgOne
import Derived.Test.YtfjampommgkfeaaRpOpen
import Derived.Deep.Cut
namespace Go.Proofs.Ytfjampommgkfeaa
set_option maxRecDepth 100000
open Go.RowKit Go.Sort

/-- A ledger of which i packets have come, and none is on its way. -/
def dG (i : Nat) (win : Int) : Ld := ⟨[], (i : Int) - 1, win, 1073741824, -1, 0⟩
def dS (i : Nat) (win k : Int) : Ld := ⟨[((i : Int), (i : Int), k)], i, win, 1073741824, -1, 0⟩
theorem g_sent (i : Nat) (win k : Int) (hi : i ≤ 1000) (h1 : 1 ≤ k) (h2 : k ≤ 1200) : sentE (dG i win) i k = 0 ∧ sent (dG i win) i i k = dS i win k := by
  have e0 : sentE (dG i win) i k = 0 := sentE_zero.2 ⟨by omega, by omega, by show (i : Int) - 1 < i; omega, h1, h2⟩
  exact ⟨e0, by unfold sent; rw [if_pos e0]; rfl⟩
theorem g_ack (i : Nat) (win k : Int) (hi : i ≤ 1000) (h1 : 1 ≤ k) (h2 : k ≤ 1200) (hw : 2400 ≤ win) (hw2 : win ≤ 1000000) : ackE (dS i win k) [((i : Int), (i : Int))] = 0 ∧ toldN (dS i win k) [((i : Int), (i : Int))] = [(i : Int)] ∧ lostN (dS i win k) [((i : Int), (i : Int))] = [] ∧ acked (dS i win k) [((i : Int), (i : Int))] = dG (i + 1) (win + k) := by
  obtain ⟨f1, f2, f3, f4⟩ := ack_all (d := dS i win k) (lo := i) (hi := i) (fun p hp => by rw [List.mem_singleton.1 hp]; show (i : Int) ≤ i ∧ (i : Int) ≤ i; omega) (Int.le_refl _) (by omega) (Int.le_refl _) (by omega)
  refine ⟨f1, f2, f3, f4.trans ?_⟩
  have e : growAll 1073741824 [((i : Int), (i : Int), k)] win = win + k := by
    show grow win 1073741824 k = win + k
    unfold grow
    rw [if_pos (by omega)]
    omega
  show (⟨[], (i : Int), growAll 1073741824 [((i : Int), (i : Int), k)] win, 1073741824, -1, 0⟩ : Ld) = dG (i + 1) (win + k)
  rw [e]
  unfold dG
  congr 1
  push_cast
  omega
theorem g_end (i : Nat) (win : Int) (hi : i ≤ 1000) : expL (dS i win 9) ((i : Int) + 8) = [(i : Int)] ∧ (expire (dS i win 9) ((i : Int) + 8)).win = max 2400 (win / 2) := by
  have hd : dueA (dS i win 9) ((i : Int) + 8) = true := by
    show (dueB _ _ _ || false) = true
    unfold dueB
    have hw : wait (dS i win 9) = 8 := rfl
    rw [hw, Bool.or_false, Bool.and_eq_true, decide_eq_true_eq, decide_eq_true_eq]
    show (i : Int) < i + 8 ∧ 8 ≤ (i : Int) + 8 - i
    omega
  constructor
  · unfold expL; rw [if_pos hd]; rfl
  · unfold expire
    rw [if_pos hd]
    have hl : ([(i : Int)].any fun n => decide ((-1 : Int) < n)) = true := by
      show (decide ((-1 : Int) < i) || false) = true
      rw [Bool.or_false, decide_eq_true_eq]
      omega
    show (lose _ [(i : Int)]).win = _
    unfold lose
    refine (congrArg Ld.win (if_pos ?_)).trans ?_
    · exact hl
    · rfl
theorem at_ints (B o N cap i : Nat) (w : World) (h : i < N) (z : Int) (hz : z = i) (p : Nat) (hp : p = o + i) :
    (Instr.indexAt 47 (.slice (some ⟨B, o, none⟩) N cap) (.int .i64 z)).run Try.prog w = .ok (.pointer (some ⟨B, p, none⟩)) w := by
  subst hz hp
  have e : Try.prog.elem 47 = 3 := by kernel_rfl
  rw [run_indexAt_slice (P := Try.prog) w 47 ⟨B, o, none⟩ N cap .i64 i (by rw [e]; exact Try.underlying47), if_pos (by omega), e]
  have s : (sizeOf 3).run Try.prog w = .ok 1 w := Try.sizeOf3 w
  rw [s]
  simp [Addr.add_mid]
theorem sized (a : Int) : ∃ k : Int, wrap64 (1 + wrap64 ((IntKind.u64.wrap a).tmod 1200)) = k ∧ 1 ≤ k ∧ k ≤ 1200 := by
  have h : 0 ≤ IntKind.u64.wrap a := by rw [IntKind.wrap_u64]; omega
  rw [Int.tmod_eq_emod_of_nonneg h]
  have h1 := Int.emod_nonneg (IntKind.u64.wrap a) (by omega : (1200 : Int) ≠ 0)
  have h2 := Int.emod_lt_of_pos (IntKind.u64.wrap a) (by omega : (0 : Int) < 1200)
  refine ⟨1 + IntKind.u64.wrap a % 1200, ?_, by omega, by omega⟩
  unfold wrap64
  omega
theorem rg_one {lo hi : Int} (h1 : In64 lo) (h2 : In64 hi) : ∀ x ∈ [((lo, hi) : Rg)], In64 x.1 ∧ In64 x.2 := fun x hx => by rw [List.mem_singleton.1 hx]; exact ⟨h1, h2⟩
/-- Acked of one range that was built just now. -/
theorem pl_ack1 {LS : LSt} (fc : Face LS) {w0 w : World} {B : Nat} {F : Nat → Prop} {d : Ld} (lo hi : Int) (h1 : In64 lo) (h2 : In64 hi) (h : PL LS w0 w B F d) :
    Calls Try.prog 12 #[ptr B, .slice (some ⟨w.heap.size, 0, none⟩) 1 1] (w.alloc (.cells #[.int .i64 lo, .int .i64 hi] 50)) fun e w' => ∃ u v, e = .returned (.tuple #[u, v, .int .i64 (ackE d [(lo, hi)])]) ∧ I64At w' u (toldN d [(lo, hi)]) ∧ I64At w' v (lostN d [(lo, hi)]) ∧ ∃ F', PL LS w0 w' B F' (acked d [(lo, hi)]) := by
  refine (pl_acked fc [(lo, hi)] _ (h.keep fc ((Below.refl _ _).alloc (Nat.le_refl _) _)) (rg_new w lo hi 50) (by simp) (rg_one h1 h2) (fun _ p c e q => ?_)).mono ?_
  · injection e with e _ _
    injection e with e
    subst e
    exact Nat.lt_irrefl _ (fc.lt h.s _ q)
  · rintro e w' ⟨u, v, rfl, F', hu, hv, hp, -, -⟩
    exact ⟨u, v, rfl, hu.at, hv.at, F', hp⟩
set_option maxHeartbeats 8000000 in
theorem grows_any {LS : LSt} (fc : Face LS) (f : Nat → Int) (a : Option Addr) (m cap M : Nat) (w : World) (hm : m ≤ 9223372036854775807) (hM : (M = m ∧ m ≤ 60) ∨ (M = 60 ∧ 60 < m)) (hc : Nums w a m f) :
    Calls Try.prog 6 #[.slice a m cap] w fun e w' => e = .returned (.bool true) ∧ Below w.heap.size w w' := by
  have hMn : M ≤ m ∧ M ≤ 60 := by omega
  replace hc : Hid (Nums w a m f) := hc
  have WO : Hid (∀ _ : Unit, _) := fun _ => works_ok fc w
  have NP : Hid (∀ w', Below w.heap.size w w' → _) := fun w' b => pl_new fc w w' b
  go_enter Try.func6, Try.ntmps6
  go_wp2_with fail
  refine (WO.out ()).mono ?_
  rintro e w1 ⟨rfl, b1⟩
  have Z1 := Lib.hid b1
  clear b1 WO
  go_wp2_with fail
  refine (NP.out _ Z1.out).mono ?_
  rintro e w2 ⟨B, F0, rfl, n2, -⟩
  have N2 : Hid (PL LS w w2 B F0 (dG 0 12000)) := n2
  have WI : Hid (∀ _ : Unit, Calls Try.prog 19 #[ptr B] w2 fun e w' => e = .returned (.int .i64 12000) ∧ Below w2.heap.size w2 w') := fun _ => pl_window fc N2.out
  clear n2 NP Z1
  go_wp2_with fail
  refine (WI.out ()).mono ?_
  rintro e w3 ⟨rfl, b3⟩
  have N3 := Lib.hid (N2.out.keep fc b3)
  clear N2 b3 WI
  go_wp2_with fail
  go_loopg [4, 5, 6] M (fun g wv nv iv wr => ∃ (i : Nat) (F : Nat → Prop) (win : Int), i + g = M ∧ iv = .int .i64 i ∧ nv = .int .i64 i ∧ wv = .int .i64 win ∧ (12000 ≤ win ∧ win ≤ 12000 + 1200 * i) ∧ Hid (PL LS w wr B F (dG i win)))
  case atStart => exact ⟨0, F0, 12000, by omega, rfl, rfl, rfl, by omega, N3⟩
  case round =>
    clear N3
    obtain ⟨i, F, win, hi, rfl, rfl, rfl, hwin, N⟩ := hrel
    by_cases hlt : i < M
    · have q1 : decide (i < m) = true := decide_eq_true (by omega)
      have q2 : decide ((i : Int) < 60) = true := decide_eq_true (by omega)
      have q3 : decide (i < 60) = true := decide_eq_true (by omega)
      obtain ⟨b, off, rfl, hb, hc⟩ : ∃ b off, a = some ⟨b, off, none⟩ ∧ b < w.heap.size ∧ ∀ i, i < m → w.cell? ⟨b, off + i, none⟩ = some (.int .i64 (f i)) := by
        rcases hc.out with h | h
        · omega
        · exact h
      have ia := fun w' => at_ints b off m cap i w' (by omega) (i : Int) rfl (off + i) rfl
      have c0 := (N.out.bel.cell (p := ⟨b, off + i, none⟩) hb).trans (hc i (by omega))
      clear hc
      go_upto_region 10 with fail
      obtain ⟨k, hk, hk1, hk2⟩ := sized (f i)
      rw [hk]
      replace hk := Lib.hid hk
      have SE : Hid (∀ _ : Unit, _) := fun _ => pl_sent fc (i : Int) (i : Int) k N.out (by show 0 < 1000000; decide) (by unfold In64; omega) (by unfold In64; omega) (by unfold In64; omega)
      obtain ⟨f1, f2⟩ := g_sent i win k (by omega) hk1 hk2
      rw [f1, f2] at SE
      obtain ⟨f3, f4, f5, f6⟩ := g_ack i win k (by omega) hk1 hk2 (by omega) (by omega)
      clear f1 f2 N c0 ia q1 q2 q3
      go_wp2_with fail
      refine (SE.out ()).mono ?_
      rintro e w4 ⟨rfl, F4, n4, -, -⟩
      have AK : Hid (∀ _ : Unit, _) := fun _ => pl_ack1 fc (i : Int) (i : Int) (by unfold In64; omega) (by unfold In64; omega) n4
      rw [f3, f4, f5, f6] at AK
      clear n4 SE f3 f4 f5 f6
      go_wp2_with fail
      refine (AK.out ()).mono ?_
      rintro e w5 ⟨u5, v5, rfl, hu5, hv5, F5, n5⟩
      obtain ⟨ua, uc, rfl, -⟩ := hu5
      obtain ⟨va, vc, rfl, -⟩ := hv5
      have N5 := Lib.hid n5
      have WI : Hid (∀ _ : Unit, Calls Try.prog 19 #[ptr B] w5 fun e w' => e = .returned (.int .i64 (win + k)) ∧ Below w5.heap.size w5 w') := fun _ => pl_window fc N5.out
      have gw : (win + k != win + k) = false := by simp
      clear n5 AK
      go_wp2_with fail
      refine (WI.out ()).mono ?_
      rintro e w6 ⟨rfl, b6⟩
      have N6 := Lib.hid (N5.out.keep fc b6)
      clear b6 WI N5
      go_wp2_with fail
      go_roundg (M - (i + 1))
      case measure => omega
      case rel => exact ⟨i + 1, F5, win + k, by omega, by go_num, by go_num, rfl, by push_cast; omega, N6⟩
    · have END : ∀ q : Bool, q = false → True := fun _ _ => trivial
      clear hc END
      have SE : Hid (∀ _ : Unit, _) := fun _ => pl_sent fc (i : Int) (i : Int) 9 N.out (by show 0 < 1000000; decide) (by unfold In64; omega) (by unfold In64; omega) (by decide)
      obtain ⟨f1, f2⟩ := g_sent i win 9 (by omega) (by decide) (by decide)
      rw [f1, f2] at SE
      obtain ⟨f3, f4⟩ := g_end i win (by omega)
      clear f1 f2 N
      by_cases hin : i < m
      · have q1 : decide (i < m) = true := decide_eq_true hin
        have q2 : decide ((i : Int) < 60) = false := decide_eq_false (by omega)
        have q3 : decide (i < 60) = false := decide_eq_false (by omega)
        go_wp2_with fail
        refine (SE.out ()).mono ?_
        rintro e w4 ⟨rfl, F4, n4, -, -⟩
        have EX : Hid (∀ _ : Unit, _) := fun _ => pl_expire fc ((i : Int) + 8) n4 (by unfold In64; omega)
        rw [f3] at EX
        clear n4 SE f3
        go_wp2_with fail
        refine (EX.out ()).mono ?_
        rintro e w5 ⟨v5, rfl, F5, ⟨va, vc, rfl, -, hv⟩, n5, -, -⟩
        obtain ⟨g, o, rfl, -, hv⟩ : ∃ g o, va = some ⟨g, o, none⟩ ∧ Free w4 F5 g ∧ ∀ k, k < 1 → w5.cell? ⟨g, o + k, none⟩ = some (.int .i64 ([(i : Int)].getD k 0)) := by
          rcases hv with hv | hv
          · cases hv
          · exact hv
        have c5 : w5.cell? ⟨g, o, none⟩ = some (.int .i64 i) := hv 0 (by decide)
        have i5 := fun w' => at_n64 g o 1 vc 0 w' (by decide) 0 rfl o rfl
        have N5 := Lib.hid n5
        have WI : Hid (∀ _ : Unit, _) := fun _ => pl_window fc N5.out
        rw [f4] at WI
        clear n5 EX hv f4
        have ew : max 2400 (win / 2) = win / 2 := by omega
        rw [ew] at WI
        have et : wrap64 (win.tdiv 2) = win / 2 := by rw [Int.tdiv_eq_ediv_of_nonneg (by omega)]; unfold wrap64; omega
        have et2 : win.tdiv 2 = win / 2 := Int.tdiv_eq_ediv_of_nonneg (by omega)
        have g1 : decide (2400 < win / 2) = true := decide_eq_true (by omega)
        have g2 : decide (win / 2 < 2400) = false := decide_eq_false (by omega)
        have g3 : ((2400 : Int) == win / 2) = false := by simp; omega
        have g4 : (win / 2 == (2400 : Int)) = false := by simp; omega
        replace ew := Lib.hid ew
        go_wp2_with fail
        refine (WI.out ()).mono ?_
        rintro e w6 ⟨rfl, b6⟩
        have N6 := Lib.hid (N5.out.keep fc b6)
        clear b6 WI N5
        go_wp2_with fail
        go_ret
        exact ⟨rfl, N6.out.bel⟩
      · have q1 : decide (i < m) = false := decide_eq_false hin
        go_wp2_with fail
        refine (SE.out ()).mono ?_
        rintro e w4 ⟨rfl, F4, n4, -, -⟩
        have EX : Hid (∀ _ : Unit, _) := fun _ => pl_expire fc ((i : Int) + 8) n4 (by unfold In64; omega)
        rw [f3] at EX
        clear n4 SE f3
        go_wp2_with fail
        refine (EX.out ()).mono ?_
        rintro e w5 ⟨v5, rfl, F5, ⟨va, vc, rfl, -, hv⟩, n5, -, -⟩
        obtain ⟨g, o, rfl, -, hv⟩ : ∃ g o, va = some ⟨g, o, none⟩ ∧ Free w4 F5 g ∧ ∀ k, k < 1 → w5.cell? ⟨g, o + k, none⟩ = some (.int .i64 ([(i : Int)].getD k 0)) := by
          rcases hv with hv | hv
          · cases hv
          · exact hv
        have c5 : w5.cell? ⟨g, o, none⟩ = some (.int .i64 i) := hv 0 (by decide)
        have i5 := fun w' => at_n64 g o 1 vc 0 w' (by decide) 0 rfl o rfl
        have N5 := Lib.hid n5
        have WI : Hid (∀ _ : Unit, _) := fun _ => pl_window fc N5.out
        rw [f4] at WI
        clear n5 EX hv f4
        have ew : max 2400 (win / 2) = win / 2 := by omega
        rw [ew] at WI
        have et : wrap64 (win.tdiv 2) = win / 2 := by rw [Int.tdiv_eq_ediv_of_nonneg (by omega)]; unfold wrap64; omega
        have et2 : win.tdiv 2 = win / 2 := Int.tdiv_eq_ediv_of_nonneg (by omega)
        have g1 : decide (2400 < win / 2) = true := decide_eq_true (by omega)
        have g2 : decide (win / 2 < 2400) = false := decide_eq_false (by omega)
        have g3 : ((2400 : Int) == win / 2) = false := by simp; omega
        have g4 : (win / 2 == (2400 : Int)) = false := by simp; omega
        replace ew := Lib.hid ew
        go_wp2_with fail
        refine (WI.out ()).mono ?_
        rintro e w6 ⟨rfl, b6⟩
        have N6 := Lib.hid (N5.out.keep fc b6)
        clear b6 WI N5
        go_wp2_with fail
        go_ret
        exact ⟨rfl, N6.out.bel⟩
theorem grows_walk {LS : LSt} (fc : Face LS) (a : Option Addr) (m cap : Nat) (f : Nat → Int) (w : World) (hm : m ≤ maxLen) (hs : Nums w a m f) :
    Calls Try.prog 6 #[.slice a m cap] w fun e w' => e = .returned (.bool true) ∧ Below w.heap.size w w' := by
  have hm' : m ≤ 9223372036854775807 := by unfold maxLen at hm; omega
  by_cases h : m ≤ 60
  · exact grows_any fc f a m cap m w hm' (.inl ⟨rfl, h⟩) hs
  · exact grows_any fc f a m cap 60 w hm' (.inr ⟨rfl, by omega⟩) hs
end Go.Proofs.Ytfjampommgkfeaa
