/-
  The law's own test that the program works answers yes, by what is asked of the program's calls (Face). No other condition.
-/
import Derived.Test.YtfjampommgkfeaaLgInv
namespace Go.Proofs.Ytfjampommgkfeaa
set_option maxRecDepth 100000
open Go.RowKit Go.Sort

/-- k packets of 1000, sent at tick 0. -/
def sends : Nat → Ld
  | 0 => ld0
  | k + 1 => sent (sends k) k 0 1000
theorem sends_len (k : Nat) : (sends k).l.length ≤ k := by
  induction k with
  | zero => exact Nat.le_refl _
  | succ k ih => exact Nat.le_trans (sent_len ..) (by omega)
theorem works_vals : ackE (sends 5) [(4, 4)] = 0 ∧ toldN (sends 5) [(4, 4)] = [4] ∧ lostN (sends 5) [(4, 4)] = [0, 1] ∧ (acked (sends 5) [(4, 4)]).win = 6500 ∧ expL (acked (sends 5) [(4, 4)]) 8 = [2, 3] ∧ wait (expire (acked (sends 5) [(4, 4)]) 8) = 16 ∧ (expire (acked (sends 5) [(4, 4)]) 8).win = 6500 := by
  refine ⟨?_, ?_, ?_, ?_, ?_, ?_, ?_⟩ <;> decide +kernel
/-- A row of one range that is built. -/
theorem rg_new (w : World) (lo hi : Int) (t : TypeId) : RgAt (w.alloc (.cells #[.int .i64 lo, .int .i64 hi] t)) (.slice (some ⟨w.heap.size, 0, none⟩) 1 1) [(lo, hi)] := by
  refine ⟨_, _, rfl, .inr ⟨w.heap.size, 0, rfl, fun k hk => ?_⟩⟩
  have hk0 : k = 0 := by simpa using hk
  subst hk0
  exact ⟨(Lies.new w [.int .i64 lo, .int .i64 hi] t).cell 0 rfl, (Lies.new w [.int .i64 lo, .int .i64 hi] t).cell 1 rfl⟩
theorem n1_new (w : World) (x : Int) (t : TypeId) : I64At (w.alloc (.cells #[.int .i64 x] t)) (.slice (some ⟨w.heap.size, 0, none⟩) 1 1) [x] := by
  refine ⟨_, _, rfl, .inr ⟨w.heap.size, 0, rfl, fun k hk => ?_⟩⟩
  have hk0 : k = 0 := by simpa using hk
  subst hk0
  exact (Lies.new w [.int .i64 x] t).cell 0 rfl
theorem n2_new (w : World) (x y : Int) (t : TypeId) : I64At (w.alloc (.cells #[.int .i64 x, .int .i64 y] t)) (.slice (some ⟨w.heap.size, 0, none⟩) 2 2) [x, y] := by
  refine ⟨_, _, rfl, .inr ⟨w.heap.size, 0, rfl, fun k hk => ?_⟩⟩
  have hk0 : k = 0 ∨ k = 1 := by simp at hk; omega
  rcases hk0 with e | e <;> subst e
  · exact (Lies.new w [.int .i64 x, .int .i64 y] t).cell 0 rfl
  · exact (Lies.new w [.int .i64 x, .int .i64 y] t).cell 1 rfl
theorem same_yes {w : World} {u v : Value} {l : List Int} {A : Nat → Prop} (hu : N64 w A u l) (hv : I64At w v l) (hl : l.length < 1000000) :
    Calls Try.prog 14 #[u, v] w fun e w' => e = .returned (.bool true) ∧ Below w.heap.size w w' := by
  have := lsame_ok hu.at hv (by omega)
  rw [decide_eq_true rfl] at this
  exact this
set_option maxHeartbeats 4000000 in
theorem works_ok {LS : LSt} (fc : Face LS) (w : World) :
    Calls Try.prog 22 #[] w fun e w' => e = .returned (.bool true) ∧ Below w.heap.size w w' := by
  obtain ⟨x1, x2, x3, x4, x5, x6, x7⟩ := works_vals
  have NP : Hid (∀ w', Below w.heap.size w w' → _) := fun w' b => pl_new fc w w' b
  have SE : Hid (∀ w' B F (i : Nat), i < 5 → PL LS w w' B F (sends i) → _) := fun w' B F i hi h => pl_sent fc (i : Int) 0 1000 h (by have := sends_len i; omega) (by unfold In64; omega) (by decide) (by decide)
  go_enter Try.func22, Try.ntmps22
  go_wp2_with fail
  refine (NP.out _ (Below.refl _ _)).mono ?_
  rintro e w1 ⟨B, F0, rfl, n1, -⟩
  have N1 : Hid (PL LS w w1 B F0 (sends 0)) := n1
  clear n1 NP
  go_wp2_with fail
  go_loopg [2] 5 (fun g iv wr => ∃ (i : Nat) (F : Nat → Prop), i + g = 5 ∧ iv = .int .i64 i ∧ Hid (PL LS w wr B F (sends i)))
  case atStart => exact ⟨0, F0, by omega, rfl, N1⟩
  case round =>
    clear N1
    obtain ⟨i, F, hi, rfl, N⟩ := hrel
    by_cases hlt : i < 5
    · have q1 : decide ((i : Int) < 5) = true := decide_eq_true (by omega)
      have q2 : decide (i < 5) = true := decide_eq_true (by omega)
      go_wp2_with fail
      refine (SE.out _ _ _ _ hlt N.out).mono ?_
      rintro e w2 ⟨rfl, F2, n2, -, -⟩
      have N2 : Hid (PL LS w w2 B F2 (sends (i + 1))) := n2
      clear n2 N SE
      go_wp2_with fail
      go_roundg (5 - (i + 1))
      case measure => omega
      case rel => exact ⟨i + 1, F2, by omega, by go_num, N2⟩
    · have q1 : decide ((i : Int) < 5) = false := decide_eq_false (by omega)
      have q2 : decide (i < 5) = false := decide_eq_false (by omega)
      have h5 : i = 5 := by omega
      subst h5
      clear SE hlt hi q2
      generalize sends 5 = d at *
      have B2 : Below wr.heap.size wr (wr.alloc (.cells #[.int .i64 4, .int .i64 4] 50)) := (Below.refl _ _).alloc (Nat.le_refl _) _
      have AK : Hid (∀ _ : Unit, _) := fun _ => pl_acked fc [(4, 4)] _ (N.out.keep fc B2) (rg_new wr 4 4 50) (by decide) (fun x hx => by rw [List.mem_singleton.1 hx]; exact ⟨by decide, by decide⟩) (fun _ p c e q => by
        injection e with e _ _
        injection e with e
        subst e
        have := fc.lt N.out.s _ q
        exact absurd this (Nat.lt_irrefl _))
      clear B2 N
      go_wp2_with fail
      refine (AK.out ()).mono ?_
      rintro e w2 ⟨u, v, rfl, F2, hu, hv, n2, -, -⟩
      rw [x1]
      rw [x2] at hu
      rw [x3] at hv
      generalize acked d [(4, 4)] = d2 at *
      have U2 := Lib.hid hu
      have V2 := Lib.hid hv
      have N2 := Lib.hid n2
      have WI : Hid (∀ _ : Unit, _) := fun _ => pl_window fc N2.out
      rw [x4] at WI
      clear n2 hu hv AK x1 x2 x3 x4
      go_wp2_with fail
      refine (WI.out ()).mono ?_
      rintro e w3 ⟨rfl, b3⟩
      have N3 := Lib.hid (N2.out.keep fc b3)
      have U3 := Lib.hid (U2.out.keep b3)
      have V3 := Lib.hid (V2.out.keep b3)
      have EX : Hid (∀ _ : Unit, _) := fun _ => pl_expire fc 8 N3.out (by decide)
      clear b3 WI U2 V2 N2
      go_wp2_with fail
      refine (EX.out ()).mono ?_
      rintro e w4 ⟨y, rfl, F4, hy, n4, -, k4⟩
      rw [x5] at hy
      have N4 := Lib.hid n4
      have U4 := Lib.hid (U3.out.keepK k4 fun k q => q.2)
      have V4 := Lib.hid (V3.out.keepK k4 fun k q => q.2)
      have Y4 := Lib.hid hy
      generalize expire d2 8 = d4 at *
      have BA : Hid (Below w4.heap.size w4 (w4.alloc (.cells #[.int .i64 4] 2))) := (Below.refl _ _).alloc (Nat.le_refl _) _
      have S1 : Hid (∀ _ : Unit, _) := fun _ => same_yes (U4.out.keep BA.out) (n1_new w4 4 2) (by decide)
      clear n4 k4 hy EX N3 U3 V3 x5 U4
      go_wp2_with fail
      refine (S1.out ()).mono ?_
      rintro e w5 ⟨rfl, b5⟩
      have N5 := Lib.hid (N4.out.keep fc (BA.out.trans (b5.mono BA.out.size)))
      have V5 := Lib.hid (V4.out.keep (BA.out.trans (b5.mono BA.out.size)))
      have Y5 := Lib.hid (Y4.out.keep (BA.out.trans (b5.mono BA.out.size)))
      clear b5 S1 BA N4 V4 Y4
      have BA : Hid (Below w5.heap.size w5 (w5.alloc (.cells #[.int .i64 0, .int .i64 1] 2))) := (Below.refl _ _).alloc (Nat.le_refl _) _
      have S1 : Hid (∀ _ : Unit, _) := fun _ => same_yes (V5.out.keep BA.out) (n2_new w5 0 1 2) (by decide)
      go_wp2_with fail
      refine (S1.out ()).mono ?_
      rintro e w6 ⟨rfl, b6⟩
      have N6 := Lib.hid (N5.out.keep fc (BA.out.trans (b6.mono BA.out.size)))
      have Y6 := Lib.hid (Y5.out.keep (BA.out.trans (b6.mono BA.out.size)))
      clear b6 S1 BA N5 V5 Y5
      have BA : Hid (Below w6.heap.size w6 (w6.alloc (.cells #[.int .i64 2, .int .i64 3] 2))) := (Below.refl _ _).alloc (Nat.le_refl _) _
      have S1 : Hid (∀ _ : Unit, _) := fun _ => same_yes (Y6.out.keep BA.out) (n2_new w6 2 3 2) (by decide)
      go_wp2_with fail
      refine (S1.out ()).mono ?_
      rintro e w7 ⟨rfl, b7⟩
      have N7 := Lib.hid (N6.out.keep fc (BA.out.trans (b7.mono BA.out.size)))
      clear b7 S1 BA N6 Y6
      have WT : Hid (∀ _ : Unit, _) := fun _ => pl_wait fc N7.out
      rw [x6] at WT
      go_wp2_with fail
      refine (WT.out ()).mono ?_
      rintro e w8 ⟨rfl, b8⟩
      have N8 := Lib.hid (N7.out.keep fc b8)
      have WI : Hid (∀ _ : Unit, _) := fun _ => pl_window fc N8.out
      rw [x7] at WI
      clear b8 WT N7
      go_wp2_with fail
      refine (WI.out ()).mono ?_
      rintro e w9 ⟨rfl, b9⟩
      have N9 := Lib.hid (N8.out.keep fc b9)
      clear b9 WI N8
      go_wp2_with fail
      go_ret
      exact ⟨rfl, N9.out.bel⟩
end Go.Proofs.Ytfjampommgkfeaa
