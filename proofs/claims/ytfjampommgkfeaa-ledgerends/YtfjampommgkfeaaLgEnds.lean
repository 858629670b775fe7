/-
  The law LedgerEnds returns true for every row of sizes, told or not, by what is asked of the program's calls (Face). No other condition.
-/
import Derived.Test.YtfjampommgkfeaaLgGrows
namespace Go.Proofs.Ytfjampommgkfeaa
set_option maxRecDepth 100000
open Go.RowKit Go.Sort

/-- i packets are on their way, each sent at the tick of its number. -/
structure EI (i : Nat) (d : Ld) : Prop where
  len : d.l.length = i
  top : d.top = (i : Int) - 1
  bo : d.bo = 0
  all : ∀ p ∈ d.l, (0 ≤ p.1 ∧ p.1 ≤ (i : Int) - 1) ∧ 0 ≤ p.2.1 ∧ p.2.1 ≤ (i : Int) - 1
theorem EI.new : EI 0 ld0 := ⟨rfl, rfl, rfl, fun p hp => by cases hp⟩
theorem EI.sent {i : Nat} {d : Ld} (h : EI i d) (k : Int) (hi : i ≤ 1000) (h1 : 1 ≤ k) (h2 : k ≤ 1200) : sentE d i k = 0 ∧ EI (i + 1) (sent d i i k) := by
  have e0 : sentE d i k = 0 := sentE_zero.2 ⟨by omega, by omega, by have := h.top; omega, h1, h2⟩
  have e : Proofs.Ytfjampommgkfeaa.sent d i i k = { d with l := d.l ++ [((i : Int), (i : Int), k)], top := i } := by unfold Proofs.Ytfjampommgkfeaa.sent; rw [if_pos e0]
  refine ⟨e0, ?_⟩
  rw [e]
  refine ⟨by simp [h.len], by push_cast; show (i : Int) = _; omega, h.bo, fun p hp => ?_⟩
  rcases List.mem_append.1 hp with q | q
  · have := h.all p q
    push_cast
    omega
  · rw [List.mem_singleton.1 q]
    push_cast
    show (0 ≤ (i : Int) ∧ (i : Int) ≤ _) ∧ 0 ≤ (i : Int) ∧ (i : Int) ≤ _
    omega
theorem EI.told {i : Nat} {d : Ld} (h : EI i d) (h0 : 0 < i) (hi : i ≤ 1000) : ackE d [(0, (i : Int) - 1)] = 0 ∧ (toldN d [(0, (i : Int) - 1)]).length = i ∧ lostN d [(0, (i : Int) - 1)] = [] ∧ (acked d [(0, (i : Int) - 1)]).l = [] := by
  obtain ⟨f1, f2, f3, f4⟩ := ack_all (d := d) (lo := 0) (hi := (i : Int) - 1) (fun p hp => (h.all p hp).1) (by have := h.top; omega) (Int.le_refl _) (by omega) (by omega)
  exact ⟨f1, by rw [f2, nos_len]; exact h.len, f3, by rw [f4]⟩
theorem EI.wait {i : Nat} {d : Ld} (h : EI i d) : wait d = 8 := by unfold Proofs.Ytfjampommgkfeaa.wait; rw [h.bo]; rfl
theorem EI.over {i : Nat} {d : Ld} (h : EI i d) : (expL d ((i : Int) + 8)).length = i ∧ (expire d ((i : Int) + 8)).l = [] := by
  have hd : d.l = [] ∨ dueA d ((i : Int) + 8) = true := by
    match hl : d.l with
    | [] => exact .inl rfl
    | p :: l =>
      right
      refine List.any_eq_true.2 ⟨p, by rw [hl]; exact List.mem_cons_self .., ?_⟩
      have hp := (h.all p (by rw [hl]; exact List.mem_cons_self ..)).2
      unfold dueB
      rw [h.wait, Bool.and_eq_true, decide_eq_true_eq, decide_eq_true_eq]
      omega
  constructor
  · unfold expL
    split
    · rw [nos_len]; exact h.len
    · rename_i q
      rcases hd with e | e
      · have := h.len
        rw [e] at this
        exact this
      · exact absurd e q
  · rw [expire_l]
    split
    · rfl
    · rename_i q
      rcases hd with e | e
      · exact e
      · exact absurd e q
set_option maxHeartbeats 8000000 in
theorem ends_any {LS : LSt} (fc : Face LS) (tell : Bool) (f : Nat → Int) (a : Option Addr) (m cap M : Nat) (w : World) (hm : m ≤ 9223372036854775807) (hM : (M = m ∧ m ≤ 100) ∨ (M = 100 ∧ 100 < m)) (hc : Nums w a m f) :
    Calls Try.prog 5 #[.slice a m cap, .bool tell] w fun e w' => e = .returned (.bool true) ∧ Below w.heap.size w w' := by
  have hMn : M ≤ m ∧ M ≤ 100 := by omega
  replace hc : Hid (Nums w a m f) := hc
  have WO : Hid (∀ _ : Unit, _) := fun _ => works_ok fc w
  have NP : Hid (∀ w', Below w.heap.size w w' → _) := fun w' b => pl_new fc w w' b
  go_enter Try.func5, Try.ntmps5
  go_wp2_with fail
  refine (WO.out ()).mono ?_
  rintro e w1 ⟨rfl, b1⟩
  have Z1 := Lib.hid b1
  clear b1 WO
  go_wp2_with fail
  refine (NP.out _ Z1.out).mono ?_
  rintro e w2 ⟨B, F0, rfl, n2, -⟩
  have N2 : Hid (PL LS w w2 B F0 ld0) := n2
  clear n2 NP Z1
  go_wp2_with fail
  go_loopg [6, 7] M (fun g nv iv wr => ∃ (i : Nat) (F : Nat → Prop) (d : Ld), i + g = M ∧ iv = .int .i64 i ∧ nv = .int .i64 i ∧ Hid (EI i d) ∧ Hid (PL LS w wr B F d))
  case atStart => exact ⟨0, F0, ld0, by omega, rfl, rfl, EI.new, N2⟩
  case round =>
    clear N2
    obtain ⟨i, F, d, hi, rfl, rfl, E, N⟩ := hrel
    by_cases hlt : i < M
    · have q1 : decide (i < m) = true := decide_eq_true (by omega)
      have q2 : decide ((i : Int) < 100) = true := decide_eq_true (by omega)
      have q3 : decide (i < 100) = true := decide_eq_true (by omega)
      obtain ⟨b, off, rfl, hb, hc⟩ : ∃ b off, a = some ⟨b, off, none⟩ ∧ b < w.heap.size ∧ ∀ i, i < m → w.cell? ⟨b, off + i, none⟩ = some (.int .i64 (f i)) := by
        rcases hc.out with h | h
        · omega
        · exact h
      have ia := fun w' => at_ints b off m cap i w' (by omega) (i : Int) rfl (off + i) rfl
      have c0 := (N.out.bel.cell (p := ⟨b, off + i, none⟩) hb).trans (hc i (by omega))
      obtain ⟨k, hk, hk1, hk2⟩ := sized (f i)
      have SE : Hid (∀ _ : Unit, _) := fun _ => pl_sent fc (i : Int) (i : Int) k N.out (by have := E.out.len; omega) (by unfold In64; omega) (by unfold In64; omega) (by unfold In64; omega)
      obtain ⟨f1, f2⟩ := E.out.sent k (by omega) hk1 hk2
      rw [f1, ← hk] at SE
      rw [← hk] at f2
      replace f2 := Lib.hid f2
      clear f1 N hk hk1 hk2 hc
      go_wp2_with fail
      refine (SE.out ()).mono ?_
      rintro e w4 ⟨rfl, F4, n4, -, -⟩
      have N4 := Lib.hid n4
      clear n4 SE c0 ia q1 q2 q3 E
      generalize sent d (i : Int) (i : Int) (wrap64 (1 + wrap64 ((IntKind.u64.wrap (f i)).tmod 1200))) = d2 at *
      go_wp2_with fail
      go_roundg (M - (i + 1))
      case measure => omega
      case rel => exact ⟨i + 1, F4, d2, by omega, by go_num, by go_num, f2, N4⟩
    · clear hc
      have qs : (decide (i < m) = true ∧ decide ((i : Int) < 100) = false ∧ decide (i < 100) = false) ∨ decide (i < m) = false := by
        by_cases hin : i < m
        · exact .inl ⟨decide_eq_true hin, decide_eq_false (by omega), decide_eq_false (by omega)⟩
        · exact .inr (decide_eq_false hin)
      by_cases ht : tell = true ∧ 0 < i
      · obtain ⟨rfl, h0⟩ := ht
        have p1 : decide ((0 : Int) < (i : Int)) = true := decide_eq_true (by omega)
        have p2 : decide (0 < i) = true := decide_eq_true h0
        have p3 : decide ((i : Int) > 0) = true := decide_eq_true (by omega)
        have AK : Hid (∀ _ : Unit, _) := fun _ => pl_ack1 fc 0 ((i : Int) - 1) (by decide) (by unfold In64; omega) N.out
        obtain ⟨f1, f2, f3, f4⟩ := E.out.told h0 (by omega)
        rw [f1, f3] at AK
        replace f4 := Lib.hid f4
        generalize acked d [(0, (i : Int) - 1)] = d2 at *
        generalize toldN d [(0, (i : Int) - 1)] = xs at *
        have hxl := Lib.hid f2
        clear f1 f2 f3 N E
        rcases qs with ⟨q1, q2, q3⟩ | q1
        · go_wp2_with fail
          refine (AK.out ()).mono ?_
          rintro e w5 ⟨u5, v5, rfl, hu5, hv5, F5, n5⟩
          obtain ⟨ua, uc, rfl, -⟩ := hu5
          obtain ⟨va, vc, rfl, -⟩ := hv5
          rw [hxl.out]
          clear AK
          have N5 := Lib.hid n5
          have FL : Hid (∀ _ : Unit, _) := fun _ => pl_flight fc N5.out
          rw [f4.out] at FL
          have z0 : bytesP [] = 0 := rfl
          have gi : ((i : Int) != (i : Int)) = false := by simp
          clear n5
          go_wp2_with fail
          refine (FL.out ()).mono ?_
          rintro e w6 ⟨rfl, b6⟩
          have N6 := Lib.hid (N5.out.keep fc b6)
          clear b6 FL N5
          go_wp2_with fail
          go_ret
          exact ⟨rfl, N6.out.bel⟩
        · go_wp2_with fail
          refine (AK.out ()).mono ?_
          rintro e w5 ⟨u5, v5, rfl, hu5, hv5, F5, n5⟩
          obtain ⟨ua, uc, rfl, -⟩ := hu5
          obtain ⟨va, vc, rfl, -⟩ := hv5
          rw [hxl.out]
          clear AK
          have N5 := Lib.hid n5
          have FL : Hid (∀ _ : Unit, _) := fun _ => pl_flight fc N5.out
          rw [f4.out] at FL
          have z0 : bytesP [] = 0 := rfl
          have gi : ((i : Int) != (i : Int)) = false := by simp
          clear n5
          go_wp2_with fail
          refine (FL.out ()).mono ?_
          rintro e w6 ⟨rfl, b6⟩
          have N6 := Lib.hid (N5.out.keep fc b6)
          clear b6 FL N5
          go_wp2_with fail
          go_ret
          exact ⟨rfl, N6.out.bel⟩
      · have p0 : (tell = false) ∨ (tell = true ∧ decide ((0 : Int) < (i : Int)) = false ∧ decide (0 < i) = false ∧ decide ((i : Int) > 0) = false) := by
          cases tell
          · exact .inl rfl
          · exact .inr ⟨rfl, decide_eq_false (by intro q; exact ht ⟨rfl, by omega⟩), decide_eq_false (by intro q; exact ht ⟨rfl, q⟩), decide_eq_false (by intro q; exact ht ⟨rfl, by omega⟩)⟩
        have WT : Hid (∀ _ : Unit, _) := fun _ => pl_wait fc N.out
        rw [E.out.wait] at WT
        have EX : Hid (∀ w', PL LS w w' B F d → _) := fun w' h => pl_expire fc ((i : Int) + 8) h (by unfold In64; omega)
        obtain ⟨f1, f2⟩ := E.out.over
        replace f2 := Lib.hid f2
        generalize expire d ((i : Int) + 8) = d2 at *
        generalize expL d ((i : Int) + 8) = xs at *
        have hxl := Lib.hid f1
        clear f1 E ht
        rcases p0 with rfl | ⟨rfl, p1, p2, p3⟩
        · rcases qs with ⟨q1, q2, q3⟩ | q1
          · go_wp2_with fail
            refine (WT.out ()).mono ?_
            rintro e w4 ⟨rfl, b4⟩
            have E4 := Lib.hid (EX.out _ (N.out.keep fc b4))
            clear b4 WT EX N
            go_wp2_with fail
            refine E4.out.mono ?_
            rintro e w5 ⟨v5, rfl, F5, hv5, n5, -, -⟩
            obtain ⟨va, vc, rfl, -⟩ := hv5
            rw [hxl.out]
            clear E4
            have N5 := Lib.hid n5
            have FL : Hid (∀ _ : Unit, _) := fun _ => pl_flight fc N5.out
            rw [f2.out] at FL
            have z0 : bytesP [] = 0 := rfl
            have gi : ((i : Int) != (i : Int)) = false := by simp
            clear n5
            go_wp2_with fail
            refine (FL.out ()).mono ?_
            rintro e w6 ⟨rfl, b6⟩
            have N6 := Lib.hid (N5.out.keep fc b6)
            clear b6 FL N5
            go_wp2_with fail
            go_ret
            exact ⟨rfl, N6.out.bel⟩
          · go_wp2_with fail
            refine (WT.out ()).mono ?_
            rintro e w4 ⟨rfl, b4⟩
            have E4 := Lib.hid (EX.out _ (N.out.keep fc b4))
            clear b4 WT EX N
            go_wp2_with fail
            refine E4.out.mono ?_
            rintro e w5 ⟨v5, rfl, F5, hv5, n5, -, -⟩
            obtain ⟨va, vc, rfl, -⟩ := hv5
            rw [hxl.out]
            clear E4
            have N5 := Lib.hid n5
            have FL : Hid (∀ _ : Unit, _) := fun _ => pl_flight fc N5.out
            rw [f2.out] at FL
            have z0 : bytesP [] = 0 := rfl
            have gi : ((i : Int) != (i : Int)) = false := by simp
            clear n5
            go_wp2_with fail
            refine (FL.out ()).mono ?_
            rintro e w6 ⟨rfl, b6⟩
            have N6 := Lib.hid (N5.out.keep fc b6)
            clear b6 FL N5
            go_wp2_with fail
            go_ret
            exact ⟨rfl, N6.out.bel⟩
        · rcases qs with ⟨q1, q2, q3⟩ | q1
          · go_wp2_with fail
            refine (WT.out ()).mono ?_
            rintro e w4 ⟨rfl, b4⟩
            have E4 := Lib.hid (EX.out _ (N.out.keep fc b4))
            clear b4 WT EX N
            go_wp2_with fail
            refine E4.out.mono ?_
            rintro e w5 ⟨v5, rfl, F5, hv5, n5, -, -⟩
            obtain ⟨va, vc, rfl, -⟩ := hv5
            rw [hxl.out]
            clear E4
            have N5 := Lib.hid n5
            have FL : Hid (∀ _ : Unit, _) := fun _ => pl_flight fc N5.out
            rw [f2.out] at FL
            have z0 : bytesP [] = 0 := rfl
            have gi : ((i : Int) != (i : Int)) = false := by simp
            clear n5
            go_wp2_with fail
            refine (FL.out ()).mono ?_
            rintro e w6 ⟨rfl, b6⟩
            have N6 := Lib.hid (N5.out.keep fc b6)
            clear b6 FL N5
            go_wp2_with fail
            go_ret
            exact ⟨rfl, N6.out.bel⟩
          · go_wp2_with fail
            refine (WT.out ()).mono ?_
            rintro e w4 ⟨rfl, b4⟩
            have E4 := Lib.hid (EX.out _ (N.out.keep fc b4))
            clear b4 WT EX N
            go_wp2_with fail
            refine E4.out.mono ?_
            rintro e w5 ⟨v5, rfl, F5, hv5, n5, -, -⟩
            obtain ⟨va, vc, rfl, -⟩ := hv5
            rw [hxl.out]
            clear E4
            have N5 := Lib.hid n5
            have FL : Hid (∀ _ : Unit, _) := fun _ => pl_flight fc N5.out
            rw [f2.out] at FL
            have z0 : bytesP [] = 0 := rfl
            have gi : ((i : Int) != (i : Int)) = false := by simp
            clear n5
            go_wp2_with fail
            refine (FL.out ()).mono ?_
            rintro e w6 ⟨rfl, b6⟩
            have N6 := Lib.hid (N5.out.keep fc b6)
            clear b6 FL N5
            go_wp2_with fail
            go_ret
            exact ⟨rfl, N6.out.bel⟩
theorem ends_walk {LS : LSt} (fc : Face LS) (tell : Bool) (a : Option Addr) (m cap : Nat) (f : Nat → Int) (w : World) (hm : m ≤ maxLen) (hs : Nums w a m f) :
    Calls Try.prog 5 #[.slice a m cap, .bool tell] w fun e w' => e = .returned (.bool true) ∧ Below w.heap.size w w' := by
  have hm' : m ≤ 9223372036854775807 := by unfold maxLen at hm; omega
  by_cases h : m ≤ 100
  · exact ends_any fc tell f a m cap m w hm' (.inl ⟨rfl, h⟩) hs
  · exact ends_any fc tell f a m cap 100 w hm' (.inr ⟨rfl, by omega⟩) hs
end Go.Proofs.Ytfjampommgkfeaa
