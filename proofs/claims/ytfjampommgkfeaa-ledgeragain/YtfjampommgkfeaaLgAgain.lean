/-
  The law LedgerAgain returns true for every number and every row of ranges, by what is asked of the program's calls (Face). No other condition.
-/
import Derived.Test.YtfjampommgkfeaaLgWorks
import Derived.Test.YtfjampommgkfeaaLgOne
import Derived.Deep.Cut
namespace Go.Proofs.Ytfjampommgkfeaa
set_option maxRecDepth 100000
open Go.RowKit Go.Sort

theorem twenty (n : Int) : ∃ K : Nat, wrap64 (IntKind.u64.wrap (1 + (IntKind.u64.wrap n).tmod 20)) = K ∧ 1 ≤ K ∧ K ≤ 20 := by
  have h : 0 ≤ IntKind.u64.wrap n := by rw [IntKind.wrap_u64]; omega
  rw [Int.tmod_eq_emod_of_nonneg h]
  have h1 := Int.emod_nonneg (IntKind.u64.wrap n) (by omega : (20 : Int) ≠ 0)
  have h2 := Int.emod_lt_of_pos (IntKind.u64.wrap n) (by omega : (0 : Int) < 20)
  rw [IntKind.wrap_u64 (1 + _)]
  refine ⟨(1 + IntKind.u64.wrap n % 20).toNat, ?_, by omega, by omega⟩
  unfold wrap64
  omega
theorem rg_in {lo hi : Int} (h1 : In64 lo) (h2 : In64 hi) : ∀ x ∈ [((lo, hi) : Rg)], In64 x.1 ∧ In64 x.2 := fun x hx => by rw [List.mem_singleton.1 hx]; exact ⟨h1, h2⟩
theorem rg_free {g n n' c' : Nat} {F : Nat → Prop} {l : List Rg} (h : ¬ F g) : l ≠ [] → ∀ p cap, Value.slice (some ⟨g, n, none⟩) n' c' = .slice (some p) l.length cap → ¬ F p.block := fun _ p cap e q => by
  injection e with e _ _
  injection e with e
  subst e
  exact h q
theorem pg_acked {LS : LSt} (fc : Face LS) {w0 w : World} {B g : Nat} {F : Nat → Prop} {d : Ld} {l0 : List Rg} (r : List Rg) (rv : Value) (h : PL LS w0 w B F d) (hg : g < w.heap.size ∧ ¬ F g) (h0 : RgAt w (.slice (some ⟨g, 0, none⟩) 1 1) l0) (hr : RgAt w rv r) (hl : r.length * 16 ≤ 140737488351232) (hz : ∀ x ∈ r, In64 x.1 ∧ In64 x.2) (hF : r ≠ [] → ∀ p cap, rv = .slice (some p) r.length cap → ¬ F p.block) :
    Calls Try.prog 12 #[ptr B, rv] w fun e w' => ∃ u v, e = .returned (.tuple #[u, v, .int .i64 (ackE d r)]) ∧ I64At w' u (toldN d r) ∧ I64At w' v (lostN d r) ∧ ∃ F', PL LS w0 w' B F' (acked d r) ∧ (g < w'.heap.size ∧ ¬ F' g) ∧ RgAt w' (.slice (some ⟨g, 0, none⟩) 1 1) l0 := by
  refine (pl_acked fc r rv h hr hl hz hF).mono ?_
  rintro e w' ⟨u, v, rfl, F', hu, hv, hp, hq, hk⟩
  refine ⟨u, v, rfl, hu.at, hv.at, F', hp, ⟨Nat.lt_of_lt_of_le hg.1 hk.size, fun q => ?_⟩, rg_move h0 fun _ p e => ?_⟩
  · rcases hq g q with r | r
    · exact hg.2 r
    · omega
  · injection e with e
    subst e
    exact hk.block g hg.1 hg.2
set_option maxHeartbeats 8000000 in
theorem again_walk {LS : LSt} (fc : Face LS) (n : Int) (a : Option Addr) (cap : Nat) (l : List Rg) (w : World) (hr : RgAt w (.slice a l.length cap) l) (hs : l.length * 16 ≤ 140737488351232) (hz : ∀ x ∈ l, In64 x.1 ∧ In64 x.2) :
    Calls Try.prog 7 #[.int .i64 n, .slice a l.length cap] w fun e w' => e = .returned (.bool true) ∧ Below w.heap.size w w' := by
  have WO : Hid (∀ _ : Unit, _) := fun _ => works_ok fc w
  have NP : Hid (∀ w', Below w.heap.size w w' → _) := fun w' b => pl_new fc w w' b
  go_enter Try.func7, Try.ntmps7
  go_wp2_with fail
  refine (WO.out ()).mono ?_
  rintro e w1 ⟨rfl, b1⟩
  have Z1 := Lib.hid b1
  clear b1 WO
  go_wp2_with fail
  refine (NP.out _ Z1.out).mono ?_
  rintro e w2 ⟨B, F0, rfl, n2, -⟩
  have N2 : Hid (PL LS w w2 B F0 (sendsA 0)) := n2
  clear n2 NP Z1
  go_upto_region 5 with fail
  obtain ⟨K, hK, hK1, hK2⟩ := twenty n
  rw [hK]
  replace hK := Lib.hid hK
  have SE : Hid (∀ w' B F (i : Nat), i < K → PL LS w w' B F (sendsA i) → _) := fun w' B F i hi h => pl_sent fc (i : Int) 0 100 h (by have := (sendsA_is i (by omega)).1; omega) (by unfold In64; omega) (by decide) (by decide)
  go_wp2_with fail
  go_loopg [7] K (fun g iv wr => ∃ (i : Nat) (F : Nat → Prop), i + g = K ∧ iv = .int .i64 i ∧ Hid (PL LS w wr B F (sendsA i)))
  case atStart => exact ⟨0, F0, by omega, rfl, N2⟩
  case round =>
    clear N2
    obtain ⟨i, F, hi, rfl, N⟩ := hrel
    by_cases hlt : i < K
    · have q1 : decide ((i : Int) < (K : Int)) = true := decide_eq_true (by omega)
      have q2 : decide (i < K) = true := decide_eq_true (by omega)
      go_wp2_with fail
      refine (SE.out _ _ _ _ hlt N.out).mono ?_
      rintro e w3 ⟨rfl, F2, n3, -, -⟩
      have N3 : Hid (PL LS w w3 B F2 (sendsA (i + 1))) := n3
      clear n3 N SE
      go_wp2_with fail
      go_roundg (K - (i + 1))
      case measure => omega
      case rel => exact ⟨i + 1, F2, by omega, by go_num, N3⟩
    · have q1 : decide ((i : Int) < (K : Int)) = false := decide_eq_false (by omega)
      have q2 : decide (i < K) = false := decide_eq_false (by omega)
      have h5 : i = K := by omega
      subst h5
      clear SE hlt hi
      have SI := Lib.hid (sendsA_is i (by omega))
      generalize sendsA i = d at *
      go_upto_region 10 with fail
      have BA : Below wr.heap.size wr (wr.alloc (.cells #[.int .i64 0, .int .i64 ((i : Int) - 1)] 50)) := (Below.refl _ _).alloc (Nat.le_refl _) _
      have NA := Lib.hid (N.out.keep fc BA)
      have RA := Lib.hid (rg_new wr 0 ((i : Int) - 1) 50)
      have GA : Hid (wr.heap.size < (wr.alloc (.cells #[.int .i64 0, .int .i64 ((i : Int) - 1)] 50)).heap.size ∧ ¬ F wr.heap.size) := ⟨by simp, fun q => Nat.lt_irrefl _ (fc.lt N.out.s _ q)⟩
      clear BA N
      generalize wr.alloc (.cells #[.int .i64 0, .int .i64 ((i : Int) - 1)] 50) = wa at *
      generalize wr.heap.size = g at *
      have B1 : Hid (Below wa.heap.size wa (wa.alloc (.cells #[.int .i64 0, .int .i64 i] 50))) := (Below.refl _ _).alloc (Nat.le_refl _) _
      have AK : Hid (∀ _ : Unit, _) := fun _ => pg_acked fc [(0, (i : Int))] (.slice (some ⟨wa.heap.size, 0, none⟩) 1 1) (NA.out.keep fc B1.out) ⟨Nat.lt_of_lt_of_le GA.out.1 B1.out.size, GA.out.2⟩ (RA.out.keep B1.out) (rg_new wa 0 i 50) (by simp) (rg_in (by decide) (by unfold In64; omega)) (rg_free fun q => Nat.lt_irrefl _ (fc.lt NA.out.s _ q))
      obtain ⟨f1, f2⟩ := ack_far (d := d) (lo := 0) (hi := i) (by have := SI.out.2.1; omega)
      rw [f1, f2] at AK
      clear f1 f2 NA RA GA B1
      go_wp2_with fail
      refine (AK.out ()).mono ?_
      rintro e w3 ⟨u3, v3, rfl, -, -, F3, n3, g3, r3⟩
      have N3 := Lib.hid n3
      have G3 := Lib.hid g3
      have R3 := Lib.hid r3
      have FL : Hid (∀ _ : Unit, _) := fun _ => pl_flight fc N3.out
      rw [SI.out.1] at FL
      clear n3 g3 r3 AK
      go_wp2_with fail
      refine (FL.out ()).mono ?_
      rintro e w4 ⟨rfl, b4⟩
      have AK : Hid (∀ _ : Unit, _) := fun _ => pg_acked fc [(0, (i : Int) - 1)] (.slice (some ⟨g, 0, none⟩) 1 1) (N3.out.keep fc b4) ⟨Nat.lt_of_lt_of_le G3.out.1 b4.size, G3.out.2⟩ (R3.out.keep b4) (R3.out.keep b4) (by simp) (rg_in (by decide) (by unfold In64; omega)) (rg_free G3.out.2)
      obtain ⟨f1, f2, f3, f4⟩ := ack_all (d := d) (lo := 0) (hi := (i : Int) - 1) SI.out.2.2 (by have := SI.out.2.1; omega) (by omega) (by omega) (by omega)
      have ft : (acked d [(0, (i : Int) - 1)]).top = (i : Int) - 1 ∧ (acked d [(0, (i : Int) - 1)]).l = [] := by rw [f4]; exact ⟨SI.out.2.1, rfl⟩
      have fl : (nosP d.l).length = i := by rw [nos_len]; exact SI.out.1
      rw [f1, f2] at AK
      generalize acked d [(0, (i : Int) - 1)] = d2 at *
      clear f1 f2 f3 f4 b4 FL N3 G3 R3 SI
      generalize nosP d.l = xs at *
      generalize bytesP d.l = by1 at *
      replace ft := Lib.hid ft
      go_wp2_with fail
      refine (AK.out ()).mono ?_
      rintro e w5 ⟨u5, v5, rfl, hu5, -, F5, n5, g5, r5⟩
      obtain ⟨ua, uc, rfl, -⟩ := hu5
      have N5 := Lib.hid n5
      have G5 := Lib.hid g5
      have R5 := Lib.hid r5
      rw [fl]
      clear n5 g5 r5 AK fl
      have AK : Hid (∀ _ : Unit, _) := fun _ => pg_acked fc [(0, (i : Int) - 1)] (.slice (some ⟨g, 0, none⟩) 1 1) N5.out G5.out R5.out R5.out (by simp) (rg_in (by decide) (by unfold In64; omega)) (rg_free G5.out.2)
      obtain ⟨f1, f2, f3, f4⟩ := ack_all (d := d2) (lo := 0) (hi := (i : Int) - 1) (fun p hp => by rw [ft.out.2] at hp; cases hp) (by have := ft.out.1; omega) (by omega) (by omega) (by omega)
      have f5 : (acked d2 [(0, (i : Int) - 1)]).l = [] := by rw [f4]
      have f6 : nosP d2.l = [] := by rw [ft.out.2]; rfl
      rw [f6] at f2
      rw [f1, f2, f3] at AK
      generalize acked d2 [(0, (i : Int) - 1)] = d3 at *
      clear f1 f2 f3 f4 f6 N5 G5 R5 ft
      replace f5 := Lib.hid f5
      go_wp2_with fail
      refine (AK.out ()).mono ?_
      rintro e w6 ⟨u6, v6, rfl, hu6, hv6, F6, n6, -, -⟩
      obtain ⟨ua6, uc6, rfl, -⟩ := hu6
      obtain ⟨va6, vc6, rfl, -⟩ := hv6
      have N6 := Lib.hid n6
      have FL : Hid (∀ _ : Unit, _) := fun _ => pl_flight fc N6.out
      rw [f5.out] at FL
      clear n6 AK
      go_wp2_with fail
      refine (FL.out ()).mono ?_
      rintro e w7 ⟨rfl, b7⟩
      have N7 := Lib.hid (N6.out.keep fc b7)
      have AK : Hid (∀ _ : Unit, _) := fun _ => pl_acked fc l (.slice a l.length cap) N7.out (hr.keep N7.out.bel) hs hz (fun hn p c e q => by
        injection e with e _ _
        subst e
        have h1 := rg_lt hr hn
        have h2 := N7.out.ge _ q
        omega)
      clear b7 FL N6
      replace hr := Lib.hid hr
      replace hz := Lib.hid hz
      replace hs := Lib.hid hs
      go_wp2_with fail
      refine (AK.out ()).mono ?_
      rintro e w8 ⟨u8, v8, rfl, F8, -, -, n8, -, -⟩
      have N8 := Lib.hid n8
      have f8 : (acked d3 l).l.length = 0 := by have := acked_len d3 l; rw [f5.out] at this; simpa using this
      have FL : Hid (∀ _ : Unit, _) := fun _ => pl_flight fc N8.out
      rw [f8] at FL
      clear n8 AK N7 f8
      generalize bytesP (acked d3 l).l = by8 at *
      go_wp2_with fail
      refine (FL.out ()).mono ?_
      rintro e w9 ⟨rfl, b9⟩
      have N9 := Lib.hid (N8.out.keep fc b9)
      clear b9 FL N8
      have z0 : bytesP [] = 0 := rfl
      go_wp2_with fail
      go_ret
      exact ⟨rfl, N9.out.bel⟩
end Go.Proofs.Ytfjampommgkfeaa
