/-
  What the document's own Addresses answers: the walk. No condition but the form's own reach.
-/
import Derived.Test.YtihkbakbciejiaaDoorCpAdr
namespace Go.Proofs.YtihkbakbciejiaaDoor
set_option maxRecDepth 100000
open Go.RowKit

set_option maxHeartbeats 8000000 in
theorem raddr_ok (s0 : ByteArray) (w : World) (hs : s0.size ≤ 4611686018427387903) :
    Calls Tryd.prog 18 #[.string s0] w fun e w' => AdA s0 w.heap.size e w' ∧ Below w.heap.size w w' := by
  have P0 : Hid (AdI w w s0 (s0.size + 1) s0 [] (.slice none 0 0)) := ⟨by unfold adrL; rw [toL_len], Nat.lt_succ_self _, by simp, AdR.nil _ _, Below.refl _ _⟩
  have hcf : ∀ (x : Value) (w : World), (callFunc 43 #[x]).run Tryd.prog w = .ok (.enter 43 #[x]) w := fun x w => by simp [go_sem]
  go_enter Tryd.func18, Tryd.ntmps18
  go_wp2_with fail
  go_loopg [0, 4] (s0.size + 1) (fun g sv lv wr => ∃ (s : ByteArray) (acc : List Ad), sv = .string s ∧ g ≤ s0.size + 1 ∧ Hid (AdI w wr s0 g s acc lv))
  case atStart => exact ⟨s0, [], rfl, Nat.le_refl _, P0⟩
  case round =>
    obtain ⟨s, acc, rfl, hg, X⟩ := hrel
    clear P0
    have hlen := X.out.len
    obtain ⟨g1, rfl⟩ : ∃ g1, gk = g1 + 1 := ⟨gk - 1, by omega⟩
    have EQ := Lib.hid X.out.eq
    rw [adrN_succ] at EQ
    have ZZ : Hid (Below w.heap.size w wr) := X.out.bel
    by_cases h0 : toL s = []
    · have hz : s = ⟨#[]⟩ := toL_inj (by rw [h0]; rfl)
      subst hz
      rw [if_pos h0] at EQ
      have OO := Lib.hid X.out.row
      have FW := Lib.hid X.out.few
      clear X h0
      go_wp2_with fail
      go_ret2
      exact ⟨.inl ⟨acc, u4, EQ.out, FW.out, rfl, OO.out⟩, ZZ.out⟩
    · have n0 : s.toList.isEmpty = false := by
        rw [toL_empC]
        cases hx : toL s with
        | nil => exact absurd hx h0
        | cons _ _ => rfl
      rw [if_neg h0] at EQ
      have hsz : s.size ≤ 4611686018427387903 := by omega
      cases h1 : getL (toL s) with
      | none =>
        rw [h1] at EQ
        have G := Lib.hid (rget_none s wr (by omega) h1)
        clear X h1 h0
        go_wp2_with fail
        refine G.out.mono ?_
        rintro e w1 ⟨rfl, b1⟩
        have Z1 : Hid (Below w.heap.size w w1) := ZZ.out.trans (b1.mono ZZ.out.size)
        clear b1 G ZZ
        go_wp2_with fail
        go_ret2
        exact ⟨.inr ⟨1, EQ.out, by decide, rfl⟩, Z1.out⟩
      | some p =>
        obtain ⟨id, n⟩ := p
        rw [h1] at EQ
        simp only at EQ
        have hk := get_len h1
        have hib := (getL_bound h1).1
        have G := Lib.hid (rget_some s wr (by omega) h1)
        obtain ⟨r, hr⟩ : ∃ r, r = s.extract n s.size := ⟨_, rfl⟩
        have e2 : toL r = (toL s).drop n := by rw [hr]; exact toL_extract s n
        have z2 : r.size = s.size - n := by rw [hr, ByteArray.size_extract]; omega
        rw [← e2] at EQ
        have hr' := Lib.hid hr
        clear h1 h0
        cases h2 : toL r with
        | nil =>
          rw [h2] at EQ
          have ez : s.extract n s.size = ⟨#[]⟩ := by rw [← hr]; exact toL_inj (by rw [h2]; rfl)
          clear X h2 e2 hr
          go_wp2_with fail
          refine G.out.mono ?_
          rintro e w1 ⟨rfl, b1⟩
          have Z1 : Hid (Below w.heap.size w w1) := ZZ.out.trans (b1.mono ZZ.out.size)
          clear b1 G ZZ
          go_wp2_with fail
          go_ret2
          exact ⟨.inr ⟨1, EQ.out, by decide, rfl⟩, Z1.out⟩
        | cons c t =>
          rw [h2] at EQ
          simp only at EQ
          have zl : r.size = t.length + 1 := by rw [← toL_len, h2]; rfl
          have r0 : r.toList.isEmpty = false := by
            rw [toL_empC, h2]
            rfl
          have ix0 : ∀ w', (Instr.index 9 (.string r) (.int .i64 0)).run Tryd.prog w' = .ok (.int .u8 (c.toNat : Int)) w' := fun w' => by
            have := at_str0 r 0 w' (by omega) 0 rfl
            rw [h2] at this
            exact this
          have hrw : s.extract n s.size = r := hr.symm
          have rz : r.size ≤ 4611686018427387903 := by omega
          clear hr e2
          by_cases hc : c = 4
          · subst hc
            rw [if_neg (by simp)] at EQ
            by_cases h5 : t.length < 5
            · rw [if_pos h5] at EQ
              have q5 : decide ((r.size : Int) < 6) = true := decide_eq_true (by omega)
              clear X h2
              go_wp2_with fail
              refine G.out.mono ?_
              rintro e w1 ⟨rfl, b1⟩
              have Z1 : Hid (Below w.heap.size w w1) := ZZ.out.trans (b1.mono ZZ.out.size)
              clear b1 G ZZ
              go_wp2_with fail
              go_ret2
              exact ⟨.inr ⟨1, EQ.out, by decide, rfl⟩, Z1.out⟩
            · rw [if_neg h5] at EQ
              have q5 : decide ((r.size : Int) < 6) = false := decide_eq_false (by omega)
              have r6 : 6 ≤ r.size := by omega
              have ix5 : ∀ w', (Instr.index 9 (.string r) (.int .i64 5)).run Tryd.prog w' = .ok (.int .u8 ((t.getD 4 0).toNat : Int)) w' := fun w' => by
                have := at_str0 r 5 w' (by omega) 5 rfl
                rw [h2] at this
                exact this
              have e4 : w4 (toL (r.extract 1 5)) = w4 t := by
                rw [toL_cut, h2]
                unfold w4
                show fold 0 ((t.take 4).take 4) = _
                rw [List.take_take]
                rfl
              have NU : Hid (∀ w', _) := fun w' => rnum4 (r.extract 1 5) w' (by rw [ByteArray.size_extract]; omega)
              rw [e4] at NU
              have a1 := w4_lt t
              have b1 : (t.getD 4 0).toNat < 256 := (t.getD 4 0).toNat_lt
              have CK : Hid (∀ w', _) := fun w' => rcheck_ok (w4 t : Int) ((t.getD 4 0).toNat : Int) w' (by omega) (by omega)
              unfold pv at CK
              have e6 : Hid (toL (r.extract 6 r.size) = t.drop 5) := by
                unfold Hid
                rw [toL_extract, h2]
                rfl
              have z6 : (r.extract 6 r.size).size = r.size - 6 := by rw [ByteArray.size_extract]; omega
              have RW := Lib.hid X.out.row
              have FW := X.out.few
              have wr32 : IntKind.u32.wrap (w4 t : Int) = (w4 t : Int) := by rw [IntKind.wrap_u32]; omega
              clear X h2 e4
              obtain ⟨A, hA⟩ : ∃ A, A = w4 t := ⟨_, rfl⟩
              obtain ⟨B, hB⟩ : ∃ B, B = (t.getD 4 0).toNat := ⟨_, rfl⟩
              rw [← hA] at NU CK EQ a1 wr32
              rw [← hB] at CK EQ b1 ix5
              replace hA := Lib.hid hA
              replace hB := Lib.hid hB
              replace z2 := Lib.hid z2
              replace zl := Lib.hid zl
              replace z6 := Lib.hid z6
              go_wp2_with fail
              refine G.out.mono ?_
              rintro e w1 ⟨rfl, bb1⟩
              have Z1 : Hid (Below w.heap.size w w1) := ZZ.out.trans (bb1.mono ZZ.out.size)
              have R1 := Lib.hid (RW.out.keep bb1)
              clear bb1 G ZZ RW
              go_wp2_with fail
              have L2 : Hid (Lies (w1.alloc (.cells #[.int .u32 (A : Int), .int .i64 (B : Int)] 48)).drew w1.heap.size [.int .u32 (A : Int), .int .i64 (B : Int)]) := (Lies.new w1 [.int .u32 (A : Int), .int .i64 (B : Int)] 48).of_block rfl
              have B2 : Hid (Below w1.heap.size w1 (w1.alloc (.cells #[.int .u32 (A : Int), .int .i64 (B : Int)] 48)).drew) := ((Below.refl w1.heap.size w1).alloc (Nat.le_refl w1.heap.size) _).trans (drewB _ _)
              have C2 := Lib.hid (CK.out (w1.alloc (.cells #[.int .u32 (A : Int), .int .i64 (B : Int)] 48)).drew)
              have g5 : (5 : Int) ≤ (r.size : Int) := by omega
              have g5n : 5 ≤ r.size := by omega
              have g5m : ¬ (r.size < 5) := by omega
              clear CK
              go_region_law (refine cal1S 43 (.string (r.extract 1 5)) (.int .i64 (A : Int)) (NU.out _) (hcf _) rfl rfl (by simp [Act.eval, Act.put]) ?_)
              all_goals
                clear NU
                go_wp2_with fail
                refine C2.out.mono ?_
                rintro e w3 ⟨rfl, b3⟩
                have L3 := L2.out.keep (by show 0 < 2; decide) b3
                have B3 := B2.out.trans (b3.mono B2.out.size)
                have Z3 := Lib.hid (Z1.out.trans (B3.mono Z1.out.size))
                have R3 := R1.out.keep B3
                have d0 := L3.cell 0 (v := .int .u32 (A : Int)) rfl
                have d1 := L3.cell 1 (v := .int .i64 (B : Int)) rfl
                clear b3 L3 B3 B2 L2 C2 Z1 R1
                cases hrt : rt (A : Int) (B : Int) with
                | false =>
                  rw [hrt, if_pos rfl] at EQ
                  clear R3 hrt
                  go_wp2_with fail
                  go_ret2
                  exact ⟨.inr ⟨2, EQ.out, by decide, rfl⟩, Z3.out⟩
                | true =>
                  rw [hrt, if_neg (by simp)] at EQ
                  obtain ⟨av, cv, hu⟩ := R3.slice
                  subst hu
                  by_cases h16 : acc.length = 16
                  · rw [if_pos h16] at EQ
                    have q16 : ((acc.length : Int) == 16) = true := by rw [h16]; rfl
                    generalize acc.length = M at *
                    clear R3 h16
                    go_wp2_with fail
                    go_ret2
                    exact ⟨.inr ⟨8, EQ.out, by decide, rfl⟩, Z3.out⟩
                  · rw [if_neg h16] at EQ
                    have q16 : ((acc.length : Int) == 16) = false := by
                      have : ¬ (acc.length : Int) = 16 := by omega
                      simpa using this
                    obtain ⟨v', w4', hap, row, kp⟩ := R3.app Z3.out.size (by omega) ⟨(id : Int), A, (B : Int)⟩
                    have NX : Hid (AdI w w4' s0 g1 (r.extract 6 r.size) (acc ++ [⟨(id : Int), A, (B : Int)⟩]) v') := by
                      refine ⟨by rw [EQ.out, e6.out], ?_, by rw [List.length_append]; simp; omega, row, Z3.out.trans (kp.below Z3.out.size fun _ h => h)⟩
                      have h1 := z6.out
                      have h2 := z2.out
                      omega
                    obtain ⟨av', cv', hu'⟩ := row.slice
                    subst hu'
                    replace hap := Lib.hid hap
                    generalize (acc ++ [(⟨(id : Int), A, (B : Int)⟩ : Ad)]).length = N2 at *
                    generalize acc.length = M at *
                    clear R3 row kp EQ h16 Z3
                    go_wp2_with (refine obB2L _ rfl .append _ _ 43 43 rfl _ _ rfl rfl hap.out ?_)
                    go_roundg g1
                    case measure => omega
                    case rel => exact ⟨_, _, rfl, by omega, NX⟩
          · rw [if_pos hc] at EQ
            have qc : ((c.toNat : Int) == 4) = false := by
              have h3 : c.toNat ≠ 4 := fun q => hc (UInt8.toNat_inj.1 q)
              have : ¬ (c.toNat : Int) = 4 := by omega
              simpa using this
            clear X h2 hc
            go_wp2_with fail
            refine G.out.mono ?_
            rintro e w1 ⟨rfl, b1⟩
            have Z1 : Hid (Below w.heap.size w w1) := ZZ.out.trans (b1.mono ZZ.out.size)
            clear b1 G ZZ
            go_wp2_with fail
            go_ret2
            exact ⟨.inr ⟨5, EQ.out, by decide, rfl⟩, Z1.out⟩
end Go.Proofs.YtihkbakbciejiaaDoor
