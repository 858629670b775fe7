/-
  What the program's Pairs, Frame, dataFault, placeFault and headFault answer. No condition but the table of sizes and the form's own reach.
-/
import Derived.Test.YtnngdlleicjegaaDoorH3PgC
import Derived.Test.YtnngdlleicjegaaDoorTxPg
namespace Go.Proofs.YtnngdlleicjegaaDoor
set_option maxRecDepth 100000
open Go.RowKit

theorem BoR.of (w : World) (a b : Int) : BoR w (w.alloc (.cells #[.int .i64 a, .int .i64 b] 63)) w.heap.size a b := ⟨Lies.new w _ _, Nat.le_refl _, (Below.refl _ _).alloc (Nat.le_refl _) _⟩
theorem pairsA_step (k : Nat) (acc : List (Nat × Nat)) (s : L) : pairsA (k + 1) acc s = if s = [] then .ok acc else match fstP s with
    | none => .error 1
    | some (a, b, n) => if chkP acc a ≠ 0 then .error (chkP acc a) else pairsA k (acc ++ [(a, b)]) (s.drop n) := by
  rw [pairsA_succ]
  unfold fstP
  by_cases h0 : s = []
  · rw [if_pos h0, if_pos h0]
  · rw [if_neg h0, if_neg h0]
    cases getL s with
    | none => rfl
    | some p =>
      obtain ⟨a, n⟩ := p
      simp only
      cases getL (s.drop n) with
      | none => rfl
      | some q =>
        obtain ⟨b, m⟩ := q
        simp only
        unfold chkP
        by_cases h1 : 2 ≤ a ∧ a ≤ 5
        · rw [if_pos h1, if_pos h1]; rfl
        · rw [if_neg h1, if_neg h1]
          by_cases h2 : a ∈ acc.map Prod.fst
          · rw [if_pos h2, if_pos h2]; rfl
          · rw [if_neg h2, if_neg h2]
            by_cases h3 : acc.length = 16
            · rw [if_pos h3, if_pos h3]; rfl
            · rw [if_neg h3, if_neg h3]; rfl
theorem fst_len {s : L} {a b n : Nat} (h : fstP s = some (a, b, n)) : 1 ≤ n ∧ n ≤ s.length ∧ a < 4611686018427387904 ∧ b < 4611686018427387904 := by
  unfold fstP at h
  split at h
  · cases h
  · rename_i a' n' h1
    split at h
    · cases h
    · rename_i b' m' h2
      injection h with h
      injection h with ha h
      injection h with hb hn
      have g1 := getL_len h1
      have g2 := getL_len h2
      rw [List.length_drop] at g2
      have g3 := (getL_bound h1).1
      have g4 := (getL_bound h2).1
      omega
theorem chk_few {acc : List (Nat × Nat)} {a : Nat} (h : chkP acc a = 0) (hl : acc.length ≤ 16) : acc.length < 16 := by
  unfold chkP at h
  split at h
  · cases h
  · split at h
    · cases h
    · split at h
      · cases h
      · omega
set_option maxHeartbeats 8000000 in
theorem ppairs_ok (s0 : ByteArray) (w : World) (t : VTab w) (hs : s0.size ≤ 4611686018427387903) :
    Calls Tryd.prog 15 #[.string s0] w fun e w' => PrA s0 e w' ∧ Below w.heap.size w w' := by
  obtain ⟨i0, hi0, hz0, hz1, hz2⟩ := info_rg
  have P0 : Hid (PS15 w w s0 (s0.size + 1) s0 [] (.slice none 0 0)) := ⟨by rw [pairsL_eq, toL_len], Nat.lt_succ_self _, by simp, World.ownsRow_nil _ _ _ _, Below.refl _ _⟩
  replace t := Lib.hid t
  go_enter Tryd.func15, Tryd.ntmps15
  go_wp2_with fail
  go_loopg [4, 5] (s0.size + 1) (fun g lv sv wr => ∃ (s : ByteArray) (acc : List (Nat × Nat)), sv = .string s ∧ g ≤ s0.size + 1 ∧ Hid (PS15 w wr s0 g s acc lv))
  case atStart => exact ⟨s0, [], rfl, Nat.le_refl _, P0⟩
  case round =>
    obtain ⟨s, acc, rfl, hg, X⟩ := hrel
    clear P0
    have hlen := X.out.len
    obtain ⟨g1, rfl⟩ : ∃ g1, gk = g1 + 1 := ⟨gk - 1, by omega⟩
    have EQ := Lib.hid X.out.eq
    rw [pairsA_step] at EQ
    by_cases h0 : toL s = []
    · have hz : s = ⟨#[]⟩ := toL_nil h0
      subst hz
      rw [if_pos h0] at EQ
      have ZZ : Hid (Below w.heap.size w wr) := X.out.bel
      have OO := Lib.hid X.out.row
      have FW := Lib.hid X.out.few
      clear X h0
      go_wp2_with fail
      go_ret2
      exact ⟨.inl ⟨acc, u4, EQ.out, FW.out, rfl, own_rgAt (by rw [accR_len]; exact OO.out)⟩, ZZ.out⟩
    · have n0 : s.toList.isEmpty = false := by
        rw [toL_emp]
        cases hx : toL s with
        | nil => exact absurd hx h0
        | cons _ _ => rfl
      rw [if_neg h0] at EQ
      have hsz : s.size ≤ 4611686018427387903 := by omega
      have ZZ : Hid (Below w.heap.size w wr) := X.out.bel
      have FP := Lib.hid (pfst_ok s wr (t.out.below ZZ.out) hsz)
      cases h1 : fstP (toL s) with
      | none =>
        rw [h1] at EQ FP
        clear X h1 h0
        go_wp2_with fail
        refine FP.out.mono ?_
        rintro e w1 ⟨rfl, b1⟩
        have Z1 : Hid (Below w.heap.size w w1) := ZZ.out.trans (b1.mono ZZ.out.size)
        have ZA := Lib.hid (Z1.out.trans ((BoR.new w1).bel.mono Z1.out.size))
        clear b1 FP ZZ Z1
        unfold fpV
        go_wp2_with fail
        go_ret2
        exact ⟨.inr ⟨1, EQ.out, by decide, rfl⟩, ZA.out⟩
      | some p =>
        obtain ⟨a, b, n⟩ := p
        rw [h1] at EQ FP
        simp only at EQ
        obtain ⟨hn1, hn2, hab, hbb⟩ := fst_len h1
        rw [toL_len] at hn2
        have OO := Lib.hid X.out.row
        have FW := X.out.few
        have hsum : Hid ((toL s).drop n = toL (s.extract n s.size)) := (toL_extract s n).symm
        have z2 : (s.extract n s.size).size = s.size - n := by rw [ByteArray.size_extract]; omega
        clear X h1 h0
        go_wp2_with fail
        refine FP.out.mono ?_
        rintro e w1 ⟨rfl, b1⟩
        have Z1 : Hid (Below w.heap.size w w1) := ZZ.out.trans (b1.mono ZZ.out.size)
        have NB := BoR.of w1 (a : Int) (b : Int)
        have Z2 := Lib.hid (Z1.out.trans (NB.bel.mono Z1.out.size))
        have bb : Below wr.heap.size wr (w1.alloc (.cells #[.int .i64 (a : Int), .int .i64 (b : Int)] 63)) := b1.trans (NB.bel.mono b1.size)
        obtain ⟨w2, hw2⟩ : ∃ w2, w2 = w1.alloc (.cells #[.int .i64 (a : Int), .int .i64 (b : Int)] 63) := ⟨_, rfl⟩
        rw [← hw2] at NB Z2 bb
        have OW := Lib.hid (rows_block OO.out fun k hk => bb.block k ((OO.out.lt k hk).2) : w2.ownsRow w.heap.size 63 2 u4 acc.length (rgs (accR acc)))
        have hRg := own_rgAt (l := accR acc) (by rw [accR_len]; exact OW.out)
        have CK := Lib.hid (pchk_ok u4 acc a w2 hRg FW hab)
        obtain ⟨av, cap, eu, -⟩ := hRg
        rw [accR_len] at eu
        have kx := Lib.hid NB.k
        have q0 := NB.c0
        have q1 := NB.c1
        clear b1 FP ZZ Z1 NB bb OO
        unfold fpV
        subst eu
        go_upto_region 5 with fail
        rw [← hw2]
        clear hw2
        go_wp2_with fail
        refine CK.out.mono ?_
        rintro e w3 ⟨rfl, b3⟩
        clear CK
        by_cases h5 : chkP acc a = 0
        · rw [if_neg (by simpa using h5)] at EQ
          have hf := chk_few h5 FW
          rw [h5]
          have O3 := (rows_block OW.out fun k hk => b3.block k ((OW.out.lt k hk).2) : w3.ownsRow w.heap.size 63 2 (.slice av acc.length cap) acc.length (rgs (accR acc)))
          have Z3 := Z2.out.trans (b3.mono Z2.out.size)
          have K3 := kx.out.keep (by show 0 < 2; decide) b3
          have d0 := K3.cell 0 (v := .int .i64 (a : Int)) rfl
          have d1 := K3.cell 1 (v := .int .i64 (b : Int)) rfl
          have lt0 := Lib.hid (fun k hk => (O3.lt k hk).1)
          have O4 := Lib.hid (O3.alloc (.cells #[.int .i64 (a : Int), .int .i64 (b : Int)] 63))
          have Z4 := Lib.hid (Z3.alloc Z3.size (.cells #[.int .i64 (a : Int), .int .i64 (b : Int)] 63))
          obtain ⟨M, hM⟩ : ∃ M, M = acc.length := ⟨_, rfl⟩
          rw [← hM] at O4 hf lt0 ⊢
          replace hM := Lib.hid hM
          clear b3 O3 Z3 K3 kx Z2 OW FW h5 q0 q1
          go_wp2_with (at_builtin; refine wpList_append_own _ rfl _ _ 37 rfl w.heap.size 63 i0 (.agg #[.int .i64 0, .int .i64 0]) 2 16 Tryd.underlying37 hi0 hz0 hz1 hz2 rfl (by decide) _ _ _ rfl O4.out ⟨w3.heap.size, 0, none⟩ 1 1 [.int .i64 (a : Int), .int .i64 (b : Int)] rfl rfl ?aa1 ?aa2 ?aa3 ?aa4 ?aa5 ?_)
          case aa1 =>
            intro i u hi
            match i, hi with
            | 0, hi => simp at hi; subst hi; exact World.cell?_alloc_new _ _ _ 0
            | 1, hi => simp at hi; subst hi; exact World.cell?_alloc_new _ _ _ 1
            | i + 2, hi => simp at hi
          case aa2 => intro u hu; simp at hu; rcases hu with rfl | rfl <;> rfl
          case aa3 => unfold maxLen; omega
          case aa4 => omega
          case aa5 => exact Z4.out.size
          intro v' w4 hown' hgrow _
          have PX : Hid (PS15 w w4 s0 g1 (s.extract n s.size) (acc ++ [(a, b)]) v') := by
            refine ⟨by rw [EQ.out, hsum.out], by omega, by rw [List.length_append, ← hM.out]; simp; omega, ?_, Z4.out.grown hgrow Z4.out.size lt0.out⟩
            rw [accR_snoc, rgs_snoc, List.length_append, ← hM.out]
            exact hown'
          clear hown' hgrow O4 Z4 lt0 EQ hsum
          go_wp2_with fail
          go_roundg g1
          case measure => omega
          case rel => exact ⟨_, _, rfl, by omega, PX⟩
        · rw [if_pos h5] at EQ
          have Z3 := Lib.hid (Z2.out.trans (b3.mono Z2.out.size))
          have NZ := Lib.hid h5
          have qz : (chkP acc a == 0) = false := by simpa using h5
          generalize chkP acc a = X at *
          clear b3 Z2 OW kx q0 q1 h5
          go_wp2_with fail
          go_ret2
          exact ⟨.inr ⟨X, EQ.out, NZ.out, rfl⟩, Z3.out⟩
end Go.Proofs.YtnngdlleicjegaaDoor
