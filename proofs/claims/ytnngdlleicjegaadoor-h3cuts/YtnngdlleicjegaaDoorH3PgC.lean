/-
  What the program's checkPair and firstPair answer. No condition but the table of sizes.
-/
import Derived.Test.YtnngdlleicjegaaDoorH3PgB
import Derived.Test.YtnngdlleicjegaaDoorLibIdxR
namespace Go.Proofs.YtnngdlleicjegaaDoor
set_option maxRecDepth 100000
open Go.RowKit

def lowIs (a : Int) (p : Rg) : Bool := p.1 == a
set_option maxHeartbeats 1000000 in
theorem low1_ok (a : Int) (K : Nat) : TstR 41 #[.pointer (some ⟨K, 0, none⟩)] (lowIs a) fun w => w.cell? ⟨K, 0, none⟩ = some (.int .i64 a) := by
  refine ⟨by intro x w; simp [go_sem], fun p w hK => ?_⟩
  obtain ⟨x, y⟩ := p
  rw [show (#[.agg #[.int .i64 (x, y).1, .int .i64 (x, y).2]] ++ #[.pointer (some ⟨K, 0, none⟩)] : Array Value) = #[.agg #[.int .i64 x, .int .i64 y], .pointer (some ⟨K, 0, none⟩)] from rfl]
  have hlt := World.block_lt_of_cell? w _ hK
  have b := (Below.refl w.heap.size w).alloc (Nat.le_refl _) (.cells #[.int .i64 x, .int .i64 y] 63)
  have cK := (b.cell hlt).trans hK
  unfold lowIs
  have bH := Lib.hid b
  clear b
  go_enter Tryd.func41, Tryd.ntmps41
  go_wp2
  go_ret
  exact ⟨rfl, bH.out⟩
def chkP (acc : List (Nat × Nat)) (a : Nat) : Int := if 2 ≤ a ∧ a ≤ 5 then 5 else if a ∈ acc.map Prod.fst then 3 else if acc.length = 16 then 8 else 0
theorem low_any (acc : List (Nat × Nat)) (a : Nat) : (accR acc).any (lowIs (a : Int)) = decide (a ∈ acc.map Prod.fst) := by
  induction acc with
  | nil => rfl
  | cons p l ih =>
    show (lowIs (a : Int) ((p.1 : Int), (p.2 : Int)) || (accR l).any (lowIs (a : Int))) = _
    rw [ih]
    unfold lowIs
    by_cases h : a = p.1
    · simp [h]
    · have h2 : (((p.1 : Int)) == (a : Int)) = false := by
        have : ¬ ((p.1 : Int) = (a : Int)) := by omega
        simpa using this
      rw [h2, Bool.false_or]
      simp [h]
set_option maxHeartbeats 2000000 in
theorem pchk_ok (lv : Value) (acc : List (Nat × Nat)) (a : Nat) (w : World) (hr : RgAt w lv (accR acc)) (hl : acc.length ≤ 16) (ha : a < 4611686018427387904) :
    Calls Tryd.prog 29 #[lv, .int .i64 (a : Int)] w fun e w' => e = .returned (.int .i64 (chkP acc a)) ∧ Below w.heap.size w w' := by
  have b := (Below.refl w.heap.size w).alloc (Nat.le_refl _) (.cells #[.int .i64 (a : Int)] 2)
  have cB := (Lies.new w [.int .i64 (a : Int)] 2).cell 0 (v := .int .i64 (a : Int)) rfl
  have C : Hid (Calls Tryd.prog 40 #[lv, .func (.func 41) #[] #[.pointer (some ⟨w.heap.size, 0, none⟩)]] (w.alloc (.cells #[.int .i64 (a : Int)] 2)) _) :=
    conR_ok lv (accR acc) 41 _ (lowIs (a : Int)) (fun w' => w'.cell? ⟨w.heap.size, 0, none⟩ = some (.int .i64 (a : Int))) _ (hr.keep b) (by rw [accR_len]; omega) (fun w' b' => (b'.cell (by show w.heap.size < (w.alloc _).heap.size; simp)).trans cB) (low1_ok (a : Int) w.heap.size)
  have hmf := mf_run
  rw [low_any] at C
  obtain ⟨av, cap, rfl, -⟩ := hr
  rw [accR_len] at C ⊢
  unfold chkP
  replace b : Hid _ := b
  have fin : Hid (∀ w1, Below (w.alloc (.cells #[.int .i64 (a : Int)] 2)).heap.size (w.alloc (.cells #[.int .i64 (a : Int)] 2)) w1 → Below w.heap.size w w1) := fun w1 b1 => b.out.trans (b1.mono b.out.size)
  by_cases h1 : 2 ≤ a
  · have g1 : decide ((2 : Int) ≤ (a : Int)) = true := decide_eq_true (by omega)
    by_cases h2 : a ≤ 5
    · have g2 : decide ((a : Int) ≤ 5) = true := decide_eq_true (by omega)
      rw [if_pos ⟨h1, h2⟩]
      clear C fin
      go_enter Tryd.func29, Tryd.ntmps29
      go_wp2_with fail
      go_ret
      exact ⟨rfl, b.out⟩
    · have g2 : decide ((a : Int) ≤ 5) = false := decide_eq_false (by omega)
      rw [if_neg (fun c => h2 c.2)]
      clear b
      by_cases h3 : a ∈ acc.map Prod.fst
      · rw [decide_eq_true h3] at C
        rw [if_pos h3]
        go_enter Tryd.func29, Tryd.ntmps29
        go_wp2_with fail
        refine C.out.mono ?_
        rintro e w1 ⟨rfl, b1⟩
        have F := Lib.hid (fin.out w1 b1)
        clear C fin b1
        go_wp2_with fail
        go_ret
        exact ⟨rfl, F.out⟩
      · rw [decide_eq_false h3] at C
        rw [if_neg h3]
        by_cases h4 : acc.length = 16
        · rw [if_pos h4]
          have g4 : ((acc.length : Int) == 16) = true := by rw [h4]; rfl
          clear h4
          generalize acc.length = M at *
          go_enter Tryd.func29, Tryd.ntmps29
          go_wp2_with fail
          refine C.out.mono ?_
          rintro e w1 ⟨rfl, b1⟩
          have F := Lib.hid (fin.out w1 b1)
          clear C fin b1
          go_wp2_with fail
          go_ret
          exact ⟨rfl, F.out⟩
        · rw [if_neg h4]
          have g4 : ((acc.length : Int) == 16) = false := by
            have : ¬ (acc.length : Int) = 16 := by omega
            simpa using this
          go_enter Tryd.func29, Tryd.ntmps29
          go_wp2_with fail
          refine C.out.mono ?_
          rintro e w1 ⟨rfl, b1⟩
          have F := Lib.hid (fin.out w1 b1)
          clear C fin b1
          go_wp2_with fail
          go_ret
          exact ⟨rfl, F.out⟩
  · have g1 : decide ((2 : Int) ≤ (a : Int)) = false := decide_eq_false (by omega)
    rw [if_neg (fun c => h1 c.1)]
    clear b
    by_cases h3 : a ∈ acc.map Prod.fst
    · rw [decide_eq_true h3] at C
      rw [if_pos h3]
      go_enter Tryd.func29, Tryd.ntmps29
      go_wp2_with fail
      refine C.out.mono ?_
      rintro e w1 ⟨rfl, b1⟩
      have F := Lib.hid (fin.out w1 b1)
      clear C fin b1
      go_wp2_with fail
      go_ret
      exact ⟨rfl, F.out⟩
    · rw [decide_eq_false h3] at C
      rw [if_neg h3]
      by_cases h4 : acc.length = 16
      · rw [if_pos h4]
        have g4 : ((acc.length : Int) == 16) = true := by rw [h4]; rfl
        clear h4
        generalize acc.length = M at *
        go_enter Tryd.func29, Tryd.ntmps29
        go_wp2_with fail
        refine C.out.mono ?_
        rintro e w1 ⟨rfl, b1⟩
        have F := Lib.hid (fin.out w1 b1)
        clear C fin b1
        go_wp2_with fail
        go_ret
        exact ⟨rfl, F.out⟩
      · rw [if_neg h4]
        have g4 : ((acc.length : Int) == 16) = false := by
          have : ¬ (acc.length : Int) = 16 := by omega
          simpa using this
        go_enter Tryd.func29, Tryd.ntmps29
        go_wp2_with fail
        refine C.out.mono ?_
        rintro e w1 ⟨rfl, b1⟩
        have F := Lib.hid (fin.out w1 b1)
        clear C fin b1
        go_wp2_with fail
        go_ret
        exact ⟨rfl, F.out⟩
/-- A box for a pair. -/
structure BoR (w wr : World) (K : Nat) (a b : Int) : Prop where
  k : Lies wr K [.int .i64 a, .int .i64 b]
  g : w.heap.size ≤ K
  bel : Below w.heap.size w wr
section
variable {w wr w' : World} {K : Nat} {a b : Int}
theorem BoR.new (w : World) : BoR w (w.alloc (.cells #[.int .i64 0, .int .i64 0] 63)) w.heap.size 0 0 := ⟨Lies.new w _ _, Nat.le_refl _, (Below.refl _ _).alloc (Nat.le_refl _) _⟩
theorem BoR.put (h : BoR w wr K a b) (x y : Int) : BoR w ((wr.setCell ⟨K, 0, none⟩ (.int .i64 x)).setCell ⟨K, 1, none⟩ (.int .i64 y)) K x y :=
  ⟨(h.k.put 0 (by show 0 < 2; decide) (.int .i64 x)).put 1 (by show 1 < 2; decide) (.int .i64 y), h.g, (h.bel.setCell (p := ⟨K, 0, none⟩) h.g _).setCell (p := ⟨K, 1, none⟩) h.g _⟩
theorem BoR.c0 (h : BoR w wr K a b) : wr.cell? ⟨K, 0, none⟩ = some (.int .i64 a) := h.k.cell 0 rfl
theorem BoR.c1 (h : BoR w wr K a b) : wr.cell? ⟨K, 1, none⟩ = some (.int .i64 b) := h.k.cell 1 rfl
theorem BoR.f0 (h : BoR w wr K a b) : wr.frozen? ⟨K, 0, none⟩ = false := h.k.free 0 (by show 0 < 2; decide)
theorem BoR.f1 (h : BoR w wr K a b) : wr.frozen? ⟨K, 1, none⟩ = false := h.k.free 1 (by show 1 < 2; decide)
end
/-- A pair at the front. -/
def fstP (s : L) : Option (Nat × Nat × Nat) := match getL s with
  | none => none
  | some (a, n) => match getL (s.drop n) with
    | none => none
    | some (b, m) => some (a, b, n + m)
def fpV (r : Option (Nat × Nat × Nat)) : Value := match r with
  | none => .tuple #[.agg #[.int .i64 0, .int .i64 0], .int .i64 0, .int .i64 1]
  | some (a, b, n) => .tuple #[.agg #[.int .i64 (a : Int), .int .i64 (b : Int)], .int .i64 (n : Int), .int .i64 0]
set_option maxHeartbeats 4000000 in
theorem pfst_ok (s : ByteArray) (w : World) (t : VTab w) (hs : s.size ≤ 4611686018427387903) :
    Calls Tryd.prog 28 #[.string s] w fun e w' => e = .returned (fpV (fstP (toL s))) ∧ Below w.heap.size w w' := by
  have N0 := BoR.new w
  have t0 := t.below N0.bel
  obtain ⟨w1, hw1⟩ : ∃ w1, w1 = w.alloc (.cells #[.int .i64 0, .int .i64 0] 63) := ⟨_, rfl⟩
  rw [← hw1] at N0 t0
  obtain ⟨K, hK⟩ : ∃ K, K = w.heap.size := ⟨_, rfl⟩
  have N1 : Hid (BoR w w1 K 0 0) := by rw [hK]; exact N0
  have k0 := N1.out.c0
  have k1 := N1.out.c1
  have kf0 := N1.out.f0
  have kf1 := N1.out.f1
  unfold fstP
  cases h1 : getL (toL s) with
  | none =>
    have G := Lib.hid (pget_none s w1 t0 (by omega) h1)
    have NZ := Lib.hid (N1.out.put 0 0)
    clear N0 N1 t t0 h1
    go_enter Tryd.func28, Tryd.ntmps28
    go_upto_region 1 with fail
    rw [← hw1, ← hK]
    clear hw1
    replace hK := Lib.hid hK
    go_wp2_with fail
    refine G.out.mono ?_
    rintro e w2 ⟨rfl, rfl⟩
    clear G
    go_wp2_with fail
    generalize (w1.setCell ⟨K, 0, none⟩ (.int .i64 0)).setCell ⟨K, 1, none⟩ (.int .i64 0) = wf at *
    have q0 := NZ.out.c0
    have q1 := NZ.out.c1
    exact bodyPost_ret (v := .tuple #[.agg #[.int .i64 0, .int .i64 0], .int .i64 0, .int .i64 1]) (by simp [results, Tryd.results28, go_sem, q0, q1]) rfl ⟨rfl, NZ.out.bel⟩
  | some p =>
    obtain ⟨a, n⟩ := p
    have hk := get_len h1
    have hab := (getL_bound h1).1
    have G := Lib.hid (pget_some s w1 t0 (by omega) h1)
    have e2 : toL (s.extract n s.size) = (toL s).drop n := toL_extract s n
    have z2 : (s.extract n s.size).size = s.size - n := by rw [ByteArray.size_extract]; omega
    simp only
    rw [← e2]
    cases h2 : getL (toL (s.extract n s.size)) with
    | none =>
      have G2 := Lib.hid (pget_none (s.extract n s.size) w1 t0 (by omega) h2)
      have NZ := Lib.hid (N1.out.put 0 0)
      clear N0 N1 t t0 h1 h2 e2
      go_enter Tryd.func28, Tryd.ntmps28
      go_upto_region 1 with fail
      rw [← hw1, ← hK]
      clear hw1
      replace hK := Lib.hid hK
      go_wp2_with fail
      refine G.out.mono ?_
      rintro e w2 ⟨rfl, rfl⟩
      clear G
      go_wp2_with fail
      refine G2.out.mono ?_
      rintro e w2 ⟨rfl, rfl⟩
      clear G2
      go_wp2_with fail
      generalize (w1.setCell ⟨K, 0, none⟩ (.int .i64 0)).setCell ⟨K, 1, none⟩ (.int .i64 0) = wf at *
      have q0 := NZ.out.c0
      have q1 := NZ.out.c1
      exact bodyPost_ret (v := .tuple #[.agg #[.int .i64 0, .int .i64 0], .int .i64 0, .int .i64 1]) (by simp [results, Tryd.results28, go_sem, q0, q1]) rfl ⟨rfl, NZ.out.bel⟩
    | some q =>
      obtain ⟨b, m⟩ := q
      have hk2 := get_len h2
      have hbb := (getL_bound h2).1
      have G2 := Lib.hid (pget_some (s.extract n s.size) w1 t0 (by omega) h2)
      have NZ := Lib.hid (N1.out.put (a : Int) (b : Int))
      have hnb : (n : Int) + (m : Int) ≤ 4611686018427387903 := by omega
      clear N0 N1 t t0 h1 h2 e2
      go_enter Tryd.func28, Tryd.ntmps28
      go_upto_region 1 with fail
      rw [← hw1, ← hK]
      clear hw1
      replace hK := Lib.hid hK
      go_wp2_with fail
      refine G.out.mono ?_
      rintro e w2 ⟨rfl, rfl⟩
      clear G
      go_wp2_with fail
      refine G2.out.mono ?_
      rintro e w2 ⟨rfl, rfl⟩
      clear G2
      go_wp2_with fail
      all_goals
        generalize (w1.setCell ⟨K, 0, none⟩ (.int .i64 (a : Int))).setCell ⟨K, 1, none⟩ (.int .i64 (b : Int)) = wf at *
        have q0 := NZ.out.c0
        have q1 := NZ.out.c1
        exact bodyPost_ret (v := .tuple #[.agg #[.int .i64 (a : Int), .int .i64 (b : Int)], .int .i64 ((n : Int) + (m : Int)), .int .i64 0]) (by simp [results, Tryd.results28, go_sem, q0, q1]) rfl ⟨rfl, NZ.out.bel⟩
end Go.Proofs.YtnngdlleicjegaaDoor
