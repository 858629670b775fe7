/-
  The law OutboxPieces returns true for every text, every number and every limit, by what is asked of the program's calls (OuFace). No other condition.
-/
import Derived.Test.YtdmoaeegjjenmaaOuMore
import Derived.Test.YtdmoaeegjjenmaaOuWorks
import Derived.Deep.LoopGhost
import Derived.Lib.QuietBelow
import Derived.BigQuiet
namespace Go.Proofs.Ytdmoaeegjjenmaa
set_option maxRecDepth 100000
open Go.RowKit Go.Sort

theorem most_at (a : Int) : ∃ k : Nat, wrap64 (1 + wrap64 ((IntKind.u64.wrap a).tmod 300)) = (k : Int) ∧ 1 ≤ k ∧ k ≤ 300 := by
  have h : 0 ≤ IntKind.u64.wrap a := by rw [IntKind.wrap_u64]; omega
  rw [Int.tmod_eq_emod_of_nonneg h]
  have h1 := Int.emod_nonneg (IntKind.u64.wrap a) (show (300 : Int) ≠ 0 by decide)
  have h2 := Int.emod_lt_of_pos (IntKind.u64.wrap a) (show (0 : Int) < 300 by decide)
  refine ⟨(1 + (IntKind.u64.wrap a) % 300).toNat, ?_, by omega, by omega⟩
  unfold wrap64
  omega
theorem pc_next (s : ByteArray) (a k : Nat) (lim : Int) (ha : a < s.size) (hl : (a : Int) < lim) (hk : 1 ≤ k) : ∃ n : Nat, n = min k (min s.size lim.toNat - a) ∧ nxt (tx s a 1 3 lim) k = some (Pc.mk a n false) ∧ nxtO (tx s a 1 3 lim) k = tx s (a + n) 1 3 lim := by
  refine ⟨runK s a lim k, rfl, ?_⟩
  have hr : runK s a lim k = min k (min s.size lim.toNat - a) := rfl
  have e : nxt (tx s a 1 3 lim) k = some (Pc.mk a (runK s a lim k) false) := by
    rw [tx_nxt s a 1 3 lim k (by omega) (by decide) (by omega), if_neg (by omega), if_neg (by omega)]
    simp
  refine ⟨e, ?_⟩
  unfold nxtO
  rw [e]
  show aftO (tx s a 1 3 lim) (Pc.mk a (runK s a lim k) false) = _
  rw [tx_aft s a _ 3 lim false (by omega)]
  simp
theorem pc_none (s : ByteArray) (a k : Nat) (lim : Int) (ha : a ≤ s.size) (hl : s.size ≤ a ∨ lim ≤ a) (h0 : 0 ≤ lim) : nxt (tx s a 1 3 lim) k = none ∧ nxtO (tx s a 1 3 lim) k = tx s a 1 3 lim := by
  have e : nxt (tx s a 1 3 lim) k = none := by rw [tx_nxt s a 1 3 lim k ha (by decide) h0, if_pos hl, if_pos (.inl (by decide))]
  refine ⟨e, ?_⟩
  unfold nxtO
  rw [e]
set_option maxHeartbeats 8000000 in
theorem pieces_s {LS : OSt} (fc : OuFace LS) (t : ByteArray) (m limit : Int) (w : World) (hs : t.size ≤ 6000) (hlim : In64 limit) : Calls Try.prog 5 #[.string t, .int .i64 m, .int .i64 limit] w fun e w' => e = .returned (.bool true) ∧ Below w.heap.size w w' := by
  obtain ⟨s, hse, hsz⟩ : ∃ s : ByteArray, t = s ∧ s.size ≤ 6000 := ⟨_, rfl, by exact hs⟩
  have z1 : decide ((6000 : Int) < (t.size : Int)) = false := decide_eq_false (by omega)
  have z2 : decide (6000 < t.size) = false := decide_eq_false (by omega)
  subst hse
  obtain ⟨k, hk, hk1, hk2⟩ := most_at m
  obtain ⟨L, hL⟩ : ∃ L, L = max 4096 limit := ⟨_, rfl⟩
  have WK : Hid (∀ _ : Unit, _) := fun _ => works_ok fc w
  have NP : Hid (∀ w', Below w.heap.size w w' → _) := fun w' b => po_new fc (fun _ => False) w w' b (fun _ q => q.elim)
  have W0 : Hid (∀ w' B F, PO LS (fun _ => False) w w' B F ox0 → _) := fun w' B F h => po_allow fc limit (X := fun _ => False) (w0 := w) (w := w') (B := B) (F := F) h (by decide) hlim
  have W1 : Hid (∀ w' B F, PO LS (fun _ => False) w w' B F (alwO ox0 limit) → _) := fun w' B F h => po_write fc t false (X := fun _ => False) (w0 := w) (w := w') (B := B) (F := F) h (by show (0 : Nat) < _; decide) (by omega)
  obtain ⟨r1, r2⟩ := tx_write t 1 limit false (by omega)
  rw [r1, r2, ← hL] at W1
  have e3 : (if false = true then (0 : Int) else 3) = 3 := rfl
  rw [e3] at W1
  have AN : Hid (∀ w' B F a, PO LS (fun _ => False) w w' B F (tx t a 1 3 L) → _) := fun w' B F a h => po_next fc (k : Int) (X := fun _ => False) (w0 := w) (w := w') (B := B) (F := F) h (show t.size < 50000000 by omega) (by unfold In64; omega) (.inl (show (3 : Int) ≠ 2 by decide))
  generalize alwO ox0 limit = d0 at *
  have mx : (if (4096 : Int) < limit then limit else 4096) = L := by rw [hL]; split <;> omega
  have hL0 : 4096 ≤ L ∧ L ≤ 9223372036854775807 := by have := hlim.2; omega
  obtain ⟨hL1, hL2⟩ := hL0
  replace hL := Lib.hid hL
  clear r1 r2 e3
  go_enter Try.func5, Try.ntmps5
  go_wp2_with fail
  refine (WK.out ()).mono ?_
  rintro e w0 ⟨rfl, b0⟩
  have B0 := Lib.hid b0
  clear b0 WK
  go_wp2_with fail
  refine (NP.out _ B0.out).mono ?_
  rintro e w1 ⟨B, F1, rfl, n1, -, -⟩
  have N1 := Lib.hid n1
  clear n1 NP B0
  go_wp2_with fail
  refine (W0.out _ _ _ N1.out).mono ?_
  rintro e w2 ⟨rfl, F2, ⟨n2, -⟩, -, -⟩
  have N2 := Lib.hid n2
  clear n2 N1 W0
  go_wp2_with fail
  refine (W1.out _ _ _ N2.out).mono ?_
  rintro e w3 ⟨rfl, F3, ⟨n3, -⟩, -, -⟩
  have N3 := Lib.hid n3
  clear n3 N2 W1
  go_wp2_with fail
  obtain ⟨T, hT⟩ : ∃ T : Nat, T = min t.size L.toNat := ⟨_, rfl⟩
  have hTb : T ≤ t.size ∧ (T : Int) ≤ L ∧ (T = t.size ∨ (T : Int) = L) := by omega
  have mn : (if (t.size : Int) < L then (t.size : Int) else L) = (T : Int) := by split <;> omega
  replace hTb := Lib.hid hTb
  replace hT := Lib.hid hT
  go_loopg [9] (T + 1) (fun g av wr => ∃ (a : Nat) (F : Nat → Prop), Hid (a + g = T + 1 ∧ a ≤ T) ∧ av = .int .i64 a ∧ Hid (PO LS (fun _ => False) w wr B F (tx t a 1 3 L)))
  case atStart => exact ⟨0, F3, ⟨by omega, by omega⟩, rfl, N3⟩
  case round =>
    clear N3
    obtain ⟨a, F, ha, rfl, N⟩ := hrel
    by_cases hlt : a < T
    · obtain ⟨n, hn, hn1, hn2⟩ := pc_next t a k L (by have := hTb.out; omega) (by have := hTb.out; omega) hk1
      have hnb : 1 ≤ n ∧ n ≤ k ∧ a + n ≤ T ∧ (n = k ∨ a + n = T) := by have := hT.out; omega
      have AA : Hid (∀ _ : Unit, _) := fun _ => AN.out wr B F a N.out
      rw [hn1, hn2] at AA
      have v1 : nxtV (tx t a 1 3 L) (some (Pc.mk a n false)) = .tuple #[.agg #[.int .i64 (a : Int), .string (t.extract a (a + n)), .bool false], .bool true] := rfl
      rw [v1] at AA
      clear hn1 hn2 v1 AN hn
      go_wp2_with fail
      refine (AA.out ()).mono ?_
      rintro e w4 ⟨rfl, F4, ⟨n4, -⟩, -, -⟩
      have N4 := Lib.hid n4
      clear n4 N AA
      go_upto_region 14 with fail
      have al : Below w4.heap.size w4 (w4.alloc (.cells #[.int .i64 (a : Int), .string (t.extract a (a + n)), .bool false] 33)) := (Below.refl _ _).alloc (Nat.le_refl _) _
      have N5 : Hid (PO LS (fun _ => False) w (w4.alloc (.cells #[.int .i64 (a : Int), .string (t.extract a (a + n)), .bool false] 33)) B F4 (tx t (a + n) 1 3 L)) := N4.out.keep fc al
      have P5 : Hid (Lies (w4.alloc (.cells #[.int .i64 (a : Int), .string (t.extract a (a + n)), .bool false] 33)) w4.heap.size [.int .i64 (a : Int), .string (t.extract a (a + n)), .bool false]) := Lies.new w4 _ _
      clear al N4
      generalize w4.alloc (.cells #[.int .i64 (a : Int), .string (t.extract a (a + n)), .bool false] 33) = w5 at *
      generalize w4.heap.size = g at *
      have es : (t.extract a (a + n)).size = n := by rw [ByteArray.size_extract]; have := hTb.out; omega
      have p1 := P5.out.cell 1 (v := .string (t.extract a (a + n))) rfl
      have k0 := fun d os => cell_regrown (w := w5) (P5.out.cell 0 (v := .int .i64 (a : Int)) rfl) d os
      have k1 := fun d os => cell_regrown (w := w5) (P5.out.cell 1 (v := .string (t.extract a (a + n))) rfl) d os
      have k2 := fun d os => cell_regrown (w := w5) (P5.out.cell 2 (v := .bool false) rfl) d os
      have y1 : decide ((n : Int) < 1) = false := decide_eq_false (by omega)
      have y2 : decide ((k : Int) < (n : Int)) = false := decide_eq_false (by omega)
      have y3 : decide ((t.size : Int) < (a : Int) + n) = false := decide_eq_false (by have := hTb.out; omega)
      have y4 : decide (k < n) = false := decide_eq_false (by omega)
      have y5 : decide (t.size < a + n) = false := decide_eq_false (by have := hTb.out; omega)
      have y6 : (n < 1) = False := by simp; omega
      have hlen : a + n ≤ t.size := by have := hTb.out; omega
      go_wp2_with fail
      by_cases hq : n < k
      · have y7 : decide ((n : Int) < (k : Int)) = true := decide_eq_true (by omega)
        have y8 : decide (n < k) = true := decide_eq_true hq
        have y9 : ((a : Int) + (n : Int) != (T : Int)) = false := by simp; omega
        refine wp_region_quiet_below (by kernel_rfl) (by kernel_rfl) ?_
        repeat (go_big_quiet_step (fail))
        refine wpQuiet_nil ?_
        intro _ hw'
        obtain ⟨⟨dq, osq⟩, hw''⟩ := hw'
        subst hw''
        have N6 := Lib.hid (N5.out.keep fc (below_regrown w5 dq osq))
        simp only
        generalize Go.Sort.grow (redrawn w5 dq) osq = w6 at *
        have ha2 : Hid (a + n + (T + 1 - (a + n)) = T + 1 ∧ a + n ≤ T) := ⟨by omega, by omega⟩
        have hms : Hid (T + 1 - (a + n) < gk) := by have := ha.out; unfold Hid; omega
        clear k0 k1 k2 N5 P5 p1 y1 y2 y3 y4 y5 y6 y7 y8 y9 ha
        go_wp2_with fail
        go_roundg (T + 1 - (a + n))
        case measure => exact hms.out
        case rel => exact ⟨a + n, F4, ha2, by go_num, N6⟩
      · have y7 : decide ((n : Int) < (k : Int)) = false := decide_eq_false (by omega)
        have y8 : decide (n < k) = false := decide_eq_false hq
        refine wp_region_quiet_below (by kernel_rfl) (by kernel_rfl) ?_
        repeat (go_big_quiet_step (fail))
        refine wpQuiet_nil ?_
        intro _ hw'
        obtain ⟨⟨dq, osq⟩, hw''⟩ := hw'
        subst hw''
        have N6 := Lib.hid (N5.out.keep fc (below_regrown w5 dq osq))
        simp only
        generalize Go.Sort.grow (redrawn w5 dq) osq = w6 at *
        have ha2 : Hid (a + n + (T + 1 - (a + n)) = T + 1 ∧ a + n ≤ T) := ⟨by omega, by omega⟩
        have hms : Hid (T + 1 - (a + n) < gk) := by have := ha.out; unfold Hid; omega
        clear k0 k1 k2 N5 P5 p1 y1 y2 y3 y4 y5 y6 y7 y8 ha
        go_wp2_with fail
        go_roundg (T + 1 - (a + n))
        case measure => exact hms.out
        case rel => exact ⟨a + n, F4, ha2, by go_num, N6⟩
    · obtain ⟨hn1, hn2⟩ := pc_none t a k L (by have := hTb.out; have := ha.out; omega) (by have := hTb.out; have := ha.out; omega) (by omega)
      have AA : Hid (∀ _ : Unit, _) := fun _ => AN.out wr B F a N.out
      rw [hn1, hn2] at AA
      have v1 : nxtV (tx t a 1 3 L) none = .tuple #[.agg #[.int .i64 0, .string ⟨#[]⟩, .bool false], .bool false] := rfl
      rw [v1] at AA
      have y1 : ((a : Int) == (T : Int)) = true := by have := ha.out; simp; omega
      have y2 : a = T := by have := ha.out; omega
      clear hn1 hn2 v1 AN
      go_wp2_with fail
      refine (AA.out ()).mono ?_
      rintro e w4 ⟨rfl, F4, ⟨n4, -⟩, -, -⟩
      have bel := Lib.hid (n4.bel.trans (((Below.refl w4.heap.size w4).alloc (Nat.le_refl _) (.cells #[.int .i64 0, .string ⟨#[]⟩, .bool false] 33)).mono n4.bel.size))
      clear n4 N AA hlt
      replace y2 := Lib.hid y2
      go_wp2_with fail
      go_ret
      exact ⟨rfl, bel.out⟩
set_option maxHeartbeats 8000000 in
theorem pieces_l {LS : OSt} (fc : OuFace LS) (t : ByteArray) (m limit : Int) (w : World) (hs : 6000 < t.size) (hm : t.size ≤ 140737488351232) (hlim : In64 limit) : Calls Try.prog 5 #[.string t, .int .i64 m, .int .i64 limit] w fun e w' => e = .returned (.bool true) ∧ Below w.heap.size w w' := by
  obtain ⟨s, hse, hsz⟩ : ∃ s : ByteArray, t.extract 0 6000 = s ∧ s.size ≤ 6000 := ⟨_, rfl, by rw [ByteArray.size_extract]; omega⟩
  have z1 : decide ((6000 : Int) < (t.size : Int)) = true := decide_eq_true (by omega)
  have z2 : decide (6000 < t.size) = true := decide_eq_true hs
  have z3 : 6000 ≤ t.size := by omega
  obtain ⟨k, hk, hk1, hk2⟩ := most_at m
  obtain ⟨L, hL⟩ : ∃ L, L = max 4096 limit := ⟨_, rfl⟩
  have WK : Hid (∀ _ : Unit, _) := fun _ => works_ok fc w
  have NP : Hid (∀ w', Below w.heap.size w w' → _) := fun w' b => po_new fc (fun _ => False) w w' b (fun _ q => q.elim)
  have W0 : Hid (∀ w' B F, PO LS (fun _ => False) w w' B F ox0 → _) := fun w' B F h => po_allow fc limit (X := fun _ => False) (w0 := w) (w := w') (B := B) (F := F) h (by decide) hlim
  have W1 : Hid (∀ w' B F, PO LS (fun _ => False) w w' B F (alwO ox0 limit) → _) := fun w' B F h => po_write fc s false (X := fun _ => False) (w0 := w) (w := w') (B := B) (F := F) h (by show (0 : Nat) < _; decide) (by omega)
  obtain ⟨r1, r2⟩ := tx_write s 1 limit false (by omega)
  rw [r1, r2, ← hL] at W1
  have e3 : (if false = true then (0 : Int) else 3) = 3 := rfl
  rw [e3] at W1
  have AN : Hid (∀ w' B F a, PO LS (fun _ => False) w w' B F (tx s a 1 3 L) → _) := fun w' B F a h => po_next fc (k : Int) (X := fun _ => False) (w0 := w) (w := w') (B := B) (F := F) h (show s.size < 50000000 by omega) (by unfold In64; omega) (.inl (show (3 : Int) ≠ 2 by decide))
  generalize alwO ox0 limit = d0 at *
  have mx : (if (4096 : Int) < limit then limit else 4096) = L := by rw [hL]; split <;> omega
  have hL0 : 4096 ≤ L ∧ L ≤ 9223372036854775807 := by have := hlim.2; omega
  obtain ⟨hL1, hL2⟩ := hL0
  replace hL := Lib.hid hL
  clear r1 r2 e3
  go_enter Try.func5, Try.ntmps5
  go_wp2_with fail
  refine (WK.out ()).mono ?_
  rintro e w0 ⟨rfl, b0⟩
  have B0 := Lib.hid b0
  clear b0 WK
  go_wp2_with fail
  refine (NP.out _ B0.out).mono ?_
  rintro e w1 ⟨B, F1, rfl, n1, -, -⟩
  have N1 := Lib.hid n1
  clear n1 NP B0
  go_wp2_with fail
  refine (W0.out _ _ _ N1.out).mono ?_
  rintro e w2 ⟨rfl, F2, ⟨n2, -⟩, -, -⟩
  have N2 := Lib.hid n2
  clear n2 N1 W0
  go_wp2_with fail
  refine (W1.out _ _ _ N2.out).mono ?_
  rintro e w3 ⟨rfl, F3, ⟨n3, -⟩, -, -⟩
  have N3 := Lib.hid n3
  clear n3 N2 W1
  go_wp2_with fail
  obtain ⟨T, hT⟩ : ∃ T : Nat, T = min s.size L.toNat := ⟨_, rfl⟩
  have hTb : T ≤ s.size ∧ (T : Int) ≤ L ∧ (T = s.size ∨ (T : Int) = L) := by omega
  have mn : (if (s.size : Int) < L then (s.size : Int) else L) = (T : Int) := by split <;> omega
  replace hTb := Lib.hid hTb
  replace hT := Lib.hid hT
  go_loopg [9] (T + 1) (fun g av wr => ∃ (a : Nat) (F : Nat → Prop), Hid (a + g = T + 1 ∧ a ≤ T) ∧ av = .int .i64 a ∧ Hid (PO LS (fun _ => False) w wr B F (tx s a 1 3 L)))
  case atStart => exact ⟨0, F3, ⟨by omega, by omega⟩, rfl, N3⟩
  case round =>
    clear N3
    obtain ⟨a, F, ha, rfl, N⟩ := hrel
    by_cases hlt : a < T
    · obtain ⟨n, hn, hn1, hn2⟩ := pc_next s a k L (by have := hTb.out; omega) (by have := hTb.out; omega) hk1
      have hnb : 1 ≤ n ∧ n ≤ k ∧ a + n ≤ T ∧ (n = k ∨ a + n = T) := by have := hT.out; omega
      have AA : Hid (∀ _ : Unit, _) := fun _ => AN.out wr B F a N.out
      rw [hn1, hn2] at AA
      have v1 : nxtV (tx s a 1 3 L) (some (Pc.mk a n false)) = .tuple #[.agg #[.int .i64 (a : Int), .string (s.extract a (a + n)), .bool false], .bool true] := rfl
      rw [v1] at AA
      clear hn1 hn2 v1 AN hn
      go_wp2_with fail
      refine (AA.out ()).mono ?_
      rintro e w4 ⟨rfl, F4, ⟨n4, -⟩, -, -⟩
      have N4 := Lib.hid n4
      clear n4 N AA
      go_upto_region 14 with fail
      have al : Below w4.heap.size w4 (w4.alloc (.cells #[.int .i64 (a : Int), .string (s.extract a (a + n)), .bool false] 33)) := (Below.refl _ _).alloc (Nat.le_refl _) _
      have N5 : Hid (PO LS (fun _ => False) w (w4.alloc (.cells #[.int .i64 (a : Int), .string (s.extract a (a + n)), .bool false] 33)) B F4 (tx s (a + n) 1 3 L)) := N4.out.keep fc al
      have P5 : Hid (Lies (w4.alloc (.cells #[.int .i64 (a : Int), .string (s.extract a (a + n)), .bool false] 33)) w4.heap.size [.int .i64 (a : Int), .string (s.extract a (a + n)), .bool false]) := Lies.new w4 _ _
      clear al N4
      generalize w4.alloc (.cells #[.int .i64 (a : Int), .string (s.extract a (a + n)), .bool false] 33) = w5 at *
      generalize w4.heap.size = g at *
      have es : (s.extract a (a + n)).size = n := by rw [ByteArray.size_extract]; have := hTb.out; omega
      have p1 := P5.out.cell 1 (v := .string (s.extract a (a + n))) rfl
      have k0 := fun d os => cell_regrown (w := w5) (P5.out.cell 0 (v := .int .i64 (a : Int)) rfl) d os
      have k1 := fun d os => cell_regrown (w := w5) (P5.out.cell 1 (v := .string (s.extract a (a + n))) rfl) d os
      have k2 := fun d os => cell_regrown (w := w5) (P5.out.cell 2 (v := .bool false) rfl) d os
      have y1 : decide ((n : Int) < 1) = false := decide_eq_false (by omega)
      have y2 : decide ((k : Int) < (n : Int)) = false := decide_eq_false (by omega)
      have y3 : decide ((s.size : Int) < (a : Int) + n) = false := decide_eq_false (by have := hTb.out; omega)
      have y4 : decide (k < n) = false := decide_eq_false (by omega)
      have y5 : decide (s.size < a + n) = false := decide_eq_false (by have := hTb.out; omega)
      have y6 : (n < 1) = False := by simp; omega
      have hlen : a + n ≤ s.size := by have := hTb.out; omega
      go_wp2_with fail
      by_cases hq : n < k
      · have y7 : decide ((n : Int) < (k : Int)) = true := decide_eq_true (by omega)
        have y8 : decide (n < k) = true := decide_eq_true hq
        have y9 : ((a : Int) + (n : Int) != (T : Int)) = false := by simp; omega
        refine wp_region_quiet_below (by kernel_rfl) (by kernel_rfl) ?_
        repeat (go_big_quiet_step (fail))
        refine wpQuiet_nil ?_
        intro _ hw'
        obtain ⟨⟨dq, osq⟩, hw''⟩ := hw'
        subst hw''
        have N6 := Lib.hid (N5.out.keep fc (below_regrown w5 dq osq))
        simp only
        generalize Go.Sort.grow (redrawn w5 dq) osq = w6 at *
        have ha2 : Hid (a + n + (T + 1 - (a + n)) = T + 1 ∧ a + n ≤ T) := ⟨by omega, by omega⟩
        have hms : Hid (T + 1 - (a + n) < gk) := by have := ha.out; unfold Hid; omega
        clear k0 k1 k2 N5 P5 p1 y1 y2 y3 y4 y5 y6 y7 y8 y9 ha
        go_wp2_with fail
        go_roundg (T + 1 - (a + n))
        case measure => exact hms.out
        case rel => exact ⟨a + n, F4, ha2, by go_num, N6⟩
      · have y7 : decide ((n : Int) < (k : Int)) = false := decide_eq_false (by omega)
        have y8 : decide (n < k) = false := decide_eq_false hq
        refine wp_region_quiet_below (by kernel_rfl) (by kernel_rfl) ?_
        repeat (go_big_quiet_step (fail))
        refine wpQuiet_nil ?_
        intro _ hw'
        obtain ⟨⟨dq, osq⟩, hw''⟩ := hw'
        subst hw''
        have N6 := Lib.hid (N5.out.keep fc (below_regrown w5 dq osq))
        simp only
        generalize Go.Sort.grow (redrawn w5 dq) osq = w6 at *
        have ha2 : Hid (a + n + (T + 1 - (a + n)) = T + 1 ∧ a + n ≤ T) := ⟨by omega, by omega⟩
        have hms : Hid (T + 1 - (a + n) < gk) := by have := ha.out; unfold Hid; omega
        clear k0 k1 k2 N5 P5 p1 y1 y2 y3 y4 y5 y6 y7 y8 ha
        go_wp2_with fail
        go_roundg (T + 1 - (a + n))
        case measure => exact hms.out
        case rel => exact ⟨a + n, F4, ha2, by go_num, N6⟩
    · obtain ⟨hn1, hn2⟩ := pc_none s a k L (by have := hTb.out; have := ha.out; omega) (by have := hTb.out; have := ha.out; omega) (by omega)
      have AA : Hid (∀ _ : Unit, _) := fun _ => AN.out wr B F a N.out
      rw [hn1, hn2] at AA
      have v1 : nxtV (tx s a 1 3 L) none = .tuple #[.agg #[.int .i64 0, .string ⟨#[]⟩, .bool false], .bool false] := rfl
      rw [v1] at AA
      have y1 : ((a : Int) == (T : Int)) = true := by have := ha.out; simp; omega
      have y2 : a = T := by have := ha.out; omega
      clear hn1 hn2 v1 AN
      go_wp2_with fail
      refine (AA.out ()).mono ?_
      rintro e w4 ⟨rfl, F4, ⟨n4, -⟩, -, -⟩
      have bel := Lib.hid (n4.bel.trans (((Below.refl w4.heap.size w4).alloc (Nat.le_refl _) (.cells #[.int .i64 0, .string ⟨#[]⟩, .bool false] 33)).mono n4.bel.size))
      clear n4 N AA hlt
      replace y2 := Lib.hid y2
      go_wp2_with fail
      go_ret
      exact ⟨rfl, bel.out⟩
theorem pieces_walk {LS : OSt} (fc : OuFace LS) (t : ByteArray) (m limit : Int) (w : World) (hm : t.size ≤ 140737488351232) (hlim : In64 limit) : Calls Try.prog 5 #[.string t, .int .i64 m, .int .i64 limit] w fun e w' => e = .returned (.bool true) ∧ Below w.heap.size w w' := by
  by_cases h : t.size ≤ 6000
  · exact pieces_s fc t m limit w h hlim
  · exact pieces_l fc t m limit w (by omega) hm hlim
end Go.Proofs.Ytdmoaeegjjenmaa
