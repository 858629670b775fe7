/-
  What the document's own lose and Sent of a ledger do. Fewer than 2^40 packets; no other condition but what always holds of a ledger.
-/
import Derived.Test.YtfjampommgkfeaaLgRefB
namespace Go.Proofs.Ytfjampommgkfeaa
set_option maxRecDepth 100000
open Go.RowKit Go.Sort

theorem keptR0 (w : World) (R j : Nat) (v : Value) {w0 : World} (h : Kept (fun k => k = R) w0 w) : Kept (fun k => k = R) w0 (w.setCell ⟨R, j, none⟩ v) := Kept.set (F := fun k => k = R) h ⟨R, j, none⟩ rfl v
/-- Numbers as a slice tells them. -/
def I64At (w : World) (v : Value) (xs : List Int) : Prop :=
  ∃ a cap, v = .slice a xs.length cap ∧ (xs = [] ∨ ∃ g o, a = some ⟨g, o, none⟩ ∧ ∀ k, k < xs.length → w.cell? ⟨g, o + k, none⟩ = some (.int .i64 (xs.getD k 0)))
theorem I64At.keep {w w' : World} {v : Value} {xs : List Int} (h : I64At w v xs) (b : Below w.heap.size w w') : I64At w' v xs := by
  obtain ⟨a, cap, rfl, hc⟩ := h
  refine ⟨a, cap, rfl, ?_⟩
  rcases hc with h | ⟨g, o, rfl, hc⟩
  · exact .inl h
  · exact .inr ⟨g, o, rfl, fun k hk => (b.cell (World.block_lt_of_cell? w _ (hc k hk))).trans (hc k hk)⟩
theorem at_n64 (B o N cap i : Nat) (w : World) (h : i < N) (z : Int) (hz : z = i) (p : Nat) (hp : p = o + i) :
    (Instr.indexAt 32 (.slice (some ⟨B, o, none⟩) N cap) (.int .i64 z)).run Try.prog w = .ok (.pointer (some ⟨B, p, none⟩)) w := by
  subst hz hp
  have e : Try.prog.elem 32 = 2 := by kernel_rfl
  rw [run_indexAt_slice (P := Try.prog) w 32 ⟨B, o, none⟩ N cap .i64 i (by rw [e]; exact Try.underlying32), if_pos (by omega), e]
  have s : (sizeOf 2).run Try.prog w = .ok 1 w := Try.sizeOf2 w
  rw [s]
  simp [Addr.add_mid]
theorem any_take (xs : List Int) (m : Int) (k : Nat) (h : k < xs.length) (h0 : (xs.take k).any (fun n => decide (m < n)) = false) (h1 : ¬ m < xs.getD k 0) : (xs.take (k + 1)).any (fun n => decide (m < n)) = false := by
  rw [List.take_succ_eq_append_getElem h, List.any_append, h0]
  simp [List.getD, List.getElem?_eq_getElem h] at h1
  simp [h1]
theorem any_at (xs : List Int) (m : Int) (k : Nat) (h : k < xs.length) (h1 : m < xs.getD k 0) : xs.any (fun n => decide (m < n)) = true :=
  List.any_eq_true.2 ⟨xs.getD k 0, by simp [List.getD, List.getElem?_eq_getElem h], by simpa using h1⟩
set_option maxHeartbeats 4000000 in
theorem rlose_ok (R : Nat) (sv : Value) (d : Ld) (xs : List Int) (v : Value) (w : World) (h : Lies w R (lgc sv d)) (hv : I64At w v xs) (hl : xs.length < 1099511627776) (hw : 2400 ≤ d.win ∧ d.win ≤ 1073741824) :
    Calls Try.prog 33 #[.pointer (some ⟨R, 0, none⟩), v] w fun e w' => e = .returned (.tuple #[]) ∧ Lies w' R (lgc sv (lose d xs)) ∧ Kept (fun k => k = R) w w' := by
  obtain ⟨q, hq⟩ : ∃ q, wrap64 (d.win.tdiv 2) = q := ⟨_, rfl⟩
  have hq2 : d.win / 2 = q := by rw [← hq, Int.tdiv_eq_ediv_of_nonneg (by omega)]; unfold wrap64; omega
  obtain ⟨m0, hm0⟩ : ∃ m0, max 2400 (d.win / 2) = m0 := ⟨_, rfl⟩
  have hmx : (2400 < q → q = m0) ∧ (¬ 2400 < q → 2400 = m0) := by rw [← hm0]; omega
  replace hmx : Hid _ := hmx
  replace hq2 : Hid _ := hq2
  have eL : lose d xs = if xs.any (fun n => decide (d.mark < n)) = true then { d with thr := m0, win := m0, mark := d.top } else d := by unfold lose; rw [hm0]
  replace h : Hid _ := h
  replace eL : Hid _ := eL
  obtain ⟨a, cap, rfl, hc⟩ := hv
  replace hc : Hid _ := hc
  clear hm0 hw
  go_enter Try.func33, Try.ntmps33
  go_wp2
  go_loopg [4] xs.length (fun g' iv wr => ∃ k : Nat, k + g' = xs.length ∧ iv = .int .i64 k ∧ Hid ((xs.take k).any (fun n => decide (d.mark < n)) = false) ∧ Hid (Below w.heap.size w wr))
  case atStart => exact ⟨0, by omega, rfl, rfl, Below.refl _ _⟩
  case round =>
    obtain ⟨k, hk, rfl, hno, bel⟩ := hrel
    have hL := h.out.keep (by show 0 < 6; decide) bel.out
    by_cases hlt : k < xs.length
    · have g1 : decide ((k : Int) < (xs.length : Int)) = true := decide_eq_true (by omega)
      rcases hc.out with hc0 | ⟨g, o, rfl, hc1⟩
      · rw [hc0] at hlt; simp at hlt
      · have y := hc1 k hlt
        replace y := (bel.out.cell (World.block_lt_of_cell? w _ y)).trans y
        have ia := fun w' => at_n64 g o xs.length cap k w' hlt (k : Int) rfl (o + k) rfl
        have hyes := any_at xs d.mark k hlt
        have hnot := any_take xs d.mark k hlt hno.out
        generalize xs.getD k 0 = x at *
        have c4 := hL.cell 4 (v := .int .i64 d.mark) rfl
        clear hc1 hno
        by_cases hx : d.mark < x
        · have g2 : decide (d.mark < x) = true := decide_eq_true hx
          have eE : lose d xs = { d with thr := m0, win := m0, mark := d.top } := by rw [eL.out, if_pos (hyes hx)]
          have hD : Lies wr.drew R (lgc sv d) := hL.of_block rfl
          have KD : Kept (fun k => k = R) w wr.drew := Kept.drew (Kept.of _ bel.out)
          replace hD : Hid _ := hD
          replace KD : Hid _ := KD
          replace eE : Hid _ := eE
          clear hyes hnot hx eL hL h bel
          go_wp2
          go_region
          generalize wr.drew = w2 at *
          clear c4 y ia
          have d1 := hD.out.cell 1 (v := .int .i64 d.top) rfl
          have d2 := hD.out.cell 2 (v := .int .i64 d.win) rfl
          have d3 := hD.out.cell 3 (v := .int .i64 d.thr) rfl
          have f3 := hD.out.free 3 (by show 3 < 6; decide)
          have L1 := hD.out.put 3 (by show 3 < 6; decide) (.int .i64 m0)
          have f2 := hD.out.free 2 (by show 2 < 6; decide)
          have L2 := L1.put 2 (by show 2 < 6; decide) (.int .i64 m0)
          have d4 := hD.out.cell 4 (v := .int .i64 d.mark) rfl
          have f4 := hD.out.free 4 (by show 4 < 6; decide)
          have L3 : Hid (Lies (((w2.setCell ⟨R, 3, none⟩ (.int .i64 m0)).setCell ⟨R, 2, none⟩ (.int .i64 m0)).setCell ⟨R, 4, none⟩ (.int .i64 d.top)) R (lgc sv (lose d xs))) := by
            rw [Hid, eE.out]
            exact L2.put 4 (by show 4 < 6; decide) (.int .i64 d.top)
          have K3 : Hid (Kept (fun k => k = R) w (((w2.setCell ⟨R, 3, none⟩ (.int .i64 m0)).setCell ⟨R, 2, none⟩ (.int .i64 m0)).setCell ⟨R, 4, none⟩ (.int .i64 d.top))) := keptR0 _ R 4 _ (keptR0 _ R 2 _ (keptR0 _ R 3 _ KD.out))
          clear L1 L2 hD KD eE
          by_cases hm : 2400 < q
          · obtain rfl := hmx.out.1 hm
            have gm : decide ((2400 : Int) < q) = true := decide_eq_true hm
            clear hmx hq2
            go_wp2
            exact bodyPost_ret (v := .tuple #[]) (by simp [results, Try.results33]) rfl ⟨rfl, L3.out, K3.out⟩
          · obtain rfl := hmx.out.2 (by omega)
            have gm : decide ((2400 : Int) < q) = false := decide_eq_false hm
            clear hmx hq2
            go_wp2
            exact bodyPost_ret (v := .tuple #[]) (by simp [results, Try.results33]) rfl ⟨rfl, L3.out, K3.out⟩
        · have g2 : decide (d.mark < x) = false := decide_eq_false hx
          have hno2 : Hid _ := hnot hx
          have bel2 : Hid (Below w.heap.size w wr.drew) := bel.out.trans (drewB _ _)
          clear hyes hnot hx hL
          go_wp2
          go_region
          go_wp2
          go_roundg (xs.length - (k + 1))
          case measure => omega
          case rel => exact ⟨k + 1, by omega, by go_num, hno2, bel2⟩
    · have g1 : decide ((k : Int) < (xs.length : Int)) = false := decide_eq_false (by omega)
      obtain rfl : k = xs.length := by omega
      have eE : lose d xs = d := by
        have := hno.out
        rw [List.take_length] at this
        rw [eL.out, if_neg (by rw [this]; simp)]
      replace hL : Hid (Lies wr R (lgc sv (lose d xs))) := by rw [Hid, eE]; exact hL
      have K : Hid (Kept (fun k => k = R) w wr) := Kept.of _ bel.out
      clear hno eL eE hk
      go_wp2
      go_end0
      exact ⟨rfl, hL.out, K.out⟩
set_option maxHeartbeats 1000000 in
theorem rsent_no (R : Nat) (o : Option Nat) (d : Ld) (n now size : Int) (w : World) (h : RB w R o d) (he : sentE d n size ≠ 0) :
    Calls Try.prog 11 #[.pointer (some ⟨R, 0, none⟩), .int .i64 n, .int .i64 now, .int .i64 size] w fun e w' => e = .returned (.int .i64 2) ∧ w = w' := by
  obtain ⟨sv, h1, -, -⟩ := h
  have c1 := h1.cell 1 (v := .int .i64 d.top) rfl
  have hx : n < 0 ∨ 4611686018427387903 < n ∨ n ≤ d.top ∨ size < 1 ∨ 1200 < size := by
    unfold sentE at he
    split at he
    · assumption
    · exact absurd rfl he
  clear h1 he
  by_cases x1 : n < 0
  · have g1 : decide (n < 0) = true := decide_eq_true x1
    clear hx
    go_enter Try.func11, Try.ntmps11
    go_wp2
    go_ret
    exact ⟨rfl, rfl⟩
  · have g1 : decide (n < 0) = false := decide_eq_false x1
    by_cases x2 : 4611686018427387903 < n
    · have g2 : decide (4611686018427387903 < n) = true := decide_eq_true x2
      clear hx
      go_enter Try.func11, Try.ntmps11
      go_wp2
      go_ret
      exact ⟨rfl, rfl⟩
    · have g2 : decide (4611686018427387903 < n) = false := decide_eq_false x2
      by_cases x3 : n ≤ d.top
      · have g3 : decide (n ≤ d.top) = true := decide_eq_true x3
        clear hx
        go_enter Try.func11, Try.ntmps11
        go_wp2
        go_ret
        exact ⟨rfl, rfl⟩
      · have g3 : decide (n ≤ d.top) = false := decide_eq_false x3
        by_cases x4 : size < 1
        · have g4 : decide (size < 1) = true := decide_eq_true x4
          clear hx
          go_enter Try.func11, Try.ntmps11
          go_wp2
          go_ret
          exact ⟨rfl, rfl⟩
        · have g4 : decide (size < 1) = false := decide_eq_false x4
          have g5 : decide (1200 < size) = true := decide_eq_true (by omega)
          clear hx
          go_enter Try.func11, Try.ntmps11
          go_wp2
          go_ret
          exact ⟨rfl, rfl⟩
set_option maxHeartbeats 1000000 in
theorem rsent_yes (R : Nat) (o : Option Nat) (d : Ld) (n now size : Int) (w : World) (h : RB w R o d) (hl : d.l.length < 1099511627776) (hne : o ≠ some R) (he : sentE d n size = 0) :
    Calls Try.prog 11 #[.pointer (some ⟨R, 0, none⟩), .int .i64 n, .int .i64 now, .int .i64 size] w fun e w' => e = .returned (.int .i64 0) ∧ ∃ o', RB w' R o' (sent d n now size) ∧ (∀ k, o' = some k → o = some k ∨ w.heap.size ≤ k) ∧ Kept (fun k => k = R ∨ o = some k) w w' := by
  obtain ⟨i0, hi0, hz0, hz1, hz2⟩ := info_rpk
  obtain ⟨x1, x2, x3, x4, x5⟩ := sentE_zero.1 he
  have es : sent d n now size = { d with l := d.l ++ [(n, now, size)], top := n } := by unfold sent; rw [if_pos he]
  rw [es]
  have g1 : decide (n < 0) = false := decide_eq_false (by omega)
  have g2 : decide (4611686018427387903 < n) = false := decide_eq_false (by omega)
  have g3 : decide (n ≤ d.top) = false := decide_eq_false (by omega)
  have g4 : decide (size < 1) = false := decide_eq_false (by omega)
  have g5 : decide (1200 < size) = false := decide_eq_false (by omega)
  obtain ⟨sv, h1, h2, h3⟩ := h
  have c0 := h1.cell 0 (v := sv) rfl
  have c1 := h1.cell 1 (v := .int .i64 d.top) rfl
  have hR : R < w.heap.size := h1.lt (by show 0 < 6; decide)
  have al : Below w.heap.size w (w.alloc (.cells #[.int .i64 n, .int .i64 now, .int .i64 size] 60)) := (Below.refl _ _).alloc (Nat.le_refl _) _
  have o4 : Hid ((w.alloc (.cells #[.int .i64 n, .int .i64 now, .int .i64 size] 60)).ownsRow 0 60 3 sv d.l.length (pks d.l)) := row_block h2 fun k hk => al.block k (h2.lt k hk).2
  have hnews : Hid (∀ j u, (pkc (n, now, size))[j]? = some u → (w.alloc (.cells #[.int .i64 n, .int .i64 now, .int .i64 size] 60)).cell? ((⟨w.heap.size, 0, none⟩ : Addr).add j) = some u) := fun j u hj => by
    rw [Addr.add_lit]
    exact (Lies.new w (pkc (n, now, size)) 60).r j u hj
  have LR : Lies (w.alloc (.cells #[.int .i64 n, .int .i64 now, .int .i64 size] 60)) R (lgc sv d) := h1.keep (by show 0 < 6; decide) al
  have KA : Kept (fun k => k = R ∨ o = some k) w (w.alloc (.cells #[.int .i64 n, .int .i64 now, .int .i64 size] 60)) := Kept.of _ al
  have fin : Hid (∀ v' w5, w5.ownsRow 0 60 3 v' (d.l.length + 1) (pks d.l ++ pkc (n, now, size)) → (w.alloc (.cells #[.int .i64 n, .int .i64 now, .int .i64 size] 60)).grownBy w5 sv.ownBlock → (v'.ownBlock = sv.ownBlock ∨ v'.ownBlock = some (w.alloc (.cells #[.int .i64 n, .int .i64 now, .int .i64 size] 60)).heap.size) → Lies w5 R (lgc sv d) ∧ v'.ownBlock ≠ some R ∧ Kept (fun k => k = R ∨ o = some k) w w5 ∧ (∀ k, v'.ownBlock = some k → o = some k ∨ w.heap.size ≤ k)) := fun v' w5 q1 q2 q3 => by
    have z : (w.alloc (.cells #[.int .i64 n, .int .i64 now, .int .i64 size] 60)).heap.size = w.heap.size + 1 := by simp
    refine ⟨LR.of_block (q2.block R (by omega) fun e => hne (h3 ▸ e.symm)), ?_, KA.grown q2 (fun k hk _ => .inr (h3 ▸ hk)), fun k hk => ?_⟩
    · rcases q3 with q | q
      · rw [q, h3]; exact hne
      · rw [q, z]; intro e; injection e with e; omega
    · rcases q3 with q | q
      · exact .inl (by rw [← h3, ← q, hk])
      · rw [q, z] at hk; injection hk with hk; exact .inr (by omega)
  obtain ⟨a, cap, rfl⟩ := rown_len h2
  clear h1 h2 al LR KA es
  go_enter Try.func11, Try.ntmps11
  go_wp2_with (at_builtin; refine wpList_append_own_at _ rfl _ _ 40 rfl 0 60 i0 (.agg #[.int .i64 0, .int .i64 0, .int .i64 0]) 3 24 Try.underlying40 hi0 hz0 hz1 hz2 rfl (by decide) (.slice a d.l.length cap) d.l.length (pks d.l) rfl o4.out ⟨w.heap.size, 0, none⟩ 1 1 (pkc (n, now, size)) rfl rfl hnews.out (pkc_one _) (by unfold maxLen; omega) (by omega) (Nat.zero_le _) ?_; intro v' w5 q1 q2 q3 q4; obtain ⟨R1, R2, R3, R4⟩ := fin.out v' w5 q1 q2 q4; clear q2 q3 q4 fin o4 hnews; obtain ⟨a', cap', rfl⟩ := rown_len q1; have e0 := R1.cell 0 (v := .slice a d.l.length cap) rfl; have e1 := R1.cell 1 (v := .int .i64 d.top) rfl; have f0 := R1.free 0 (by show 0 < 6; decide); have f1 := R1.free 1 (by show 1 < 6; decide); replace q1 : Hid _ := q1; replace R1 : Hid _ := R1; replace R2 : Hid _ := R2; replace R3 : Hid _ := R3; replace R4 : Hid _ := R4)
  go_ret
  refine ⟨rfl, (Value.slice a' (d.l.length + 1) cap').ownBlock, ⟨_, (R1.out.put 0 (by show 0 < 6; decide) (.slice a' (d.l.length + 1) cap')).put 1 (by show 1 < 6; decide) (.int .i64 n), ?_, rfl⟩, R4.out, ?_⟩
  · have := row_block (w' := (w5.setCell ⟨R, 0, none⟩ (.slice a' (d.l.length + 1) cap')).setCell ⟨R, 1, none⟩ (.int .i64 n)) q1.out fun k hk => (Below.heap_setCell _ _ _ _ (by intro e; subst e; exact R2.out hk)).trans (Below.heap_setCell _ _ _ _ (by intro e; subst e; exact R2.out hk))
    rw [show pks (d.l ++ [(n, now, size)]) = pks d.l ++ pkc (n, now, size) from pks_snoc _ _, List.length_append]
    exact this
  · exact Kept.set (F := fun k => k = R ∨ o = some k) (Kept.set (F := fun k => k = R ∨ o = some k) R3.out ⟨R, 0, none⟩ (.inl rfl) _) ⟨R, 1, none⟩ (.inl rfl) _
end Go.Proofs.Ytfjampommgkfeaa
