/-
  What grow and lose make of the window, the threshold and the mark. No condition but what always holds of a ledger; the packets that are lost rise.
-/
import Derived.Test.YtfjampommgkfeaaLpBase
namespace Go.Proofs.Ytfjampommgkfeaa
set_option maxRecDepth 100000
open Go.RowKit Go.Sort

set_option maxHeartbeats 4000000 in
theorem grow_ok (B : Nat) (sv : Value) (d : Ld) (s : Int) (w : World) (h : Lies w B (lgc sv d)) (hs : 1 ≤ s ∧ s ≤ 1200) (hw : 2400 ≤ d.win ∧ d.win ≤ 1073741824) :
    Calls Try.prog 27 #[ptr B, .int .i64 s] w fun e w' => e = .returned (.tuple #[]) ∧ Lies w' B (lgc sv { d with win := grow d.win d.thr s }) ∧ Kept (fun k => k = B) w w' := by
  have c2 := h.cell 2 (v := .int .i64 d.win) rfl
  have c3 := h.cell 3 (v := .int .i64 d.thr) rfl
  have hD : Lies w.drew B (lgc sv d) := h.of_block rfl
  have KD : Kept (fun k => k = B) w w.drew := Kept.drew (Kept.refl _ _)
  have e2 := hD.cell 2 (v := .int .i64 d.win) rfl
  have f2 := hD.free 2 (by show 2 < 6; decide)
  have fin : Hid (∀ X, X = grow d.win d.thr s → Lies (w.drew.setCell ⟨B, 2, none⟩ (.int .i64 X)) B (lgc sv { d with win := grow d.win d.thr s }) ∧ Kept (fun k => k = B) w (w.drew.setCell ⟨B, 2, none⟩ (.int .i64 X))) := fun X e => ⟨by rw [e]; exact hD.put 2 (by show 2 < 6; decide) _, keptR0 _ B 2 _ KD⟩
  by_cases q : d.thr ≤ d.win
  · have g1 : decide (d.thr ≤ d.win) = true := decide_eq_true q
    obtain ⟨X, hX⟩ : ∃ X, X = d.win + 1200 * s / d.win := ⟨_, rfl⟩
    have dv : 0 ≤ 1200 * s / d.win ∧ 1200 * s / d.win ≤ 1200 * s := ⟨Int.ediv_nonneg (by omega) (by omega), Int.ediv_le_self _ (by omega)⟩
    have sum : wrap64 (d.win + wrap64 ((1200 * s).tdiv d.win)) = X := by
      rw [Int.tdiv_eq_ediv_of_nonneg (by omega)]
      have e2 : wrap64 (1200 * s / d.win) = 1200 * s / d.win := by unfold wrap64; omega
      rw [e2, hX]
      unfold wrap64
      omega
    have gX : grow d.win d.thr s = min X 1073741824 := by unfold grow; rw [if_neg (by omega), hX]
    have nz : ¬ d.win = 0 := by omega
    have hwin : Hid _ := hw
    clear hX dv hw q h hD KD
    generalize d.thr = thr at *
    generalize d.win = win at *
    by_cases m : X ≤ 1073741824
    · have m1 : decide (X ≤ 1073741824) = true := decide_eq_true m
      have FF : Hid _ := fin.out X (by rw [gX]; omega)
      clear fin gX
      go_enter Try.func27, Try.ntmps27
      go_wp2
      go_region
      generalize w.drew = w1 at *
      go_wp2
      go_end0
      exact ⟨rfl, FF.out⟩
    · have m1 : decide (X ≤ 1073741824) = false := decide_eq_false m
      have FF : Hid _ := fin.out 1073741824 (by rw [gX]; omega)
      clear fin gX
      go_enter Try.func27, Try.ntmps27
      go_wp2
      go_region
      generalize w.drew = w1 at *
      go_wp2
      go_end0
      exact ⟨rfl, FF.out⟩
  · have g1 : decide (d.thr ≤ d.win) = false := decide_eq_false q
    obtain ⟨X, hX⟩ : ∃ X, X = d.win + s := ⟨_, rfl⟩
    have sum : wrap64 (d.win + s) = X := by unfold wrap64; omega
    have gX : grow d.win d.thr s = min X 1073741824 := by unfold grow; rw [if_pos (by omega), hX]
    clear hX hw q h hD KD
    generalize d.thr = thr at *
    generalize d.win = win at *
    by_cases m : X ≤ 1073741824
    · have m1 : decide (X ≤ 1073741824) = true := decide_eq_true m
      have FF : Hid _ := fin.out X (by rw [gX]; omega)
      clear fin gX
      go_enter Try.func27, Try.ntmps27
      go_wp2
      go_region
      generalize w.drew = w1 at *
      go_wp2
      go_end0
      exact ⟨rfl, FF.out⟩
    · have m1 : decide (X ≤ 1073741824) = false := decide_eq_false m
      have FF : Hid _ := fin.out 1073741824 (by rw [gX]; omega)
      clear fin gX
      go_enter Try.func27, Try.ntmps27
      go_wp2
      go_region
      generalize w.drew = w1 at *
      go_wp2
      go_end0
      exact ⟨rfl, FF.out⟩
theorem last_any (l : List Pk) (m : Int) (hr : l.Pairwise fun a b => a.1 < b.1) (hn : 0 < l.length) : (nosP l).any (fun n => decide (m < n)) = decide (m < (l.getD (l.length - 1) (0, 0, 0)).1) := by
  have e : l.getD (l.length - 1) (0, 0, 0) = l[l.length - 1] := by simp [List.getD, List.getElem?_eq_getElem (show l.length - 1 < l.length by omega)]
  rw [e]
  by_cases q : m < (l[l.length - 1]).1
  · rw [decide_eq_true q, List.any_eq_true]
    exact ⟨_, List.mem_map.2 ⟨l[l.length - 1], List.getElem_mem (by omega), rfl⟩, by simpa using q⟩
  · rw [decide_eq_false q, List.any_eq_false]
    intro x hx
    obtain ⟨p, hp, rfl⟩ := List.mem_map.1 hx
    obtain ⟨i, hi, e⟩ := List.getElem_of_mem hp
    by_cases j : i = l.length - 1
    · subst j
      rw [← e]
      simpa using q
    · have := List.pairwise_iff_getElem.1 hr i (l.length - 1) hi (by omega) (by omega)
      rw [e] at this
      simp
      omega
set_option maxHeartbeats 4000000 in
theorem lose_ok (B : Nat) (sv : Value) (d : Ld) (l : List Pk) (v : Value) (w : World) (h : Lies w B (lgc sv d)) (hv : PkAt w v l) (hr : l.Pairwise fun a b => a.1 < b.1) (hl : l.length < 1099511627776) (hw : 2400 ≤ d.win ∧ d.win ≤ 1073741824) :
    Calls Try.prog 29 #[ptr B, v] w fun e w' => e = .returned (.tuple #[]) ∧ Lies w' B (lgc sv (lose d (nosP l))) ∧ Kept (fun k => k = B) w w' := by
  obtain ⟨q, hq⟩ : ∃ q, wrap64 (d.win.tdiv 2) = q := ⟨_, rfl⟩
  have hq2 : d.win / 2 = q := by rw [← hq, Int.tdiv_eq_ediv_of_nonneg (by omega)]; unfold wrap64; omega
  obtain ⟨m0, hm0⟩ : ∃ m0, max 2400 (d.win / 2) = m0 := ⟨_, rfl⟩
  have hmx : (2400 ≤ q → q = m0) ∧ (¬ 2400 ≤ q → 2400 = m0) := by rw [← hm0]; omega
  replace hmx : Hid _ := hmx
  replace hq2 : Hid _ := hq2
  have eL : lose d (nosP l) = if (nosP l).any (fun n => decide (d.mark < n)) = true then { d with thr := m0, win := m0, mark := d.top } else d := by unfold lose; rw [hm0]
  have hD : ∀ n, Lies (w.drewN n) B (lgc sv d) := fun n => h.of_block rfl
  have KD : ∀ n, Kept (fun k => k = B) w (w.drewN n) := fun n => ⟨rfl, rfl, rfl, Nat.le_refl _, fun _ _ _ => rfl⟩
  have c4 := h.cell 4 (v := .int .i64 d.mark) rfl
  obtain ⟨a, cap, rfl, hc⟩ := hv
  clear hm0 hw h
  by_cases hn : 0 < l.length
  · rw [last_any l d.mark hr hn] at eL
    rcases hc with rfl | ⟨g, po, rfl, hc⟩
    · simp at hn
    · obtain ⟨y, -, -⟩ := hc (l.length - 1) (by omega)
      have ia := fun w' => at_ppk g po l.length cap (l.length - 1) w' (by omega) ((l.length - 1 : Nat) : Int) rfl (po + 3 * (l.length - 1)) rfl
      have eN : ((l.length - 1 : Nat) : Int) = (l.length : Int) - 1 := by omega
      rw [eN] at ia
      have g0 : ((l.length : Int) == 0) = false := by rw [beq_eq_false_iff_ne]; omega
      generalize (l.getD (l.length - 1) (0, 0, 0)).1 = x at *
      clear hc hr eN
      generalize po + 3 * (l.length - 1) = po2 at *
      generalize hL : l.length = M at *
      replace hL : Hid _ := hL
      by_cases hx : d.mark < x
      · have g2 : decide (x ≤ d.mark) = false := decide_eq_false (by omega)
        rw [decide_eq_true hx, if_pos rfl] at eL
        replace eL : Hid _ := eL
        clear hx
        replace hD : Hid _ := hD
        replace KD : Hid _ := KD
        go_enter Try.func29, Try.ntmps29
        go_wp2
        go_quiet (fail)
        replace hD : Hid _ := hD.out nq
        replace KD : Hid _ := KD.out nq
        generalize w.drewN nq = w2 at *
        have d1 := hD.out.cell 1 (v := .int .i64 d.top) rfl
        have d2 := hD.out.cell 2 (v := .int .i64 d.win) rfl
        have d3 := hD.out.cell 3 (v := .int .i64 d.thr) rfl
        have f3 := hD.out.free 3 (by show 3 < 6; decide)
        have K1 := hD.out.put 3 (by show 3 < 6; decide) (.int .i64 m0)
        have f2 := hD.out.free 2 (by show 2 < 6; decide)
        have K2 := K1.put 2 (by show 2 < 6; decide) (.int .i64 m0)
        have d4 := hD.out.cell 4 (v := .int .i64 d.mark) rfl
        have f4 := hD.out.free 4 (by show 4 < 6; decide)
        have L3 : Hid (Lies (((w2.setCell ⟨B, 3, none⟩ (.int .i64 m0)).setCell ⟨B, 2, none⟩ (.int .i64 m0)).setCell ⟨B, 4, none⟩ (.int .i64 d.top)) B (lgc sv (lose d (nosP l)))) := by
          rw [Hid, eL.out]
          exact K2.put 4 (by show 4 < 6; decide) (.int .i64 d.top)
        have K3 : Hid (Kept (fun k => k = B) w (((w2.setCell ⟨B, 3, none⟩ (.int .i64 m0)).setCell ⟨B, 2, none⟩ (.int .i64 m0)).setCell ⟨B, 4, none⟩ (.int .i64 d.top))) := keptR0 _ B 4 _ (keptR0 _ B 2 _ (keptR0 _ B 3 _ KD.out))
        clear K1 K2 hD KD eL
        by_cases hm : 2400 ≤ q
        · obtain rfl := hmx.out.1 hm
          have gm : decide ((2400 : Int) ≤ q) = true := decide_eq_true hm
          clear hmx hq2
          go_wp2
          go_end0
          exact ⟨rfl, L3.out, K3.out⟩
        · obtain rfl := hmx.out.2 (by omega)
          have gm : decide ((2400 : Int) ≤ q) = false := decide_eq_false hm
          clear hmx hq2
          go_wp2
          go_end0
          exact ⟨rfl, L3.out, K3.out⟩
      · have g2 : decide (x ≤ d.mark) = true := decide_eq_true (by omega)
        rw [decide_eq_false hx, if_neg (by decide)] at eL
        have L1 : Hid (∀ n, Lies (w.drewN n) B (lgc sv (lose d (nosP l)))) := by rw [Hid, eL]; exact hD
        replace KD : Hid _ := KD
        clear eL hD hx
        go_enter Try.func29, Try.ntmps29
        go_wp2
        go_quiet (fail)
        go_wp2
        exact bodyPost_ret (v := .tuple #[]) (by simp [results, Try.results29]) rfl ⟨rfl, L1.out _, KD.out _⟩
  · have e : l = [] := List.eq_nil_of_length_eq_zero (by omega)
    subst e
    rw [show (nosP []).any (fun n => decide (d.mark < n)) = false from rfl, if_neg (by decide)] at eL
    have L1 : Hid (∀ n, Lies (w.drewN n) B (lgc sv (lose d (nosP [])))) := by rw [Hid, eL]; exact hD
    replace KD : Hid _ := KD
    clear eL hD hc hr
    go_enter Try.func29, Try.ntmps29
    go_wp2
    go_quiet (fail)
    go_wp2
    exact bodyPost_ret (v := .tuple #[]) (by simp [results, Try.results29]) rfl ⟨rfl, L1.out _, KD.out _⟩
end Go.Proofs.Ytfjampommgkfeaa
