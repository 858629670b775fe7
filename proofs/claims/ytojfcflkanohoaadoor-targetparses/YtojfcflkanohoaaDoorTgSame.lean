/-
  What the document's own Same answers of fields. No condition.
-/
import Derived.Test.YtojfcflkanohoaaDoorTgGet
namespace Go.Proofs.YtojfcflkanohoaaDoor
set_option maxRecDepth 100000
open Go.RowKit Go.Sort

theorem getD_eq {l m : List Fd} (h : l.length = m.length) (e : ∀ i, i < l.length → l.getD i nF = m.getD i nF) : l = m := by
  apply List.ext_getElem h
  intro i h1 h2
  have := e i h1
  simpa [List.getD, List.getElem?_eq_getElem h1, List.getElem?_eq_getElem h2] using this
set_option maxHeartbeats 4000000 in
theorem rsame14_ok (l m : List Fd) (v u : Value) (w : World) (h : FdsAt w v l) (g : FdsAt w u m) (hl : l.length ≤ maxLen) (hm : m.length ≤ maxLen) : Calls Tryd.prog 10 #[v, u] w fun e w' => e = .returned (.bool (decide (l = m))) ∧ Below w.heap.size w w' := by
  have H := Lib.hid h
  have G := Lib.hid g
  obtain ⟨a, c, rfl⟩ := h.slice
  obtain ⟨b, d, rfl⟩ := g.slice
  clear h g
  have hl2 : l.length ≤ 9223372036854775807 := by unfold maxLen at hl; omega
  have hm2 : m.length ≤ 9223372036854775807 := by unfold maxLen at hm; omega
  clear hl hm
  obtain ⟨x, hx⟩ : ∃ x, x = l.length := ⟨_, rfl⟩
  obtain ⟨y, hy⟩ : ∃ y, y = m.length := ⟨_, rfl⟩
  obtain ⟨E, hE⟩ : ∃ E, E = decide (l = m) := ⟨_, rfl⟩
  rw [← hE]
  replace hE := Lib.hid hE
  rw [← hx] at hl2
  rw [← hy] at hm2
  rw [← hx, ← hy]
  replace hx := Lib.hid hx
  replace hy := Lib.hid hy
  by_cases q : x = y
  · have z : ((x : Int) != (y : Int)) = false := by rw [bne_eq_false_iff_eq]; omega
    have q2 := Lib.hid q
    clear q
    go_enter Tryd.func10, Tryd.ntmps10
    go_wp2_with fail
    go_loopg [5] x (fun g' iv wr => ∃ k : Nat, Hid (k + g' = x) ∧ iv = .int .i64 k ∧ Hid (∀ i, i < k → l.getD i nF = m.getD i nF) ∧ Hid (Below w.heap.size w wr))
    case atStart => exact ⟨0, Lib.hid (by omega), rfl, fun i hi => by omega, Below.refl _ _⟩
    case round =>
      obtain ⟨k, hk, rfl, hs, bl⟩ := hrel
      have hk0 := hk.out
      by_cases hlt : k < x
      · have g1 : decide ((k : Int) < (x : Int)) = true := decide_eq_true (by omega)
        have g1' : decide (k < x) = true := decide_eq_true hlt
        obtain ⟨g1b, g1o, rfl, c1, c2⟩ := (H.out.keep bl.out).at (k := k) (by rw [← hx.out]; exact hlt)
        obtain ⟨g2b, g2o, rfl, d1, d2⟩ := (G.out.keep bl.out).at (k := k) (by rw [← hy.out, ← q2.out]; exact hlt)
        have ia := fun w' => at_fds g1b g1o x c k w' hlt (k : Int) rfl (g1o + 2 * k) rfl
        have ib := fun w' => at_fds g2b g2o y d k w' (by rw [← q2.out]; exact hlt) (k : Int) rfl (g2o + 2 * k) rfl
        have e1 := eq_strL (l.getD k nF).1 (m.getD k nF).1
        have e2 := eq_strL (l.getD k nF).2 (m.getD k nF).2
        have hms : Hid (x - (k + 1) < gk) := by unfold Hid; omega
        have hk1 : Hid (k + 1 + (x - (k + 1)) = x) := by unfold Hid; omega
        by_cases qe : l.getD k nF = m.getD k nF
        · have hs2 : Hid (∀ i, i < k + 1 → l.getD i nF = m.getD i nF) := fun i hi => by
            rcases Nat.lt_or_ge i k with r | r
            · exact hs.out i r
            · obtain rfl : i = k := by omega
              exact qe
          rw [← qe] at e1 e2 d1 d2
          generalize l.getD k nF = f at *
          obtain ⟨f1, f2⟩ := f
          simp only [decide_true] at e1 e2 c1 c2 d1 d2
          replace qe := Lib.hid qe
          clear hs hk hk0
          go_wp2_with fail
          go_quiet (fail)
          have B1 := Lib.hid (bl.out.trans (⟨rfl, rfl, rfl, Nat.le_refl _, fun _ _ => rfl⟩ : Below w.heap.size wr (wr.drewN nq)))
          generalize wr.drewN nq = w2 at *
          go_wp2_with fail
          go_roundg (x - (k + 1))
          case measure => exact hms.out
          case rel => exact ⟨k + 1, hk1, by go_num, hs2, B1⟩
        · have E0 : Hid (E = false) := hE.out.trans (decide_eq_false fun c => qe (by rw [c]))
          generalize l.getD k nF = f at *
          generalize m.getD k nF = h at *
          obtain ⟨f1, f2⟩ := f
          obtain ⟨h1, h2⟩ := h
          simp only at e1 e2 c1 c2 d1 d2
          clear hs hk hk0 hk1 hms
          by_cases r1 : f1 = h1
          · have r2 : ¬ f2 = h2 := fun c => qe (by rw [r1, c])
            rw [decide_eq_true r1] at e1
            rw [decide_eq_false r2] at e2
            replace r1 := Lib.hid r1
            replace r2 := Lib.hid r2
            replace qe := Lib.hid qe
            go_wp2_with fail
            go_quiet (fail)
            have B1 := Lib.hid (bl.out.trans (⟨rfl, rfl, rfl, Nat.le_refl _, fun _ _ => rfl⟩ : Below w.heap.size wr (wr.drewN nq)))
            generalize wr.drewN nq = w2 at *
            go_wp2_with fail
            go_ret
            exact ⟨by rw [E0.out]; rfl, B1.out⟩
          · rw [decide_eq_false r1] at e1
            replace r1 := Lib.hid r1
            replace qe := Lib.hid qe
            clear e2
            go_wp2_with fail
            go_quiet (fail)
            have B1 := Lib.hid (bl.out.trans (⟨rfl, rfl, rfl, Nat.le_refl _, fun _ _ => rfl⟩ : Below w.heap.size wr (wr.drewN nq)))
            generalize wr.drewN nq = w2 at *
            go_wp2_with fail
            go_ret
            exact ⟨by rw [E0.out]; rfl, B1.out⟩
      · have g1 : decide ((k : Int) < (x : Int)) = false := decide_eq_false (by omega)
        have g1' : decide (k < x) = false := decide_eq_false hlt
        have E0 : Hid (E = true) := hE.out.trans (decide_eq_true (getD_eq (by rw [← hx.out, ← hy.out]; exact q2.out) fun i hi => hs.out i (by rw [← hx.out] at hi; omega)))
        clear hs hk hk0
        go_wp2_with fail
        go_ret
        exact ⟨by rw [E0.out]; rfl, bl.out⟩
  · have z : ((x : Int) != (y : Int)) = true := by rw [bne_iff_ne]; omega
    have E0 : Hid (E = false) := hE.out.trans (decide_eq_false fun c => q (by rw [hx.out, hy.out, c]))
    go_enter Tryd.func10, Tryd.ntmps10
    go_wp2_with fail
    go_ret
    exact ⟨by rw [E0.out]; rfl, Below.refl _ _⟩
end Go.Proofs.YtojfcflkanohoaaDoor
