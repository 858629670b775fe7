/-
  What the laws' own test whether two rows of numbers are the same answers. Fewer than 2^40 numbers; no other condition.
-/
import Derived.Test.YtfjampommgkfeaaLgExp
namespace Go.Proofs.Ytfjampommgkfeaa
set_option maxRecDepth 100000
open Go.RowKit Go.Sort

theorem take_same {l m : List Int} (hl : l.length = m.length) (k : Nat) (hk : k < l.length) (h : l.take k = m.take k) (he : l.getD k 0 = m.getD k 0) : l.take (k + 1) = m.take (k + 1) := by
  rw [List.take_succ_eq_append_getElem hk, List.take_succ_eq_append_getElem (by omega), h]
  simp [List.getD, List.getElem?_eq_getElem hk, List.getElem?_eq_getElem (show k < m.length by omega)] at he
  rw [he]
set_option maxHeartbeats 4000000 in
theorem lsame_ok {w : World} {u v : Value} {l m : List Int} (hu : I64At w u l) (hv : I64At w v m) (hl : l.length < 1099511627776) :
    Calls Try.prog 14 #[u, v] w fun e w' => e = .returned (.bool (decide (l = m))) ∧ Below w.heap.size w w' := by
  obtain ⟨a, cap, rfl, hc⟩ := hu
  obtain ⟨b, cap2, rfl, hd⟩ := hv
  by_cases hlen : l.length = m.length
  · obtain ⟨M, hM⟩ : ∃ M, M = l.length := ⟨_, rfl⟩
    rw [← hlen, ← hM]
    rw [← hM] at hl
    replace hc : Hid _ := hc
    replace hd : Hid _ := hd
    obtain ⟨A, hA⟩ : ∃ A, A = decide (l = m) := ⟨_, rfl⟩
    rw [← hA]
    replace hA : Hid _ := hA
    replace hM : Hid _ := hM
    replace hlen : Hid _ := hlen
    go_enter Try.func14, Try.ntmps14
    go_wp2
    go_loopg [5] M (fun g iv wr => ∃ k : Nat, k + g = M ∧ iv = .int .i64 k ∧ Hid (l.take k = m.take k) ∧ Hid (Below w.heap.size w wr))
    case atStart => exact ⟨0, by omega, rfl, by unfold Hid; rfl, Below.refl _ _⟩
    case round =>
      obtain ⟨k, hk, rfl, heq, bel⟩ := hrel
      by_cases hlt : k < M
      · have g1 : decide ((k : Int) < (M : Int)) = true := decide_eq_true (by omega)
        have hkl : k < l.length := by have := hM.out; omega
        have hkm : k < m.length := by have := hlen.out; omega
        rcases hc.out with hc0 | ⟨g, o, rfl, hc1⟩
        · rw [hc0] at hkl; simp at hkl
        · rcases hd.out with hd0 | ⟨g2, o2, rfl, hd1⟩
          · rw [hd0] at hkm; simp at hkm
          · have y1 := hc1 k hkl
            have y2 := hd1 k hkm
            replace y1 := (bel.out.cell (World.block_lt_of_cell? w _ y1)).trans y1
            replace y2 := (bel.out.cell (World.block_lt_of_cell? w _ y2)).trans y2
            have ia := fun w' => at_n64 g o M cap k w' hlt (k : Int) rfl (o + k) rfl
            have ib := fun w' => at_n64 g2 o2 M cap2 k w' hlt (k : Int) rfl (o2 + k) rfl
            have hst := take_same hlen.out k hkl heq.out
            have hne : l.getD k 0 ≠ m.getD k 0 → A = false := fun q => by
              rw [hA.out]
              exact decide_eq_false fun e => q (by rw [e])
            have bel2 : Hid (Below w.heap.size w wr.drew) := bel.out.trans (drewB _ _)
            clear hc1 hd1 hkl hkm heq
            generalize l.getD k 0 = x at *
            generalize m.getD k 0 = y at *
            by_cases hxy : x = y
            · have h2 : Hid (l.take (k + 1) = m.take (k + 1)) := hst hxy
              subst hxy
              clear hst hne
              go_wp2
              go_region
              go_wp2
              go_roundg (M - (k + 1))
              case measure => omega
              case rel => exact ⟨k + 1, by omega, by go_num, h2, bel2⟩
            · have g2 : (x != y) = true := by simp [hxy]
              obtain rfl : A = false := hne hxy
              clear hst hne hA hxy
              go_wp2
              go_region
              go_wp2
              go_ret
              exact ⟨rfl, bel2.out⟩
      · have g1 : decide ((k : Int) < (M : Int)) = false := decide_eq_false (by omega)
        obtain rfl : k = M := by omega
        have eA : A = true := by
          rw [hA.out]
          refine decide_eq_true ?_
          have := heq.out
          rw [hM.out, List.take_length, hlen.out, List.take_length] at this
          exact this
        subst eA
        clear hA heq hc hd
        go_wp2
        go_ret
        exact ⟨rfl, bel.out⟩
  · have e : decide (l = m) = false := decide_eq_false fun e => hlen (by rw [e])
    rw [e]
    have g1 : ((l.length : Int) != (m.length : Int)) = true := by simp; omega
    clear hc hd e
    go_enter Try.func14, Try.ntmps14
    go_wp2
    go_ret
    exact ⟨rfl, Below.refl _ _⟩
end Go.Proofs.Ytfjampommgkfeaa
