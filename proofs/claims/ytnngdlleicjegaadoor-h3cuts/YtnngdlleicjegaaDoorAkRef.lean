/-
  Ranges that lie in memory, and what the document's own Has, Same and Check answer of them. Fewer than 2^40 ranges where that is said; no other condition.
-/
import Derived.Test.YtnngdlleicjegaaDoorAkMath
import Derived.Test.YtnngdlleicjegaaDoorObCells
import Derived.Deep.LoopGhost
import Derived.Lib.QuietBelow
import Derived.BigQuiet
import Derived.RegionTactic
namespace Go.Proofs.YtnngdlleicjegaaDoor
set_option maxRecDepth 100000
open Go.RowKit Go.Sort

/-- The ranges l as a slice tells them. -/
def RgAt (w : World) (v : Value) (l : List Rg) : Prop :=
  ∃ a cap, v = .slice a l.length cap ∧ (l = [] ∨ ∃ g o, a = some ⟨g, o, none⟩ ∧ ∀ k, k < l.length → w.cell? ⟨g, o + 2 * k, none⟩ = some (.int .i64 (l.getD k (0, 0)).1) ∧ w.cell? ⟨g, o + 2 * k + 1, none⟩ = some (.int .i64 (l.getD k (0, 0)).2))
theorem at_rgs (B o N cap i : Nat) (w : World) (h : i < N) (z : Int) (hz : z = i) (p : Nat) (hp : p = o + 2 * i) :
    (Instr.indexAt 37 (.slice (some ⟨B, o, none⟩) N cap) (.int .i64 z)).run Tryd.prog w = .ok (.pointer (some ⟨B, p, none⟩)) w := by
  subst hz hp
  have e : Tryd.prog.elem 37 = 63 := by kernel_rfl
  rw [run_indexAt_slice (P := Tryd.prog) w 37 ⟨B, o, none⟩ N cap .i64 i (by rw [e]; exact Tryd.underlying37), if_pos (by omega), e]
  have s : (sizeOf 63).run Tryd.prog w = .ok 2 w := Tryd.sizeOf63 w
  rw [s]
  simp [Addr.add_mid, Nat.mul_comm]
theorem RgAt.keep {w w' : World} {v : Value} {l : List Rg} (h : RgAt w v l) (b : Below w.heap.size w w') : RgAt w' v l := by
  obtain ⟨a, cap, rfl, hc⟩ := h
  refine ⟨a, cap, rfl, ?_⟩
  rcases hc with h | ⟨g, o, rfl, hc⟩
  · exact .inl h
  · refine .inr ⟨g, o, rfl, fun k hk => ?_⟩
    obtain ⟨c1, c2⟩ := hc k hk
    exact ⟨(b.cell (World.block_lt_of_cell? w _ c1)).trans c1, (b.cell (World.block_lt_of_cell? w _ c2)).trans c2⟩
theorem same_take {l m : List Rg} (hl : l.length = m.length) (k : Nat) (hk : k < l.length) (h : l.take k = m.take k) (he : l.getD k (0, 0) = m.getD k (0, 0)) : l.take (k + 1) = m.take (k + 1) := by
  rw [List.take_succ_eq_append_getElem hk, List.take_succ_eq_append_getElem (by omega), h]
  simp [List.getD, List.getElem?_eq_getElem hk, List.getElem?_eq_getElem (show k < m.length by omega)] at he
  rw [he]
set_option maxHeartbeats 4000000 in
theorem rsame_ok (u v : Value) (l m : List Rg) (w : World) (hu : RgAt w u l) (hv : RgAt w v m) (hl : l.length < 9223372036854775807) (hm : m.length < 9223372036854775807) :
    Calls Tryd.prog 19 #[u, v] w fun e w' => e = .returned (.bool (decide (l = m))) ∧ Below w.heap.size w w' := by
  obtain ⟨a, cap, rfl, hc⟩ := hu
  obtain ⟨b, cap2, rfl, hd⟩ := hv
  by_cases hlen : l.length = m.length
  · obtain ⟨M, hM⟩ : ∃ M, M = l.length := ⟨_, rfl⟩
    rw [← hlen, ← hM]
    rw [← hM] at hl
    rcases hc with rfl | ⟨g, o, rfl, hc⟩
    · have em : m = [] := List.eq_nil_of_length_eq_zero (by simpa using hlen.symm)
      subst em
      have e : decide (([] : List Rg) = []) = true := rfl
      rw [e]
      obtain rfl : M = 0 := hM
      clear hd hlen hl hm e
      go_enter Tryd.func19, Tryd.ntmps19
      go_wp2
      go_rounds 1
      go_ret
      exact ⟨rfl, Below.refl _ _⟩
    · rcases hd with rfl | ⟨g2, o2, rfl, hd⟩
      · have el : l = [] := List.eq_nil_of_length_eq_zero (by simpa using hlen)
        subst el
        have e : decide (([] : List Rg) = []) = true := rfl
        rw [e]
        obtain rfl : M = 0 := hM
        clear hc hlen hl hm e
        go_enter Tryd.func19, Tryd.ntmps19
        go_wp2
        go_rounds 1
        go_ret
        exact ⟨rfl, Below.refl _ _⟩
      · replace hc : Hid _ := hc
        replace hd : Hid _ := hd
        rw [← hM] at hc
        rw [← hlen, ← hM] at hd
        obtain ⟨A, hA⟩ : ∃ A, A = decide (l = m) := ⟨_, rfl⟩
        rw [← hA]
        replace hA : Hid _ := hA
        replace hM : Hid _ := hM
        replace hlen : Hid _ := hlen
        clear hm
        go_enter Tryd.func19, Tryd.ntmps19
        go_wp2
        go_loopg [5] M (fun g iv wr => ∃ k : Nat, k + g = M ∧ iv = .int .i64 k ∧ Hid (l.take k = m.take k) ∧ Hid (Below w.heap.size w wr))
        case atStart => exact ⟨0, by omega, rfl, by unfold Hid; rfl, Below.refl _ _⟩
        case round =>
          obtain ⟨k, hk, rfl, heq, bel⟩ := hrel
          by_cases hlt : k < M
          · have g1 : decide ((k : Int) < (M : Int)) = true := decide_eq_true (by omega)
            obtain ⟨c1, c2⟩ := hc.out k hlt
            obtain ⟨d1, d2⟩ := hd.out k hlt
            have b1 := (bel.out.cell (World.block_lt_of_cell? w _ c1)).trans c1
            have b2 := (bel.out.cell (World.block_lt_of_cell? w _ c2)).trans c2
            have b3 := (bel.out.cell (World.block_lt_of_cell? w _ d1)).trans d1
            have b4 := (bel.out.cell (World.block_lt_of_cell? w _ d2)).trans d2
            have ia := fun w' => at_rgs g o M cap k w' hlt (k : Int) rfl (o + 2 * k) rfl
            have ib := fun w' => at_rgs g2 o2 M cap2 k w' hlt (k : Int) rfl (o2 + 2 * k) rfl
            have hst := same_take hlen.out k (by have := hM.out; omega) heq.out
            have hne : l.getD k (0, 0) ≠ m.getD k (0, 0) → A = false := fun q => by
              rw [hA.out]
              exact decide_eq_false fun e => q (by rw [e])
            generalize l.getD k (0, 0) = p at *
            generalize m.getD k (0, 0) = q at *
            obtain ⟨x1, x2⟩ := p
            obtain ⟨y1, y2⟩ := q
            replace hst : Hid _ := hst
            replace hne : Hid _ := hne
            clear c1 c2 d1 d2 heq
            by_cases q1 : x1 = y1 ∧ x2 = y2
            · obtain ⟨rfl, rfl⟩ := q1
              have h2 : Hid (l.take (k + 1) = m.take (k + 1)) := hst.out rfl
              have Z2 : Hid (Below w.heap.size w wr.drew) := bel.out.trans (drewB _ _)
              clear hst hne bel
              go_wp2
              go_region
              go_wp2
              go_roundg (M - (k + 1))
              case measure => omega
              case rel => exact ⟨k + 1, by omega, by go_num, h2, Z2⟩
            · have eA : A = false := hne.out fun e => q1 (by injection e with e1 e2; exact ⟨e1, e2⟩)
              subst eA
              have Z2 : Hid (Below w.heap.size w wr.drew) := bel.out.trans (drewB _ _)
              clear hst hne bel hA
              by_cases r1 : x1 = y1
              · subst r1
                have r2 : ¬ x2 = y2 := fun e => q1 ⟨rfl, e⟩
                clear q1
                go_wp2
                go_region
                go_wp2
                go_ret
                exact ⟨rfl, Z2.out⟩
              · clear q1
                go_wp2
                go_region
                go_wp2
                go_ret
                exact ⟨rfl, Z2.out⟩
          · have g1 : decide ((k : Int) < (M : Int)) = false := decide_eq_false (by omega)
            obtain rfl : k = M := by omega
            have eA : A = true := by
              rw [hA.out]
              refine decide_eq_true ?_
              have := heq.out
              rwa [hM.out, List.take_length, hlen.out, List.take_length] at this
            subst eA
            clear hA heq hc hd
            go_wp2
            go_ret
            exact ⟨rfl, bel.out⟩
  · have e : decide (l = m) = false := decide_eq_false fun e => hlen (by rw [e])
    rw [e]
    have g1 : ((l.length : Int) != (m.length : Int)) = true := by simp; omega
    clear e hc hd
    generalize l.length = M at *
    generalize m.length = M2 at *
    go_enter Tryd.func19, Tryd.ntmps19
    go_wp2
    go_ret
    exact ⟨rfl, Below.refl _ _⟩
end Go.Proofs.YtnngdlleicjegaaDoor
