/-
  What the document's own Right answers. No condition but the form's own reach.
-/
import Derived.Test.YtihkbakbciejiaaDoorCpAdr
import Derived.BigQuiet
import Derived.RegionTactic
import Derived.Deep.DeepCutAuto
namespace Go.Proofs.YtihkbakbciejiaaDoor
set_option maxRecDepth 100000
open Go.RowKit

theorem right_two : ∀ (a : List Ro) (y x : Ro), rightR (a ++ [y, x]) = (rightR (a ++ [y]) && behR y x && okR x)
  | [], y, x => by
    show (okR y && behR y x && okR x) = _
    rfl
  | [z], y, x => by
    show (okR z && behR z y && (okR y && behR y x && okR x)) = (okR z && behR z y && okR y && behR y x && okR x)
    simp only [Bool.and_assoc]
  | z :: u :: a, y, x => by
    have ih := right_two (u :: a) y x
    show (okR z && behR z u && rightR (u :: (a ++ [y, x]))) = (okR z && behR z u && rightR (u :: (a ++ [y])) && behR y x && okR x)
    have e : rightR (u :: (a ++ [y, x])) = (rightR (u :: (a ++ [y])) && behR y x && okR x) := ih
    rw [e]
    simp only [Bool.and_assoc]
def nR : Ro := ⟨0, 0, 0⟩
theorem right_first {l : List Ro} (h : 0 < l.length) : rightR (l.take 1) = okR (l.getD 0 nR) := by
  cases l with
  | nil => exact absurd h (Nat.lt_irrefl _)
  | cons x l => rfl
theorem right_next {l : List Ro} {i : Nat} (h : i + 1 < l.length) : rightR (l.take (i + 2)) = (rightR (l.take (i + 1)) && behR (l.getD i nR) (l.getD (i + 1) nR) && okR (l.getD (i + 1) nR)) := by
  have e1 : l.take (i + 1) = l.take i ++ [l.getD i nR] := by
    rw [List.take_add_one, List.getElem?_eq_getElem (by omega : i < l.length), List.getD, List.getElem?_eq_getElem (by omega : i < l.length)]
    rfl
  have e2 : l.take (i + 2) = l.take (i + 1) ++ [l.getD (i + 1) nR] := by
    rw [List.take_add_one, List.getElem?_eq_getElem h, List.getD, List.getElem?_eq_getElem h]
    rfl
  rw [e2, e1, List.append_assoc, List.cons_append, List.nil_append, right_two]
theorem right_not {l : List Ro} {i : Nat} (h : rightR (l.take i) = false) : rightR l = false := by
  cases q : rightR l with
  | false => rfl
  | true =>
    rw [← List.take_append_drop i l] at q
    rw [right_front q] at h
    cases h
/-- Routes in memory. -/
def RoAt (w : World) (v : Value) (l : List Ro) : Prop :=
  ∃ a cap, v = .slice a l.length cap ∧ ∀ k, k < l.length → ∃ g o, a = some ⟨g, o, none⟩ ∧ g < w.heap.size ∧ w.cell? ⟨g, o + 3 * k, none⟩ = some (.int .u32 ((l.getD k nR).low : Int)) ∧ w.cell? ⟨g, o + 3 * k + 1, none⟩ = some (.int .u32 ((l.getD k nR).high : Int)) ∧ w.cell? ⟨g, o + 3 * k + 2, none⟩ = some (.int .i64 (l.getD k nR).pro)
theorem at_ro (B o N cap i : Nat) (w : World) (h : i < N) (z : Int) (hz : z = i) (p : Nat) (hp : p = o + 3 * i) :
    (Instr.indexAt 44 (.slice (some ⟨B, o, none⟩) N cap) (.int .i64 z)).run Tryd.prog w = .ok (.pointer (some ⟨B, p, none⟩)) w := by
  subst hz hp
  have e : Tryd.prog.elem 44 = 54 := by kernel_rfl
  rw [run_indexAt_slice (P := Tryd.prog) w 44 ⟨B, o, none⟩ N cap .i64 i (by rw [e]; exact Tryd.underlying44), if_pos (by omega), e]
  have s : (sizeOf 54).run Tryd.prog w = .ok 3 w := Tryd.sizeOf54 w
  rw [s]
  simp [Addr.add_mid, Nat.mul_comm]
set_option maxHeartbeats 16000000 in
theorem rright_ok (v : Value) (l : List Ro) (w : World) (hv : RoAt w v l) (hl : l.length < 9223372036854775807) :
    Calls Tryd.prog 48 #[v] w fun e w' => e = .returned (.bool (rightR l)) ∧ Below w.heap.size w w' := by
  obtain ⟨a, cap, rfl, hc⟩ := hv
  obtain ⟨M, hM⟩ : ∃ M, M = l.length := ⟨_, rfl⟩
  rw [← hM] at hc hl ⊢
  have CE := Lib.hid hc
  replace hM := Lib.hid hM
  clear hc
  go_enter Tryd.func48, Tryd.ntmps48
  go_wp2_with fail
  go_loopg [3] M (fun g iv wr => ∃ i : Nat, i + g = M ∧ iv = .int .i64 (i : Int) ∧ Hid (rightR (l.take i) = true) ∧ Hid (Below w.heap.size w wr))
  case atStart => exact ⟨0, by omega, rfl, rfl, Below.refl _ _⟩
  case round =>
    obtain ⟨i, hi, rfl, RT, ZB⟩ := hrel
    by_cases hin : i < M
    · have il : i < l.length := by have := hM.out; omega
      obtain ⟨g, o, rfl, hgw, c0, c1, c2⟩ := CE.out i hin
      have k0 := (ZB.out.cell hgw).trans c0
      have k1 := (ZB.out.cell hgw).trans c1
      have k2 := (ZB.out.cell hgw).trans c2
      have ia := fun w' => at_ro g o M cap i w' hin (i : Int) rfl (o + 3 * i) rfl
      have okx : okR (l.getD i nR) = (decide ((l.getD i nR).low ≤ (l.getD i nR).high) && decide (0 ≤ (l.getD i nR).pro) && decide ((l.getD i nR).pro ≤ 255)) := rfl
      have NOT : Hid (okR (l.getD i nR) = false → rightR l = false) := fun h => by
        refine right_not (i := i + 1) ?_
        cases i with
        | zero => rw [right_first il]; exact h
        | succ j => rw [right_next il, h, Bool.and_false]
      obtain ⟨x, hx⟩ : ∃ x, x = l.getD i nR := ⟨_, rfl⟩
      rw [← hx] at k0 k1 k2 okx NOT
      obtain ⟨lo, hi', pr⟩ := x
      simp only at k0 k1 k2 okx
      have BX : Hid (Below w.heap.size w (wr.alloc (.cells #[.int .u32 (lo : Int), .int .u32 (hi' : Int), .int .i64 pr] 54))) := ZB.out.alloc ZB.out.size _
      clear c0 c1 c2
      by_cases h1 : lo ≤ hi'
      · have q1 : decide ((hi' : Int) < (lo : Int)) = false := decide_eq_false (by omega)
        have q1n : ¬ hi' < lo := by omega
        by_cases h2 : 0 ≤ pr
        · have q2 : decide (pr < 0) = false := decide_eq_false (by omega)
          by_cases h3 : pr ≤ 255
          · have q3 : decide (255 < pr) = false := decide_eq_false (by omega)
            have ok1 : okR ⟨lo, hi', pr⟩ = true := by rw [okx]; simp [h1, h2, h3]
            have RD : Hid (Below w.heap.size w (wr.alloc (.cells #[.int .u32 (lo : Int), .int .u32 (hi' : Int), .int .i64 pr] 54)).drew) := BX.out.trans (drewB _ _)
            by_cases hi0 : i = 0
            · have NX : Hid (rightR (l.take (i + 1)) = true) := by
                unfold Hid
                subst hi0
                rw [right_first il, ← hx]
                exact ok1
              have p0 : decide ((0 : Int) < (i : Int)) = false := decide_eq_false (by omega)
              have p0n : ¬ 0 < i := by omega
              clear NOT hx okx RT CE ZB ok1 hi0
              go_upto_region 7 with fail
              go_region
              all_goals
                go_wp2_with fail
                go_roundg (M - (i + 1))
                case measure => omega
                case rel => exact ⟨i + 1, by omega, by simp, NX, RD⟩
            · obtain ⟨j, hj⟩ : ∃ j, i = j + 1 := ⟨i - 1, by omega⟩
              have jn : j < M := by omega
              obtain ⟨g', o', eg, hgj, d0, d1, d2⟩ := CE.out j jn
              injection eg with eg
              injection eg with eg1 eg2
              subst eg1 eg2
              have STEP : rightR (l.take (i + 1)) = (rightR (l.take i) && behR (l.getD j nR) (l.getD i nR) && okR (l.getD i nR)) := by
                subst hj
                exact right_next il
              rw [RT.out, ← hx, ok1, Bool.true_and, Bool.and_true] at STEP
              obtain ⟨y, hy⟩ : ∃ y, y = l.getD j nR := ⟨_, rfl⟩
              rw [← hy] at d0 d1 d2 STEP
              obtain ⟨yl, yh, yp⟩ := y
              simp only at d0 d1 d2
              have e0 := (BX.out.cell hgj).trans d0
              have e1 := (BX.out.cell hgj).trans d1
              have e2 := (BX.out.cell hgj).trans d2
              have ib := fun w' => at_ro g o M cap j w' jn (j : Int) rfl (o + 3 * j) rfl
              have sub : (i : Int) - 1 = (j : Int) := by omega
              have p0 : decide ((0 : Int) < (i : Int)) = true := decide_eq_true (by omega)
              have p0n : 0 < i := by omega
              have bd : behR ⟨yl, yh, yp⟩ ⟨lo, hi', pr⟩ = (decide (yp < pr) || (decide (yp = pr) && decide (yh < lo))) := rfl
              rw [bd] at STEP
              replace hj := Lib.hid hj
              clear NOT hx okx RT CE ZB ok1 hi0 hy d0 d1 d2 bd
              by_cases m1 : pr < yp
              · have r1 : decide (pr < yp) = true := decide_eq_true m1
                have F := Lib.hid (right_not (by rw [STEP]; simp; omega))
                clear STEP
                go_upto_region 7 with fail
                go_region
                all_goals
                  go_wp2_with fail
                  go_ret
                  exact ⟨by rw [F.out]; rfl, RD.out⟩
              · have r1 : decide (pr < yp) = false := decide_eq_false m1
                by_cases m2 : pr = yp
                · subst m2
                  by_cases m3 : lo ≤ yh
                  · have r3 : decide ((lo : Int) ≤ (yh : Int)) = true := decide_eq_true (by omega)
                    have F := Lib.hid (right_not (by rw [STEP]; simp; omega))
                    clear STEP
                    go_upto_region 7 with fail
                    go_region
                    all_goals
                      go_wp2_with fail
                      go_ret
                      exact ⟨by rw [F.out]; rfl, RD.out⟩
                  · have r3 : decide ((lo : Int) ≤ (yh : Int)) = false := decide_eq_false (by omega)
                    have NX : Hid (rightR (l.take (i + 1)) = true) := by
                      unfold Hid
                      rw [STEP]
                      simp
                      omega
                    clear STEP
                    go_upto_region 7 with fail
                    go_region
                    all_goals
                      go_wp2_with fail
                      go_roundg (M - (i + 1))
                      case measure => omega
                      case rel => exact ⟨i + 1, by omega, by simp, NX, RD⟩
                · have r2 : (pr == yp) = false := by simpa using m2
                  have NX : Hid (rightR (l.take (i + 1)) = true) := by
                    unfold Hid
                    rw [STEP]
                    simp
                    omega
                  clear STEP
                  go_upto_region 7 with fail
                  go_region
                  all_goals
                    go_wp2_with fail
                    go_roundg (M - (i + 1))
                    case measure => omega
                    case rel => exact ⟨i + 1, by omega, by simp, NX, RD⟩
          · have q3 : decide (255 < pr) = true := decide_eq_true (by omega)
            have F := Lib.hid (NOT.out (by rw [okx]; simp [h3]))
            clear NOT hx okx RT CE ZB
            go_wp2_with fail
            go_ret
            exact ⟨by rw [F.out]; rfl, BX.out⟩
        · have q2 : decide (pr < 0) = true := decide_eq_true (by omega)
          have F := Lib.hid (NOT.out (by rw [okx]; simp [h2]))
          clear NOT hx okx RT CE ZB
          go_wp2_with fail
          go_ret
          exact ⟨by rw [F.out]; rfl, BX.out⟩
      · have q1 : decide ((hi' : Int) < (lo : Int)) = true := decide_eq_true (by omega)
        have q1n : hi' < lo := by omega
        have F := Lib.hid (NOT.out (by rw [okx]; simp [h1]))
        clear NOT hx okx RT CE ZB
        go_wp2_with fail
        go_ret
        exact ⟨by rw [F.out]; rfl, BX.out⟩
    · have F : Hid (rightR l = true) := by
        unfold Hid
        have := RT.out
        rw [List.take_of_length_le (by have := hM.out; omega)] at this
        exact this
      clear CE RT
      go_wp2_with fail
      go_ret
      exact ⟨by rw [F.out]; rfl, ZB.out⟩
end Go.Proofs.YtihkbakbciejiaaDoor
