/-
  What the document's own Has answers. No condition.
-/
import Derived.Test.YtfjampommgkfeaaAkRef
namespace Go.Proofs.Ytfjampommgkfeaa
set_option maxRecDepth 100000
open Go.RowKit Go.Sort

theorem hasR_take (l : List Rg) (n : Int) (k : Nat) (h : k < l.length) : hasR (l.take (k + 1)) n = (hasR (l.take k) n || (decide ((l.getD k (0, 0)).1 ≤ n) && decide (n ≤ (l.getD k (0, 0)).2))) := by
  unfold hasR
  rw [List.take_succ_eq_append_getElem h, List.any_append]
  congr 1
  simp [List.getD, List.getElem?_eq_getElem h]
theorem hasR_mem (l : List Rg) (n : Int) (k : Nat) (h : k < l.length) (h1 : (l.getD k (0, 0)).1 ≤ n) (h2 : n ≤ (l.getD k (0, 0)).2) : hasR l n = true :=
  (hasR_iff l n).2 ⟨l.getD k (0, 0), by simp [List.getD, List.getElem?_eq_getElem h], h1, h2⟩
set_option maxHeartbeats 4000000 in
theorem rhas_b (R : Nat) (sv : Value) (l : List Rg) (n : Int) (w : World) (h : Lies w R [sv]) (ho : RgAt w sv l) (hl : l.length < 1099511627776) :
    Calls Try.prog 32 #[.pointer (some ⟨R, 0, none⟩), .int .i64 n] w fun e w' => e = .returned (.bool (hasR l n)) ∧ w = w' := by
  have c0 := h.cell 0 (v := sv) rfl
  obtain ⟨a, cap, rfl, hc⟩ := ho
  clear h
  obtain ⟨M, hM⟩ : ∃ M, M = l.length := ⟨_, rfl⟩
  rcases hc with rfl | ⟨g, o, rfl, hc⟩
  · have e : hasR [] n = false := rfl
    rw [e]
    clear e hl hM
    go_enter Try.func32, Try.ntmps32
    go_wp2
    go_rounds 1
    go_ret
    exact ⟨rfl, rfl⟩
  · replace hc : Hid _ := hc
    rw [← hM] at c0 hl hc
    obtain ⟨A, hA⟩ : ∃ A, A = hasR l n := ⟨_, rfl⟩
    rw [← hA]
    replace hA : Hid _ := hA
    replace hM : Hid _ := hM
    go_enter Try.func32, Try.ntmps32
    go_wp2
    go_loopg [5] M (fun g iv wr => ∃ k : Nat, k + g = M ∧ iv = .int .i64 k ∧ Hid (hasR (l.take k) n = false) ∧ w = wr)
    case atStart => exact ⟨0, by omega, rfl, by unfold Hid; rfl, rfl⟩
    case round =>
      obtain ⟨k, hk, rfl, hnot, rfl⟩ := hrel
      by_cases hlt : k < M
      · have g1 : decide ((k : Int) < (M : Int)) = true := decide_eq_true (by omega)
        obtain ⟨c1, c2⟩ := hc.out k hlt
        have ia := fun w' => at_rgs g o M cap k w' hlt (k : Int) rfl (o + 2 * k) rfl
        have ht := hasR_take l n k (by have := hM.out; omega)
        rw [hnot.out, Bool.false_or] at ht
        have hm := hasR_mem l n k (by have := hM.out; omega)
        replace ht : Hid _ := ht
        replace hm : Hid _ := hm
        generalize (l.getD k (0, 0)).1 = x at *
        generalize (l.getD k (0, 0)).2 = y at *
        by_cases q1 : x ≤ n
        · have g2 : decide (x ≤ n) = true := decide_eq_true q1
          by_cases q2 : n ≤ y
          · have g3 : decide (n ≤ y) = true := decide_eq_true q2
            have eA : A = true := by rw [hA.out]; exact hm.out q1 q2
            subst eA
            clear hA hnot hc ht hm
            go_wp2
            go_ret
            exact ⟨rfl, rfl⟩
          · have g3 : decide (n ≤ y) = false := decide_eq_false q2
            have ht2 : Hid (hasR (l.take (k + 1)) n = false) := by unfold Hid; rw [ht.out, g3, Bool.and_false]
            clear hnot ht hm
            go_wp2
            go_roundg (M - (k + 1))
            case measure => omega
            case rel => exact ⟨k + 1, by omega, by go_num, ht2, rfl⟩
        · have g2 : decide (x ≤ n) = false := decide_eq_false q1
          have ht2 : Hid (hasR (l.take (k + 1)) n = false) := by unfold Hid; rw [ht.out, g2, Bool.false_and]
          clear hnot ht hm
          go_wp2
          go_roundg (M - (k + 1))
          case measure => omega
          case rel => exact ⟨k + 1, by omega, by go_num, ht2, rfl⟩
      · have g1 : decide ((k : Int) < (M : Int)) = false := decide_eq_false (by omega)
        obtain rfl : k = M := by omega
        have eA : A = false := by rw [hA.out]; have := hnot.out; rwa [hM.out, List.take_length] at this
        subst eA
        clear hA hnot hc
        go_wp2
        go_ret
        exact ⟨rfl, rfl⟩
end Go.Proofs.Ytfjampommgkfeaa
