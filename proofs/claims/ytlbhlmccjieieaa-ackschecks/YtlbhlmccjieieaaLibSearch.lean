/-
  sort.Search: the least place from which on a test says yes. The test's answers must rise; no other condition.
-/
import Derived.Test.YtlbhlmccjieieaaChecked
import Derived.ProofKit
import Derived.Lib.Hide
import Derived.Deep.LoopGhost
import Derived.Lib.QuietBelow
import Derived.BigQuiet
import Derived.RegionTactic
namespace Go.Proofs.Ytlbhlmccjieieaa
set_option maxRecDepth 100000
open Go.RowKit Go.Sort

set_option maxHeartbeats 4000000 in
theorem search_ok (n : Nat) (f : FuncId) (caps : Array Value) (p : Nat → Bool) (I : World → Prop) (w : World) (hI : I w) (hn : n ≤ 4611686018427387904) (hcf : ∀ x w, (callFunc f (#[x] ++ caps)).run Try.prog w = .ok (.enter f (#[x] ++ caps)) w) (mono : ∀ i j, i ≤ j → p i = true → p j = true)
    (C : ∀ i, i < n → ∀ w', I w' → Calls Try.prog f (#[.int .i64 (i : Int)] ++ caps) w' fun e w'' => e = .returned (.bool (p i)) ∧ I w'') :
    Calls Try.prog 28 #[.int .i64 (n : Int), .func (.func f) #[] caps] w fun e w' => ∃ k : Nat, e = .returned (.int .i64 (k : Int)) ∧ k ≤ n ∧ (∀ i, i < k → p i = false) ∧ (∀ i, k ≤ i → i < n → p i = true) ∧ I w' := by
  have hnot : ∀ (x : Bool) (w : World), (Op.unary .not (.bool x)).run Try.prog w = .ok (.bool (!x)) w := fun _ _ => rfl
  replace C : Hid _ := C
  replace mono : Hid _ := mono
  replace hI : Hid _ := hI
  go_enter Try.func28, Try.ntmps28
  go_wp2
  go_loopg [5, 6] n (fun g iv jv wr => ∃ (i j : Nat), j - i ≤ g ∧ i ≤ j ∧ j ≤ n ∧ iv = .int .i64 i ∧ jv = .int .i64 j ∧ Hid (∀ k, k < i → p k = false) ∧ Hid (∀ k, j ≤ k → k < n → p k = true) ∧ Hid (I wr))
  case atStart => exact ⟨0, n, by omega, by omega, by omega, rfl, rfl, fun k hk => by omega, fun k h1 h2 => by omega, hI⟩
  case round =>
    obtain ⟨i, j, hg, hij, hjn, rfl, rfl, h1, h2, hw⟩ := hrel
    by_cases hlt : i < j
    · have q1 : decide ((i : Int) < (j : Int)) = true := decide_eq_true (by omega)
      obtain ⟨h, hh⟩ : ∃ h : Nat, ((i : Int) + j) / 2 = h := ⟨(i + j) / 2, by omega⟩
      have hi : i ≤ h ∧ h < j := by omega
      have C1 : Hid (Calls Try.prog f (#[.int .i64 (h : Int)] ++ caps) wr fun e w'' => e = .returned (.bool (p h)) ∧ I w'') := C.out h (by omega) wr hw.out
      cases hp : p h
      · rw [hp] at C1
        have hlow : Hid (∀ k, k < h + 1 → p k = false) := fun k hk => by
          cases e : p k with
          | false => rfl
          | true =>
            rw [mono.out k h (by omega) e] at hp
            exact hp
        go_wp2_with fail
        refine C1.out.mono ?_
        rintro e w1 ⟨rfl, hw1⟩
        replace hw1 : Hid (I w1) := hw1
        clear C1 hw
        go_wp2_with fail
        go_roundg (j - (h + 1))
        case measure => omega
        case rel => exact ⟨h + 1, j, by omega, by omega, hjn, by go_num, rfl, hlow, h2, hw1⟩
      · rw [hp] at C1
        go_wp2_with fail
        refine C1.out.mono ?_
        rintro e w1 ⟨rfl, hw1⟩
        replace hw1 : Hid (I w1) := hw1
        clear C1 hw
        go_wp2_with fail
        go_roundg (h - i)
        case measure => omega
        case rel => exact ⟨i, h, by omega, by omega, by omega, rfl, rfl, h1, fun k hk _ => mono.out h k hk hp, hw1⟩
    · have q1 : decide ((i : Int) < (j : Int)) = false := decide_eq_false (by omega)
      obtain rfl : i = j := by omega
      go_wp2_with fail
      go_ret
      exact ⟨i, rfl, by omega, h1.out, h2.out, hw.out⟩
end Go.Proofs.Ytlbhlmccjieieaa
