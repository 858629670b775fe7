/-
  What the document's own 'other' answers: a protocol from 1 to 255 that no rule names. No condition but how many rules there are.
-/
import Derived.Test.YtndaohiecpdmlaaGreatPoSemB
import Derived.Test.YtndaohiecpdmlaaGreatMgF
import Derived.Deep.DeepCutAuto
namespace Go.Proofs.YtndaohiecpdmlaaGreat
set_option maxRecDepth 100000
open Go.RowKit Go.Sort

def namB (l : List Ru) (p : Int) : Bool := l.any fun r => r.pro == p
theorem namB_take (l : List Ru) (p : Int) (k : Nat) (hk : k < l.length) : namB (l.take (k + 1)) p = (namB (l.take k) p || (l.getD k ru0).pro == p) := by
  unfold namB
  rw [List.take_add_one, List.any_append, List.getElem?_eq_getElem hk, List.getD_eq_getElem?_getD, List.getElem?_eq_getElem hk]
  simp
set_option maxHeartbeats 8000000 in
theorem rother_ok (l : List Ru) (v : Value) (w : World) (h : RusAt w v l) (hl : l.length ≤ 32) :
    Calls Tryz.prog 50 #[v] w fun e w' => ∃ o : Nat, e = .returned (.int .i64 (o : Int)) ∧ 1 ≤ o ∧ o ≤ 255 ∧ (∀ r ∈ l, r.pro ≠ (o : Int)) ∧ w' = w := by
  have H := Lib.hid h
  have FP := Lib.hid (free_pro hl)
  obtain ⟨ad', c', rfl, -, -⟩ := h
  obtain ⟨n, hn⟩ : ∃ n, n = l.length := ⟨_, rfl⟩
  rw [← hn] at H hl ⊢
  replace hn := Lib.hid hn
  have hnl : n ≤ 9223372036854775807 := by omega
  go_enter Tryz.func50, Tryz.ntmps50
  go_wp2_with fail
  go_loopg [3] 255 (fun g' s3 wr => ∃ p : Nat, s3 = .int .i64 (p : Int) ∧ 1 ≤ p ∧ p + g' = 256 ∧ Hid (∀ x : Nat, 1 ≤ x → x < p → namB l (x : Int) = true) ∧ wr = w)
  case atStart => exact ⟨1, rfl, Nat.le_refl _, rfl, (fun x h1 h2 => by omega), rfl⟩
  case round =>
    obtain ⟨p, rfl, hp1, hpg, A, rfl⟩ := hrel
    by_cases hp : p ≤ 255
    · have z1 : decide ((p : Int) ≤ 255) = true := decide_eq_true (by omega)
      go_wp2_with fail
      go_loopg [4, 5] n (fun g' s4 s5 wr2 => ∃ (i : Nat) (B : Bool), s5 = .int .i64 (i : Int) ∧ s4 = .bool B ∧ i + g' = n ∧ Hid (B = namB (l.take i) (p : Int)) ∧ wr2 = wr)
      case atStart => exact ⟨0, false, rfl, rfl, by omega, rfl, rfl⟩
      case round =>
        obtain ⟨i, B, rfl, rfl, hig, hB, rfl⟩ := hrel
        by_cases hlt : i < n
        · have g1 : decide ((i : Int) < (n : Int)) = true := decide_eq_true (by omega)
          have g1' : decide (i < n) = true := decide_eq_true hlt
          have hkl : i < l.length := by rw [← hn.out]; exact hlt
          obtain ⟨g, o, cap, e0, hg, m0, m1, m2, m3, m4, m5⟩ := H.out.at (k := i) hkl rfl
          injection e0 with e1 e2 e3
          subst e1 e3
          clear e2
          have ia := fun w' => at_rus g o n c' i w' hlt (i : Int) rfl (o + 6 * i) rfl
          have hT := Lib.hid (namB_take l (p : Int) i hkl)
          generalize (l.getD i ru0).pro = x at *
          clear m0 m2 m3 m4 m5
          cases B
          · have hB2 : Hid ((x == (p : Int)) = namB (l.take (i + 1)) (p : Int)) := by
              show _ = _
              rw [hT.out, ← hB.out, Bool.false_or]
            go_wp2_with fail
            go_roundg (n - (i + 1))
            case measure => omega
            case rel => exact ⟨i + 1, _, by go_num, rfl, by omega, hB2.out, rfl⟩
          · have hB2 : Hid (true = namB (l.take (i + 1)) (p : Int)) := by
              show _ = _
              rw [hT.out, ← hB.out, Bool.true_or]
            go_wp2_with fail
            go_roundg (n - (i + 1))
            case measure => omega
            case rel => exact ⟨i + 1, _, by go_num, rfl, by omega, hB2.out, rfl⟩
        · obtain rfl : i = n := by omega
          have g1 : decide ((i : Int) < (i : Int)) = false := decide_eq_false (by omega)
          have g1' : decide (i < i) = false := decide_eq_false hlt
          have hB2 := hB.out
          rw [hn.out, List.take_length] at hB2
          cases B
          · have F : Hid (∀ r ∈ l, r.pro ≠ (p : Int)) := fun r hr e => by
              have hc : namB l (p : Int) = true := by
                unfold namB
                rw [List.any_eq_true]
                exact ⟨r, hr, beq_iff_eq.2 e⟩
              rw [← hB2] at hc
              cases hc
            clear hB2
            go_wp2_with fail
            go_ret
            exact ⟨p, rfl, hp1, hp, F.out, rfl⟩
          · have A2 : Hid (∀ x : Nat, 1 ≤ x → x < p + 1 → namB l (x : Int) = true) := fun x h1 h2 => by
              by_cases q : x = p
              · rw [q]; exact hB2.symm
              · exact A.out x h1 (by omega)
            clear hB2
            go_wp2_with fail
            go_roundg (255 - p)
            case measure => omega
            case rel => exact ⟨p + 1, by go_num, by omega, by omega, A2.out, rfl⟩
    · exfalso
      obtain ⟨x, h1, h2, h3⟩ := FP.out
      have := A.out x.toNat (by omega) (by omega)
      unfold namB at this
      rw [List.any_eq_true] at this
      obtain ⟨r, hr, e⟩ := this
      have e := beq_iff_eq.1 e
      exact h3 r hr (by omega)
end Go.Proofs.YtndaohiecpdmlaaGreat
