/-
  What the document's own 'some' answers: whether some packet may go to an address. No condition but that the rules are right.
-/
import Derived.Test.YtndaohiecpdmlaaGreatPoRfO
namespace Go.Proofs.YtndaohiecpdmlaaGreat
set_option maxRecDepth 100000
open Go.RowKit Go.Sort

/-- A protocol that no rule names. -/
def Free (l : List Ru) (o : Int) : Prop := 1 ≤ o ∧ o ≤ 255 ∧ ∀ r ∈ l, r.pro ≠ o
theorem refT_any {l : List Ru} {o o' a : Int} {i k : Nat} (h : Free l o) (h' : Free l o') : refT l o a i k = refT l o' a i k := by
  have e : ∀ q, alw l (refP l o i) a q = alw l (refP l o' i) a q := fun q => by
    unfold alw refP
    congr 1
    generalize (if i < l.length then (l.getD i ru0).pro else 0) = p
    by_cases hp : p = 0
    · rw [if_pos hp, if_pos hp]
      exact say_other h.2.2 h'.2.2
    · rw [if_neg hp, if_neg hp]
  unfold refT
  rw [e, e]
set_option maxHeartbeats 16000000 in
theorem rsome_ok (l : List Ru) (v : Value) (a : Int) (b0 : 0 ≤ a) (b1 : a < 4294967296) (w : World) (h : RusAt w v l) (HB : ∀ r ∈ l, RuB r) (hk : ruK l = 0) :
    Calls Tryz.prog 32 #[v, .int .u32 a] w fun e w' => ∃ B : Bool, e = .returned (.bool B) ∧ (B = true ↔ Goes l a) ∧ Below w.heap.size w w' := by
  obtain ⟨hl, HR⟩ := ruK_right.1 hk
  have H := Lib.hid h
  have OT := Lib.hid fun w' (b : Below w.heap.size w w') => rother_ok l v w' (h.keep b) hl
  have AL := Lib.hid fun p q w' (b : Below w.heap.size w w') => rallow_ok l v p a q b0 b1 w' (h.keep b) HB (by omega)
  have SG := Lib.hid fun o (ho : Free l o) => some_goes (a := a) hk ⟨ho.1, ho.2.1⟩ ho.2.2
  have FP : Hid (∃ o, Free l o) := by
    obtain ⟨p, h1, h2, h3⟩ := free_pro hl
    exact ⟨p, h1, h2, h3⟩
  have UB : Hid (∀ r ∈ l, r.up ≤ 65535 ∧ 0 ≤ r.up) := fun r hr => by
    have hw := ruR_w (HR r hr)
    have h0 := hw.f0
    have h1 := hw.fu
    exact ⟨hw.u1, by omega⟩
  obtain ⟨ad', c', rfl, -, -⟩ := h
  obtain ⟨n, hn⟩ : ∃ n, n = l.length := ⟨_, rfl⟩
  rw [← hn] at H hl OT AL ⊢
  replace hn := Lib.hid hn
  have hnl : n ≤ 9223372036854775807 := by omega
  clear HR HB hk
  go_enter Tryz.func32, Tryz.ntmps32
  go_wp2_with fail
  go_loopg [5] (n + 1) (fun g' s5 wr => ∃ i : Nat, s5 = .int .i64 (i : Int) ∧ i + g' = n + 1 ∧ Hid (∀ i' k', i' < i → k' ≤ l.length → ∀ o, Free l o → refT l o a i' k' = false) ∧ Hid (Below w.heap.size w wr))
  case atStart => exact ⟨0, rfl, by omega, (fun i' k' h1 => by omega), Below.refl _ _⟩
  case round =>
    obtain ⟨i, rfl, hig, A, bl⟩ := hrel
    by_cases hi : i ≤ n
    · have z1 : decide ((i : Int) ≤ (n : Int)) = true := decide_eq_true (by omega)
      have z1' : decide (i ≤ n) = true := decide_eq_true hi
      go_wp2_with fail
      go_loopg [6] (n + 1) (fun g' s6 wr2 => ∃ k : Nat, s6 = .int .i64 (k : Int) ∧ k + g' = n + 1 ∧ Hid (∀ k', k' < k → ∀ o, Free l o → refT l o a i k' = false) ∧ Hid (Below w.heap.size w wr2))
      case atStart => exact ⟨0, rfl, by omega, (fun k' h1 => by omega), bl.out⟩
      case round =>
        obtain ⟨k, rfl, hkg, A2, bl2⟩ := hrel
        by_cases hkn : k ≤ n
        · have z2 : decide ((k : Int) ≤ (n : Int)) = true := decide_eq_true (by omega)
          have z2' : decide (k ≤ n) = true := decide_eq_true hkn
          obtain ⟨P0, hP0⟩ : ∃ P0, P0 = if i < l.length then (l.getD i ru0).pro else 0 := ⟨_, rfl⟩
          obtain ⟨A0, hA0⟩ : ∃ A0, A0 = if k < l.length then (l.getD k ru0).fr else 0 := ⟨_, rfl⟩
          replace hP0 := Lib.hid hP0
          replace hA0 := Lib.hid hA0
          go_upto_if 24 with fail
          go_cut [7] (fun s wx => s = .int .i64 P0 ∧ wx = wr)
          case first =>
            by_cases hlt : i < n
            · have g1 : decide ((i : Int) < (n : Int)) = true := decide_eq_true (by omega)
              have g1' : decide (i < n) = true := decide_eq_true hlt
              have hkl : i < l.length := by rw [← hn.out]; exact hlt
              obtain ⟨g, o, cap, e0, hg, m0, m1, m2, m3, m4, m5⟩ := (H.out.keep bl2.out).at (k := i) hkl rfl
              injection e0 with e1 e2 e3
              subst e1 e3
              clear e2
              have ia := fun w' => at_rus g o n c' i w' hlt (i : Int) rfl (o + 6 * i) rfl
              have eP : Hid (P0 = (l.getD i ru0).pro) := by
                show P0 = _
                rw [hP0.out, if_pos hkl]
              generalize (l.getD i ru0).pro = x at *
              clear m0 m2 m3 m4 m5
              go_wp2_with fail
              go_meet
              exact ⟨by rw [eP.out], rfl⟩
            · have g1 : decide ((i : Int) < (n : Int)) = false := decide_eq_false (by omega)
              have g1' : decide (i < n) = false := decide_eq_false hlt
              have eP : Hid (P0 = 0) := by
                show P0 = _
                rw [hP0.out, if_neg (by rw [← hn.out]; exact hlt)]
              go_wp2_with fail
              go_meet
              exact ⟨by rw [eP.out], rfl⟩
          case rest =>
            obtain ⟨rfl, rfl⟩ := hcut
            go_upto_if 31 with fail
            go_cut [7] (fun s wx => ∃ o, Free l o ∧ s = .int .i64 (refP l o i) ∧ wx = wc)
            case first =>
              by_cases hp : P0 = 0
              · have y0 : (P0 == 0) = true := by simpa using hp
                replace hp := Lib.hid hp
                go_wp2_with fail
                refine (OT.out wc bl2.out).mono ?_
                rintro e w1 ⟨o, rfl, o1, o2, o3, rfl⟩
                have eR : Hid (refP l (o : Int) i = (o : Int)) := by
                  show _ = _
                  unfold refP
                  rw [← hP0.out, if_pos hp.out]
                replace o3 := Lib.hid o3
                go_wp2_with fail
                go_meet
                exact ⟨(o : Int), ⟨by omega, by omega, o3.out⟩, by rw [eR.out], rfl⟩
              · have y0 : (P0 == 0) = false := by simpa using hp
                obtain ⟨o, ho⟩ := FP.out
                have eR : Hid (refP l o i = P0) := by
                  show _ = _
                  unfold refP
                  rw [← hP0.out, if_neg hp]
                replace ho := Lib.hid ho
                go_wp2_with fail
                go_meet
                exact ⟨o, ho.out, by rw [eR.out], rfl⟩
            case rest =>
              obtain ⟨o, ho, rfl, rfl⟩ := hcut
              obtain ⟨P, hP⟩ : ∃ P, P = refP l o i := ⟨_, rfl⟩
              rw [← hP]
              replace ho := Lib.hid ho
              replace hP := Lib.hid hP
              go_upto_if 37 with fail
              go_cut [8] (fun s wx => s = .int .i64 A0 ∧ wx = wc)
              case first =>
                by_cases hlt : k < n
                · have g1 : decide ((k : Int) < (n : Int)) = true := decide_eq_true (by omega)
                  have g1' : decide (k < n) = true := decide_eq_true hlt
                  have hkl : k < l.length := by rw [← hn.out]; exact hlt
                  obtain ⟨g, o9, cap, e0, hg, m0, m1, m2, m3, m4, m5⟩ := (H.out.keep bl2.out).at (k := k) hkl rfl
                  injection e0 with e1 e2 e3
                  subst e1 e3
                  clear e2
                  have ia := fun w' => at_rus g o9 n c' k w' hlt (k : Int) rfl (o9 + 6 * k) rfl
                  have eP : Hid (A0 = (l.getD k ru0).fr) := by
                    show A0 = _
                    rw [hA0.out, if_pos hkl]
                  generalize (l.getD k ru0).fr = x at *
                  clear m0 m1 m2 m3 m5
                  go_wp2_with fail
                  go_meet
                  exact ⟨by rw [eP.out], rfl⟩
                · have g1 : decide ((k : Int) < (n : Int)) = false := decide_eq_false (by omega)
                  have g1' : decide (k < n) = false := decide_eq_false hlt
                  have eP : Hid (A0 = 0) := by
                    show A0 = _
                    rw [hA0.out, if_neg (by rw [← hn.out]; exact hlt)]
                  go_wp2_with fail
                  go_meet
                  exact ⟨by rw [eP.out], rfl⟩
              case rest =>
                obtain ⟨rfl, rfl⟩ := hcut
                have C1 := Lib.hid (AL.out P A0 wc bl2.out)
                have eT : Hid (refT l o a i k = (alw l P a A0 || (decide (k < l.length) && decide ((l.getD k ru0).up < 65535) && alw l P a ((l.getD k ru0).up + 1)))) := by
                  show _ = _
                  unfold refT
                  rw [← hP.out, ← hA0.out]
                obtain ⟨T1, hT1⟩ : ∃ T1, alw l P a A0 = T1 := ⟨_, rfl⟩
                rw [hT1] at C1 eT
                clear hT1
                have yes : refT l o a i k = true → Goes l a := fun hr => (SG.out o ho.out).1 ⟨i, k, by rw [← hn.out]; exact hi, by rw [← hn.out]; exact hkn, hr⟩
                have no : refT l o a i k = false → ∀ k', k' < k + 1 → ∀ o', Free l o' → refT l o' a i k' = false := fun hr k' hk' o' ho' => by
                  by_cases q : k' = k
                  · rw [q, refT_any ho' ho.out]; exact hr
                  · exact A2.out k' (by omega) o' ho'
                replace yes := Lib.hid yes
                replace no := Lib.hid no
                go_wp2_with fail
                refine C1.out.mono ?_
                rintro e w1 ⟨rfl, b1⟩
                have bl3 := Lib.hid (bl2.out.trans (b1.mono bl2.out.size))
                clear b1 C1
                cases T1
                · by_cases hlt : k < n
                  · have g1 : decide ((k : Int) < (n : Int)) = true := decide_eq_true (by omega)
                    have g1' : decide (k < n) = true := decide_eq_true hlt
                    have hkl : k < l.length := by rw [← hn.out]; exact hlt
                    have ub := UB.out _ (getD_mem hkl)
                    obtain ⟨g, o9, cap, e0, hg, m0, m1, m2, m3, m4, m5⟩ := (H.out.keep bl3.out).at (k := k) hkl rfl
                    injection e0 with e1 e2 e3
                    subst e1 e3
                    clear e2
                    have ia := fun w' => at_rus g o9 n c' k w' hlt (k : Int) rfl (o9 + 6 * k) rfl
                    obtain ⟨x, hx⟩ : ∃ x, x = (l.getD k ru0).up := ⟨_, rfl⟩
                    rw [← hx] at m5 eT ub
                    clear hx m0 m1 m2 m3 m4
                    by_cases hx5 : x < 65535
                    · have q5 : decide (x < 65535) = true := decide_eq_true hx5
                      have wx : wrap64 (x + 1) = x + 1 := by unfold wrap64; omega
                      have C2 := Lib.hid (AL.out P (x + 1) w1 bl3.out)
                      obtain ⟨T2, hT2⟩ : ∃ T2, alw l P a (x + 1) = T2 := ⟨_, rfl⟩
                      rw [hT2] at C2 eT
                      clear hT2
                      have eT2 : Hid (refT l o a i k = T2) := by
                        show _ = _
                        rw [eT.out, decide_eq_true hkl, decide_eq_true hx5]
                        cases T2 <;> rfl
                      clear eT
                      go_wp2_with fail
                      refine C2.out.mono ?_
                      rintro e w2 ⟨rfl, b2⟩
                      have bl4 := Lib.hid (bl3.out.trans (b2.mono bl3.out.size))
                      clear b2 C2 bl3 m5
                      cases T2
                      · have NO := Lib.hid (no.out eT2.out)
                        go_wp2_with fail
                        go_roundg (n + 1 - (k + 1))
                        case measure => omega
                        case rel => exact ⟨k + 1, by go_num, by omega, NO.out, bl4.out⟩
                      · have YES := Lib.hid (yes.out eT2.out)
                        go_wp2_with fail
                        go_ret
                        exact ⟨true, rfl, ⟨fun _ => YES.out, fun _ => rfl⟩, bl4.out⟩
                    · have q5 : decide (x < 65535) = false := decide_eq_false hx5
                      have eT2 : Hid (refT l o a i k = false) := by
                        show _ = _
                        rw [eT.out, decide_eq_false hx5]
                        simp
                      have NO := Lib.hid (no.out eT2.out)
                      clear eT
                      go_wp2_with fail
                      go_roundg (n + 1 - (k + 1))
                      case measure => omega
                      case rel => exact ⟨k + 1, by go_num, by omega, NO.out, bl3.out⟩
                  · have g1 : decide ((k : Int) < (n : Int)) = false := decide_eq_false (by omega)
                    have g1' : decide (k < n) = false := decide_eq_false hlt
                    have eT2 : Hid (refT l o a i k = false) := by
                      show _ = _
                      rw [eT.out, decide_eq_false (by rw [← hn.out]; exact hlt)]
                      simp
                    have NO := Lib.hid (no.out eT2.out)
                    clear eT
                    go_wp2_with fail
                    go_roundg (n + 1 - (k + 1))
                    case measure => omega
                    case rel => exact ⟨k + 1, by go_num, by omega, NO.out, bl3.out⟩
                · have YES := Lib.hid (yes.out (by rw [eT.out]; rfl))
                  go_wp2_with fail
                  go_ret
                  exact ⟨true, rfl, ⟨fun _ => YES.out, fun _ => rfl⟩, bl3.out⟩
        · have z2 : decide ((k : Int) ≤ (n : Int)) = false := decide_eq_false (by omega)
          have z2' : decide (k ≤ n) = false := decide_eq_false hkn
          have A3 : Hid (∀ i' k', i' < i + 1 → k' ≤ l.length → ∀ o, Free l o → refT l o a i' k' = false) := fun i' k' h1 h2 o ho => by
            by_cases q : i' = i
            · rw [q]; exact A2.out k' (by have := hn.out; omega) o ho
            · exact A.out i' k' (by omega) h2 o ho
          clear A A2
          go_wp2_with fail
          go_roundg (n + 1 - (i + 1))
          case measure => omega
          case rel => exact ⟨i + 1, by go_num, by omega, A3.out, bl2.out⟩
    · have z1 : decide ((i : Int) ≤ (n : Int)) = false := decide_eq_false (by omega)
      have z1' : decide (i ≤ n) = false := decide_eq_false hi
      have F : Hid (¬ Goes l a) := fun hg => by
        obtain ⟨o, ho⟩ := FP.out
        obtain ⟨i', k', h1, h2, h3⟩ := (SG.out o ho).2 hg
        rw [A.out i' k' (by have := hn.out; omega) h2 o ho] at h3
        cases h3
      go_wp2_with fail
      go_ret
      exact ⟨false, rfl, ⟨fun q => (by cases q), fun q => absurd q F.out⟩, bl.out⟩
end Go.Proofs.YtndaohiecpdmlaaGreat
