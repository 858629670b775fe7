/-
  What the program's own says, Check and Allow answer of rules in memory. No condition but what the types allow.
-/
import Derived.Test.YtndaohiecpdmlaaPoTst
import Derived.Deep.LoopGhost
namespace Go.Proofs.Ytndaohiecpdmlaa
set_option maxRecDepth 100000
open Go.RowKit Go.Sort

theorem box_below (w : World) (o : Obj) : Below w.heap.size w (w.alloc o) := (Below.refl _ _).alloc (Nat.le_refl _) _
set_option maxHeartbeats 8000000 in
theorem says_ok (l : List Ru) (v : Value) (p a q : Int) (b0 : 0 ≤ a) (b1 : a < 4294967296) (w : World) (h : RusAt w v l) (HB : ∀ r ∈ l, RuB r) (hl : l.length ≤ 9223372036854775807) :
    Calls Try.prog 54 #[v, .int .i64 p, .int .u32 a, .int .i64 q] w fun e w' => e = .returned (.bool (sayL l p a q)) ∧ Below w.heap.size w w' := by
  have H := Lib.hid h
  obtain ⟨ad', c', rfl, -, -⟩ := h
  replace HB := Lib.hid HB
  obtain ⟨n, hn⟩ : ∃ n, n = l.length := ⟨_, rfl⟩
  obtain ⟨E, hE⟩ : ∃ E, E = sayL l p a q := ⟨_, rfl⟩
  rw [← hE]
  rw [← hn] at H hl ⊢
  replace hn := Lib.hid hn
  have hE0 : Hid (sayL (l.drop 0) p a q = E) := hE.symm
  clear hE
  go_enter Try.func54, Try.ntmps54
  go_wp2_with fail
  go_loopg [13] n (fun g' iv wr => ∃ k : Nat, k + g' = n ∧ iv = .int .i64 k ∧ Hid (sayL (l.drop k) p a q = E) ∧ Hid (Below w.heap.size w wr))
  case atStart => exact ⟨0, by omega, rfl, hE0, Below.refl _ _⟩
  case round =>
    obtain ⟨k, hk, rfl, hS, b⟩ := hrel
    by_cases hlt : k < n
    · have g1 : decide ((k : Int) < (n : Int)) = true := decide_eq_true (by omega)
      have g1' : decide (k < n) = true := decide_eq_true hlt
      have hS1 : Hid (E = _) := hS.out.symm.trans (sayL_drop l p a q k (by rw [← hn.out]; exact hlt))
      clear hS
      obtain ⟨g, o, cap, e0, hg, m0, m1, m2, m3, m4, m5⟩ := (H.out.keep b.out).at (k := k) (by rw [← hn.out]; exact hlt) rfl
      injection e0 with e1 e2 e3
      subst e1 e3
      clear e2
      have ia := fun w' => at_rus g o n c' k w' hlt (k : Int) rfl (o + 6 * k) rfl
      have hbr := HB.out (l.getD k ru0) (by rw [List.getD_eq_getElem?_getD, List.getElem?_eq_getElem (by rw [← hn.out]; exact hlt)]; exact List.getElem_mem _)
      obtain ⟨r, hr⟩ : ∃ r, r = l.getD k ru0 := ⟨_, rfl⟩
      rw [← hr] at m0 m1 m2 m3 m4 m5 hbr hS1
      clear hr
      have C := Lib.hid (con_ok r hbr p a b0 b1 (wr.alloc (ruO r)))
      clear hbr
      unfold fit at hS1
      have bx := box_below wr (ruO r)
      have X := RBox.new wr r
      have lt : wr.heap.size < (wr.alloc (ruO r)).heap.size := by simp
      obtain ⟨al, pro, ad, bits, fr, up⟩ := r
      unfold ruV at C
      unfold ruO at X bx lt
      simp only at *
      have B0 := Lib.hid (b.out.trans (bx.mono b.out.size))
      clear bx b
      obtain ⟨T, hT⟩ : ∃ T, con ⟨al, pro, ad, bits, fr, up⟩ p a = T := ⟨_, rfl⟩
      obtain ⟨c1, e1⟩ : ∃ c, decide (fr ≤ q) = c := ⟨_, rfl⟩
      obtain ⟨c2, e2⟩ : ∃ c, decide (q ≤ up) = c := ⟨_, rfl⟩
      rw [hT] at C
      rw [hT, e1, e2] at hS1
      clear hT
      go_wp2_with fail
      refine C.out.mono ?_
      rintro e w1 ⟨rfl, b2⟩
      have B1 := Lib.hid (B0.out.trans (b2.mono B0.out.size))
      obtain ⟨l1, k0, k1, k2, k3, k4, k5⟩ := X.keep lt b2
      clear X b2 B0 C lt m0 m1 m2 m3 m4 m5
      cases T
      · go_wp2_with fail
        go_roundg (n - (k + 1))
        case measure => omega
        case rel => exact ⟨k + 1, by omega, by go_num, hS1.out.symm, B1⟩
      · cases c1
        · go_wp2_with fail
          go_roundg (n - (k + 1))
          case measure => omega
          case rel => exact ⟨k + 1, by omega, by go_num, hS1.out.symm, B1⟩
        · cases c2
          · go_wp2_with fail
            go_roundg (n - (k + 1))
            case measure => omega
            case rel => exact ⟨k + 1, by omega, by go_num, hS1.out.symm, B1⟩
          · go_wp2_with fail
            go_ret
            exact ⟨by rw [hS1.out]; rfl, B1.out⟩
    · obtain rfl : k = n := by omega
      have g1 : decide ((k : Int) < (k : Int)) = false := decide_eq_false (by omega)
      have g1' : decide (k < k) = false := decide_eq_false hlt
      have hS1 : Hid (E = false) := by
        have := hS.out
        rw [hn.out, sayL_end] at this
        exact this.symm
      clear hS
      go_wp2_with fail
      go_ret
      exact ⟨by rw [hS1.out]; rfl, b.out⟩
def ckL : List Ru → Int
  | [] => 0
  | r :: l => if ruR r then ckL l else 2
theorem ckL_all : ∀ l : List Ru, ckL l = if l.all ruR then 0 else 2
  | [] => rfl
  | r :: l => by
    rw [ckL, List.all_cons, ckL_all l]
    cases ruR r <;> simp
theorem ruK_ck {l : List Ru} (h : ¬ 32 < l.length) : ruK l = ckL l := by unfold ruK; rw [if_neg h, ckL_all]
theorem ckL_drop (l : List Ru) (k : Nat) (hk : k < l.length) : ckL (l.drop k) = if ruR (l.getD k ru0) then ckL (l.drop (k + 1)) else 2 := by
  rw [List.drop_eq_getElem_cons hk, ckL, List.getD_eq_getElem?_getD, List.getElem?_eq_getElem hk]
  rfl
theorem ckL_end (l : List Ru) : ckL (l.drop l.length) = 0 := by rw [List.drop_length]; rfl
set_option maxHeartbeats 16000000 in
theorem pchk18_ok (l : List Ru) (v : Value) (w : World) (h : RusAt w v l) (HB : ∀ r ∈ l, RuB r) (hl : l.length ≤ 9223372036854775807) :
    Calls Try.prog 53 #[v] w fun e w' => e = .returned (.int .i64 (ruK l)) ∧ Below w.heap.size w w' := by
  have H := Lib.hid h
  obtain ⟨ad', c', rfl, -, -⟩ := h
  replace HB := Lib.hid HB
  obtain ⟨n, hn⟩ : ∃ n, n = l.length := ⟨_, rfl⟩
  by_cases q : 32 < l.length
  · have e : ruK l = 8 := by unfold ruK; rw [if_pos q]
    rw [e]
    rw [← hn] at q hl ⊢
    have z : decide ((32 : Int) < (n : Int)) = true := decide_eq_true (by omega)
    have z' : decide (32 < n) = true := decide_eq_true q
    clear H hn e HB
    go_enter Try.func53, Try.ntmps53
    go_wp2_with fail
    go_ret
    exact ⟨rfl, Below.refl _ _⟩
  obtain ⟨E, hE⟩ : ∃ E, E = ruK l := ⟨_, rfl⟩
  rw [← hE]
  have hE0 : Hid (ckL (l.drop 0) = E) := (ruK_ck q).symm.trans hE.symm
  clear hE
  rw [← hn] at H hl q ⊢
  replace hn := Lib.hid hn
  have z : decide ((32 : Int) < (n : Int)) = false := decide_eq_false (by omega)
  have z' : decide (32 < n) = false := decide_eq_false q
  go_enter Try.func53, Try.ntmps53
  go_wp2_with fail
  go_loopg [10] n (fun g' iv wr => ∃ k : Nat, k + g' = n ∧ iv = .int .i64 k ∧ Hid (ckL (l.drop k) = E) ∧ Hid (Below w.heap.size w wr))
  case atStart => exact ⟨0, by omega, rfl, hE0, Below.refl _ _⟩
  case round =>
    obtain ⟨k, hk, rfl, hS, b⟩ := hrel
    by_cases hlt : k < n
    · have g1 : decide ((k : Int) < (n : Int)) = true := decide_eq_true (by omega)
      have g1' : decide (k < n) = true := decide_eq_true hlt
      have hS1 : Hid (E = _) := hS.out.symm.trans (ckL_drop l k (by rw [← hn.out]; exact hlt))
      clear hS
      obtain ⟨g, o, cap, e0, hg, m0, m1, m2, m3, m4, m5⟩ := (H.out.keep b.out).at (k := k) (by rw [← hn.out]; exact hlt) rfl
      injection e0 with e1 e2 e3
      subst e1 e3
      clear e2
      have ia := fun w' => at_rus g o n c' k w' hlt (k : Int) rfl (o + 6 * k) rfl
      have hbr := HB.out (l.getD k ru0) (by rw [List.getD_eq_getElem?_getD, List.getElem?_eq_getElem (by rw [← hn.out]; exact hlt)]; exact List.getElem_mem _)
      obtain ⟨r, hr⟩ : ∃ r, r = l.getD k ru0 := ⟨_, rfl⟩
      rw [← hr] at m0 m1 m2 m3 m4 m5 hbr hS1
      clear hr
      have C := Lib.hid (isR_ok r hbr (wr.alloc (ruO r)))
      clear hbr
      have bx := box_below wr (ruO r)
      have X := RBox.new wr r
      have lt : wr.heap.size < (wr.alloc (ruO r)).heap.size := by simp
      obtain ⟨al, pro, ad, bits, fr, up⟩ := r
      unfold ruV at C
      unfold ruO at X bx lt
      simp only at *
      have B0 := Lib.hid (b.out.trans (bx.mono b.out.size))
      clear bx b
      obtain ⟨T, hT⟩ : ∃ T, ruR ⟨al, pro, ad, bits, fr, up⟩ = T := ⟨_, rfl⟩
      rw [hT] at C hS1
      clear hT X lt
      go_wp2_with fail
      refine C.out.mono ?_
      rintro e w1 ⟨rfl, b2⟩
      have B1 := Lib.hid (B0.out.trans (b2.mono B0.out.size))
      clear b2 B0 C m0 m1 m2 m3 m4 m5
      cases T
      · go_wp2_with fail
        go_ret
        exact ⟨by rw [hS1.out]; rfl, B1.out⟩
      · go_wp2_with fail
        go_roundg (n - (k + 1))
        case measure => omega
        case rel => exact ⟨k + 1, by omega, by go_num, hS1.out.symm, B1⟩
    · obtain rfl : k = n := by omega
      have g1 : decide ((k : Int) < (k : Int)) = false := decide_eq_false (by omega)
      have g1' : decide (k < k) = false := decide_eq_false hlt
      have hS1 : Hid (E = 0) := by
        have := hS.out
        rw [hn.out, ckL_end] at this
        exact this.symm
      clear hS
      go_wp2_with fail
      go_ret
      exact ⟨by rw [hS1.out]; rfl, b.out⟩
set_option maxHeartbeats 4000000 in
theorem allow_ok (l : List Ru) (v : Value) (p a q : Int) (b0 : 0 ≤ a) (b1 : a < 4294967296) (w : World) (h : RusAt w v l) (HB : ∀ r ∈ l, RuB r) (hl : l.length ≤ 9223372036854775807) :
    Calls Try.prog 44 #[v, .int .i64 p, .int .u32 a, .int .i64 q] w fun e w' => e = .returned (.bool (alw l p a q)) ∧ Below w.heap.size w w' := by
  have C := Lib.hid (pchk18_ok l v w h HB hl)
  have S : Hid (∀ w', Below w.heap.size w w' → _) := fun w' b => says_ok l v p a q b0 b1 w' (h.keep b) HB hl
  unfold alw
  obtain ⟨ad', c', rfl, -, -⟩ := h
  generalize l.length = n at *
  obtain ⟨K, hK⟩ : ∃ K, K = ruK l := ⟨_, rfl⟩
  obtain ⟨Y, hY⟩ : ∃ Y, Y = sayL l p a q := ⟨_, rfl⟩
  rw [← hK] at C ⊢
  rw [← hY] at S ⊢
  clear hK hY
  by_cases k : K = 0
  · have z : (K == 0) = true := by simp [k]
    rw [z, Bool.true_and]
    go_enter Try.func44, Try.ntmps44
    go_wp2_with (first | (go_at_call 53; refine C.out.mono ?_; rintro e w1 ⟨rfl, b1⟩; have S1 := Lib.hid (S.out w1 b1)) | (go_at_call 54; refine S1.out.mono ?_; rintro e w2 ⟨rfl, b2⟩))
    go_ret
    exact ⟨rfl, b1.trans (b2.mono b1.size)⟩
  · have z : (K == 0) = false := by simp [k]
    rw [z, Bool.false_and]
    go_enter Try.func44, Try.ntmps44
    go_wp2_with (go_at_call 53; refine C.out.mono ?_; rintro e w1 ⟨rfl, b1⟩)
    go_ret
    exact ⟨rfl, b1⟩
end Go.Proofs.Ytndaohiecpdmlaa
