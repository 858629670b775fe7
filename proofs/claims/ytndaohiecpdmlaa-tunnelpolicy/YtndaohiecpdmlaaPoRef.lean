/-
  What the document's own port and Check answer of rules in memory. No condition but what the types allow.
-/
import Derived.Test.YtndaohiecpdmlaaPoOwn
import Derived.Test.YtndaohiecpdmlaaPfRefH
import Derived.Deep.LoopGhost
namespace Go.Proofs.Ytndaohiecpdmlaa
set_option maxRecDepth 100000
open Go.RowKit Go.Sort

theorem port_ok (n : Int) (w : World) : Calls Try.prog 35 #[.int .i64 n] w fun e w' => e = .returned (.bool (decide (0 ≤ n) && decide (n ≤ 65535))) ∧ w' = w := by
  obtain ⟨c1, e1⟩ : ∃ c, decide (0 ≤ n) = c := ⟨_, rfl⟩
  obtain ⟨c2, e2⟩ : ∃ c, decide (n ≤ 65535) = c := ⟨_, rfl⟩
  rw [e1, e2]
  cases c1
  all_goals
    go_enter Try.func35, Try.ntmps35
    go_wp2
    go_ret
    exact ⟨rfl, rfl⟩
theorem rcheck_r (r : Ru) (hb : RuB r) (w : World) : Calls Try.prog 34 #[.agg #[.int .u32 r.ad, .int .i64 r.bits]] w fun e w' => e = .returned (.bool (rt r.ad r.bits)) ∧ Below w.heap.size w w' := rcheck_ok r.ad r.bits w hb.a0 hb.a1
theorem ruR_ref (r : Ru) : ruR r = !(decide (r.pro < 0) || decide (255 < r.pro) || !rt r.ad r.bits || !(decide (0 ≤ r.fr) && decide (r.fr ≤ 65535)) || !(decide (0 ≤ r.up) && decide (r.up ≤ 65535)) || decide (r.up < r.fr)) := by
  unfold ruR
  generalize rt r.ad r.bits = t
  cases t
  · simp
  · rw [Bool.eq_iff_iff]
    simp
    omega
set_option maxHeartbeats 16000000 in
theorem rchk18_ok (l : List Ru) (v : Value) (w : World) (h : RusAt w v l) (HB : ∀ r ∈ l, RuB r) (hl : l.length ≤ 9223372036854775807) :
    Calls Try.prog 24 #[v] w fun e w' => e = .returned (.int .i64 (ruK l)) ∧ Below w.heap.size w w' := by
  have H := Lib.hid h
  obtain ⟨ad', c', rfl, -, -⟩ := h
  replace HB := Lib.hid HB
  obtain ⟨n, hn⟩ : ∃ n, n = l.length := ⟨_, rfl⟩
  by_cases q : 32 < l.length
  · have e : ruK l = 8 := by unfold ruK; rw [if_pos q]
    rw [e]
    rw [← hn] at q hl ⊢
    have z : decide ((32 : Int) < (n : Int)) = true := decide_eq_true (by omega)
    have z' : decide (32 < n) = true := decide_eq_true q
    clear H hn e HB
    go_enter Try.func24, Try.ntmps24
    go_wp2_with fail
    go_ret
    exact ⟨rfl, Below.refl _ _⟩
  obtain ⟨E, hE⟩ : ∃ E, E = ruK l := ⟨_, rfl⟩
  rw [← hE]
  have hE0 : Hid (ckL (l.drop 0) = E) := (ruK_ck q).symm.trans hE.symm
  clear hE
  rw [← hn] at H hl q ⊢
  replace hn := Lib.hid hn
  have z : decide ((32 : Int) < (n : Int)) = false := decide_eq_false (by omega)
  have z' : decide (32 < n) = false := decide_eq_false q
  go_enter Try.func24, Try.ntmps24
  go_wp2_with fail
  go_loopg [3] n (fun g' iv wr => ∃ k : Nat, k + g' = n ∧ iv = .int .i64 k ∧ Hid (ckL (l.drop k) = E) ∧ Hid (Below w.heap.size w wr))
  case atStart => exact ⟨0, by omega, rfl, hE0, Below.refl _ _⟩
  case round =>
    obtain ⟨k, hk, rfl, hS, b⟩ := hrel
    by_cases hlt : k < n
    · have g1 : decide ((k : Int) < (n : Int)) = true := decide_eq_true (by omega)
      have g1' : decide (k < n) = true := decide_eq_true hlt
      have hS1 : Hid (E = _) := hS.out.symm.trans (ckL_drop l k (by rw [← hn.out]; exact hlt))
      clear hS
      obtain ⟨g, o, cap, e0, hg, m0, m1, m2, m3, m4, m5⟩ := (H.out.keep b.out).at (k := k) (by rw [← hn.out]; exact hlt) rfl
      injection e0 with e1 e2 e3
      subst e1 e3
      clear e2
      have ia := fun w' => at_rus g o n c' k w' hlt (k : Int) rfl (o + 6 * k) rfl
      have hbr := HB.out (l.getD k ru0) (by rw [List.getD_eq_getElem?_getD, List.getElem?_eq_getElem (by rw [← hn.out]; exact hlt)]; exact List.getElem_mem _)
      obtain ⟨r, hr⟩ : ∃ r, r = l.getD k ru0 := ⟨_, rfl⟩
      rw [← hr] at m0 m1 m2 m3 m4 m5 hbr hS1
      clear hr
      have C := Lib.hid (rcheck_r r hbr)
      have P1 := Lib.hid (port_ok r.fr)
      have P2 := Lib.hid (port_ok r.up)
      clear hbr
      rw [ruR_ref] at hS1
      have bx := box_below wr (ruO r)
      have X := RBox.new wr r
      have lt : ∀ o, wr.heap.size < (wr.alloc o).heap.size := fun o => by simp
      obtain ⟨al, pro, ad, bits, fr, up⟩ := r
      unfold ruO at X bx
      simp only at *
      have B0 := Lib.hid (b.out.trans (bx.mono b.out.size))
      clear bx b
      generalize rt ad bits = T at *
      obtain ⟨c1, e1⟩ : ∃ c, decide (pro < 0) = c := ⟨_, rfl⟩
      obtain ⟨c2, e2⟩ : ∃ c, decide (255 < pro) = c := ⟨_, rfl⟩
      obtain ⟨c4, e4⟩ : ∃ c, (decide (0 ≤ fr) && decide (fr ≤ 65535)) = c := ⟨_, rfl⟩
      obtain ⟨c5, e5⟩ : ∃ c, (decide (0 ≤ up) && decide (up ≤ 65535)) = c := ⟨_, rfl⟩
      obtain ⟨c6, e6⟩ : ∃ c, decide (up < fr) = c := ⟨_, rfl⟩
      rw [e4] at P1
      rw [e5] at P2
      rw [e1, e2, e4, e5, e6] at hS1
      replace e4 := Lib.hid e4
      replace e5 := Lib.hid e5
      cases c1
      · cases c2
        · go_wp2_with fail
          refine (C.out _).mono ?_
          rintro e w1 ⟨rfl, b2⟩
          have B1 := Lib.hid (B0.out.trans (b2.mono B0.out.size))
          obtain ⟨l1, k0, k1, k2, k3, k4, k5⟩ := X.keep (lt _) b2
          clear X b2 B0 C lt m0 m1 m2 m3 m4 m5
          cases T
          · go_wp2_with fail
            go_ret
            exact ⟨by rw [hS1.out]; rfl, B1.out⟩
          · go_wp2_with fail
            refine (P1.out _).mono ?_
            rintro e w2 ⟨rfl, rfl⟩
            clear P1
            cases c4
            · go_wp2_with fail
              go_ret
              exact ⟨by rw [hS1.out]; rfl, B1.out⟩
            · go_wp2_with fail
              refine (P2.out _).mono ?_
              rintro e w2 ⟨rfl, rfl⟩
              clear P2
              cases c5
              · go_wp2_with fail
                go_ret
                exact ⟨by rw [hS1.out]; rfl, B1.out⟩
              · cases c6
                · go_wp2_with fail
                  go_roundg (n - (k + 1))
                  case measure => omega
                  case rel => exact ⟨k + 1, by omega, by go_num, hS1.out.symm, B1⟩
                · go_wp2_with fail
                  go_ret
                  exact ⟨by rw [hS1.out]; rfl, B1.out⟩
        · obtain ⟨l1, k0, k1, k2, k3, k4, k5⟩ := X
          go_wp2_with fail
          go_ret
          exact ⟨by rw [hS1.out]; rfl, B0.out⟩
      · obtain ⟨l1, k0, k1, k2, k3, k4, k5⟩ := X
        go_wp2_with fail
        go_ret
        exact ⟨by rw [hS1.out]; rfl, B0.out⟩
    · obtain rfl : k = n := by omega
      have g1 : decide ((k : Int) < (k : Int)) = false := decide_eq_false (by omega)
      have g1' : decide (k < k) = false := decide_eq_false hlt
      have hS1 : Hid (E = 0) := by
        have := hS.out
        rw [hn.out, ckL_end] at this
        exact this.symm
      clear hS
      go_wp2_with fail
      go_ret
      exact ⟨by rw [hS1.out]; rfl, b.out⟩
end Go.Proofs.Ytndaohiecpdmlaa
