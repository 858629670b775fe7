/-
  What the document's own Allow answers of rules in memory. No condition but what the types allow.
-/
import Derived.Test.YtndaohiecpdmlaaPoRef
import Derived.Deep.LoopGhost
namespace Go.Proofs.Ytndaohiecpdmlaa
set_option maxRecDepth 100000
open Go.RowKit Go.Sort

set_option maxHeartbeats 16000000 in
theorem rhas_r (r : Ru) (hb : RuB r) (a : Int) (b0 : 0 ≤ a) (b1 : a < 4294967296) (w : World) : Calls Try.prog 25 #[.agg #[.int .u32 r.ad, .int .i64 r.bits], .int .u32 a] w fun e w' => e = .returned (.bool (inP r.ad r.bits a)) ∧ Below w.heap.size w w' := rhas_ok r.ad r.bits a w hb.a0 hb.a1 b0 b1
set_option maxHeartbeats 16000000 in
theorem rallow_ok (l : List Ru) (v : Value) (p a q : Int) (b0 : 0 ≤ a) (b1 : a < 4294967296) (w : World) (h : RusAt w v l) (HB : ∀ r ∈ l, RuB r) (hl : l.length ≤ 9223372036854775807) :
    Calls Try.prog 13 #[v, .int .i64 p, .int .u32 a, .int .i64 q] w fun e w' => e = .returned (.bool (alw l p a q)) ∧ Below w.heap.size w w' := by
  have H := Lib.hid h
  have CK := Lib.hid (rchk18_ok l v w h HB hl)
  obtain ⟨ad', c', rfl, -, -⟩ := h
  replace HB := Lib.hid HB
  obtain ⟨n, hn⟩ : ∃ n, n = l.length := ⟨_, rfl⟩
  obtain ⟨E, hE⟩ : ∃ E, E = sayL l p a q := ⟨_, rfl⟩
  unfold alw
  rw [← hE]
  obtain ⟨K, hK⟩ : ∃ K, K = ruK l := ⟨_, rfl⟩
  rw [← hK] at CK ⊢
  clear hK
  rw [← hn] at H CK hl ⊢
  replace hn := Lib.hid hn
  have hE0 : Hid (sayL (l.drop 0) p a q = E) := hE.symm
  clear hE
  by_cases hk0 : K = 0
  · have z : (K == 0) = true := by simp [hk0]
    have z2 : (K != 0) = false := by simp [hk0]
    rw [z, Bool.true_and]
    clear hk0
    go_enter Try.func13, Try.ntmps13
    go_wp2_with (go_at_call 24; refine CK.out.mono ?_; rintro e w0 ⟨rfl, b00⟩; have BB := Lib.hid b00; clear b00)
    go_loopg [9] n (fun g' iv wr => ∃ k : Nat, k + g' = n ∧ iv = .int .i64 k ∧ Hid (sayL (l.drop k) p a q = E) ∧ Hid (Below w.heap.size w wr))
    case atStart => exact ⟨0, by omega, rfl, hE0, BB.out⟩
    case round =>
      obtain ⟨k, hk, rfl, hS, b⟩ := hrel
      by_cases hlt : k < n
      · have g1 : decide ((k : Int) < (n : Int)) = true := decide_eq_true (by omega)
        have g1' : decide (k < n) = true := decide_eq_true hlt
        have hS1 : Hid (E = _) := hS.out.symm.trans (sayL_drop l p a q k (by rw [← hn.out]; exact hlt))
        clear hS
        obtain ⟨g, o, cap, e0, hg, m0, m1, m2, m3, m4, m5⟩ := (H.out.keep b.out).at (k := k) (by rw [← hn.out]; exact hlt) rfl
        injection e0 with e1 e2 e3
        subst e1 e3
        clear e2
        have ia := fun w' => at_rus g o n c' k w' hlt (k : Int) rfl (o + 6 * k) rfl
        have hbr := HB.out (l.getD k ru0) (by rw [List.getD_eq_getElem?_getD, List.getElem?_eq_getElem (by rw [← hn.out]; exact hlt)]; exact List.getElem_mem _)
        obtain ⟨r, hr⟩ : ∃ r, r = l.getD k ru0 := ⟨_, rfl⟩
        rw [← hr] at m0 m1 m2 m3 m4 m5 hbr hS1
        clear hr
        have C := Lib.hid (rhas_r r hbr a b0 b1)
        clear hbr
        unfold fit con at hS1
        have bx := box_below wr (ruO r)
        have X := RBox.new wr r
        have lt : ∀ o, wr.heap.size < (wr.alloc o).heap.size := fun o => by simp
        obtain ⟨al, pro, ad, bits, fr, up⟩ := r
        unfold ruO at X bx
        simp only at *
        have B0 := Lib.hid (b.out.trans (bx.mono b.out.size))
        clear bx b
        generalize inP ad bits a = T at *
        obtain ⟨c1, e1⟩ : ∃ c, (pro == 0) = c := ⟨_, rfl⟩
        obtain ⟨c2, e2⟩ : ∃ c, (pro == p) = c := ⟨_, rfl⟩
        obtain ⟨c4, e4⟩ : ∃ c, decide (fr ≤ q) = c := ⟨_, rfl⟩
        obtain ⟨c5, e5⟩ : ∃ c, decide (q ≤ up) = c := ⟨_, rfl⟩
        rw [e1, e2, e4, e5] at hS1
        cases c1
        · cases c2
          · obtain ⟨l1, k0, k1, k2, k3, k4, k5⟩ := X
            go_wp2_with fail
            go_roundg (n - (k + 1))
            case measure => omega
            case rel => exact ⟨k + 1, by omega, by go_num, hS1.out.symm, B0⟩
          · go_wp2_with fail
            refine (C.out _).mono ?_
            rintro e w1 ⟨rfl, b2⟩
            have B1 := Lib.hid (B0.out.trans (b2.mono B0.out.size))
            obtain ⟨l1, k0, k1, k2, k3, k4, k5⟩ := X.keep (lt _) b2
            clear X b2 B0 C lt m0 m1 m2 m3 m4 m5
            cases T
            · go_wp2_with fail
              go_roundg (n - (k + 1))
              case measure => omega
              case rel => exact ⟨k + 1, by omega, by go_num, hS1.out.symm, B1⟩
            · cases c4
              · go_wp2_with fail
                go_roundg (n - (k + 1))
                case measure => omega
                case rel => exact ⟨k + 1, by omega, by go_num, hS1.out.symm, B1⟩
              · cases c5
                · go_wp2_with fail
                  go_roundg (n - (k + 1))
                  case measure => omega
                  case rel => exact ⟨k + 1, by omega, by go_num, hS1.out.symm, B1⟩
                · go_wp2_with fail
                  go_ret
                  exact ⟨by rw [hS1.out]; rfl, B1.out⟩
        · go_wp2_with fail
          refine (C.out _).mono ?_
          rintro e w1 ⟨rfl, b2⟩
          have B1 := Lib.hid (B0.out.trans (b2.mono B0.out.size))
          obtain ⟨l1, k0, k1, k2, k3, k4, k5⟩ := X.keep (lt _) b2
          clear X b2 B0 C lt m0 m1 m2 m3 m4 m5
          cases T
          · go_wp2_with fail
            go_roundg (n - (k + 1))
            case measure => omega
            case rel => exact ⟨k + 1, by omega, by go_num, hS1.out.symm, B1⟩
          · cases c4
            · go_wp2_with fail
              go_roundg (n - (k + 1))
              case measure => omega
              case rel => exact ⟨k + 1, by omega, by go_num, hS1.out.symm, B1⟩
            · cases c5
              · go_wp2_with fail
                go_roundg (n - (k + 1))
                case measure => omega
                case rel => exact ⟨k + 1, by omega, by go_num, hS1.out.symm, B1⟩
              · go_wp2_with fail
                go_ret
                exact ⟨by rw [hS1.out]; rfl, B1.out⟩
      · obtain rfl : k = n := by omega
        have g1 : decide ((k : Int) < (k : Int)) = false := decide_eq_false (by omega)
        have g1' : decide (k < k) = false := decide_eq_false hlt
        have hS1 : Hid (E = false) := by
          have := hS.out
          rw [hn.out, sayL_end] at this
          exact this.symm
        clear hS
        go_wp2_with fail
        go_ret
        exact ⟨by rw [hS1.out]; rfl, b.out⟩
  · have z : (K == 0) = false := by simp [hk0]
    have z2 : (K != 0) = true := by simp [hk0]
    rw [z, Bool.false_and]
    clear hk0
    go_enter Try.func13, Try.ntmps13
    go_wp2_with (go_at_call 24; refine CK.out.mono ?_; rintro e w0 ⟨rfl, b00⟩)
    go_ret
    exact ⟨rfl, b00⟩
end Go.Proofs.Ytndaohiecpdmlaa
