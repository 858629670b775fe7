/-
  What slices.choosePivotOrdered answers of numbers of 32 bits: some place between the two, and nothing turns. No condition but how many there can be.
-/
import Derived.Test.YtndaohiecpdmlaaGreatSoPiv
namespace Go.Proofs.YtndaohiecpdmlaaGreat
set_option maxRecDepth 100000
open Go.RowKit Go.Sort

theorem near_at {a b I i : Nat} (h1 : a + 1 ≤ I ∧ I + 2 ≤ b) (h : I ≤ i + 1 ∧ i ≤ I + 1) : a ≤ i ∧ i < b := by omega
theorem near_n {a b n I : Nat} (h1 : a + 1 ≤ I ∧ I + 2 ≤ b) (hb : b ≤ n) : 1 ≤ I ∧ I + 1 < n := by omega
theorem lt_n {a b n i : Nat} (h : a ≤ i ∧ i < b) (hb : b ≤ n) : i < n := by omega
theorem one_of {a b x y z m : Nat} (hx : a ≤ x ∧ x < b) (hy : a ≤ y ∧ y < b) (hz : a ≤ z ∧ z < b) (h : m = x ∨ m = y ∨ m = z) : a ≤ m ∧ m < b := by
  rcases h with rfl | rfl | rfl
  · exact hx
  · exact hy
  · exact hz
set_option maxHeartbeats 4000000 in
theorem piv_ok (g off n cap : Nat) (G : Nat → Int) (a b : Nat) (w : World) (h : Reads w g off n G) (hg : g < w.heap.size) (hab : a < b) (hb : b ≤ n) (hn : n < 4611686018427387904) :
    Calls Tryz.prog 92 #[.slice (some ⟨g, off, none⟩) n cap, .int .i64 a, .int .i64 b] w fun e w' => ∃ p hint : Nat, e = .returned (.tuple #[.int .i64 p, .int .i64 hint]) ∧ (a ≤ p ∧ p < b) ∧ (hint = 0 ∨ hint = 1 ∨ hint = 2) ∧ Below w.heap.size w w' := by
  obtain ⟨L, hL⟩ : ∃ L, L = b - a := ⟨_, rfl⟩
  have eL : (b : Int) - (a : Int) = (L : Int) := by omega
  have hbL : a + L = b := by omega
  have q4 : Int.tdiv (L : Int) 4 = ((L / 4 : Nat) : Int) := by rw [Int.tdiv_eq_ediv_of_nonneg (by omega)]; omega
  obtain ⟨Q, hQ⟩ : ∃ Q, Q = L / 4 := ⟨_, rfl⟩
  rw [← hQ] at q4
  have hQ2 : 4 * Q ≤ L := by omega
  have hQ3 : L < 4 * Q + 4 := by omega
  have ne : w.heap.size ≠ g := by omega
  have b0 : Below w.heap.size w (w.alloc (.cells #[.int .i64 0] 3)) := (Below.refl _ _).alloc (Nat.le_refl _) _
  have C0 : Hid (Cnt (w.alloc (.cells #[.int .i64 0] 3)) w.heap.size) := ⟨0, Lies.new w _ _⟩
  have H0 : Hid (Reads (w.alloc (.cells #[.int .i64 0] 3)) g off n G) := fun t ht => (b0.cell hg).trans (h t ht)
  replace b0 := Lib.hid b0
  obtain ⟨wa, hwa⟩ : ∃ wa, wa = w.alloc (.cells #[.int .i64 0] 3) := ⟨_, rfl⟩
  obtain ⟨rb, hrb⟩ : ∃ rb, rb = w.heap.size := ⟨_, rfl⟩
  rw [← hwa] at b0 C0 H0
  rw [← hrb] at ne C0
  obtain ⟨I, hI⟩ : ∃ I, I = a + Q * 1 := ⟨_, rfl⟩
  obtain ⟨J, hJ⟩ : ∃ J, J = a + Q * 2 := ⟨_, rfl⟩
  obtain ⟨K, hK⟩ : ∃ K, K = a + Q * 3 := ⟨_, rfl⟩
  have iI : (a : Int) + (Q : Int) * 1 = (I : Int) := by omega
  have iI' : (a : Int) + (Q : Int) = (I : Int) := by omega
  have iJ : (a : Int) + (Q : Int) * 2 = (J : Int) := by omega
  have iK : (a : Int) + (Q : Int) * 3 = (K : Int) := by omega
  have rI : a ≤ I ∧ I < b := by omega
  have rJ : a ≤ J ∧ J < b := by omega
  have rK : a ≤ K ∧ K < b := by omega
  have rQ : 50 ≤ L → (a + 1 ≤ I ∧ I + 2 ≤ b) ∧ (a + 1 ≤ J ∧ J + 2 ≤ b) ∧ (a + 1 ≤ K ∧ K + 2 ≤ b) := by omega
  have kb : ∀ w', Kept (· = rb) wa w' → Below w.heap.size w w' := fun w' k => by
    refine b0.out.trans (k.below b0.out.size fun x hx => ?_)
    have : x = rb := hx
    omega
  have KB := Lib.hid kb
  replace hI := Lib.hid hI
  replace hJ := Lib.hid hJ
  replace hK := Lib.hid hK
  replace rQ := Lib.hid rQ
  clear kb h hL hQ hQ2 hQ3 b0 hg
  replace hbL := Lib.hid hbL
  go_enter Tryz.func92, Tryz.ntmps92
  go_upto_region 3 with fail
  rw [← hwa, ← hrb]
  clear hwa hrb
  go_upto_if 32 with fail
  go_cut [11] (fun s wx => ∃ m : Nat, s = .int .i64 (m : Int) ∧ (a ≤ m ∧ m < b) ∧ Hid (Cnt wx rb ∧ Kept (· = rb) wa wx))
  case first =>
    by_cases h8 : 8 ≤ L
    · have z8 : decide ((8 : Int) ≤ (L : Int)) = true := decide_eq_true (by omega)
      by_cases h50 : 50 ≤ L
      · have z50 : decide ((50 : Int) ≤ (L : Int)) = true := decide_eq_true (by omega)
        obtain ⟨rI', rJ', rK'⟩ := rQ.out h50
        replace rI' := Lib.hid rI'
        replace rJ' := Lib.hid rJ'
        replace rK' := Lib.hid rK'
        clear rQ
        go_wp2_with fail
        refine (adj_ok g off n cap G I rb wa H0.out ne (near_n rI'.out hb).1 (near_n rI'.out hb).2 hn C0.out).mono ?_
        rintro e w1 ⟨i1, rfl, hi1, C1, k1⟩
        have hi := near_at rI'.out hi1
        replace hi := Lib.hid hi
        clear hi1
        have H1 := Lib.hid (H0.out.aside k1 ne)
        replace C1 := Lib.hid C1
        replace k1 := Lib.hid k1
        go_wp2_with fail
        refine (adj_ok g off n cap G J rb w1 H1.out ne (near_n rJ'.out hb).1 (near_n rJ'.out hb).2 hn C1.out).mono ?_
        rintro e w2 ⟨j2, rfl, hj2, C2, k2⟩
        have hj := near_at rJ'.out hj2
        replace hj := Lib.hid hj
        clear hj2
        have H2 := Lib.hid (H1.out.aside k2 ne)
        have K2 := Lib.hid (k1.out.trans k2)
        replace C2 := Lib.hid C2
        clear k1 k2 C1 H1
        go_wp2_with fail
        refine (adj_ok g off n cap G K rb w2 H2.out ne (near_n rK'.out hb).1 (near_n rK'.out hb).2 hn C2.out).mono ?_
        rintro e w3 ⟨k3, rfl, hk3, C3, kk3⟩
        have hk := near_at rK'.out hk3
        replace hk := Lib.hid hk
        clear hk3
        have H3 := Lib.hid (H2.out.aside kk3 ne)
        have K3 := Lib.hid (K2.out.trans kk3)
        replace C3 := Lib.hid C3
        clear K2 kk3 C2 H2
        go_wp2_with fail
        refine (med_ok g off n cap G i1 j2 k3 rb w3 H3.out ne (lt_n hi.out hb) (lt_n hj.out hb) (lt_n hk.out hb) C3.out).mono ?_
        rintro e w4 ⟨m, rfl, hm, C4, k4⟩
        have K4 := Lib.hid (K3.out.trans k4)
        replace C4 := Lib.hid C4
        have hm' := one_of hi.out hj.out hk.out hm
        clear K3 k4 hm
        go_wp2_with fail
        go_meet
        exact ⟨m, rfl, hm', C4.out, K4.out⟩
      · have z50 : decide ((50 : Int) ≤ (L : Int)) = false := decide_eq_false (by omega)
        go_wp2_with fail
        refine (med_ok g off n cap G I J K rb wa H0.out ne (lt_n rI hb) (lt_n rJ hb) (lt_n rK hb) C0.out).mono ?_
        rintro e w4 ⟨m, rfl, hm, C4, k4⟩
        replace k4 := Lib.hid k4
        replace C4 := Lib.hid C4
        have hm' := one_of rI rJ rK hm
        clear hm
        go_wp2_with fail
        go_meet
        exact ⟨m, rfl, hm', C4.out, k4.out⟩
    · have z8 : decide ((8 : Int) ≤ (L : Int)) = false := decide_eq_false (by omega)
      go_wp2_with fail
      go_meet
      exact ⟨J, rfl, rJ, C0.out, .refl _ _⟩
  case rest =>
    obtain ⟨m, rfl, hm, hx⟩ := hcut
    obtain ⟨⟨z, Lz⟩, kx⟩ := hx.out
    have B1 := Lib.hid (KB.out _ kx)
    have cz := Lz.cell 0 (v := .int .i64 z) rfl
    clear hx kx Lz KB H0 C0
    by_cases z0 : z = 0
    · have y0 : (z == 0) = true := by simpa using z0
      go_wp2
      go_ret2
      exact ⟨m, 1, rfl, hm, .inr (.inl rfl), B1.out⟩
    · have y0 : (z == 0) = false := by simpa using z0
      by_cases z12 : z = 12
      · have y12 : (z == 12) = true := by simpa using z12
        go_wp2
        go_ret2
        exact ⟨m, 2, rfl, hm, .inr (.inr rfl), B1.out⟩
      · have y12 : (z == 12) = false := by simpa using z12
        go_wp2
        go_ret2
        exact ⟨m, 0, rfl, hm, .inl rfl, B1.out⟩
end Go.Proofs.YtndaohiecpdmlaaGreat
