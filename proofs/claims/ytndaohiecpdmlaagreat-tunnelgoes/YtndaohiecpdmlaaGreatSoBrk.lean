/-
  What slices.breakPatternsOrdered leaves of numbers of 32 bits: the same ones between two places. No condition but how many there can be.
-/
import Derived.Test.YtndaohiecpdmlaaGreatSoXor
namespace Go.Proofs.YtndaohiecpdmlaaGreat
set_option maxRecDepth 100000
open Go.RowKit Go.Sort

theorem Srt.aside {w0 w w' : World} {g off n c rb : Nat} {d : Array Int} (h : Srt w0 w g off n c d) (k : Kept (· = rb) w w') (hg : rb ≠ g) (hr : w0.heap.size ≤ rb) : Srt w0 w' g off n c d := by
  have hlt := h.size.2.2.1
  refine ⟨h.own.of fun b hb => ?_, ⟨k.os.trans h.kept.os, k.tape.trans h.kept.tape, k.output.trans h.kept.output, Nat.le_trans h.kept.size k.size, fun b hb hn => ?_⟩⟩
  · injection hb with hb
    subst hb
    exact k.block g hlt (Ne.symm hg)
  · exact (k.block b (Nat.lt_of_lt_of_le hb h.kept.size) (by omega)).trans (h.kept.block b hb hn)
theorem Rnd.of {w w' : World} {rb : Nat} (h : Rnd w rb) (e : w'.heap[rb]? = w.heap[rb]?) : Rnd w' rb := by
  obtain ⟨X, hX, L⟩ := h
  exact ⟨X, hX, L.of_block e⟩
/-- The power of two above a number. -/
theorem pow_at (L : Nat) (h : 1 ≤ L) (hL : L < 4611686018427387904) : ∃ M : Nat, (1 <<< bitsLen L : Nat) = M ∧ L < M ∧ M ≤ 2 * L := by
  refine ⟨_, rfl, ?_, ?_⟩
  · rw [Nat.one_shiftLeft]; exact lt_two_pow_bitsLen L
  · rw [Nat.one_shiftLeft]
    unfold bitsLen
    rw [if_neg (by omega), Nat.pow_succ]
    have := Nat.log2_self_le (show L ≠ 0 by omega)
    omega
theorem and_at (Y M : Nat) (hY : Y < 18446744073709551616) (hM : M < 18446744073709551616) (h1 : 1 ≤ M) : ∃ o : Nat, bits .and .u64 (Y : Int) ((M : Int) - 1) = (o : Int) ∧ o < M := by
  refine ⟨Y &&& (M - 1), ?_, ?_⟩
  · rw [show (M : Int) - 1 = ((M - 1 : Nat) : Int) by omega]
    exact u64_and_nat Y (M - 1) hY (by omega)
  · have := Nat.and_le_right (n := Y) (m := M - 1)
    omega
set_option maxHeartbeats 8000000 in
theorem brk_ok (g off n c a b : Nat) (d : Array Int) (w : World) (h : Srt w w g off n c d) (hab : a ≤ b) (hb : b ≤ n) (hn : n < 4611686018427387904) :
    Calls Tryz.prog 91 #[.slice (some ⟨g, off, none⟩) n c, .int .i64 a, .int .i64 b] w fun e w' => e = .returned (.tuple #[]) ∧ ∃ d', Srt w w' g off n c d' ∧ PermIn a b d d' := by
  have hsz := h.size.1
  have hg := h.size.2.2.1
  have H := Lib.hid h
  clear h
  obtain ⟨L, hL⟩ : ∃ L, L = b - a := ⟨_, rfl⟩
  have eL : (b : Int) - (a : Int) = (L : Int) := by omega
  have hbL : a + L = b := by omega
  by_cases h8 : 8 ≤ L
  · obtain ⟨M, hM, hM1, hM2⟩ := pow_at L (by omega) (by omega)
    have PW : Hid (∀ w, _) := fun w => pow_ok L (by omega) w
    rw [hM] at PW
    have z8 : decide ((8 : Int) ≤ (L : Int)) = true := decide_eq_true (by omega)
    have wM : IntKind.u64.wrap ((M : Int) - 1) = (M : Int) - 1 := by rw [IntKind.wrap_u64]; omega
    have wL : IntKind.u64.wrap (L : Int) = (L : Int) := by rw [IntKind.wrap_u64]; omega
    have q4 : Int.tdiv (L : Int) 4 = ((L / 4 : Nat) : Int) := by rw [Int.tdiv_eq_ediv_of_nonneg (by omega)]; omega
    obtain ⟨Q, hQ⟩ : ∃ Q, Q = L / 4 := ⟨_, rfl⟩
    rw [← hQ] at q4
    have hQ1 : 2 ≤ Q := by omega
    have hQ2 : 4 * Q ≤ L := by omega
    clear hM hQ
    replace hL := Lib.hid hL
    replace hbL := Lib.hid hbL
    have R0 : Hid (Rnd (w.alloc (.cells #[.int .u64 (L : Int)] 126)) w.heap.size) := ⟨L, by omega, Lies.new w _ _⟩
    have S0 : Hid (Srt w (w.alloc (.cells #[.int .u64 (L : Int)] 126)) g off n c d) := H.out.add ((Below.refl _ _).alloc (Nat.le_refl _) _)
    go_enter Tryz.func91, Tryz.ntmps91
    go_wp2_with (go_at_call 99; refine (PW.out _).mono ?_; rintro e w' ⟨rfl, rfl⟩)
    go_loopg [9] 3 (fun k s9 wr => ∃ t : Nat, t + k = 3 ∧ s9 = .int .i64 ((a + Q * 2 - 1 + t : Nat) : Int) ∧ ∃ dk, Hid (Rnd wr w.heap.size) ∧ Hid (Srt w wr g off n c dk) ∧ Hid (PermIn a b d dk))
    case atStart => exact ⟨0, rfl, by congr 1; omega, d, R0.out, S0.out, permIn_refl d a b⟩
    case round =>
      obtain ⟨t, ht, rfl, dk, R, S, P⟩ := hrel
      obtain ⟨I, hI⟩ : ∃ I : Nat, I = a + Q * 2 - 1 + t := ⟨_, rfl⟩
      rw [← hI]
      by_cases h3 : t < 3
      · have z3 : decide ((I : Int) ≤ (a : Int) + (Q : Int) * 2 + 1) = true := decide_eq_true (by omega)
        have hIb : I < b ∧ a ≤ I := by have := hbL.out; omega
        have NX := Lib.hid (next_ok w.heap.size wr R.out)
        go_wp2_with fail
        refine NX.out.mono ?_
        rintro e w1 ⟨Y, rfl, hY, R1, k1⟩
        have S1 := Lib.hid (S.out.aside k1 (by omega) (Nat.le_refl _))
        replace R1 := Lib.hid R1
        clear NX R S k1
        obtain ⟨o, eo, ho⟩ := and_at Y M hY (by omega) (by omega)
        obtain ⟨G, hG⟩ : ∃ G : Nat → Int, ∀ t, G t = dk[t]! := ⟨fun t => dk[t]!, fun _ => rfl⟩
        have hcw : ∀ t, t < n → w1.cell? ⟨g, off + t, none⟩ = some (.int .u32 (G t)) := fun t ht => by rw [hG]; exact (S1.out.cell t ht).1
        have hfw : ∀ t, t < n → w1.frozen? ⟨g, off + t, none⟩ = false := fun t ht => (S1.out.cell t ht).2
        replace hG := Lib.hid hG
        have fin : ∀ x : Nat, x < L → Rnd ((w1.setCell ⟨g, off + I, none⟩ (.int .u32 (G (a + x)))).setCell ⟨g, off + (a + x), none⟩ (.int .u32 (G I))).drew w.heap.size ∧ Srt w ((w1.setCell ⟨g, off + I, none⟩ (.int .u32 (G (a + x)))).setCell ⟨g, off + (a + x), none⟩ (.int .u32 (G I))).drew g off n c (Sort.swp dk I (a + x)) ∧ PermIn a b d (Sort.swp dk I (a + x)) := fun x hx =>
          ⟨R1.out.of (by
            show (World.setCell (World.setCell _ _ _) _ _).heap[w.heap.size]? = _
            rw [Below.heap_setCell _ _ _ _ (by show w.heap.size ≠ g; omega), Below.heap_setCell _ _ _ _ (by show w.heap.size ≠ g; omega)]), (S1.out.swp (i := I) (j := a + x) (by omega) (by have := hbL.out; omega) (hG.out _) (hG.out _)).drew, PermIn.step P.out (by have := hbL.out; omega) ⟨by omega, by omega⟩ ⟨by omega, by have := hbL.out; omega⟩⟩
        replace fin := Lib.hid fin
        by_cases hoL : L ≤ o
        · have zo : decide ((L : Int) ≤ (o : Int)) = true := decide_eq_true (by omega)
          obtain ⟨x, hx⟩ : ∃ x, x = o - L := ⟨_, rfl⟩
          have ex : (o : Int) - (L : Int) = (x : Int) := by omega
          have hxL : x < L := by omega
          clear hx
          have hxn : a + x < n := by have := hbL.out; omega
          clear S1 P R1 ho
          by_cases hIx : I = a + x
          · have ez : (a : Int) + (x : Int) = (I : Int) := by omega
            obtain ⟨f1, f2, f3⟩ := fin.out x hxL
            rw [← hIx] at f1 f2 f3
            replace f1 := Lib.hid f1
            replace f2 := Lib.hid f2
            replace f3 := Lib.hid f3
            replace hIx := Lib.hid hIx
            replace hI := Lib.hid hI
            clear fin
            go_wp2_with fail
            go_region
            go_wp2
            go_roundg (gk - 1)
            case measure => omega
            case rel => exact ⟨t + 1, by omega, by rw [hI.out]; congr 1, Sort.swp dk I I, f1.out, f2.out, f3.out⟩
          · obtain ⟨f1, f2, f3⟩ := fin.out x hxL
            replace f1 := Lib.hid f1
            replace f2 := Lib.hid f2
            replace f3 := Lib.hid f3
            replace hI := Lib.hid hI
            clear fin
            go_wp2_with fail
            go_region
            go_wp2
            go_roundg (gk - 1)
            case measure => omega
            case rel => exact ⟨t + 1, by omega, by rw [hI.out]; congr 1, Sort.swp dk I (a + x), f1.out, f2.out, f3.out⟩
        · have zo : decide ((L : Int) ≤ (o : Int)) = false := decide_eq_false (by omega)
          have hxL : o < L := by omega
          have hxn : a + o < n := by have := hbL.out; omega
          clear S1 P R1 
          by_cases hIx : I = a + o
          · have ez : (a : Int) + (o : Int) = (I : Int) := by omega
            obtain ⟨f1, f2, f3⟩ := fin.out o hxL
            rw [← hIx] at f1 f2 f3
            replace f1 := Lib.hid f1
            replace f2 := Lib.hid f2
            replace f3 := Lib.hid f3
            replace hIx := Lib.hid hIx
            replace hI := Lib.hid hI
            clear fin
            go_wp2_with fail
            go_region
            go_wp2
            go_roundg (gk - 1)
            case measure => omega
            case rel => exact ⟨t + 1, by omega, by rw [hI.out]; congr 1, Sort.swp dk I I, f1.out, f2.out, f3.out⟩
          · obtain ⟨f1, f2, f3⟩ := fin.out o hxL
            replace f1 := Lib.hid f1
            replace f2 := Lib.hid f2
            replace f3 := Lib.hid f3
            replace hI := Lib.hid hI
            clear fin
            go_wp2_with fail
            go_region
            go_wp2
            go_roundg (gk - 1)
            case measure => omega
            case rel => exact ⟨t + 1, by omega, by rw [hI.out]; congr 1, Sort.swp dk I (a + o), f1.out, f2.out, f3.out⟩
      · have z3 : decide ((I : Int) ≤ (a : Int) + (Q : Int) * 2 + 1) = false := decide_eq_false (by omega)
        go_wp2
        go_end0
        exact ⟨rfl, dk, S.out, P.out⟩
  · have z8 : decide ((8 : Int) ≤ (L : Int)) = false := decide_eq_false (by omega)
    go_enter Tryz.func91, Tryz.ntmps91
    go_wp2
    go_end0
    exact ⟨rfl, d, H.out, permIn_refl d a b⟩
end Go.Proofs.YtndaohiecpdmlaaGreat
