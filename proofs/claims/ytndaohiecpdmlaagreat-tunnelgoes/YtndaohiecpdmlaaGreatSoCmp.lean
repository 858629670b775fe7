/-
  What slices.Sort and slices.Compact leave of numbers of 32 bits. No condition but how many there can be.
-/
import Derived.Test.YtndaohiecpdmlaaGreatSoPdq
import Derived.Lib.SliceRun
import Derived.Lib.SlicesCompact
namespace Go.Proofs.YtndaohiecpdmlaaGreat
set_option maxRecDepth 100000
open Go.RowKit Go.Sort

theorem sort_ok (g off n c : Nat) (d : Array Int) (w : World) (h : Srt w w g off n c d) (hn : n < 4611686018427387904) :
    Calls Tryz.prog 62 #[.slice (some ⟨g, off, none⟩) n c] w fun e w' => e = .returned (.tuple #[]) ∧ ∃ d', Srt w w' g off n c d' ∧ PermIn 0 n d d' ∧ SortedIn ltInt 0 n d' := by
  have hLen : Hid (∀ w, Calls Tryz.prog 72 #[.int .u64 (n : Int)] w fun e w' => e = .returned (.int .i64 (bitsLen n : Nat)) ∧ w' = w) := fun w => by
    have h := Tryz.bits_Len (n : Int) w (by omega) (by omega)
    rwa [Int.toNat_natCast, bitLen_eq _ (by omega)] at h
  have hk : bitsLen n ≤ 62 := (bitsLen_le_iff n 62).2 (by omega)
  have C := Lib.hid (pdq_ok n g off n c 0 n (bitsLen n) d w (by omega) h (Nat.zero_le _) (Nat.le_refl _) hn (by omega) (.inl rfl))
  clear h
  generalize bitsLen n = B at *
  go_enter Tryz.func62, Tryz.ntmps62
  go_wp2_with (go_at_call 72; refine (hLen.out _).mono ?_; rintro e w' ⟨rfl, rfl⟩)
  refine C.out.mono ?_
  rintro e w1 ⟨rfl, F⟩
  replace F := Lib.hid F
  clear C
  go_wp2
  go_end0
  exact ⟨rfl, F.out⟩
theorem Srt.fill {w0 : World} {g off n c : Nat} (x : Int) : ∀ (m : Nat) {w : World} {d : Array Int} (k : Nat), Srt w0 w g off n c d → k + m ≤ n → ∃ d', Srt w0 (w.setCells g (off + k) (List.replicate m (.int .u32 x))) g off n c d' ∧ ∀ t, t < k → d'[t]! = d[t]!
  | 0, w, d, k, h, _ => ⟨d, h, fun _ _ => rfl⟩
  | m + 1, w, d, k, h, hk => by
    obtain ⟨d', h1, h2⟩ := Srt.fill x m (k + 1) (h.one k (by omega) x) (by omega)
    exact ⟨d', h1, fun t ht => by rw [h2 t (by omega), getElem!_set_other d k t _ (by omega)]⟩
/-- What slices.Compact hands back. -/
structure Cmp (w w' : World) (g off n c : Nat) (d : Array Int) (k : Nat) (d' : Array Int) : Prop where
  srt : Srt w w' g off n c d'
  len : (Lib.compactUpTo d n).length = k
  le : k ≤ n
  low : ∀ j, j < k → (Lib.compactUpTo d n)[j]? = some d'[j]!
theorem cmp_all {w w' : World} {g off n c : Nat} {d : Array Int} (h : Srt w w' g off n c d) (hk : ∀ j, j < n → Lib.keeps d j = true) : Cmp w w' g off n c d n d := by
  have hs := h.size.1
  have e := Lib.compactUpTo_all d n hk
  refine ⟨h, by rw [e]; simp, Nat.le_refl _, fun j hj => ?_⟩
  rw [e]
  simp [hj]
set_option maxHeartbeats 8000000 in
theorem cmp_ok (g off n c : Nat) (d : Array Int) (w : World) (h : Srt w w g off n c d) (hn : n < 4611686018427387904) :
    Calls Tryz.prog 63 #[.slice (some ⟨g, off, none⟩) n c] w fun e w' => ∃ (k : Nat) (d' : Array Int), e = .returned (.slice (some ⟨g, off, none⟩) k c) ∧ Cmp w w' g off n c d k d' := by
  have hsz := h.size.1
  have hnc := h.size.2.2.2
  have H := Lib.hid h
  clear h
  by_cases h2 : n < 2
  · have z2 : decide ((n : Int) < 2) = true := decide_eq_true (by omega)
    have F : Hid (Cmp w w g off n c d n d) := cmp_all H.out fun j hj => Lib.keeps_lt_one d j (by omega)
    go_enter Tryz.func63, Tryz.ntmps63
    go_wp2_with fail
    go_ret
    exact ⟨n, d, rfl, F.out⟩
  · have z2 : decide ((n : Int) < 2) = false := decide_eq_false (by omega)
    obtain ⟨G, hG⟩ : ∃ G : Nat → Int, ∀ t, G t = d[t]! := ⟨fun t => d[t]!, fun _ => rfl⟩
    replace hG := Lib.hid hG
    go_enter Tryz.func63, Tryz.ntmps63
    go_wp2_with fail
    go_loopg [3] n (fun r s3 wr => ∃ k : Nat, s3 = .int .i64 k ∧ k + r = n + 1 ∧ 1 ≤ k ∧ k ≤ n ∧ Hid (Srt w wr g off n c d) ∧ Hid (∀ j, j < k → Lib.keeps d j = true))
    case atStart => exact ⟨1, rfl, by omega, Nat.le_refl _, by omega, H.out, fun j hj => Lib.keeps_lt_one d j hj⟩
    case round =>
      obtain ⟨k, rfl, hkr, hk1, hkn, S, A⟩ := hrel
      by_cases hlt : k < n
      · have z3 : decide ((k : Int) < (n : Int)) = true := decide_eq_true (by omega)
        have hcw : ∀ t, t < n → wr.cell? ⟨g, off + t, none⟩ = some (.int .u32 (G t)) := fun t ht => by rw [hG.out]; exact (S.out.cell t ht).1
        go_wp2_with fail
        go_quiet (fail)
        go_wp2_with fail
        · have he : (G k == G (k - 1)) = true := by assumption
          have e0 : d[k]! = d[k - 1]! := by rw [← hG.out, ← hG.out]; simpa using he
          have C0 : Hid (Lib.CompInv d (k + 1) k d) := Lib.CompInv.start A.out (Lib.keeps_neg (by omega) e0)
          have S0 := Lib.hid (S.out.drewN nq)
          clear S A e0 he hcw
          obtain ⟨M, hM⟩ : ∃ M, M = n - k := ⟨_, rfl⟩
          obtain ⟨C2, hC2⟩ : ∃ C2, C2 = c - k := ⟨_, rfl⟩
          rw [← hM, ← hC2]
          have hM2 : k + M = n := by omega
          have hMn : M < 4611686018427387904 := by omega
          have hM1 : 1 ≤ M := by omega
          replace hC2 := Lib.hid hC2
          replace hM := Lib.hid hM
          replace hM2 := Lib.hid hM2
          go_loopg [3, 5] M (fun r s3 s5 wx => ∃ (q t : Nat) (dk : Array Int), s3 = .int .i64 q ∧ s5 = .int .i64 (t : Int) ∧ t + r = M + 1 ∧ 1 ≤ t ∧ t ≤ M ∧ Hid (Srt w wx g off n c dk) ∧ Hid (Lib.CompInv d (k + t) q dk))
          case atStart => exact ⟨k, 1, d, rfl, rfl, by omega, by omega, by omega, S0.out, C0.out⟩
          case round =>
            obtain ⟨q, t, dk, rfl, rfl, htr, ht1, htM, S, C⟩ := hrel
            have hq := C.out.lt
            by_cases hlt2 : t < M
            · have z4 : decide ((t : Int) < (M : Int)) = true := decide_eq_true (by omega)
              have z4' : decide (t < M) = true := decide_eq_true hlt2
              have hkt : k + t < n := by have := hM2.out; omega
              have hqn : q < n := by omega
              obtain ⟨D, hD⟩ : ∃ D : Nat → Int, ∀ t, D t = dk[t]! := ⟨fun t => dk[t]!, fun _ => rfl⟩
              have hcw : ∀ t, t < n → wr.cell? ⟨g, off + t, none⟩ = some (.int .u32 (D t)) := fun t ht => by rw [hD]; exact (S.out.cell t ht).1
              have hfw : ∀ t, t < n → wr.frozen? ⟨g, off + t, none⟩ = false := fun t ht => (S.out.cell t ht).2
              replace hD := Lib.hid hD
              have c1 := hcw (k + t) hkt
              have c2 := hcw (k + (t - 1)) (by omega)
              rw [← Nat.add_assoc] at c1 c2
              have ia := fun w' => at_u32 g (off + k) M C2 t w' hlt2 (t : Int) rfl (off + k + t) rfl
              have ib := fun w' => at_u32 g (off + k) M C2 (t - 1) w' (by omega) ((t : Int) - 1) (by omega) (off + k + (t - 1)) rfl
              have e1 : D (k + t) = d[k + t]! := by rw [hD.out]; exact C.out.high _ (by omega)
              have e2 : D (k + (t - 1)) = d[k + t - 1]! := by rw [hD.out, C.out.high _ (by omega)]; congr 1; omega
              obtain ⟨x, hx⟩ : ∃ x, x = D (k + t) := ⟨_, rfl⟩
              obtain ⟨y, hy⟩ : ∃ y, y = D (k + (t - 1)) := ⟨_, rfl⟩
              rw [← hx] at c1 e1
              rw [← hy] at c2 e2
              replace e1 := Lib.hid e1
              replace e2 := Lib.hid e2
              clear hx hy
              go_wp2_with fail
              go_quiet (fail)
              go_wp2_with fail
              · have hne : (x != y) = true := by assumption
                have hk2 : Lib.keeps d (k + t) = true := Lib.keeps_pos (by rw [← e1.out, ← e2.out]; simpa using hne)
                have C1 := Lib.hid (C.out.keep (by omega) hk2)
                rw [← e1.out] at C1
                have S1 := Lib.hid ((S.out.drewN nq).one q hqn x)
                clear S C hcw hfw
                go_roundg (gk - 1)
                case measure => omega
                case rel => exact ⟨q + 1, t + 1, _, by simp, by simp, by omega, by omega, by omega, S1.out, C1.out⟩
              · have hne : (x != y) = false := by assumption
                have hk2 : Lib.keeps d (k + t) = false := Lib.keeps_neg (by omega) (by rw [← e1.out, ← e2.out]; simpa using hne)
                have C1 := Lib.hid (C.out.skip hk2)
                have S1 := Lib.hid (S.out.drewN nq)
                clear S C hcw hfw
                go_roundg (gk - 1)
                case measure => omega
                case rel => exact ⟨q, t + 1, dk, rfl, by simp, by omega, by omega, by omega, S1.out, C1.out⟩
            · have z4 : decide ((t : Int) < (M : Int)) = false := decide_eq_false (by omega)
              have z4' : decide (t < M) = false := decide_eq_false hlt2
              have ekt : k + t = n := by have := hM2.out; omega
              rw [ekt] at C hq
              obtain ⟨d', F1, F2⟩ := S.out.fill 0 (n - q) q (by omega)
              have hcl : Hid (∀ ty z, (builtin .clear #[79] ty z #[.slice (some ⟨g, off + q, none⟩) (n - q) (c - q)]).run Tryz.prog wr = .ok (.value (.tuple #[])) (wr.setCells g (off + q) (List.replicate (n - q) (.int .u32 0)))) := fun ty z => by
                have := Lib.run_clear_slice (P := Tryz.prog) wr 79 22 ty (.int .u32 0) Tryz.underlying79 (fun w => by kernel_rfl) rfl rfl g (off + q) (n - q) (c - q) (by omega) (fun j hj => by
                  rw [Nat.add_assoc, (S.out.cell (q + j) (by omega)).1]; rfl) (fun j hj => by rw [Nat.add_assoc]; exact (S.out.cell (q + j) (by omega)).2)
                simp only [builtin, Sem.run_bind, Sem.run_pure, this, Result.andThen_ok]
              have F : Hid (Cmp w (wr.setCells g (off + q) (List.replicate (n - q) (.int .u32 0))) g off n c d q d') :=
                ⟨F1, by have := C.out.len; exact this, by omega, fun j hj => by rw [F2 j hj]; exact C.out.low j hj⟩
              clear C F1 F2 S
              generalize wr.setCells g (off + q) (List.replicate (n - q) (.int .u32 0)) = wz at *
              go_wp2_with (refine obB1L _ rfl .clear _ 79 rfl (.slice (some ⟨g, off + q, none⟩) (n - q) (c - q)) rfl (hcl.out _) ?_)
              go_ret
              exact ⟨q, d', rfl, F.out⟩
        · have he : (G k == G (k - 1)) = false := by assumption
          have e0 : d[k]! ≠ d[k - 1]! := by rw [← hG.out, ← hG.out]; simpa using he
          have A2 : Hid (∀ j, j < k + 1 → Lib.keeps d j = true) := fun j hj => by
            by_cases e : j = k
            · rw [e]; exact Lib.keeps_pos e0
            · exact A.out j (by omega)
          have S0 := Lib.hid (S.out.drewN nq)
          clear S A e0 he hcw
          go_roundg (gk - 1)
          case measure => omega
          case rel => exact ⟨k + 1, by simp, by omega, by omega, by omega, S0.out, A2.out⟩
      · have z3 : decide ((k : Int) < (n : Int)) = false := decide_eq_false (by omega)
        have F : Hid (Cmp w wr g off n c d n d) := cmp_all S.out fun j hj => A.out j (by omega)
        go_wp2_with fail
        go_ret
        exact ⟨n, d, rfl, F.out⟩
end Go.Proofs.YtndaohiecpdmlaaGreat
