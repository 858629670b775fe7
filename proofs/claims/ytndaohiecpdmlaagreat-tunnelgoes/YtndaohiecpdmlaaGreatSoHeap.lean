/-
  What slices.siftDownOrdered and heapSortOrdered leave of numbers of 32 bits. No condition but how many there can be.
-/
import Derived.Test.YtndaohiecpdmlaaGreatSoIns
import Derived.Deep.DeepCutAuto
namespace Go.Proofs.YtndaohiecpdmlaaGreat
set_option maxRecDepth 100000
open Go.RowKit Go.Sort

/-- Whether the right child is there, and greater than the left one. -/
def rgt (hi F root : Nat) (d : Array Int) : Bool := decide (2 * root + 2 < hi) && ltInt d[F + (2 * root + 1)]! d[F + (2 * root + 2)]!
def kid (hi F root : Nat) (d : Array Int) : Nat := if rgt hi F root d then 2 * root + 2 else 2 * root + 1
theorem sift_end {hi F root : Nat} {d : Array Int} (h : hi ≤ 2 * root + 1) : siftDown ltInt hi F root d = d := by rw [siftDown, dif_pos h]
theorem sift_kid {hi F root : Nat} {d : Array Int} (h : ¬ hi ≤ 2 * root + 1) :
    siftDown ltInt hi F root d = if ltInt d[F + root]! d[F + kid hi F root d]! then siftDown ltInt hi F (kid hi F root d) (Sort.swp d (F + root) (F + kid hi F root d)) else d := by
  rw [siftDown, dif_neg h]
  unfold kid rgt
  have e : F + (2 * root + 1) + 1 = F + (2 * root + 2) := by omega
  rw [e]
  by_cases h1 : 2 * root + 2 < hi
  · cases hL : ltInt d[F + (2 * root + 1)]! d[F + (2 * root + 2)]! with
    | true =>
      simp only [h1, decide_true, Bool.and_self, if_true]
      cases hS : ltInt d[F + root]! d[F + (2 * root + 2)]! <;> simp
    | false =>
      simp only [Bool.and_false]
      cases hS : ltInt d[F + root]! d[F + (2 * root + 1)]! <;> simp [hS]
  · simp only [h1, decide_false, Bool.false_and]
    cases hS : ltInt d[F + root]! d[F + (2 * root + 1)]! <;> simp [hS]
set_option maxHeartbeats 4000000 in
theorem sift_ok (g off n c : Nat) (d : Array Int) (lo hi first : Nat) (w : World) (h : Srt w w g off n c d) (hlo : lo ≤ hi) (hb : first + hi ≤ n) (hn : n < 4611686018427387904) :
    Calls Tryz.prog 104 #[.slice (some ⟨g, off, none⟩) n c, .int .i64 lo, .int .i64 hi, .int .i64 first] w fun e w' => e = .returned (.tuple #[]) ∧ Srt w w' g off n c (siftDown ltInt hi first lo d) := by
  have H := Lib.hid h
  clear h
  obtain ⟨D, hD⟩ : ∃ D, D = siftDown ltInt hi first lo d := ⟨_, rfl⟩
  rw [← hD]
  replace hD := Lib.hid hD
  go_enter Tryz.func104, Tryz.ntmps104
  go_wp2
  go_loopg [8] (hi - lo) (fun k s8 wr => ∃ (root : Nat) (dk : Array Int), s8 = .int .i64 root ∧ root ≤ hi ∧ hi - root ≤ k ∧ Hid (Srt w wr g off n c dk) ∧ Hid (siftDown ltInt hi first root dk = D))
  case atStart => exact ⟨lo, d, rfl, hlo, Nat.le_refl _, H.out, hD.out.symm⟩
  case round =>
    obtain ⟨root, dk, rfl, hr, hk, R, E⟩ := hrel
    by_cases h0 : hi ≤ 2 * root + 1
    · have h0z : (hi : Int) ≤ 2 * (root : Int) + 1 := by omega
      have E0 : Hid (dk = D) := (sift_end h0).symm.trans E.out
      go_wp2
      go_end0
      exact ⟨rfl, E0.out ▸ R.out⟩
    · have h0z : ¬ ((hi : Int) ≤ 2 * (root : Int) + 1) := by omega
      obtain ⟨G, hG⟩ : ∃ G : Nat → Int, ∀ t, G t = dk[t]! := ⟨fun t => dk[t]!, fun _ => rfl⟩
      have hcw : ∀ t, t < n → wr.cell? ⟨g, off + t, none⟩ = some (.int .u32 (G t)) := fun t ht => by rw [hG]; exact (R.out.cell t ht).1
      obtain ⟨B, hB⟩ : ∃ B, B = rgt hi first root dk := ⟨_, rfl⟩
      have E1 := Lib.hid (E.out.symm.trans (sift_kid h0))
      replace hB := Lib.hid hB
      replace hG := Lib.hid hG
      go_upto_region 3 with fail
      go_cut [36] (fun s wc => s = .bool B ∧ ∃ q, Hid (wc = wr.drewN q))
      case first =>
        by_cases h1 : 2 * root + 2 < hi
        · have h1z : 2 * (root : Int) + 1 + 1 < (hi : Int) := by omega
          have eB : B = ltInt (G (first + 2 * root + 1)) (G (first + 2 * root + 2)) := by
            rw [hB.out, hG.out, hG.out]
            unfold rgt
            rw [decide_eq_true h1, Bool.true_and]
            rfl
          replace eB := Lib.hid eB
          go_big_quiet (first | (go_at_call 95; refine Calls.quiet_of_same (less_ok _ _ _)))
          go_wp2_with fail
          go_meet
          exact ⟨congrArg Value.bool eB.out.symm, nq, rfl⟩
        · have h1z : decide (2 * (root : Int) + 1 + 1 < (hi : Int)) = false := decide_eq_false (by omega)
          have eB : B = false := by
            rw [hB.out]
            unfold rgt
            rw [decide_eq_false h1, Bool.false_and]
          replace eB := Lib.hid eB
          go_big_quiet (first | (go_at_call 95; refine Calls.quiet_of_same (less_ok _ _ _)))
          go_wp2_with fail
          go_meet
          exact ⟨congrArg Value.bool eB.out.symm, nq, rfl⟩
      case rest =>
        obtain ⟨rfl, q, hw⟩ := hcut
        have R1 := Lib.hid (hw.out ▸ R.out.drewN q : Srt w wc g off n c dk)
        clear hw R hcw
        obtain ⟨ch, hch⟩ : ∃ ch, ch = kid hi first root dk := ⟨_, rfl⟩
        rw [← hch] at E1
        have hchB : Hid (ch = if B then 2 * root + 2 else 2 * root + 1) := by
          rw [hch]
          unfold Hid kid
          rw [hB.out]
        have hch2 : ch = 2 * root + 1 ∨ (ch = 2 * root + 2 ∧ ch < hi) := by
          rw [hch]
          unfold kid
          cases e : rgt hi first root dk
          · exact .inl rfl
          · refine .inr ⟨rfl, ?_⟩
            unfold rgt at e
            simp only [Bool.and_eq_true, decide_eq_true_eq] at e
            exact e.1
        have hlt : ch < hi := by omega
        clear hch hB
        go_upto_if 36 with fail
        go_cut [9] (fun s wx => s = .int .i64 (ch : Int) ∧ wx = wc)
        case first =>
          cases B
          · have e := hchB.out
            simp only [Bool.false_eq_true, if_false] at e
            go_wp2_with fail
            go_meet
            exact ⟨by rw [e]; congr 1, rfl⟩
          · have e := hchB.out
            simp only [if_true] at e
            go_wp2_with fail
            go_meet
            exact ⟨by rw [e]; congr 1, rfl⟩
        case rest =>
          obtain ⟨rfl, rfl⟩ := hcut
          have hcw : ∀ t, t < n → wc.cell? ⟨g, off + t, none⟩ = some (.int .u32 (G t)) := fun t ht => by rw [hG.out]; exact (R1.out.cell t ht).1
          have hfw : ∀ t, t < n → wc.frozen? ⟨g, off + t, none⟩ = false := fun t ht => (R1.out.cell t ht).2
          clear hchB
          go_wp2_with fail
          go_big_quiet (first | (go_at_call 95; refine Calls.quiet_of_same (less_ok _ _ _)))
          go_wp2_with fail
          · have hS : ltInt (G (first + root)) (G (first + ch)) = false := by
              have : (!ltInt (G (first + root)) (G (first + ch))) = true := by assumption
              simpa using this
            rw [hG.out, hG.out] at hS
            have E2 := E1.out
            rw [hS] at E2
            refine bodyPost_ret (results_none rfl _ _ _) rfl ?_
            refine ⟨rfl, ?_⟩
            rw [E2]
            exact R1.out.drewN nq
          · have hS : ltInt (G (first + root)) (G (first + ch)) = true := by
              have : (!ltInt (G (first + root)) (G (first + ch))) = false := by assumption
              simpa using this
            rw [hG.out, hG.out] at hS
            have E2 := E1.out
            rw [hS, if_pos rfl] at E2
            replace E2 := Lib.hid E2
            clear E1 hS
            have hcw3 : ∀ t, t < n → (wc.drewN nq).cell? ⟨g, off + t, none⟩ = some (.int .u32 (G t)) := hcw
            have hfw3 : ∀ t, t < n → (wc.drewN nq).frozen? ⟨g, off + t, none⟩ = false := hfw
            have R3 := Lib.hid (R1.out.drewN nq)
            clear hcw hfw R1
            generalize wc.drewN nq = w3 at *
            go_region
            go_wp2
            go_roundg (hi - ch)
            case measure => omega
            case rel =>
              refine ⟨ch, Sort.swp dk (first + root) (first + ch), rfl, by omega, Nat.le_refl _, ?_, E2.out.symm⟩
              exact ((R3.out.swp (i := first + root) (j := first + ch) (by omega) (by omega) (hG.out _) (hG.out _)).drew)
theorem half_of {a b : Nat} (h : a ≤ b) : Int.tdiv ((b : Int) - (a : Int) - 1) 2 = (((b - a - 1) / 2 + 1 : Nat) : Int) - 1 := by
  rcases Nat.eq_zero_or_pos (b - a) with h0 | h0
  · have e : (b : Int) - (a : Int) - 1 = -1 := by omega
    rw [e, h0]
    rfl
  · rw [Int.tdiv_eq_ediv_of_nonneg (by omega)]
    omega
set_option maxHeartbeats 4000000 in
theorem heap_ok (g off n c a b : Nat) (d : Array Int) (w : World) (h : Srt w w g off n c d) (hab : a ≤ b) (hb : b ≤ n) (hn : n < 4611686018427387904) :
    Calls Tryz.prog 90 #[.slice (some ⟨g, off, none⟩) n c, .int .i64 a, .int .i64 b] w fun e w' => e = .returned (.tuple #[]) ∧ ∃ d', Srt w w' g off n c d' ∧ PermIn a b d d' ∧ SortedIn ltInt a b d' := by
  have hsz := h.size.1
  obtain ⟨D, hD⟩ : ∃ D, D = heapSort ltInt d a b := ⟨_, rfl⟩
  have HS : Hid (PermIn a b d D ∧ SortedIn ltInt a b D) := by
    rw [hD]
    exact heapSort_holds swo_ltInt d a b hab (by omega)
  refine Calls.mono (R := fun e w' => e = .returned (.tuple #[]) ∧ Srt w w' g off n c D) ?_ fun e w' ⟨h1, h2⟩ => ⟨h1, D, h2, HS.out⟩
  have hE := Lib.hid hD
  have H := Lib.hid h
  clear h hD HS
  have ecast : ((b - a : Nat) : Int) = (b : Int) - (a : Int) := by omega
  have hhalf := half_of hab
  obtain ⟨N, hN⟩ : ∃ N, N = b - a := ⟨_, rfl⟩
  obtain ⟨M, hM⟩ : ∃ M, M = (b - a - 1) / 2 + 1 := ⟨_, rfl⟩
  rw [← hM] at hhalf
  rw [← hN] at ecast
  have hMN : M ≤ N + 1 := by omega
  replace ecast := Lib.hid ecast
  have eN : (b : Int) - (a : Int) = (N : Int) := ecast.out.symm
  have hbN : a + N = b := by omega
  have hE2 : Hid (heapPop ltInt a N (heapBuild ltInt N a M d) = D) := by
    rw [hN, hM]
    exact hE.out.symm
  clear hN hM hE hsz
  replace hhalf := Lib.hid hhalf
  replace hbN := Lib.hid hbN
  have hNn : N ≤ n := by have := hbN.out; omega
  have hbN' : a + N ≤ n := by have := hbN.out; omega
  rw [eN] at hhalf
  have hhalf2 := hhalf.out
  go_enter Tryz.func90, Tryz.ntmps90
  go_wp2
  go_loopg [9] M (fun k s9 wr => s9 = .int .i64 ((k : Int) - 1) ∧ k ≤ M ∧ ∃ dk, Hid (Srt w wr g off n c dk) ∧ Hid (heapPop ltInt a N (heapBuild ltInt N a k dk) = D))
  case atStart => exact ⟨rfl, Nat.le_refl _, d, H.out, hE2.out⟩
  case round =>
    obtain ⟨rfl, hkk, dk, R, E⟩ := hrel
    cases gk with
    | zero =>
      have E1 : Hid (heapPop ltInt a N dk = D) := E.out
      clear E hE2 hhalf hhalf2 H hkk
      go_wp2
      go_loopg [10] N (fun k s10 wr2 => s10 = .int .i64 ((k : Int) - 1) ∧ k ≤ N ∧ ∃ dj, Hid (Srt w wr2 g off n c dj) ∧ Hid (heapPop ltInt a k dj = D))
      case atStart => exact ⟨rfl, Nat.le_refl _, dk, R.out, E1.out⟩
      case round =>
        obtain ⟨rfl, hkk, dj, R2, E2⟩ := hrel
        cases gk with
        | zero =>
          have E3 : Hid (dj = D) := E2.out
          go_wp2
          go_end0
          exact ⟨rfl, E3.out ▸ R2.out⟩
        | succ k =>
          obtain ⟨G, hG⟩ : ∃ G : Nat → Int, ∀ t, G t = dj[t]! := ⟨fun t => dj[t]!, fun _ => rfl⟩
          have hcw : ∀ t, t < n → wr.cell? ⟨g, off + t, none⟩ = some (.int .u32 (G t)) := fun t ht => by rw [hG]; exact (R2.out.cell t ht).1
          have hfw : ∀ t, t < n → wr.frozen? ⟨g, off + t, none⟩ = false := fun t ht => (R2.out.cell t ht).2
          replace hG := Lib.hid hG
          have E3 : Hid (heapPop ltInt a k (siftDown ltInt k a 0 (Sort.swp dj a (a + k))) = D) := E2.out
          clear E1 R E2
          rcases Nat.eq_zero_or_pos k with hk0 | hkp
          · subst hk0
            go_wp2_with fail
            go_region
            go_wp2_with fail
            have S1 := Lib.hid ((R2.out.swp (i := a) (j := a) (by omega) (by omega) (hG.out _) (hG.out _)).drew)
            clear hcw hfw R2
            refine (sift_ok g off n c (Sort.swp dj a a) 0 0 a _ S1.out.start (Nat.le_refl _) (by omega) hn).mono ?_
            rintro e w1 ⟨rfl, s1⟩
            have S2 := Lib.hid (S1.out.again s1)
            clear s1 S1
            go_wp2
            go_roundg 0
            case measure => omega
            case rel => exact ⟨by simp, by omega, _, S2, E3⟩
          · go_wp2_with fail
            go_region
            go_wp2_with fail
            have S1 := Lib.hid ((R2.out.swp (i := a) (j := a + k) (by omega) (by omega) (hG.out _) (hG.out _)).drew)
            clear hcw hfw R2
            refine (sift_ok g off n c (Sort.swp dj a (a + k)) 0 k a _ S1.out.start (Nat.zero_le _) (by omega) hn).mono ?_
            rintro e w1 ⟨rfl, s1⟩
            have S2 := Lib.hid (S1.out.again s1)
            clear s1 S1
            go_wp2
            go_roundg k
            case measure => omega
            case rel => exact ⟨by simp, by omega, _, S2, E3⟩
    | succ k =>
      have hcall := Lib.hid (sift_ok g off n c dk k N a wr R.out.start (by omega) (by omega) hn)
      have E3 : Hid (heapPop ltInt a N (heapBuild ltInt N a k (siftDown ltInt N a k dk)) = D) := E.out
      clear E hE2
      go_wp2_with fail
      refine hcall.out.mono ?_
      rintro e w1 ⟨rfl, s1⟩
      have S2 := Lib.hid (R.out.again s1)
      clear s1 R hcall
      go_wp2
      go_roundg k
      case measure => omega
      case rel => exact ⟨by simp, by omega, _, S2, E3⟩
end Go.Proofs.YtndaohiecpdmlaaGreat
