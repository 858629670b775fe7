/-
  slices.Sort and slices.Compact at numbers of 32 bits in a row of one's own, none too: the same numbers, rising, each once. No condition but how many there can be.
-/
import Derived.Test.YtndaohiecpdmlaaGreatSoCmp
namespace Go.Proofs.YtndaohiecpdmlaaGreat
set_option maxRecDepth 100000
open Go.RowKit Go.Sort

/-! ### no row -/
theorem ins_nil (w : World) : Calls Tryz.prog 89 #[.slice none 0 0, .int .i64 0, .int .i64 0] w fun e w' => e = .returned (.tuple #[]) ∧ w' = w := by
  go_enter Tryz.func89, Tryz.ntmps89
  go_wp2
  go_rounds 1
  go_end0
  exact ⟨rfl, rfl⟩
theorem pdq_nil (w : World) : Calls Tryz.prog 74 #[.slice none 0 0, .int .i64 0, .int .i64 0, .int .i64 0] w fun e w' => e = .returned (.tuple #[]) ∧ w' = w := by
  go_enter Tryz.func74, Tryz.ntmps74
  go_wp2_with fail
  go_loopg [1, 2] 0 (fun _ s1 s2 wr => s1 = .int .i64 0 ∧ s2 = .int .i64 0 ∧ wr = w)
  case atStart => exact ⟨rfl, rfl, rfl⟩
  case round =>
    obtain ⟨rfl, rfl, rfl⟩ := hrel
    go_wp2_with fail
    refine (ins_nil _).mono ?_
    rintro e w1 ⟨rfl, rfl⟩
    go_wp2_with fail
    refine bodyPost_ret (results_none rfl _ _ _) rfl ?_
    exact ⟨rfl, rfl⟩
theorem sort_nil (w : World) : Calls Tryz.prog 62 #[.slice none 0 0] w fun e w' => e = .returned (.tuple #[]) ∧ w' = w := by
  have hLen : Hid (∀ w, Calls Tryz.prog 72 #[.int .u64 0] w fun e w' => e = .returned (.int .i64 0) ∧ w' = w) := fun w => by
    have h := Tryz.bits_Len 0 w (by omega) (by omega)
    have e : Lib.bitLen (0 : Int).toNat = 0 := by rw [show (0 : Int).toNat = 0 from rfl, bitLen_eq 0 (by omega)]; rfl
    rwa [e] at h
  go_enter Tryz.func62, Tryz.ntmps62
  go_wp2_with (first | (go_at_call 72; refine (hLen.out _).mono ?_; rintro e w' ⟨rfl, rfl⟩) | (go_at_call 74; refine (pdq_nil _).mono ?_; rintro e w' ⟨rfl, rfl⟩))
  go_end0
  exact ⟨rfl, rfl⟩
theorem cmp_nil (w : World) : Calls Tryz.prog 63 #[.slice none 0 0] w fun e w' => e = .returned (.slice none 0 0) ∧ w' = w := by
  go_enter Tryz.func63, Tryz.ntmps63
  go_wp2
  go_ret
  exact ⟨rfl, rfl⟩
/-! ### what compact leaves -/
theorem cu_mem (d : Array Int) (x : Int) : ∀ m, x ∈ Lib.compactUpTo d m ↔ ∃ j, j < m ∧ d[j]! = x
  | 0 => by simp [Lib.compactUpTo]
  | m + 1 => by
    rw [Lib.compactUpTo_succ, List.mem_append, cu_mem d x m]
    cases hk : Lib.keeps d m with
    | true =>
      simp only [if_true, List.mem_singleton]
      constructor
      · rintro (⟨j, hj, e⟩ | e)
        · exact ⟨j, by omega, e⟩
        · exact ⟨m, by omega, e.symm⟩
      · rintro ⟨j, hj, e⟩
        by_cases q : j = m
        · subst q; exact .inr e.symm
        · exact .inl ⟨j, by omega, e⟩
    | false =>
      have hm : 0 < m ∧ d[m]! = d[m - 1]! := by
        unfold Lib.keeps at hk
        simp only [decide_eq_false_iff_not, not_or, Decidable.not_not] at hk
        exact ⟨by omega, hk.2⟩
      simp only [Bool.false_eq_true, if_false, List.not_mem_nil, or_false]
      constructor
      · rintro ⟨j, hj, e⟩
        exact ⟨j, by omega, e⟩
      · rintro ⟨j, hj, e⟩
        by_cases q : j = m
        · subst q; exact ⟨j - 1, by omega, by rw [← e, hm.2]⟩
        · exact ⟨j, by omega, e⟩
theorem cu_rise (d : Array Int) (n : Nat) (h : ∀ i j, i < j → j < n → d[i]! ≤ d[j]!) : ∀ m, m ≤ n → (Lib.compactUpTo d m).Pairwise (· < ·)
  | 0, _ => by simp [Lib.compactUpTo]
  | m + 1, hm => by
    rw [Lib.compactUpTo_succ]
    have ih := cu_rise d n h m (by omega)
    cases hk : Lib.keeps d m with
    | false => simpa using ih
    | true =>
      rw [if_pos rfl, List.pairwise_append]
      refine ⟨ih, List.pairwise_singleton _ _, fun x hx y hy => ?_⟩
      rw [List.mem_singleton] at hy
      subst hy
      obtain ⟨j, hj, rfl⟩ := (cu_mem d x m).1 hx
      unfold Lib.keeps at hk
      simp only [decide_eq_true_eq] at hk
      rcases hk with hk | hk
      · omega
      · have h1 := h (m - 1) m (by omega) (by omega)
        by_cases q : j = m - 1
        · subst q; omega
        · have := h j (m - 1) (by omega) (by omega)
          omega
/-! ### a row of one's own -/
theorem OwnK.base {X : Type} {K : RowK X} {w : World} {b b2 : Nat} {v : Value} {d : List X} (h : OwnK K w b v d) (hb : ∀ g, v.ownBlock = some g → b2 ≤ g) : OwnK K w b2 v d := by
  refine ⟨h.1, ?_⟩
  rcases h.2 with h | ⟨g, cap, cur, h1, h2, h3⟩
  · exact .inl h
  · exact .inr ⟨g, cap, cur, h1, hb g (by rw [h1]; rfl), h3⟩
theorem OwnK.pre {X : Type} {K : RowK X} (hK : K.Ok) {w : World} {b g n c k : Nat} {d : List X} (h : OwnK K w b (.slice (some ⟨g, 0, none⟩) n c) d) (hk : k ≤ d.length) : OwnK K w b (.slice (some ⟨g, 0, none⟩) k c) (d.take k) := by
  have hl : (d.take k).length = k := by rw [List.length_take]; omega
  refine ⟨flat_len hK.len _, ?_⟩
  rcases h.2 with ⟨e, _⟩ | ⟨g', cap, cur, e, h2, h3, h4, h5, h6, h7⟩
  · cases e
  · injection e with e1 e2 e3
    injection e1 with e1
    injection e1 with e1
    subst e1 e3
    refine .inr ⟨g, c, cur, by rw [hl], h2, h3, by omega, h5, h6, ?_⟩
    have e7 : (d.take k).flatMap K.cells = (d.flatMap K.cells).take (k * K.n) := by
      have e8 : d.flatMap K.cells = (d.take k).flatMap K.cells ++ (d.drop k).flatMap K.cells := by rw [← List.flatMap_append, List.take_append_drop]
      rw [e8, List.take_left' (by rw [flat_len hK.len, hl])]
    rw [e7, ← h7, List.take_take, hl]
    congr 1
    have := Nat.mul_le_mul_right K.n hk
    omega
theorem own_srt {w : World} {base : Nat} {v : Value} {d : List Int} (h : OwnK KU w base v d) : (v = .slice none 0 0 ∧ d = []) ∨ ∃ g c, v = .slice (some ⟨g, 0, none⟩) d.length c ∧ base ≤ g ∧ Srt w w g 0 d.length c d.toArray := by
  rcases h.form with q | ⟨g, c, rfl, _, hb, _⟩
  · exact .inl q
  · exact .inr ⟨g, c, rfl, hb, h.base fun _ _ => Nat.zero_le _, .refl _ _⟩
theorem sort32 (base : Nat) (v : Value) (d : List Int) (w : World) (h : OwnK KU w base v d) (hl : d.length < 4611686018427387904) :
    Calls Tryz.prog 62 #[v] w fun e w' => e = .returned (.tuple #[]) ∧ ∃ d', OwnK KU w' base v d' ∧ d'.Perm d ∧ d'.Pairwise (· ≤ ·) ∧ Kept (fun k => v.ownBlock = some k) w w' := by
  rcases own_srt h with ⟨rfl, rfl⟩ | ⟨g, c, rfl, hb, S⟩
  · exact (sort_nil w).mono fun e w' ⟨h1, h2⟩ => ⟨h1, [], h2 ▸ h, .refl _, .nil, h2 ▸ .refl _ _⟩
  · refine (sort_ok g 0 d.length c d.toArray w S hl).mono fun e w' ⟨h1, d', s, p, q⟩ => ⟨h1, d'.toList, ?_, ?_, ?_, ?_⟩
    · exact s.own.base fun k hk => by injection hk with hk; have hk : g = k := hk; omega
    · have hs := s.size.1
      have := p.2.2
      have e1 : (d'.extract 0 d.length) = d' := by rw [← hs]; simp
      rw [e1] at this
      simpa using this
    · rw [List.pairwise_iff_getElem]
      intro i j hi hj hij
      rw [Array.length_toList] at hi hj
      have hs := s.size.1
      have := lt_f.1 (q i j (Nat.zero_le _) hij (by omega))
      rw [getElem!_pos d' i hi, getElem!_pos d' j hj] at this
      simpa using this
    · exact s.kept.mono fun k _ e => by
        have : k = g := e
        subst this
        rfl
theorem comp32 (base : Nat) (v : Value) (d : List Int) (w : World) (h : OwnK KU w base v d) (hl : d.length < 4611686018427387904) (hs : d.Pairwise (· ≤ ·)) :
    Calls Tryz.prog 63 #[v] w fun e w' => ∃ v' d', e = .returned v' ∧ OwnK KU w' base v' d' ∧ d'.length ≤ d.length ∧ d'.Pairwise (· < ·) ∧ (∀ x, x ∈ d' ↔ x ∈ d) ∧ v'.ownBlock = v.ownBlock ∧ Kept (fun k => v.ownBlock = some k) w w' := by
  rcases own_srt h with ⟨rfl, rfl⟩ | ⟨g, c, rfl, hb, S⟩
  · exact (cmp_nil w).mono fun e w' ⟨h1, h2⟩ => ⟨_, [], h1, h2 ▸ h, Nat.le_refl _, .nil, fun x => Iff.rfl, rfl, h2 ▸ .refl _ _⟩
  · refine (cmp_ok g 0 d.length c d.toArray w S hl).mono fun e w' ⟨k, d', h1, C⟩ => ?_
    have hz := C.srt.size.1
    have hk := C.le
    have er : d'.toList.take k = Lib.compactUpTo d.toArray d.length := by
      apply List.ext_getElem?
      intro j
      by_cases q : j < k
      · rw [C.low j q, List.getElem?_take, if_pos q, Array.getElem?_toList, getElem!_pos d' j (by omega), Array.getElem?_eq_getElem]
      · rw [List.getElem?_take, if_neg q, List.getElem?_eq_none (by rw [C.len]; omega)]
    have hget : ∀ j (hj : j < d.length), d.toArray[j]! = d[j] := fun j hj => by
      rw [getElem!_pos d.toArray j (by simpa using hj)]
      simp
    refine ⟨_, d'.toList.take k, h1, (C.srt.own.pre ku_ok (by rw [Array.length_toList]; omega)).base fun k hk => by injection hk with hk; have hk : g = k := hk; omega, by rw [List.length_take]; omega, ?_, fun x => ?_, rfl, C.srt.kept.mono fun k _ e => by
        have : k = g := e
        subst this
        rfl⟩
    · rw [er]
      refine cu_rise _ d.length (fun i j hij hj => ?_) _ (Nat.le_refl _)
      rw [hget i (by omega), hget j hj]
      exact List.pairwise_iff_getElem.1 hs i j (by omega) hj hij
    · rw [er, cu_mem, List.mem_iff_getElem]
      constructor
      · rintro ⟨j, hj, e⟩
        exact ⟨j, hj, by rw [← hget j hj]; exact e⟩
      · rintro ⟨j, hj, e⟩
        exact ⟨j, hj, by rw [hget j hj]; exact e⟩
end Go.Proofs.YtndaohiecpdmlaaGreat
