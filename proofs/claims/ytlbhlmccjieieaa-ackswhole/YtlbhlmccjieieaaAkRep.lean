/-
  slices.Replace of ranges by one, in a row of one's own. At most sixteen ranges; no other condition.
-/
import Derived.Test.YtlbhlmccjieieaaAkIns
import Derived.BigQuiet
namespace Go.Proofs.Ytlbhlmccjieieaa
set_option maxRecDepth 100000
open Go.RowKit Go.Sort

set_option maxHeartbeats 400000 in
theorem rep_same (sv : Value) (i vb n : Nat) (l : List Rg) (lo hi : Int) (w : World) (hn : l.length = n) (ho : w.ownsRow 0 38 2 sv n (rgs l)) (hl : n ≤ 16) (hil : i ≤ n) (hv : w.heap[vb]? = some (.cells #[.int .i64 lo, .int .i64 hi] 38 (0, 0))) (hne : sv.ownBlock ≠ some vb) :
    Calls Try.prog 24 #[sv, .int .i64 (i : Int), .int .i64 (i : Int), .slice (some ⟨vb, 0, none⟩) 1 1] w fun e w' => ∃ sv', e = .returned sv' ∧ Into w w' sv sv' (l.take i ++ (lo, hi) :: l.drop i) := by
  have C : Hid (Calls Try.prog 30 #[sv, .int .i64 (i : Int), .slice (some ⟨vb, 0, none⟩) 1 1] w fun e w' => ∃ sv', e = .returned sv' ∧ Into w w' sv sv' (l.take i ++ (lo, hi) :: l.drop i)) := insert_ok sv i vb n l lo hi w hn ho hl hil hv hne
  rcases ho.2 with ⟨rfl, h0⟩ | ⟨g, c, cur, rfl, -, -, hcap, hm, -⟩
  · subst h0
    obtain rfl : i = 0 := by omega
    clear ho hn hv hne
    go_enter Try.func24, Try.ntmps24
    go_wp2_with fail
    refine C.out.mono ?_
    rintro e w' ⟨sv', rfl, h⟩
    replace h : Hid _ := h
    go_wp2
    go_ret
    exact ⟨_, rfl, h.out⟩
  · have hc63 : c ≤ 9223372036854775807 := by unfold maxLen at hm; omega
    clear ho hn hv hne hm
    by_cases hci : c = i
    · subst hci
      obtain rfl : c = n := by omega
      go_enter Try.func24, Try.ntmps24
      go_wp2_with fail
      refine C.out.mono ?_
      rintro e w' ⟨sv', rfl, h⟩
      replace h : Hid _ := h
      go_wp2
      go_ret
      exact ⟨_, rfl, h.out⟩
    · have hic : i ≤ c := by omega
      go_enter Try.func24, Try.ntmps24
      go_wp2_with fail
      refine C.out.mono ?_
      rintro e w' ⟨sv', rfl, h⟩
      replace h : Hid _ := h
      go_wp2
      go_ret
      exact ⟨_, rfl, h.out⟩
/-- What was cut out lay at the end. -/
theorem rep_tail_fin (g c i n : Nat) (l : List Rg) (lo hi : Int) (w : World) (cur X : Array Value) (hn : l.length = n) (hin : i < n) (hc : n ≤ c) (hm : c ≤ maxLen) (hs : cur.size = c * 2) (hx : ∀ k, k < 2 * n → cur[k]? = (rgs l)[k]?) (w' : World) (hw : w'.heap[g]? = some (.cells X 38 (0, 0))) (hX : X.size = c * 2) (hk : Kept (fun k => k = g) w w')
    (hXg : ∀ k, k < 2 * (i + 1) → X[k]? = (spl cur (2 * i) (rgs [(lo, hi)]))[k]?) : Into w w' (.slice (some ⟨g, 0, none⟩) n c) (.slice (some ⟨g, 0, none⟩) (i + 1) c) (l.take i ++ (lo, hi) :: l.drop n) := by
  have hlen : (l.take i ++ (lo, hi) :: l.drop n).length = i + 1 := by rw [tgt_len l i n _ (by omega)]; omega
  refine ⟨?_, fun k hk => .inl hk, hk.mono fun k _ e => by subst e; rfl⟩
  rw [hlen]
  refine own_of hw hX hlen (by omega) hm fun k hk => ?_
  have r : 2 * i + (rgs [(lo, hi)]).length ≤ cur.size := by show 2 * i + 2 ≤ _; omega
  rw [hXg k hk, spl_get r, tgt_get l i n _ (by omega), show (rgs [(lo, hi)]).length = 2 from rfl]
  by_cases q : k < 2 * i
  · rw [if_pos (by omega), if_pos q]
    exact hx k (by omega)
  · rw [if_neg (by omega), if_pos (by omega), if_neg q, if_pos (by omega)]
theorem kept_g {w w' : World} {g : Nat} (cs : Array Value) (h : Kept (fun k => k = g) w w') : Kept (fun k => k = g) w (w'.setRow g cs) :=
  ⟨h.os, h.tape, h.output, by simpa using h.size, fun k hk hf => (setRow_other _ _ _ _ hf).trans (h.block k hk hf)⟩
set_option maxHeartbeats 400000 in
theorem rep_tail (g c vb i n : Nat) (l : List Rg) (lo hi : Int) (w : World) (hn : l.length = n) (ho : w.ownsRow 0 38 2 (.slice (some ⟨g, 0, none⟩) n c) n (rgs l)) (hl : n ≤ 16) (hin : i < n) (hv : w.heap[vb]? = some (.cells #[.int .i64 lo, .int .i64 hi] 38 (0, 0))) :
    Calls Try.prog 24 #[.slice (some ⟨g, 0, none⟩) n c, .int .i64 (i : Int), .int .i64 (n : Int), .slice (some ⟨vb, 0, none⟩) 1 1] w fun e w' => ∃ sv', e = .returned sv' ∧ Into w w' (.slice (some ⟨g, 0, none⟩) n c) sv' (l.take i ++ (lo, hi) :: l.drop n) := by
  obtain ⟨cur, hg, hs, hcap, hm, hx⟩ := own_get ho
  have hrun : Hid (∀ ty, ∀ z, (builtin .append #[27, 27] ty z #[.slice (some ⟨g, 0, none⟩) i c, .slice (some ⟨vb, 0, none⟩) 1 1]).run Try.prog w = _) := fun ty => run_app2 w ty g i c ⟨vb, 0, none⟩ 1 cur (rgs [(lo, hi)]) hg rfl (one_cell hv) (by omega) hs (rgs_one _)
  have r : 2 * i + (rgs [(lo, hi)]).length ≤ cur.size := by show 2 * i + 2 ≤ _; omega
  obtain ⟨X1, hX1⟩ : ∃ X1, X1 = spl cur (2 * i) (rgs [(lo, hi)]) := ⟨_, rfl⟩
  rw [← hX1] at hrun
  have s1 : X1.size = c * 2 := by rw [hX1, spl_size r, hs]
  have h1 := setRow_heap w g cur X1 38 (0, 0) hg
  have k1 : Kept (fun k => k = g) w (w.setRow g X1) := kept_g _ (Kept.refl _ _)
  have hz1 : ¬ ((i : Int) = (n : Int)) := by omega
  have hc63 : c ≤ 9223372036854775807 := by unfold maxLen at hm; omega
  have hic : ¬ (c = i) := by omega
  have hin' : (i : Int) ≤ (n : Int) := by omega
  have hnc : (n : Int) ≤ (c : Int) := by omega
  have hicc : (i : Int) ≤ (c : Int) := by omega
  by_cases q : i + 1 < n
  · have r2 : (i + 1) * 2 + (zer (n - (i + 1))).length ≤ X1.size := by rw [zer_len]; omega
    have hcl : Hid (∀ ty, ∀ z, (builtin .clear #[27] ty z #[.slice (some ⟨g, (i + 1) * 2, none⟩) (n - (i + 1)) (c - (i + 1))]).run Try.prog (w.setRow g X1) = _) := fun ty => run_clear2 (w.setRow g X1) ty g ((i + 1) * 2) (n - (i + 1)) (c - (i + 1)) X1 h1 (by omega) (by omega)
    have fin : Hid _ := rep_tail_fin g c i n l lo hi w cur _ hn hin hcap hm hs hx _ (setRow_heap _ g X1 (spl X1 ((i + 1) * 2) (zer (n - (i + 1)))) 38 (0, 0) h1) (by rw [spl_size r2, s1]) (kept_g _ k1) (fun k hk => by rw [spl_get r2, if_pos (by omega), hX1])
    have q1 : (i : Int) + 1 < (n : Int) := by omega
    have hb2 : ¬ (c = i + 1) := by omega
    have hb3 : (i : Int) + 1 ≤ (n : Int) := by omega
    have hb4 : (0 : Int) ≤ (i : Int) + 1 := by omega
    have hb5 : i + 1 ≤ n := by omega
    generalize (spl X1 ((i + 1) * 2) (zer (n - (i + 1)))) = X2 at hcl fin
    clear h1 k1 r r2 s1 hX1 hx hg hs hm ho hv
    replace hn : Hid _ := hn
    go_enter Try.func24, Try.ntmps24
    go_wp2_with (first
      | refine obB2L _ rfl .append _ _ 27 27 rfl (.slice (some ⟨g, 0, none⟩) i c) (.slice (some ⟨vb, 0, none⟩) 1 1) rfl rfl (hrun.out _) ?_
      | refine obB1L _ rfl .clear _ 27 rfl (.slice (some ⟨g, (i + 1) * 2, none⟩) (n - (i + 1)) (c - (i + 1))) rfl (hcl.out _) ?_)
    go_ret
    exact ⟨_, rfl, fin.out⟩
  · obtain rfl : n = i + 1 := by omega
    have fin : Hid _ := rep_tail_fin g c i (i + 1) l lo hi w cur _ hn hin hcap hm hs hx _ h1 s1 k1 (fun k hk => by rw [hX1])
    clear h1 k1 r s1 hX1 hx hg hs hm ho hv
    replace hn : Hid _ := hn
    go_enter Try.func24, Try.ntmps24
    go_wp2_with (refine obB2L _ rfl .append _ _ 27 27 rfl (.slice (some ⟨g, 0, none⟩) i c) (.slice (some ⟨vb, 0, none⟩) 1 1) rfl rfl (hrun.out _) ?_)
    go_ret
    exact ⟨_, rfl, fin.out⟩
theorem rep_mid_fin (g c i j d : Nat) (l : List Rg) (lo hi : Int) (w : World) (cur X1 X2 X3 : Array Value) (hn : l.length = j + d) (hij : i < j) (hcap : j + d ≤ c) (hm : c ≤ maxLen) (hs : cur.size = c * 2) (hx : ∀ k, k < 2 * (j + d) → cur[k]? = (rgs l)[k]?) (hX1 : X1 = spl cur (i * 2) (rgs [(lo, hi)])) (hX2 : X2 = spl X1 ((i + 1) * 2) (rgs (l.drop j))) (s3 : X3.size = c * 2) (hX3 : ∀ k, k < 2 * (i + 1 + d) → X3[k]? = X2[k]?)
    (w' : World) (hw : w'.heap[g]? = some (.cells X3 38 (0, 0))) (hk : Kept (fun k => k = g) w w') : Into w w' (.slice (some ⟨g, 0, none⟩) (j + d) c) (.slice (some ⟨g, 0, none⟩) (i + 1 + d) c) (l.take i ++ (lo, hi) :: l.drop j) := by
  have hlen : (l.take i ++ (lo, hi) :: l.drop j).length = i + 1 + d := by rw [tgt_len l i j _ (by omega)]; omega
  have e2 : (rgs [(lo, hi)]).length = 2 := rfl
  have e3 : (rgs (l.drop j)).length = 2 * d := by rw [rgs_len, List.length_drop]; omega
  have r1 : i * 2 + (rgs [(lo, hi)]).length ≤ cur.size := by rw [e2]; omega
  have s1 : X1.size = c * 2 := by rw [hX1, spl_size r1, hs]
  have r2 : (i + 1) * 2 + (rgs (l.drop j)).length ≤ X1.size := by rw [e3]; omega
  refine ⟨?_, fun k hk => .inl hk, hk.mono fun k _ e => by subst e; rfl⟩
  rw [hlen]
  refine own_of hw s3 hlen (by omega) hm fun k hk => ?_
  rw [hX3 k hk, hX2, spl_get r2, tgt_get l i j _ (by omega), hX1, spl_get r1, e2, e3]
  by_cases q : k < 2 * i
  · rw [if_pos (by omega), if_pos (by omega), if_pos q]
    exact hx k (by omega)
  · by_cases r : k < 2 * i + 2
    · rw [if_pos (by omega), if_neg (by omega), if_pos (by omega), if_neg q, if_pos r, Nat.mul_comm]
    · rw [if_neg (by omega), if_pos (by omega), if_neg q, if_neg r, drop_get]
      congr 1
      omega
set_option maxHeartbeats 800000 in
theorem rep_mid (g c vb i j d : Nat) (l : List Rg) (lo hi : Int) (w : World) (hn : l.length = j + d) (ho : w.ownsRow 0 38 2 (.slice (some ⟨g, 0, none⟩) (j + d) c) (j + d) (rgs l)) (hl : j + d ≤ 16) (hij : i < j) (hd : 0 < d) (hv : w.heap[vb]? = some (.cells #[.int .i64 lo, .int .i64 hi] 38 (0, 0))) :
    Calls Try.prog 24 #[.slice (some ⟨g, 0, none⟩) (j + d) c, .int .i64 (i : Int), .int .i64 (j : Int), .slice (some ⟨vb, 0, none⟩) 1 1] w fun e w' => ∃ sv', e = .returned sv' ∧ Into w w' (.slice (some ⟨g, 0, none⟩) (j + d) c) sv' (l.take i ++ (lo, hi) :: l.drop j) := by
  obtain ⟨cur, hg, hs, hcap, hm, hx⟩ := own_get ho
  have r1 : i * 2 + (rgs [(lo, hi)]).length ≤ cur.size := by show i * 2 + 2 ≤ _; omega
  have hcpA : Hid (∀ ty, ∀ z, (builtin .copy #[27, 27] ty z #[.slice (some ⟨g, i * 2, none⟩) (i + 1 + d - i) (c - i), .slice (some ⟨vb, 0, none⟩) 1 1]).run Try.prog w.drew = _) := fun ty =>
    run_copy2 w.drew ty g (i * 2) (i + 1 + d - i) (c - i) ⟨vb, 0, none⟩ 1 1 cur (rgs [(lo, hi)]) hg (by show 2 = _; simp only [Nat.min_def]; split <;> omega) (one_cell (w := w.drew) hv) r1 (rgs_one _)
  obtain ⟨X1, hX1⟩ : ∃ X1, X1 = spl cur (i * 2) (rgs [(lo, hi)]) := ⟨_, rfl⟩
  rw [← hX1] at hcpA
  have s1 : X1.size = c * 2 := by rw [hX1, spl_size r1, hs]
  have h1 := setRow_heap w.drew g cur X1 38 (0, 0) hg
  have e3 : (rgs (l.drop j)).length = 2 * d := by rw [rgs_len, List.length_drop]; omega
  have r2 : (i + 1) * 2 + (rgs (l.drop j)).length ≤ X1.size := by rw [e3]; omega
  have hcpB : Hid (∀ ty, ∀ z, (builtin .copy #[27, 27] ty z #[.slice (some ⟨g, (i + 1) * 2, none⟩) d (c - (i + 1)), .slice (some ⟨g, j * 2, none⟩) d (c - j)]).run Try.prog (w.drew.setRow g X1).drew = _) := fun ty =>
    run_copy2 (w.drew.setRow g X1).drew ty g ((i + 1) * 2) d (c - (i + 1)) ⟨g, j * 2, none⟩ d (c - j) X1 (rgs (l.drop j)) h1 (by rw [e3]; simp)
      (fun k v hj => by
        have hlt : k < 2 * d := by have := (List.getElem?_eq_some_iff.1 hj).1; omega
        refine (row_cell (w := (w.drew.setRow g X1).drew) h1 (j * 2) k).trans ?_
        rw [hX1, spl_get r1, show (rgs [(lo, hi)]).length = 2 from rfl, if_neg (by omega), if_neg (by omega), hx _ (by omega), ← hj, drop_get]
        congr 1
        omega) r2 (rgs_one _)
  obtain ⟨X2, hX2⟩ : ∃ X2, X2 = spl X1 ((i + 1) * 2) (rgs (l.drop j)) := ⟨_, rfl⟩
  rw [← hX2] at hcpB
  have s2 : X2.size = c * 2 := by rw [hX2, spl_size r2, s1]
  have h2 := setRow_heap (w.drew.setRow g X1).drew g X1 X2 38 (0, 0) h1
  have k2 : Kept (fun k => k = g) w ((w.drew.setRow g X1).drew.setRow g X2) := kept_g _ (kept_g _ (Kept.refl _ _).drew).drew
  have hz1 : ¬ ((i : Int) = (j : Int)) := by omega
  have hz2 : ¬ ((j : Int) = (j : Int) + (d : Int)) := by omega
  have hz3 : ¬ d = 0 := by omega
  have hc63 : c ≤ 9223372036854775807 := by unfold maxLen at hm; omega
  have hic : ¬ (c = i) := by omega
  have hjc : ¬ (c = j) := by omega
  have hic1 : ¬ (c = i + 1) := by omega
  have a1 : (i : Int) ≤ (j : Int) := by omega
  have a2 : (j : Int) ≤ (c : Int) := by omega
  have a3 : (i : Int) ≤ (c : Int) := by omega
  have a4 : (j : Int) ≤ (j : Int) + (d : Int) := by omega
  have a5 : (i : Int) + 1 ≤ (j : Int) := by omega
  have a6 : ¬ ((c : Int) < (i : Int) + 1 + (d : Int)) := by omega
  have a7 : (i : Int) + 1 + (d : Int) ≤ (c : Int) := by omega
  have a8 : (0 : Int) ≤ (i : Int) + 1 := by omega
  have a9 : (i : Int) ≤ (i : Int) + 1 + (d : Int) := by omega
  have a10 : (i : Int) + 1 ≤ (i : Int) + 1 + (d : Int) := by omega
  have a11 : (i : Int) + 1 + (d : Int) ≤ (j : Int) + (d : Int) := by omega
  have a12 : (0 : Int) ≤ (i : Int) + 1 + (d : Int) := by omega
  have hw1 : IntKind.i64.wrap ((i : Int) + 1) = (i : Int) + 1 := by rw [IntKind.wrap_i64]; omega
  have hw2 : IntKind.i64.wrap ((i : Int) + 1 + (d : Int)) = (i : Int) + 1 + (d : Int) := by rw [IntKind.wrap_i64]; omega
  by_cases q : i + 1 < j
  · have r3 : (i + 1 + d) * 2 + (zer (j + d - (i + 1 + d))).length ≤ X2.size := by rw [zer_len]; omega
    have hcl : Hid (∀ ty, ∀ z, (builtin .clear #[27] ty z #[.slice (some ⟨g, (i + 1 + d) * 2, none⟩) (j + d - (i + 1 + d)) (c - (i + 1 + d))]).run Try.prog ((w.drew.setRow g X1).drew.setRow g X2) = _) := fun ty =>
      run_clear2 _ ty g ((i + 1 + d) * 2) (j + d - (i + 1 + d)) (c - (i + 1 + d)) X2 h2 (by omega) (by omega)
    have fin : Hid _ := rep_mid_fin g c i j d l lo hi w cur X1 X2 (spl X2 ((i + 1 + d) * 2) (zer (j + d - (i + 1 + d)))) hn hij hcap hm hs hx hX1 hX2 (by rw [spl_size r3, s2]) (fun k hk => by rw [spl_get r3, if_pos (by omega)]) _ (setRow_heap _ g X2 _ 38 (0, 0) h2) (kept_g _ k2)
    generalize (spl X2 ((i + 1 + d) * 2) (zer (j + d - (i + 1 + d)))) = X3 at hcl fin
    have hcd : ¬ (c = i + 1 + d) := by omega
    clear h1 h2 s1 s2 hX1 hX2 r1 r2 r3 hx hs hm ho k2 hg hv e3
    replace hn : Hid _ := hn
    go_enter Try.func24, Try.ntmps24
    go_wp2
    go_region
    go_wp2_with (refine obB2L _ rfl .copy _ _ 27 27 rfl (.slice (some ⟨g, i * 2, none⟩) (i + 1 + d - i) (c - i)) (.slice (some ⟨vb, 0, none⟩) 1 1) rfl rfl (hcpA.out _) ?_)
    go_region_law (refine obB2S rfl .copy _ _ 27 27 rfl (.slice (some ⟨g, (i + 1) * 2, none⟩) d (c - (i + 1))) (.slice (some ⟨g, j * 2, none⟩) d (c - j)) (by simp [Act.eval, Act.put]) (by simp [Act.eval, Act.put]) (hcpB.out _) ?_)
    go_wp2_with (refine obB1L _ rfl .clear _ 27 rfl (.slice (some ⟨g, (i + 1 + d) * 2, none⟩) (j + d - (i + 1 + d)) (c - (i + 1 + d))) rfl (hcl.out _) ?_)
    go_ret
    exact ⟨_, rfl, fin.out⟩
  · obtain rfl : j = i + 1 := by omega
    have fin : Hid _ := rep_mid_fin g c i (i + 1) d l lo hi w cur X1 X2 X2 hn hij hcap hm hs hx hX1 hX2 s2 (fun k hk => rfl) _ h2 k2
    clear h1 h2 s1 s2 hX1 hX2 r1 r2 hx hs hm ho k2 hg hv e3
    replace hn : Hid _ := hn
    by_cases hcd : c = i + 1 + d
    · subst hcd
      go_enter Try.func24, Try.ntmps24
      go_wp2
      go_region
      go_wp2_with (refine obB2L _ rfl .copy _ _ 27 27 rfl (.slice (some ⟨g, i * 2, none⟩) (i + 1 + d - i) (i + 1 + d - i)) (.slice (some ⟨vb, 0, none⟩) 1 1) rfl rfl (hcpA.out _) ?_)
      go_region_law (refine obB2S rfl .copy _ _ 27 27 rfl _ _ (by simp [Act.eval, Act.put]) (by simp [Act.eval, Act.put]) (hcpB.out _) ?_)
      go_wp2_with (refine obB1L _ rfl .clear _ 27 rfl (.slice (some ⟨g, 0, none⟩) 0 0) rfl (run_clear0 _ _ _ _) ?_)
      go_ret
      exact ⟨_, rfl, fin.out⟩
    · go_enter Try.func24, Try.ntmps24
      go_wp2
      go_region
      go_wp2_with (refine obB2L _ rfl .copy _ _ 27 27 rfl (.slice (some ⟨g, i * 2, none⟩) (i + 1 + d - i) (c - i)) (.slice (some ⟨vb, 0, none⟩) 1 1) rfl rfl (hcpA.out _) ?_)
      go_region_law (refine obB2S rfl .copy _ _ 27 27 rfl _ _ (by simp [Act.eval, Act.put]) (by simp [Act.eval, Act.put]) (hcpB.out _) ?_)
      go_wp2_with (refine obB1L _ rfl .clear _ 27 rfl (.slice (some ⟨g, (i + 1 + d) * 2, none⟩) 0 (c - (i + 1 + d))) rfl (run_clear0 _ _ _ _) ?_)
      go_ret
      exact ⟨_, rfl, fin.out⟩
theorem replace_ok (sv : Value) (i j vb n : Nat) (l : List Rg) (lo hi : Int) (w : World) (hn : l.length = n) (ho : w.ownsRow 0 38 2 sv n (rgs l)) (hl : n ≤ 16) (hij : i ≤ j) (hjn : j ≤ n) (hv : w.heap[vb]? = some (.cells #[.int .i64 lo, .int .i64 hi] 38 (0, 0))) (hne : sv.ownBlock ≠ some vb) :
    Calls Try.prog 24 #[sv, .int .i64 (i : Int), .int .i64 (j : Int), .slice (some ⟨vb, 0, none⟩) 1 1] w fun e w' => ∃ sv', e = .returned sv' ∧ Into w w' sv sv' (l.take i ++ (lo, hi) :: l.drop j) := by
  by_cases q : i = j
  · subst q
    exact rep_same sv i vb n l lo hi w hn ho hl hjn hv hne
  · rcases ho.2 with ⟨rfl, h0⟩ | ⟨g, c, cur, rfl, -, -, hcap, -, -⟩
    · exact absurd h0 (by omega)
    · by_cases r : j = n
      · subst r
        exact rep_tail g c vb i j l lo hi w hn ho hl (by omega) hv
      · obtain ⟨d, rfl⟩ : ∃ d, n = j + d := ⟨n - j, by omega⟩
        exact rep_mid g c vb i j d l lo hi w hn ho hl (by omega) (by omega) hv
end Go.Proofs.Ytlbhlmccjieieaa
