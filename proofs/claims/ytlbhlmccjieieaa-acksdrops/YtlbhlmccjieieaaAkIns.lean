/-
  slices.Insert of one range into a row of one's own. At most sixteen ranges; no other condition.
-/
import Derived.Test.YtlbhlmccjieieaaAkRun
import Derived.Laws.CopyOwn
namespace Go.Proofs.Ytlbhlmccjieieaa
set_option maxRecDepth 100000
open Go.RowKit Go.Sort

/-- What is left: a row of one's own with the ranges m, in the same block or a new one; nothing else has changed. -/
def Into (w w' : World) (sv sv' : Value) (m : List Rg) : Prop := w'.ownsRow 0 38 2 sv' m.length (rgs m) ∧ (∀ k, sv'.ownBlock = some k → sv.ownBlock = some k ∨ w.heap.size ≤ k) ∧ Kept (fun k => sv.ownBlock = some k) w w'
theorem one_cell {w : World} {vb : Nat} {lo hi : Int} (hv : w.heap[vb]? = some (.cells #[.int .i64 lo, .int .i64 hi] 38 (0, 0))) : ∀ j v, (rgs [(lo, hi)])[j]? = some v → w.cell? ((⟨vb, 0, none⟩ : Addr).add j) = some v := by
  intro j v hj
  have e : (⟨vb, 0, none⟩ : Addr).add j = ⟨vb, j, none⟩ := by rw [Addr.add_lit, Nat.zero_add]
  rw [e]
  simp [World.cell?, hv]
  match j, hj with
  | 0, hj => simpa [rgs] using hj
  | 1, hj => simpa [rgs] using hj
  | j + 2, hj => simp [rgs] at hj
theorem kept_row {w w' : World} {g : Nat} {sv : Value} (hs : sv.ownBlock = some g) (cs : Array Value) (h : Kept (fun k => sv.ownBlock = some k) w w') : Kept (fun k => sv.ownBlock = some k) w (w'.setRow g cs) :=
  ⟨h.os, h.tape, h.output, by simpa using h.size, fun k hk hf => (setRow_other _ _ _ _ (by intro e; subst e; exact hf hs)).trans (h.block k hk hf)⟩
theorem row_cell {w : World} {g : Nat} {cur : Array Value} (hg : w.heap[g]? = some (.cells cur 38 (0, 0))) (o j : Nat) : w.cell? ((⟨g, o, none⟩ : Addr).add j) = cur[o + j]? := by
  rw [Addr.add_lit]
  simp [World.cell?, hg]
theorem drop_get (l : List Rg) (j k : Nat) : (rgs (l.drop j))[k]? = (rgs l)[2 * j + k]? := by rw [rgs_drop, List.getElem?_drop]
theorem tgt_get (l : List Rg) (i j : Nat) (x : Rg) (hi : i ≤ l.length) (k : Nat) : (rgs (l.take i ++ x :: l.drop j))[k]? = if k < 2 * i then (rgs l)[k]? else if k < 2 * i + 2 then (rgs [x])[k - 2 * i]? else (rgs l)[2 * j + (k - (2 * i + 2))]? := by
  have e : rgs (x :: l.drop j) = rgs [x] ++ rgs (l.drop j) := rfl
  have h2 : (rgs [x]).length = 2 := rfl
  have h1 : (rgs (l.take i)).length = 2 * i := by rw [rgs_len, List.length_take]; omega
  rw [rgs_append, List.getElem?_append, h1, e, List.getElem?_append, h2]
  by_cases q : k < 2 * i
  · rw [if_pos q, if_pos q, rgs_tk, List.getElem?_take, if_pos q]
  · rw [if_neg q, if_neg q]
    by_cases r : k < 2 * i + 2
    · rw [if_pos (by omega), if_pos r]
    · rw [if_neg (by omega), if_neg r, drop_get]
      congr 1
theorem tgt_len (l : List Rg) (i j : Nat) (x : Rg) (hi : i ≤ l.length) : (l.take i ++ x :: l.drop j).length = i + 1 + (l.length - j) := by
  simp
  omega
theorem ins_over (g vb : Nat) (cur : Array Value) (lo hi : Int) (w : World) (hg : w.heap[g]? = some (.cells cur 38 (0, 0))) (h0 : cur.size ≠ 0) (hne : vb ≠ g) (hv : w.heap[vb]? = some (.cells #[.int .i64 lo, .int .i64 hi] 38 (0, 0))) (o lb cb : Nat) :
    (callFunc 31 #[.slice (some ⟨vb, 0, none⟩) 1 1, .slice (some ⟨g, o, none⟩) lb cb]).run Try.prog w = .ok (.value (.bool false)) w := by
  rw [run_callFunc_extern Try.func31 (by kernel_rfl) (by kernel_rfl) (by kernel_rfl) (e := Extern.SlicesOverlaps.overlaps #[27, 27] #[4]) (by kernel_rfl),
    Lib.run_overlaps_apart w 27 4 38 Try.underlying27 2 Try.sizeOf38 ⟨vb, 0, none⟩ ⟨g, o, none⟩ 1 1 lb cb hne 38 38 2 cur.size (by simp [World.shape?, hv]) (by simp [World.shape?, hg]) h0 (by simp [World.frozen?, hv]) (by simp [World.frozen?, hv])]
  rfl
set_option maxHeartbeats 400000 in
theorem ins_shift (g c vb i n : Nat) (l : List Rg) (lo hi : Int) (w : World) (hn : l.length = n) (ho : w.ownsRow 0 38 2 (.slice (some ⟨g, 0, none⟩) n c) n (rgs l)) (hl : n ≤ 16) (hil : i < n) (hc : n < c) (hv : w.heap[vb]? = some (.cells #[.int .i64 lo, .int .i64 hi] 38 (0, 0))) (hne : vb ≠ g) :
    Calls Try.prog 30 #[.slice (some ⟨g, 0, none⟩) n c, .int .i64 (i : Int), .slice (some ⟨vb, 0, none⟩) 1 1] w fun e w' => ∃ sv', e = .returned sv' ∧ Into w w' (.slice (some ⟨g, 0, none⟩) n c) sv' (l.take i ++ (lo, hi) :: l.drop i) := by
  obtain ⟨cur, hg, hs, -, hm, hx⟩ := own_get ho
  have hov := ins_over g vb cur lo hi w hg (by omega) hne hv
  have hz2 : ¬ ((i : Int) = (n : Int)) := by omega
  have hw1 : IntKind.i64.wrap ((i : Int) + 1) = (i : Int) + 1 := by rw [IntKind.wrap_i64]; omega
  have hb2 : ¬ (c = i + 1) := by omega
  have hb4 : ¬ (c = i) := by omega
  have hc63 : c ≤ 9223372036854775807 := by unfold maxLen at hm; omega
  have hle : n + 1 ≤ c := hc
  have hb1 : (0 : Int) ≤ (i : Int) + 1 := by omega
  have hin : i ≤ n := by omega
  have hb3 : (i : Int) ≤ (n : Int) + 1 := by omega
  have r1 : (i + 1) * 2 + (rgs (l.drop i)).length ≤ cur.size := by rw [rgs_len, List.length_drop, hs]; omega
  have hcp1 : Hid (∀ ty, ∀ z, (builtin .copy #[27, 27] ty z #[.slice (some ⟨g, (i + 1) * 2, none⟩) (n - i) (c - (i + 1)), .slice (some ⟨g, i * 2, none⟩) (n + 1 - i) (c - i)]).run Try.prog w.drew = _) := fun ty =>
    run_copy2 w.drew ty g ((i + 1) * 2) (n - i) (c - (i + 1)) ⟨g, i * 2, none⟩ (n + 1 - i) (c - i) cur (rgs (l.drop i)) hg (by rw [rgs_len, List.length_drop]; simp only [Nat.min_def]; split <;> omega)
      (fun j v hj => by
        have hlt : j < 2 * (n - i) := by have := (List.getElem?_eq_some_iff.1 hj).1; rw [rgs_len, List.length_drop] at this; omega
        rw [row_cell (w := w.drew) hg, hx _ (by omega), ← hj, drop_get]
        congr 1
        omega) r1 (rgs_one _)
  obtain ⟨cur1, hc1⟩ : ∃ cur1, cur1 = spl cur ((i + 1) * 2) (rgs (l.drop i)) := ⟨_, rfl⟩
  rw [← hc1] at hcp1
  have hs1 : cur1.size = cur.size := by rw [hc1, spl_size r1]
  have hg1 := setRow_heap w.drew g cur cur1 38 (0, 0) hg
  have r2 : i * 2 + (rgs [(lo, hi)]).length ≤ cur1.size := by show i * 2 + 2 ≤ _; omega
  have hcp2 : Hid (∀ ty, ∀ z, (builtin .copy #[27, 27] ty z #[.slice (some ⟨g, i * 2, none⟩) (n + 1 - i) (c - i), .slice (some ⟨vb, 0, none⟩) 1 1]).run Try.prog (w.drew.setRow g cur1) = _) := fun ty =>
    run_copy2 (w.drew.setRow g cur1) ty g (i * 2) (n + 1 - i) (c - i) ⟨vb, 0, none⟩ 1 1 cur1 (rgs [(lo, hi)]) hg1 (by show 2 = _; simp only [Nat.min_def]; split <;> omega)
      (fun j v hj => (cell_setRow_other _ _ _ _ (by rw [Addr.add_lit]; exact hne)).trans (one_cell (w := w.drew) hv j v hj)) r2 (rgs_one _)
  have hg2 := setRow_heap _ g cur1 (spl cur1 (i * 2) (rgs [(lo, hi)])) 38 (0, 0) hg1
  have fin : Hid (Into w ((w.drew.setRow g cur1).setRow g (spl cur1 (i * 2) (rgs [(lo, hi)]))) (.slice (some ⟨g, 0, none⟩) n c) (.slice (some ⟨g, 0, none⟩) (n + 1) c) (l.take i ++ (lo, hi) :: l.drop i)) := by
    have hlen : (l.take i ++ (lo, hi) :: l.drop i).length = n + 1 := by rw [tgt_len l i i _ (by omega)]; omega
    refine ⟨?_, fun k hk => .inl hk, kept_row rfl _ (kept_row rfl _ (Kept.of _ (drewB _ _)))⟩
    rw [hlen]
    refine own_of hg2 (by rw [spl_size r2, hs1, hs]) hlen (by omega) hm fun k hk => ?_
    rw [spl_get r2, tgt_get l i i _ (by omega), hc1, spl_get r1]
    have e2 : (rgs [(lo, hi)]).length = 2 := rfl
    have e1 : (rgs (l.drop i)).length = 2 * (n - i) := by rw [rgs_len, List.length_drop]; omega
    rw [e2, e1]
    by_cases q : k < 2 * i
    · rw [if_pos (by omega), if_pos (by omega), if_pos q]
      exact hx k (by omega)
    · by_cases r : k < 2 * i + 2
      · rw [if_neg (by omega), if_pos (by omega), if_neg q, if_pos r, Nat.mul_comm]
      · rw [if_neg (by omega), if_neg (by omega), if_neg (by omega), if_pos (by omega), if_neg q, if_neg r, drop_get]
        congr 1
        omega
  clear hg1 hg2 r1 r2 hs1 hc1
  replace hx : Hid _ := hx
  replace hg : Hid _ := hg
  replace hv : Hid _ := hv
  replace hs : Hid _ := hs
  replace hn : Hid _ := hn
  replace hm : Hid _ := hm
  clear ho
  go_enter Try.func30, Try.ntmps30
  go_wp2_with (simp only [hov])
  go_region_law (refine obB2S rfl .copy _ _ 27 27 rfl _ _ (by simp [Act.eval, Act.put]) (by simp [Act.eval, Act.put]) (hcp1.out _) ?_)
  go_wp2_with (refine obB2L _ rfl .copy _ _ 27 27 rfl (.slice (some ⟨g, i * 2, none⟩) (n + 1 - i) (c - i)) (.slice (some ⟨vb, 0, none⟩) 1 1) rfl rfl (hcp2.out _) ?_)
  go_ret
  exact ⟨_, rfl, fin.out⟩
theorem into_new (w w' : World) (sv : Value) (m : List Rg) (n G : Nat) (X : Array Value) (hw : w'.heap[w.heap.size]? = some (.cells X 38 (0, 0))) (hb : Below w.heap.size w w') (hm : m.length = n) (hG : n ≤ G) (hG2 : G ≤ maxLen) (hX : X.size = G * 2) (hget : ∀ k, k < 2 * n → X[k]? = (rgs m)[k]?) : Into w w' sv (.slice (some ⟨w.heap.size, 0, none⟩) n G) m := by
  refine ⟨?_, fun k hk => .inr ?_, Kept.of _ hb⟩
  · rw [hm]
    exact own_of hw hX hm hG hG2 hget
  · injection hk with hk
    exact Nat.le_of_eq hk
theorem bel_alloc (w : World) (o : Obj) : Below w.heap.size w (w.drew.alloc o) := ((drewB w.heap.size w)).alloc (Nat.le_refl _) o
set_option maxHeartbeats 400000 in
theorem ins_end_grow (b : Option Addr) (c vb n : Nat) (l : List Rg) (lo hi : Int) (w : World) (hn : l.length = n) (hb : b = none → n = 0) (hold : ∀ p, b = some p → ∀ j v, (rgs l)[j]? = some v → w.cell? (p.add j) = some v) (hl : n ≤ 16) (hc : c < n + 1) (hc2 : n ≤ c) (hv : w.heap[vb]? = some (.cells #[.int .i64 lo, .int .i64 hi] 38 (0, 0))) :
    Calls Try.prog 30 #[.slice b n c, .int .i64 (n : Int), .slice (some ⟨vb, 0, none⟩) 1 1] w fun e w' => ∃ sv', e = .returned sv' ∧ Into w w' (.slice b n c) sv' (l.take n ++ (lo, hi) :: l.drop n) := by
  have hrun : Hid (∀ ty, ∀ z, (builtin .append #[27, 27] ty z #[.slice b n c, .slice (some ⟨vb, 0, none⟩) 1 1]).run Try.prog w = _) := fun ty => run_app2g w ty b n c ⟨vb, 0, none⟩ 1 l (rgs [(lo, hi)]) hn hb hold rfl (one_cell hv) hc hl (rgs_one _)
  have e : l.take n ++ (lo, hi) :: l.drop n = l ++ [(lo, hi)] := by rw [← hn, List.take_length, List.drop_length]
  have hG := grownCap_ge w (n + 1) c 38
  have hG2 := grownCap_le_maxLen w (n + 1) c 38 (by unfold maxLen; omega)
  have hlen : (rgs l ++ rgs [(lo, hi)]).length = 2 * (n + 1) := by rw [List.length_append, rgs_len, hn]; rfl
  rw [e]
  generalize grownCap w (n + 1) c 38 = G at *
  have fin : Hid _ := into_new w _ (.slice b n c) (l ++ [(lo, hi)]) (n + 1) G _ (heap_new w (.cells ((rgs l ++ rgs [(lo, hi)]).toArray ++ (zer (G - (n + 1))).toArray) 38)) (bel_alloc w _) (by simp [hn]) hG hG2 (by simp only [Array.size_append, List.size_toArray, hlen, zer_len]; omega) fun k hk => by
    rw [Array.getElem?_append_left (by simp only [List.size_toArray, hlen]; exact hk), List.getElem?_toArray, rgs_append]
  generalize ((rgs l ++ rgs [(lo, hi)]).toArray ++ (zer (G - (n + 1))).toArray) = X at hrun fin
  clear hG hG2 hlen hold e
  replace hv : Hid _ := hv
  replace hn : Hid _ := hn
  cases b with
  | none =>
    obtain rfl := hb rfl
    obtain rfl : c = 0 := by omega
    go_enter Try.func30, Try.ntmps30
    go_wp2_with (refine obB2L _ rfl .append _ _ 27 27 rfl (.slice none 0 0) (.slice (some ⟨vb, 0, none⟩) 1 1) rfl rfl (hrun.out _) ?_)
    go_ret
    exact ⟨_, rfl, fin.out⟩
  | some p =>
    obtain ⟨g, o, sp⟩ := p
    obtain rfl : c = n := by omega
    clear hb
    go_enter Try.func30, Try.ntmps30
    go_wp2_with (refine obB2L _ rfl .append _ _ 27 27 rfl (.slice (some ⟨g, o, sp⟩) c c) (.slice (some ⟨vb, 0, none⟩) 1 1) rfl rfl (hrun.out _) ?_)
    go_ret
    exact ⟨_, rfl, fin.out⟩
set_option maxHeartbeats 400000 in
theorem ins_end_room (g c vb n : Nat) (l : List Rg) (lo hi : Int) (w : World) (hn : l.length = n) (ho : w.ownsRow 0 38 2 (.slice (some ⟨g, 0, none⟩) n c) n (rgs l)) (hl : n ≤ 16) (hc : n < c) (hv : w.heap[vb]? = some (.cells #[.int .i64 lo, .int .i64 hi] 38 (0, 0))) :
    Calls Try.prog 30 #[.slice (some ⟨g, 0, none⟩) n c, .int .i64 (n : Int), .slice (some ⟨vb, 0, none⟩) 1 1] w fun e w' => ∃ sv', e = .returned sv' ∧ Into w w' (.slice (some ⟨g, 0, none⟩) n c) sv' (l.take n ++ (lo, hi) :: l.drop n) := by
  obtain ⟨cur, hg, hs, -, hm, hx⟩ := own_get ho
  have hrun : Hid (∀ ty, ∀ z, (builtin .append #[27, 27] ty z #[.slice (some ⟨g, 0, none⟩) n c, .slice (some ⟨vb, 0, none⟩) 1 1]).run Try.prog w = _) := fun ty => run_app2 w ty g n c ⟨vb, 0, none⟩ 1 cur (rgs [(lo, hi)]) hg rfl (one_cell hv) hc hs (rgs_one _)
  have r : 2 * n + (rgs [(lo, hi)]).length ≤ cur.size := by show 2 * n + 2 ≤ _; omega
  have fin : Hid (Into w (w.setRow g (spl cur (2 * n) (rgs [(lo, hi)]))) (.slice (some ⟨g, 0, none⟩) n c) (.slice (some ⟨g, 0, none⟩) (n + 1) c) (l.take n ++ (lo, hi) :: l.drop n)) := by
    have hlen : (l.take n ++ (lo, hi) :: l.drop n).length = n + 1 := by rw [tgt_len l n n _ (by omega)]; omega
    refine ⟨?_, fun k hk => .inl hk, kept_row rfl _ (Kept.refl _ _)⟩
    rw [hlen]
    refine own_of (setRow_heap _ g cur _ 38 (0, 0) hg) (by rw [spl_size r, hs]) hlen (by omega) hm fun k hk => ?_
    rw [spl_get r, tgt_get l n n _ (by omega), show (rgs [(lo, hi)]).length = 2 from rfl]
    by_cases q : k < 2 * n
    · rw [if_pos (by omega), if_pos q]
      exact hx k (by omega)
    · rw [if_neg (by omega), if_pos (by omega), if_neg q, if_pos (by omega)]
  have hcc : (n : Int) ≤ (c : Int) := by omega
  have hc63 : c ≤ 9223372036854775807 := by unfold maxLen at hm; omega
  clear r ho hg hs hx hm
  replace hv : Hid _ := hv
  replace hn : Hid _ := hn
  go_enter Try.func30, Try.ntmps30
  go_wp2_with (refine obB2L _ rfl .append _ _ 27 27 rfl (.slice (some ⟨g, 0, none⟩) n c) (.slice (some ⟨vb, 0, none⟩) 1 1) rfl rfl (hrun.out _) ?_)
  go_ret
  exact ⟨_, rfl, fin.out⟩
set_option maxHeartbeats 400000 in
theorem ins_grow (g vb i n : Nat) (l : List Rg) (lo hi : Int) (w : World) (hn : l.length = n) (ho : w.ownsRow 0 38 2 (.slice (some ⟨g, 0, none⟩) n n) n (rgs l)) (hl : n ≤ 16) (hil : i < n) (hv : w.heap[vb]? = some (.cells #[.int .i64 lo, .int .i64 hi] 38 (0, 0))) :
    Calls Try.prog 30 #[.slice (some ⟨g, 0, none⟩) n n, .int .i64 (i : Int), .slice (some ⟨vb, 0, none⟩) 1 1] w fun e w' => ∃ sv', e = .returned sv' ∧ Into w w' (.slice (some ⟨g, 0, none⟩) n n) sv' (l.take i ++ (lo, hi) :: l.drop i) := by
  obtain ⟨cur, hg, hs, -, hm, hx⟩ := own_get ho
  have hgl : g < w.heap.size := (Array.getElem?_eq_some_iff.1 hg).1
  have hvl : vb < w.heap.size := (Array.getElem?_eq_some_iff.1 hv).1
  have hkk : (n : Int) + 1 - (i : Int) = ((n + 1 - i : Nat) : Int) := by omega
  have hik : i + (n + 1 - i) = n + 1 := by omega
  have hrun : Hid (∀ ty, ∀ z, (builtin .append #[27, 3] ty z #[.slice (some ⟨g, 0, none⟩) i n, .int .i64 ((n : Int) + 1 - (i : Int))]).run Try.prog w = _) := fun ty => by
    have h := run_mk2g w ty ⟨g, 0, none⟩ i n (n + 1 - i) (l.take i) (by rw [List.length_take]; omega) (fun j v hj => by
      have hlt : j < 2 * i := by have := (List.getElem?_eq_some_iff.1 hj).1; rw [rgs_len, List.length_take] at this; omega
      rw [row_cell hg, Nat.zero_add, hx _ (by omega), ← hj, rgs_tk, List.getElem?_take, if_pos hlt]) (by omega) (by omega) (by omega)
    rw [hik, ← hkk] at h
    exact h
  have hG := grownCap_ge w (n + 1) n 38
  have hG2 := grownCap_le_maxLen w (n + 1) n 38 (by unfold maxLen; omega)
  generalize grownCap w (n + 1) n 38 = G at *
  obtain ⟨X0, hX0⟩ : ∃ X0, X0 = (rgs (l.take i)).toArray ++ (zer (n + 1 - i)).toArray ++ (zer (G - (n + 1))).toArray := ⟨_, rfl⟩
  rw [← hX0] at hrun
  have e1 : (rgs (l.take i)).length = 2 * i := by rw [rgs_len, List.length_take]; omega
  have s0 : X0.size = G * 2 := by rw [hX0]; simp only [Array.size_append, List.size_toArray, e1, zer_len]; omega
  have x0 : ∀ k, k < 2 * i → X0[k]? = (rgs l)[k]? := fun k hk => by
    rw [hX0, Array.append_assoc, Array.getElem?_append_left (by simp only [List.size_toArray, e1]; exact hk), List.getElem?_toArray, rgs_tk, List.getElem?_take, if_pos hk]
  have b1 := bel_alloc w (.cells X0 38)
  have h1 := heap_new w (.cells X0 38)
  have g1 := (b1.block g hgl).trans hg
  have v1 := (b1.block vb hvl).trans hv
  have r1 : i * 2 + (rgs [(lo, hi)]).length ≤ X0.size := by show i * 2 + 2 ≤ _; omega
  have hcpA : Hid (∀ ty, ∀ z, (builtin .copy #[27, 27] ty z #[.slice (some ⟨w.heap.size, i * 2, none⟩) (n + 1 - i) (G - i), .slice (some ⟨vb, 0, none⟩) 1 1]).run Try.prog (w.drew.alloc (.cells X0 38)) = _) := fun ty =>
    run_copy2 _ ty w.heap.size (i * 2) (n + 1 - i) (G - i) ⟨vb, 0, none⟩ 1 1 X0 (rgs [(lo, hi)]) h1 (by show 2 = _; simp only [Nat.min_def]; split <;> omega) (one_cell v1) r1 (rgs_one _)
  obtain ⟨X1, hX1⟩ : ∃ X1, X1 = spl X0 (i * 2) (rgs [(lo, hi)]) := ⟨_, rfl⟩
  rw [← hX1] at hcpA
  have s1 : X1.size = G * 2 := by rw [hX1, spl_size r1, s0]
  have h2 := setRow_heap _ w.heap.size X0 X1 38 (0, 0) h1
  have g2 := (setRow_other (w.drew.alloc (.cells X0 38)) w.heap.size g X1 (by omega)).trans g1
  have r2 : (i + 1) * 2 + (rgs (l.drop i)).length ≤ X1.size := by rw [rgs_len, List.length_drop]; omega
  have hcpB : Hid (∀ ty, ∀ z, (builtin .copy #[27, 27] ty z #[.slice (some ⟨w.heap.size, (i + 1) * 2, none⟩) (n - i) (G - (i + 1)), .slice (some ⟨g, i * 2, none⟩) (n - i) (n - i)]).run Try.prog ((w.drew.alloc (.cells X0 38)).setRow w.heap.size X1).drew = _) := fun ty =>
    run_copy2 _ ty w.heap.size ((i + 1) * 2) (n - i) (G - (i + 1)) ⟨g, i * 2, none⟩ (n - i) (n - i) X1 (rgs (l.drop i)) h2 (by rw [rgs_len, List.length_drop]; simp only [Nat.min_def]; split <;> omega)
      (fun j v hj => by
        have hlt : j < 2 * (n - i) := by have := (List.getElem?_eq_some_iff.1 hj).1; rw [rgs_len, List.length_drop] at this; omega
        refine (row_cell (cur := cur) g2 (i * 2) j).trans ?_
        rw [hx _ (by omega), ← hj, drop_get]
        congr 1
        omega) r2 (rgs_one _)
  have h3 := setRow_heap ((w.drew.alloc (.cells X0 38)).setRow w.heap.size X1).drew w.heap.size X1 (spl X1 ((i + 1) * 2) (rgs (l.drop i))) 38 (0, 0) h2
  have b3 : Below w.heap.size w (((w.drew.alloc (.cells X0 38)).setRow w.heap.size X1).drew.setRow w.heap.size (spl X1 ((i + 1) * 2) (rgs (l.drop i)))) :=
    below_setRow ((below_setRow b1 (Nat.le_refl _) _).trans (drewB _ _)) (Nat.le_refl _) _
  have fin : Hid (Into w _ (.slice (some ⟨g, 0, none⟩) n n) _ (l.take i ++ (lo, hi) :: l.drop i)) := into_new w _ (.slice (some ⟨g, 0, none⟩) n n) (l.take i ++ (lo, hi) :: l.drop i) (n + 1) G _ h3 b3 (by rw [tgt_len l i i _ (by omega)]; omega) hG hG2 (by rw [spl_size r2, s1]) fun k hk => by
    have e2 : (rgs [(lo, hi)]).length = 2 := rfl
    have e3 : (rgs (l.drop i)).length = 2 * (n - i) := by rw [rgs_len, List.length_drop]; omega
    rw [spl_get r2, tgt_get l i i _ (by omega), hX1, spl_get r1, e2, e3]
    by_cases q : k < 2 * i
    · rw [if_pos (by omega), if_pos (by omega), if_pos q]
      exact x0 k q
    · by_cases r : k < 2 * i + 2
      · rw [if_pos (by omega), if_neg (by omega), if_pos (by omega), if_neg q, if_pos r, Nat.mul_comm]
      · rw [if_neg (by omega), if_pos (by omega), if_neg q, if_neg r, drop_get]
        congr 1
        omega
  have hz2 : ¬ ((i : Int) = (n : Int)) := by omega
  have hz3 : (n : Int) < (n : Int) + 1 := by omega
  have hw1 : IntKind.i64.wrap ((i : Int) + 1) = (i : Int) + 1 := by rw [IntKind.wrap_i64]; omega
  have hb2 : ¬ (n = i) := by omega
  have hb3 : ¬ (G = i) := by omega
  have hb4 : ¬ (G = i + 1) := by omega
  have hG63 : G ≤ 9223372036854775807 := by unfold maxLen at hG2; omega
  have hb1 : (0 : Int) ≤ (i : Int) + 1 := by omega
  have hin : i ≤ n := by omega
  have hb5 : (i : Int) ≤ (n : Int) + 1 := by omega
  have hb6 : (i : Int) ≤ (n : Int) := by omega
  generalize (spl X1 ((i + 1) * 2) (rgs (l.drop i))) = X2 at hcpB fin
  clear h1 h2 h3 b1 b3 g1 g2 v1 r1 r2 s0 s1 x0 hX0 hX1 hx hg hs hm ho hv e1 hG2 hkk hik
  replace hn : Hid _ := hn
  go_enter Try.func30, Try.ntmps30
  go_wp2_with (first
    | refine obB2L _ rfl .append _ _ 27 3 rfl (.slice (some ⟨g, 0, none⟩) i n) (.int .i64 ((n : Int) + 1 - (i : Int))) rfl rfl (hrun.out _) ?_
    | refine obB2L _ rfl .copy _ _ 27 27 rfl (.slice (some ⟨w.heap.size, i * 2, none⟩) (n + 1 - i) (G - i)) (.slice (some ⟨vb, 0, none⟩) 1 1) rfl rfl (hcpA.out _) ?_)
  go_region_law (refine obB2S rfl .copy _ _ 27 27 rfl (.slice (some ⟨w.heap.size, (i + 1) * 2, none⟩) (n - i) (G - (i + 1))) (.slice (some ⟨g, i * 2, none⟩) (n - i) (n - i)) (by simp [Act.eval, Act.put]) (by simp [Act.eval, Act.put]) (hcpB.out _) ?_)
  go_wp2
  go_ret
  exact ⟨_, rfl, fin.out⟩
theorem insert_ok (sv : Value) (i vb n : Nat) (l : List Rg) (lo hi : Int) (w : World) (hn : l.length = n) (ho : w.ownsRow 0 38 2 sv n (rgs l)) (hl : n ≤ 16) (hil : i ≤ n) (hv : w.heap[vb]? = some (.cells #[.int .i64 lo, .int .i64 hi] 38 (0, 0))) (hne : sv.ownBlock ≠ some vb) :
    Calls Try.prog 30 #[sv, .int .i64 (i : Int), .slice (some ⟨vb, 0, none⟩) 1 1] w fun e w' => ∃ sv', e = .returned sv' ∧ Into w w' sv sv' (l.take i ++ (lo, hi) :: l.drop i) := by
  rcases ho.2 with ⟨rfl, h0⟩ | ⟨g, c, cur, rfl, -, -, hcap, -, -⟩
  · subst h0
    obtain rfl : i = 0 := by omega
    exact ins_end_grow none 0 vb 0 l lo hi w hn (fun _ => rfl) (fun p hp => by cases hp) (by omega) (by omega) (by omega) hv
  · have hne' : vb ≠ g := fun e => hne (by rw [e]; rfl)
    by_cases q : i = n
    · subst q
      by_cases r : i < c
      · exact ins_end_room g c vb i l lo hi w hn ho hl r hv
      · obtain ⟨cur', hg, -, -, -, hx⟩ := own_get ho
        refine ins_end_grow (some ⟨g, 0, none⟩) c vb i l lo hi w hn (fun h => by cases h) (fun p hp j v hj => ?_) hl (by omega) hcap hv
        injection hp with hp
        subst hp
        have hlt : j < 2 * i := by have := (List.getElem?_eq_some_iff.1 hj).1; rw [rgs_len] at this; omega
        rw [row_cell hg, Nat.zero_add, hx _ hlt, hj]
    · by_cases r : n < c
      · exact ins_shift g c vb i n l lo hi w hn ho hl (by omega) r hv hne'
      · obtain rfl : c = n := by omega
        exact ins_grow g vb i c l lo hi w hn ho hl (by omega) hv
end Go.Proofs.Ytlbhlmccjieieaa
