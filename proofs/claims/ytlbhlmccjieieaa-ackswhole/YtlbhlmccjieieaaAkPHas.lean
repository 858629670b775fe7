/-
  What the program's own New, Has and Ranges answer. Right ranges, at most sixteen; no other condition.
-/
import Derived.Test.YtlbhlmccjieieaaAkClo
import Derived.Test.YtlbhlmccjieieaaAkPs
import Derived.Test.YtlbhlmccjieieaaAkRun
namespace Go.Proofs.Ytlbhlmccjieieaa
set_option maxRecDepth 100000
open Go.RowKit Go.Sort

set_option maxHeartbeats 400000 in
theorem pnew_ok (w : World) :
    Calls Try.prog 8 #[] w fun e w' => ∃ B F, e = .returned (.pointer (some ⟨B, 0, none⟩)) ∧ PS w' B F [] ∧ (∀ k, F k → w.heap.size ≤ k) ∧ Below w.heap.size w w' := by
  have b := (Below.refl w.heap.size w).alloc (Nat.le_refl _) (.cells #[.slice none 0 0] 50)
  have L := Lies.new w [.slice none 0 0] 50
  have P : Hid (PS (w.alloc (.cells #[.slice none 0 0] 50)) w.heap.size (fun k => k = w.heap.size) []) := ⟨none, ⟨.slice none 0 0, L, World.ownsRow_nil _ _ _ _, rfl⟩, by simp, fun k => by simp⟩
  replace b : Hid _ := b
  clear L
  go_enter Try.func8, Try.ntmps8
  go_wp2
  go_ret
  exact ⟨_, _, rfl, P.out, fun k hk => Nat.le_of_eq hk.symm, b.out⟩
set_option maxHeartbeats 1000000 in
theorem phas_ok (B : Nat) (F : Nat → Prop) (l : List Rg) (n : Int) (w : World) (h : PS w B F l) (ok : Ok l) (_ : -9223372036854775808 ≤ n ∧ n ≤ 9223372036854775807) :
    Calls Try.prog 15 #[.pointer (some ⟨B, 0, none⟩), .int .i64 n] w fun e w' => e = .returned (.bool (hasR l n)) ∧ Below w.heap.size w w' := by
  obtain ⟨o, ⟨sv, L, ho, -⟩, -, -⟩ := h
  have h0 := L.cell 0 (v := sv) rfl
  have hlt := L.lt (by show 0 < 1; decide)
  have bb := (Below.refl w.heap.size w).alloc (Nat.le_refl _) (.cells #[.int .i64 n] 2)
  have C : Hid (Calls Try.prog 20 #[.pointer (some ⟨B, 0, none⟩), .func (.func 27) #[] #[.pointer (some ⟨w.heap.size, 0, none⟩)]] (w.alloc (.cells #[.int .i64 n] 2)) fun e w' => e = .returned (.int .i64 (lowAt l n : Nat)) ∧ Below (w.alloc (.cells #[.int .i64 n] 2)).heap.size (w.alloc (.cells #[.int .i64 n] 2)) w') :=
    fhas_ok B w.heap.size sv l n _ ok ((bb.cell hlt).trans h0) (rows_block ho fun k hk => bb.block k (ho.lt k hk).2) (by simp)
  have e := has_find ok.1 n
  obtain ⟨a, cap, rfl, hr⟩ := own_rgAt ho
  have hl16 := ok.2
  clear ok ho L
  obtain ⟨p, hp⟩ : ∃ p, p = lowAt l n := ⟨_, rfl⟩
  rw [← hp] at C e
  have hc : ∀ w', Below (w.alloc (.cells #[.int .i64 n] 2)).heap.size (w.alloc (.cells #[.int .i64 n] 2)) w' → w'.cell? ⟨B, 0, none⟩ = some (.slice a l.length cap) ∧ w'.cell? ⟨w.heap.size, 0, none⟩ = some (.int .i64 n) ∧ Below w.heap.size w w' := fun w' b =>
    have b2 := bb.trans (b.mono bb.size)
    ⟨(b2.cell hlt).trans h0, (b.cell (by simp)).trans (by simp), b2⟩
  replace hc : Hid _ := hc
  replace bb : Hid _ := bb
  by_cases q : p < l.length
  · rcases hr with rfl | ⟨g, o, rfl, hr⟩
    · simp at q
    · have r := hr p q
      rw [decide_eq_true q, Bool.true_and] at e
      have ia := fun w' => at_rgs g o l.length cap p w' q (p : Int) rfl (o + 2 * p) rfl
      have g1 : decide ((p : Int) < (l.length : Int)) = true := decide_eq_true (by omega)
      have r2 := r.2
      have r2lt := World.block_lt_of_cell? w _ r2
      clear hr r hp
      generalize l.getD p (0, 0) = y at *
      generalize l.length = M at *
      replace e : Hid _ := e
      replace r2 : Hid _ := r2
      go_enter Try.func15, Try.ntmps15
      go_wp2_with fail
      refine C.out.mono ?_
      rintro e' w' ⟨rfl, b⟩
      obtain ⟨c1, c2, b2⟩ := hc.out w' b
      have c3 := (b2.cell r2lt).trans r2.out
      replace b : Hid _ := b
      replace b2 : Hid _ := b2
      go_wp2_with fail
      go_quiet (fail)
      go_wp2
      go_ret
      exact ⟨by rw [e.out]; rfl, ⟨b2.out.os, b2.out.tape, b2.out.output, b2.out.size, b2.out.block⟩⟩
  · have g1 : decide ((p : Int) < (l.length : Int)) = false := decide_eq_false (by omega)
    rw [decide_eq_false q, Bool.false_and] at e
    clear hr hp
    generalize l.length = M at *
    replace e : Hid _ := e
    go_enter Try.func15, Try.ntmps15
    go_wp2_with fail
    refine C.out.mono ?_
    rintro e' w' ⟨rfl, b⟩
    obtain ⟨c1, c2, b2⟩ := hc.out w' b
    replace b : Hid _ := b
    replace b2 : Hid _ := b2
    go_wp2_with fail
    go_quiet (fail)
    go_wp2
    go_ret
    exact ⟨by rw [e.out]; rfl, ⟨b2.out.os, b2.out.tape, b2.out.output, b2.out.size, b2.out.block⟩⟩
set_option maxHeartbeats 1000000 in
theorem pranges_ok (B : Nat) (F : Nat → Prop) (l : List Rg) (w : World) (h : PS w B F l) (ok : Ok l) :
    Calls Try.prog 13 #[.pointer (some ⟨B, 0, none⟩)] w fun e w' => ∃ v, e = .returned v ∧ Out w' w.heap.size v l ∧ Below w.heap.size w w' := by
  obtain ⟨o, ⟨sv, L, ho, -⟩, -, -⟩ := h
  have h0 := L.cell 0 (v := sv) rfl
  have hlt := L.lt (by show 0 < 1; decide)
  have hl16 := ok.2
  obtain ⟨i0, hi0, hz0, hz1, hz2⟩ := info_rg
  clear L
  rcases ho.2 with ⟨rfl, hn⟩ | ⟨g, c, cur, rfl, -, -, hcap, hm, -⟩
  · have e : l = [] := List.eq_nil_of_length_eq_zero hn
    subst e
    have fin : Hid (Out w w.heap.size (.slice none 0 0) []) := .inl ⟨rfl, _, _, rfl⟩
    have hq : ∀ w, (binOp .eql 27 (.slice none 0 0) (.slice none 0 0)).run Try.prog w = .ok (.bool true) w := fun w => Lib.run_eql_slice_nil w 27 38 none 0 0 0 0 Try.underlying27
    clear ho hn
    go_enter Try.func13, Try.ntmps13
    go_wp2
    go_ret
    exact ⟨_, rfl, fin.out, Below.refl _ _⟩
  · replace ho : Hid (w.ownsRow 0 38 2 (.slice (some ⟨g, 0, none⟩) l.length c) l.length (rgs l)) := ho
    have hq : ∀ w, (binOp .eql 27 (.slice (some ⟨g, 0, none⟩) l.length c) (.slice none 0 0)).run Try.prog w = .ok (.bool false) w := fun w => Lib.run_eql_slice_nil w 27 38 (some ⟨g, 0, none⟩) l.length c 0 0 Try.underlying27
    have b1 := (Below.refl w.heap.size w).alloc (Nat.le_refl _) (.cells #[] 38)
    have hown : (w.alloc (.cells #[] 38)).ownsRow w.heap.size 38 2 (.slice (some ⟨w.heap.size, 0, none⟩) 0 0) 0 [] := ⟨rfl, .inr ⟨w.heap.size, 0, #[], rfl, Nat.le_refl _, by show (w.heap.push _)[w.heap.size]? = _; simp, Nat.le_refl _, Nat.zero_le _, rfl, rfl⟩⟩
    have hnews : ∀ j u, (rgs l)[j]? = some u → (w.alloc (.cells #[] 38)).cell? ((⟨g, 0, none⟩ : Addr).add j) = some u := fun j u hj => by
      have := ho.out.cells (g := g) rfl j u hj
      exact (b1.cell (World.block_lt_of_cell? w _ this)).trans this
    have fin : Hid (∀ v' w', w'.ownsRow w.heap.size 38 2 v' (0 + l.length) ([] ++ rgs l) → (w.alloc (.cells #[] 38)).grownBy w' (some w.heap.size) → Out w' w.heap.size v' l ∧ Below w.heap.size w w') := fun v' w' h1 h2 =>
      ⟨.inr (by rw [Nat.zero_add, List.nil_append] at h1; exact h1), b1.grown h2 (by simp) (fun k hk => by injection hk with hk; exact Nat.le_of_eq hk)⟩
    clear b1 ok
    replace hnews : Hid _ := hnews
    replace hown : Hid ((w.alloc (.cells #[] 38)).ownsRow w.heap.size 38 2 (.slice (some ⟨w.heap.size, 0, none⟩) 0 0) 0 []) := hown
    replace hm : Hid _ := hm
    go_enter Try.func13, Try.ntmps13
    go_wp2_with (first
      | go_in
      | (at_builtin; refine wpList_append_own _ rfl _ _ 27 rfl w.heap.size 38 i0 (.agg #[.int .i64 0, .int .i64 0]) 2 16 Try.underlying27 hi0 hz0 hz1 hz2 rfl (by decide) _ 0 [] rfl hown.out ⟨g, 0, none⟩ l.length c (rgs l) rfl (by rw [rgs_len]; omega) hnews.out (rgs_one _) (by unfold maxLen; omega) (by omega) (by simp) ?_; intro v' w' h1 h2 h3; have FF : Hid _ := fin.out v' w' h1 h2; clear h1 h2 h3))
    go_ret
    exact ⟨_, rfl, FF.out⟩
end Go.Proofs.Ytlbhlmccjieieaa
