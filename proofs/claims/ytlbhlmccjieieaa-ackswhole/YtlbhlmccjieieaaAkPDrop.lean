/-
  What the program's own Drop leaves. Right ranges, at most sixteen; no other condition.
-/
import Derived.Test.YtlbhlmccjieieaaAkClo
import Derived.Test.YtlbhlmccjieieaaAkPs
import Derived.Test.YtlbhlmccjieieaaAkIns
namespace Go.Proofs.Ytlbhlmccjieieaa
set_option maxRecDepth 100000
open Go.RowKit Go.Sort

/-- A set whose slice is laid anew, over the same row or another. -/
theorem ps_put {w w1 : World} {B : Nat} {F : Nat → Prop} {o : Option Nat} {sv' : Value} {m : List Rg} (hF : ∀ k, F k ↔ k = B ∨ o = some k) (L : Lies w1 B [sv']) (ho : w1.ownsRow 0 38 2 sv' m.length (rgs m)) (hb : sv'.ownBlock ≠ some B) (hn : ∀ k, sv'.ownBlock = some k → o = some k ∨ w.heap.size ≤ k) (hk : Kept F w w1) :
    ∃ F', PS w1 B F' m ∧ (∀ k, F' k → F k ∨ w.heap.size ≤ k) ∧ Kept F w w1 :=
  ⟨fun k => k = B ∨ sv'.ownBlock = some k, ⟨_, ⟨sv', L, ho, rfl⟩, hb, fun _ => Iff.rfl⟩, fun k hk => by
    rcases hk with rfl | q
    · exact .inl ((hF _).2 (.inl rfl))
    · rcases hn k q with q | q
      · exact .inl ((hF k).2 (.inr q))
      · exact .inr q, hk⟩
set_option maxHeartbeats 1000000 in
theorem pdrop_ok (B : Nat) (F : Nat → Prop) (l : List Rg) (b : Int) (w : World) (h : PS w B F l) (ok : Ok l) (_ : -9223372036854775808 ≤ b ∧ b ≤ 9223372036854775807) :
    Calls Try.prog 9 #[.pointer (some ⟨B, 0, none⟩), .int .i64 b] w fun e w' => e = .returned (.tuple #[]) ∧ ∃ F', PS w' B F' (drp l b) ∧ (∀ k, F' k → F k ∨ w.heap.size ≤ k) ∧ Kept F w w' := by
  obtain ⟨o, ⟨sv, L, ho, hob⟩, hoB, hF⟩ := h
  have h0 := L.cell 0 (v := sv) rfl
  have hlt := L.lt (by show 0 < 1; decide)
  have bb := (Below.refl w.heap.size w).alloc (Nat.le_refl _) (.cells #[.int .i64 b] 2)
  have C : Hid (Calls Try.prog 20 #[.pointer (some ⟨B, 0, none⟩), .func (.func 21) #[] #[.pointer (some ⟨w.heap.size, 0, none⟩)]] (w.alloc (.cells #[.int .i64 b] 2)) fun e w' => e = .returned (.int .i64 (highAt l b : Nat)) ∧ Below (w.alloc (.cells #[.int .i64 b] 2)).heap.size (w.alloc (.cells #[.int .i64 b] 2)) w') :=
    fdrop_ok B w.heap.size sv l b _ ok ((bb.cell hlt).trans h0) (rows_block ho fun k hk => bb.block k (ho.lt k hk).2) (by simp)
  have e := drp_find ok.1 b
  have hpl := highAt_le l b
  generalize highAt l b = p at *
  have hc : ∀ w', Below (w.alloc (.cells #[.int .i64 b] 2)).heap.size (w.alloc (.cells #[.int .i64 b] 2)) w' → w'.cell? ⟨B, 0, none⟩ = some sv ∧ w'.frozen? ⟨B, 0, none⟩ = false ∧ w'.cell? ⟨w.heap.size, 0, none⟩ = some (.int .i64 b) ∧ Below w.heap.size w w' := fun w' b' =>
    have b2 := bb.trans (b'.mono bb.size)
    ⟨(b2.cell hlt).trans h0, (L.keep (by show 0 < 1; decide) b2).free 0 (by show 0 < 1; decide), (b'.cell (by simp)).trans (by simp), b2⟩
  replace hc : Hid _ := hc
  replace bb : Hid _ := bb
  have hl16 := ok.2
  clear ok
  by_cases q : p = 0
  · subst q
    rw [if_pos rfl] at e
    rw [e]
    clear e
    have hnn : sv.ownBlock ≠ some B := by rw [hob]; exact hoB
    have fin : Hid (∀ w' sv', Below w.heap.size w w' → sv'.ownBlock = sv.ownBlock → w'.ownsRow 0 38 2 sv' 0 (rgs []) → ∃ F', PS (w'.setCell ⟨B, 0, none⟩ sv') B F' [] ∧ (∀ k, F' k → F k ∨ w.heap.size ≤ k) ∧ Kept F w (w'.setCell ⟨B, 0, none⟩ sv')) := fun w' sv' b2 hs hr =>
      ps_put hF ((L.keep (by show 0 < 1; decide) b2).put 0 (by show 0 < 1; decide) sv') (rows_block hr fun k hk => Below.heap_setCell _ _ _ _ (by intro e; simp only at e; subst e; exact hnn (hs ▸ hk))) (by rw [hs]; exact hnn) (fun k hk => .inl (by rw [← hob, ← hs]; exact hk)) (Kept.set (Kept.of F b2) ⟨B, 0, none⟩ ((hF B).2 (.inl rfl)) _)
    rcases ho.2 with ⟨rfl, hn⟩ | ⟨g, c, cur, rfl, -, hg, hcap, hm, hs, -⟩
    · replace L : Hid _ := L
      replace ho : Hid _ := ho
      replace hF : Hid _ := hF
      go_enter Try.func9, Try.ntmps9
      go_wp2_with fail
      refine C.out.mono ?_
      rintro e' w' ⟨rfl, b⟩
      obtain ⟨c1, f1, c2, b2⟩ := hc.out w' b
      have FF : Hid _ := fin.out w' (.slice none 0 0) b2 rfl (World.ownsRow_nil _ _ _ _)
      clear b b2
      go_wp2
      go_end0
      exact ⟨rfl, FF.out⟩
    · have hc63 : c ≤ 9223372036854775807 := by unfold maxLen at hm; omega
      have hrow : Hid (∀ w', Below w.heap.size w w' → w'.ownsRow 0 38 2 (.slice (some ⟨g, 0, none⟩) 0 c) 0 (rgs [])) := fun w' b2 =>
        own_of ((b2.block g (Array.getElem?_eq_some_iff.1 hg).1).trans hg) hs rfl (Nat.zero_le _) hm (fun k hk => by omega)
      replace L : Hid _ := L
      replace ho : Hid _ := ho
      replace hF : Hid _ := hF
      clear hg hm hs
      go_enter Try.func9, Try.ntmps9
      go_wp2_with fail
      refine C.out.mono ?_
      rintro e' w' ⟨rfl, b⟩
      obtain ⟨c1, f1, c2, b2⟩ := hc.out w' b
      have FF : Hid _ := fin.out w' (.slice (some ⟨g, 0, none⟩) 0 c) b2 rfl (hrow.out w' b2)
      clear b b2
      go_wp2
      go_end0
      exact ⟨rfl, FF.out⟩
  · obtain ⟨k, rfl⟩ : ∃ k, p = k + 1 := ⟨p - 1, by omega⟩
    rw [if_neg (by omega), Nat.add_sub_cancel] at e
    rw [e]
    clear e
    have hkl : k < l.length := by omega
    rcases ho.2 with ⟨rfl, hn⟩ | ⟨g, c, cur0, rfl, -⟩
    · omega
    · obtain ⟨cur, hg, hs, hcap, hm, hx⟩ := own_get ho
      obtain ⟨x, hxd⟩ : ∃ x, x = (l.getD k (0, 0)).1 := ⟨_, rfl⟩
      have hnB : (Value.slice (some ⟨g, 0, none⟩) (k + 1) c).ownBlock ≠ some B := fun e => hoB (by rw [← hob]; exact e)
      have hgB : g ≠ B := fun e => hoB (by rw [← hob, e]; rfl)
      have hBg : B ≠ g := fun e => hgB e.symm
      have hgl := (Array.getElem?_eq_some_iff.1 hg).1
      have hcx : Hid (∀ w', Below w.heap.size w w' → w'.cell? ⟨g, 2 * k, none⟩ = some (.int .i64 x) ∧ w'.frozen? ⟨g, 2 * k, none⟩ = false) := fun w' b2 => by
        have e1 := (b2.block g hgl).trans hg
        refine ⟨?_, by simp [World.frozen?, e1]⟩
        rw [hxd, ← (rgs_get l k hkl).1, ← hx _ (by omega)]
        simp [World.cell?, e1]
      have fin : Hid (∀ w', Below w.heap.size w w' → ∃ F', PS ((w'.setCell ⟨B, 0, none⟩ (.slice (some ⟨g, 0, none⟩) (k + 1) c)).drew.setCell ⟨g, 2 * k, none⟩ (.int .i64 (max x b))) B F' (l.take k ++ [(max (l.getD k (0, 0)).1 b, (l.getD k (0, 0)).2)]) ∧ (∀ k, F' k → F k ∨ w.heap.size ≤ k) ∧ Kept F w ((w'.setCell ⟨B, 0, none⟩ (.slice (some ⟨g, 0, none⟩) (k + 1) c)).drew.setCell ⟨g, 2 * k, none⟩ (.int .i64 (max x b)))) := fun w' b2 => by
        have e1 := (b2.block g hgl).trans hg
        have L1 := (L.keep (by show 0 < 1; decide) b2).put 0 (by show 0 < 1; decide) (.slice (some ⟨g, 0, none⟩) (k + 1) c)
        have e2 : (w'.setCell ⟨B, 0, none⟩ (.slice (some ⟨g, 0, none⟩) (k + 1) c)).drew.heap[g]? = some (.cells cur 38 (0, 0)) := (Below.heap_setCell _ _ _ _ hgB).trans e1
        have hlen : (l.take k ++ [(max (l.getD k (0, 0)).1 b, (l.getD k (0, 0)).2)]).length = k + 1 := by simp; omega
        refine ps_put hF (sv' := .slice (some ⟨g, 0, none⟩) (k + 1) c) (L1.of_block (Below.heap_setCell _ _ _ _ hBg)) ?_ hnB (fun k hk => .inl (by rw [← hob]; exact hk)) ?_
        · rw [setCell_eq_setRow _ g (2 * k) cur 38 (0, 0) _ e2, hlen]
          refine own_of (setRow_heap _ g cur _ 38 (0, 0) e2) (by simpa using hs) hlen (by omega) hm fun j hj => ?_
          have e3 : (rgs (l.take k)).length = 2 * k := by rw [rgs_len, List.length_take]; omega
          rw [rgs_append, List.getElem?_append, e3, Array.getElem?_setIfInBounds]
          by_cases q1 : j < 2 * k
          · rw [if_neg (by omega), if_pos q1, hx _ (by omega), rgs_tk, List.getElem?_take, if_pos q1]
          · rw [if_neg q1]
            by_cases q2 : 2 * k = j
            · subst q2
              rw [if_pos rfl, if_pos (by omega), Nat.sub_self, hxd]
              rfl
            · obtain rfl : j = 2 * k + 1 := by omega
              rw [if_neg q2, hx _ (by omega), (rgs_get l k hkl).2, show 2 * k + 1 - 2 * k = 1 by omega]
              rfl
        · exact Kept.set (Kept.set (Kept.of F b2) ⟨B, 0, none⟩ ((hF B).2 (.inl rfl)) _).drew ⟨g, 2 * k, none⟩ ((hF g).2 (.inr (by rw [← hob]; rfl))) _
      have hc63 : c ≤ 9223372036854775807 := by unfold maxLen at hm; omega
      have ia := fun w' => at_rgs g 0 (k + 1) c k w' (by omega) (k : Int) rfl (2 * k) (by omega)
      have k0 : (0 : Int) < (k : Int) + 1 := by omega
      have k1 : (k : Int) + 1 ≤ (c : Int) := by omega
      replace L : Hid _ := L
      replace ho : Hid _ := ho
      replace hF : Hid _ := hF
      clear hg hm hs hx hxd
      go_enter Try.func9, Try.ntmps9
      go_wp2_with fail
      refine C.out.mono ?_
      rintro e' w' ⟨rfl, b⟩
      obtain ⟨c1, f1, c2, b2⟩ := hc.out w' b
      obtain ⟨c3, f3⟩ := hcx.out w' b2
      have FF : Hid _ := fin.out w' b2
      clear b b2
      have hBK : ¬ (B = w.heap.size) := by omega
      have hBK' : ¬ (w.heap.size = B) := by omega
      have hgK : ¬ (g = w.heap.size) := by omega
      by_cases qx : x < b
      · have em : max x b = b := by omega
        rw [em] at FF
        have qx' : ¬ b ≤ x := by omega
        go_wp2
        go_region
        go_end0
        exact ⟨rfl, FF.out⟩
      · have em : max x b = x := by omega
        rw [em] at FF
        have qx' : b ≤ x := by omega
        go_wp2
        go_region
        go_end0
        exact ⟨rfl, FF.out⟩
end Go.Proofs.Ytlbhlmccjieieaa
