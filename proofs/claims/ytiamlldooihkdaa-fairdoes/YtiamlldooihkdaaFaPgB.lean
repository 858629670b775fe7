/-
  What the program's own queues do: the first one's turn, and its way to the end of the round. No condition but what always holds of queues.
-/
import Derived.Test.YtiamlldooihkdaaFaPgA
namespace Go.Proofs.Ytiamlldooihkdaa
set_option maxRecDepth 100000
open Go.RowKit

def dueP (p : FaP) (d : Int) : Int := if p.sv then d else d + p.qu
set_option maxHeartbeats 1000000 in
theorem fturn_ok (B : Nat) (T : Tag) (p : FaP) (x : Int) (t : List Int) (s : ByteArray) (l : List ByteArray) (d : Int) (w : World) (h : PG w B T p) (hp : p.ids = x :: t) (ht : p.tb x = some (s :: l, d)) (hx : In64 x) (hs : s.size ≤ 65535) (hd : 0 ≤ d ∧ d ≤ 1114111) (hq : 1 ≤ p.qu ∧ p.qu ≤ 1048576) :
    Calls Try.prog 21 #[ptr B] w fun e w' => e = .returned (.bool (decide ((s.size : Int) ≤ dueP p d))) ∧ PG w' B T { p with tb := updT p.tb x (some (s :: l, dueP p d)) } ∧ Kept (fun k => T k ≠ none) w w' := by
  obtain ⟨rv, bm, S, h⟩ := h
  have hr := h.r
  rw [hp] at hr
  obtain ⟨g, o, c, rfl, cx, _, hc, hg⟩ := hr.first ki_ok rfl
  obtain ⟨qb, pv, hS, hQ, hV, hT3, hT4⟩ := h.at ht
  obtain ⟨g2, o2, c2', rfl, cs, _, hc2, hg2⟩ := hV.first ks_ok rfl
  have c2 := h.h.cell 2 (v := .slice (some ⟨g, o, none⟩) (t.length + 1) c) rfl
  have c1 := h.h.cell 1 (v := .int .i64 p.qu) rfl
  have c3 := h.h.cell 3 (v := .map (some bm)) rfl
  have c4 := h.h.cell 4 (v := .bool p.sv) rfl
  have q0 := hQ.cell 0 (v := .slice (some ⟨g2, o2, none⟩) (l.length + 1) c2') rfl
  have q1 := hQ.cell 1 (v := .int .i64 d) rfl
  have z1 := hQ.free 1 (by show 1 < 2; decide)
  have hix : ∀ w', (Instr.indexAt 48 (.slice (some ⟨g, o, none⟩) (t.length + 1) c) (.int .i64 0)).run Try.prog w' = .ok (.pointer (some ⟨g, o, none⟩)) w' := fun w' => at_Z ki_ok g o (t.length + 1) c 0 w' (by omega) 0 rfl o (by show o = o + 1 * 0; omega)
  have hix2 : ∀ w', (Instr.indexAt 39 (.slice (some ⟨g2, o2, none⟩) (l.length + 1) c2') (.int .i64 0)).run Try.prog w' = .ok (.pointer (some ⟨g2, o2, none⟩)) w' := fun w' => at_Z ks_ok g2 o2 (l.length + 1) c2' 0 w' (by omega) 0 rfl o2 (by show o2 = o2 + 1 * 0; omega)
  have hlk := h.look hx (v := ptr qb) (by rw [hS]; rfl) w rfl
  have hlkd := fun n => h.look hx (v := ptr qb) (by rw [hS]; rfl) (w.drewN n) rfl
  replace cx : w.cell? ⟨g, o, none⟩ = some (.int .i64 x) := cx
  replace cs : w.cell? ⟨g2, o2, none⟩ = some (.string s) := cs
  have hlq : qb < w.heap.size := hQ.lt (by show 0 < 2; decide)
  obtain ⟨N, hN⟩ : ∃ N, N = t.length + 1 := ⟨_, rfl⟩
  obtain ⟨N2, hN2⟩ : ∃ N, N = l.length + 1 := ⟨_, rfl⟩
  rw [← hN] at hix c2
  rw [← hN2] at hix2 q0
  by_cases hsv : p.sv = true
  · rw [hsv] at c4
    have hdue : dueP p d = d := by unfold dueP; rw [hsv]; rfl
    rw [hdue]
    have e : updT p.tb x (some (s :: l, d)) = p.tb := by
      funext y
      unfold updT
      by_cases q : y = x
      · rw [if_pos q, q, ht]
      · rw [if_neg q]
    rw [e]
    have P2 : Hid (∀ w', Below w.heap.size w w' → PG w' B T p) := fun w' b => ⟨_, _, _, h.keep (fun k hk => b.block k (h.lt k hk)) b.size⟩
    have hs2 : ((s.size : Nat) : Int) ≤ 65535 := by omega
    clear h hr hQ hV hT3 hT4 hS ht hp hN hN2 hdue e hs hlq hg hg2 hc hc2 hq
    go_enter Try.func21, Try.ntmps21
    go_wp2_with fail
    go_quiet (fail)
    go_wp2_with fail
    go_quiet (fail)
    go_wp2
    go_ret
    refine ⟨rfl, P2.out _ ?_, ?_⟩
    · exact ⟨rfl, rfl, rfl, Nat.le_refl _, fun _ _ => rfl⟩
    · exact ⟨rfl, rfl, rfl, Nat.le_refl _, fun _ _ _ => rfl⟩
  · have hsv : p.sv = false := by simpa using hsv
    rw [hsv] at c4
    obtain ⟨D, hD⟩ : ∃ D, D = dueP p d := ⟨_, rfl⟩
    have hdue : D = d + p.qu := by rw [hD]; unfold dueP; rw [hsv]; rfl
    have hwr : wrap64 (d + p.qu) = D := by unfold wrap64; omega
    have hwr2 : IntKind.i64.wrap (d + p.qu) = D := by
      simp only [IntKind.wrap, IntKind.bits, IntKind.signed]
      simp
      omega
    have hDb : 0 ≤ D ∧ D ≤ 2162687 := by omega
    rw [← hD]
    have hne : g2 ≠ qb := fun q => by
      have := hT4 g2 rfl
      rw [q, hT3] at this
      simp at this
    have P2 : Hid (∀ w1, Kept (fun k => k = qb) w w1 → Lies w1 qb [.slice (some ⟨g2, o2, none⟩) (l.length + 1) c2', .int .i64 D] → PG w1 B T { p with tb := updT p.tb x (some (s :: l, D)) } ∧ Kept (fun k => T k ≠ none) w w1) := fun w1 k1 l1 =>
      ⟨⟨_, _, _, h.que x (k1.mono fun k _ q => .inl (by rw [q]; exact hT3)) ⟨qb, _, hS, l1, hV.of fun k hk => by injection hk with hk; subst hk; exact k1.block g2 hg2 hne, hT3, hT4⟩⟩, k1.mono fun k _ q => by rw [q, hT3]; simp⟩
    have LD : Hid (∀ w', Below w.heap.size w w' → w'.cell? ⟨B, 1, none⟩ = some (.int .i64 p.qu) ∧ Lies w' qb [.slice (some ⟨g2, o2, none⟩) (l.length + 1) c2', .int .i64 d] ∧ w'.cell? ⟨g2, o2, none⟩ = some (.string s)) := fun w' b =>
      ⟨(b.cell (h.h.lt (by show 0 < 6; decide))).trans c1, hQ.keep (by show 0 < 2; decide) b, (b.cell hg2).trans cs⟩
    have hs2 : ((s.size : Nat) : Int) ≤ 65535 := by omega
    rw [← hN2] at P2 LD
    replace hwr2 := Lib.hid hwr2
    replace hdue := Lib.hid hdue
    clear h hr hQ hV hT3 hT4 hS ht hp hN hN2 hs hlq hg hg2 hc hc2 hq q0 q1 z1 c1 cs hD hwr
    go_enter Try.func21, Try.ntmps21
    go_wp2_with fail
    go_quiet (fail)
    go_upto_region 3 with fail
    have b0 : Below w.heap.size w (w.drewN nq) := ⟨rfl, rfl, rfl, Nat.le_refl _, fun _ _ => rfl⟩
    clear hlkd hlk c2 c3 c4 cx
    generalize w.drewN nq = wa at *
    obtain ⟨c1, hQ, cs⟩ := LD.out wa b0
    have q1 := hQ.cell 1 (v := .int .i64 d) rfl
    have z1 := hQ.free 1 (by show 1 < 2; decide)
    have L1 : Hid (Lies (wa.setCell ⟨qb, 1, none⟩ (.int .i64 D)).drew qb [.slice (some ⟨g2, o2, none⟩) N2 c2', .int .i64 D]) := (hQ.put 1 (by show 1 < 2; decide) (.int .i64 D)).keep (by show 0 < 2; decide) (drewB _ _)
    have K1 : Hid (Kept (fun k => k = qb) wa (wa.setCell ⟨qb, 1, none⟩ (.int .i64 D)).drew) := ((Kept.refl (fun k => k = qb) wa).set ⟨qb, 1, none⟩ rfl _).drew
    have cs' : Hid ((wa.setCell ⟨qb, 1, none⟩ (.int .i64 D)).drew.cell? ⟨g2, o2, none⟩ = some (.string s)) := (World.cell?_setCell_other _ _ _ _ (by intro q; injection q with q; exact hne q.symm)).trans cs
    have hwr2 := hwr2.out
    clear hQ cs LD hne
    go_region
    generalize (wa.setCell ⟨qb, 1, none⟩ (.int .i64 D)).drew = wb at *
    have q0 := L1.out.cell 0 (v := .slice (some ⟨g2, o2, none⟩) N2 c2') rfl
    have q1' := L1.out.cell 1 (v := .int .i64 D) rfl
    have cs' := cs'.out
    clear hwr2 c1 q1 z1
    go_wp2_with fail
    go_quiet (fail)
    go_wp2
    go_ret
    have b1 : Below wb.heap.size wb (wb.drewN nq) := ⟨rfl, rfl, rfl, Nat.le_refl _, fun _ _ => rfl⟩
    exact ⟨rfl, P2.out _ (((Kept.of _ b0).trans K1.out).trans (.of _ b1)) (L1.out.keep (by show 0 < 2; decide) b1)⟩
/-- The first one goes to the end. -/
theorem fpass_ok (B : Nat) (T : Tag) (p : FaP) (x : Int) (t : List Int) (w : World) (h : PG w B T p) (hp : p.ids = x :: t) (hl : t.length < 1073741824) :
    Calls Try.prog 22 #[ptr B] w fun e w' => e = .returned (.tuple #[]) ∧ ∃ T', PG w' B T' { p with ids := t ++ [x], sv := false } ∧ ExtT T T' w.heap.size ∧ Kept (fun k => T k ≠ none) w w' := by
  have C := Lib.hid (fcut_ok B T p x t w h hp)
  clear h hp
  go_enter Try.func22, Try.ntmps22
  go_wp2_with fail
  refine C.out.mono ?_
  rintro e w1 ⟨rfl, ⟨rv, bm, S, h⟩, k1⟩
  replace k1 := k1.low
  obtain ⟨a, c, hrv, -⟩ := h.r.slice
  obtain ⟨a5, n5, c5, w5, hap, r5, -, ho, k5⟩ := h.r.snoc ki_ok x 2 48 (by show (t.length + 1) * 8 ≤ _; omega) (by show t.length + 1 ≤ _; unfold maxLen; omega)
  have c2 := h.h.cell 2 (v := rv) rfl
  have h6 : 0 < (paC { p with ids := t, sv := false } rv bm).length := by show 0 < 6; decide
  have hlB := h.h.lt h6
  have hne : ¬ rv.ownBlock = some B := fun q => by
    have := h.tr B q
    rw [h.tB] at this
    simp at this
  have l5 := h.h.of_block (k5.block B hlB hne)
  have z2 := l5.free 2 (by show 2 < 6; decide)
  have c25 := l5.cell 2 (v := rv) rfl
  have l6 : Lies (w5.setCell ⟨B, 2, none⟩ (.slice a5 n5 c5)) B (paC { p with ids := t ++ [x], sv := false } (.slice a5 n5 c5) bm) := l5.put 2 (by show 2 < 6; decide) _
  have k6 : Kept (fun k => k = B ∨ rv.ownBlock = some k) w1 (w5.setCell ⟨B, 2, none⟩ (.slice a5 n5 c5)) := (k5.mono fun _ _ q => .inr q).set ⟨B, 2, none⟩ (.inl rfl) _
  have hno : ∀ k, (Value.slice a5 n5 c5).ownBlock = some k → k ≠ B := fun k hk q => by
    rcases ho k hk with z | z
    · exact hne (q ▸ z)
    · omega
  have r6 : RowZ KI (w5.setCell ⟨B, 2, none⟩ (.slice a5 n5 c5)) (.slice a5 n5 c5) (t ++ [x]) := r5.of fun k hk => ((Kept.refl (fun k => k = B) w5).set ⟨B, 2, none⟩ rfl _).block k (r5.lt k hk) (hno k hk)
  obtain ⟨T', P6, E6⟩ := h.row (ids' := t ++ [x]) (sv' := false) (cnt' := p.cnt) k6 l6 r6 ho
  have FIN : Hid (∃ T', PG (w5.setCell ⟨B, 2, none⟩ (.slice a5 n5 c5)) B T' { p with ids := t ++ [x], sv := false } ∧ ExtT T T' w.heap.size ∧ Kept (fun k => T k ≠ none) w (w5.setCell ⟨B, 2, none⟩ (.slice a5 n5 c5))) :=
    ⟨T', ⟨_, _, _, P6⟩, fun k hk => E6 k (Nat.lt_of_lt_of_le hk k1.size), k1.trans (k6.mono fun k _ q => by
      rcases q with q | q
      · rw [q, h.tB]; simp
      · rw [h.tr k q]; simp)⟩
  have hap : Hid (∀ z, (builtin .append #[48, 48] 48 z #[.slice a t.length c, .slice (some ⟨w1.heap.size, 0, none⟩) 1 1]).run Try.prog (w1.alloc (.cells #[.int .i64 x] 2)) = .ok (.value (.slice a5 n5 c5)) w5) := by
    have e : rv = .slice a t.length c := hrv
    rw [← e]
    exact hap
  have e : rv = .slice a t.length c := hrv
  rw [e] at c2 c25
  clear hrv ho r5 h6 hlB hne l5 l6 k6 hno r6 P6 E6 h k1 k5 C e
  go_wp2_with (refine obB2L _ rfl .append (.tmp 9) (.tmp 11) 48 48 rfl (.slice a t.length c) (.slice (some ⟨w1.heap.size, 0, none⟩) 1 1) rfl rfl hap.out ?_)
  go_end0
  exact ⟨rfl, FIN.out⟩
end Go.Proofs.Ytiamlldooihkdaa
