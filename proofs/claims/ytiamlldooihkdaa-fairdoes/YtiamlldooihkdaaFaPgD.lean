/-
  slices.Index and slices.Delete over a row of numbers; what the program's own queues do when someone leaves the round. No condition but what always holds of queues.
-/
import Derived.Test.YtiamlldooihkdaaFaPgC
import Derived.Deep.RegionLaw
namespace Go.Proofs.Ytiamlldooihkdaa
set_option maxRecDepth 100000
open Go.RowKit

set_option maxHeartbeats 1000000 in
theorem index_ok (v : Value) (d : List Int) (x : Int) (w : World) (h : RowZ KI w v d) (hx : x ∈ d) (hl : d.length < 1073741824) :
    Calls Try.prog 27 #[v, .int .i64 x] w fun e w' => ∃ i : Nat, e = .returned (.int .i64 i) ∧ i < d.length ∧ d.getD i 0 = x ∧ w = w' := by
  obtain ⟨a, c, rfl, -, -, ha⟩ := h.slice
  obtain ⟨g, o, rfl, -, -⟩ := ha (List.length_pos_of_mem hx)
  have hix : ∀ (i : Nat) (z : Int) w', i < d.length → z = i → (Instr.indexAt 48 (.slice (some ⟨g, o, none⟩) d.length c) (.int .i64 z)).run Try.prog w' = .ok (.pointer (some ⟨g, o + i, none⟩)) w' := fun i z w' hi hz => at_Z ki_ok g o d.length c i w' hi z hz (o + i) (by show o + i = o + 1 * i; omega)
  have CE : Hid (∀ i, i < d.length → w.cell? ⟨g, o + i, none⟩ = some (.int .i64 (d.getD i 0))) := fun i hi => by
    have := (h.cell ki_ok i 0 hi (by show 0 < 1; decide)).1
    rw [show o + KI.n * i + 0 = o + i by show o + 1 * i + 0 = _; omega] at this
    exact this
  obtain ⟨m, hm⟩ : ∃ m, m = d.length := ⟨_, rfl⟩
  rw [← hm] at hix CE hl ⊢
  replace hix := Lib.hid hix
  have HX : Hid (∀ n, (∀ j, j < n → d.getD j 0 ≠ x) → n < m) := fun n hn => by
    rcases Nat.lt_or_ge n m with q | q
    · exact q
    · exfalso
      obtain ⟨i, hi, e⟩ := List.getElem_of_mem hx
      refine hn i (by omega) ?_
      rw [List.getD_eq_getElem?_getD, List.getElem?_eq_getElem hi]
      exact e
  clear h ha hx hm
  go_enter Try.func27, Try.ntmps27
  go_wp2_with fail
  go_loopg [8] m (fun g' s8 wr => ∃ i : Nat, i + g' = m ∧ s8 = .int .i64 i ∧ Hid (∀ j, j < i → d.getD j 0 ≠ x) ∧ w = wr)
  case atStart => exact ⟨0, by omega, rfl, fun j hj => absurd hj (Nat.not_lt_zero _), rfl⟩
  case round =>
    obtain ⟨i, hi, rfl, HJ, rfl⟩ := hrel
    have hlt := HX.out i HJ.out
    have g1 : decide ((i : Int) < (m : Int)) = true := decide_eq_true (by omega)
    have g1' : decide (i < m) = true := decide_eq_true hlt
    have ce := CE.out i hlt
    have hix0 := hix.out i i w hlt rfl
    have HJ2 : Hid (d.getD i 0 ≠ x → ∀ j, j < i + 1 → d.getD j 0 ≠ x) := fun hne j hj => by
      rcases Nat.lt_or_ge j i with q | q
      · exact HJ.out j q
      · obtain rfl : j = i := by omega
        exact hne
    obtain ⟨y, hy⟩ : ∃ y, y = d.getD i 0 := ⟨_, rfl⟩
    rw [← hy] at ce HJ2
    replace hy := Lib.hid hy
    by_cases q : x = y
    · have q1 : decide (x = y) = true := decide_eq_true q
      have q2 : (x == y) = true := by simp [q]
      replace q := Lib.hid q
      go_wp2_with fail
      go_ret
      exact ⟨i, rfl, hlt, hy.out.symm.trans q.out.symm, rfl⟩
    · have q1 : decide (x = y) = false := decide_eq_false q
      have q2 : (x == y) = false := by simp [q]
      have HJ3 := Lib.hid (HJ2.out fun z => q z.symm)
      replace q := Lib.hid q
      go_wp2_with fail
      go_roundg (m - (i + 1))
      case measure => omega
      case rel => exact ⟨i + 1, by omega, by go_num, HJ3.out, rfl⟩
theorem ki_one : ∀ i z, Try.prog.info? KI.e = some i → i.zero = some z → ∀ u ∈ z.cells.toList, u.oneCell' = true := fun i z hi hz u hu => by
  have h : (Try.prog.info? 2).map (fun i => i.zero) = some (some (.int .i64 0)) := by kernel_rfl
  have hi' : Try.prog.info? 2 = some i := hi
  rw [hi'] at h
  injection h with h
  replace h : i.zero = some (.int .i64 0) := h
  rw [hz] at h
  injection h with h
  subst h
  simp [Value.cells] at hu
  subst hu
  rfl
set_option maxHeartbeats 2000000 in
theorem delete_ok (v : Value) (d : List Int) (i : Nat) (w : World) (h : RowZ KI w v d) (hi : i < d.length) (hl : d.length < 1073741824) :
    Calls Try.prog 28 #[v, .int .i64 i, .int .i64 ((i + 1 : Nat) : Int)] w fun e w' => ∃ a n c, e = .returned (.slice a n c) ∧ RowZ KI w' (.slice a n c) (d.take i ++ d.drop (i + 1)) ∧ (Value.slice a n c).ownBlock = v.ownBlock ∧ Kept (fun k => v.ownBlock = some k) w w' := by
  obtain ⟨a, c, rfl, hc, hcm, ha⟩ := h.slice
  obtain ⟨g, o, rfl, -, hg⟩ := ha (by omega)
  obtain ⟨m, hm⟩ : ∃ m, m = d.length := ⟨_, rfl⟩
  rw [← hm] at h hc hi hl ⊢
  have hml : m ≤ 9223372036854775807 := by omega
  obtain ⟨vv, hv3⟩ : ∃ vv, (Instr.sliceAt 48 (.slice (some ⟨g, o, none⟩) m c) (some (.int .i64 i)) (some (.int .i64 ((i + 1 : Nat) : Int))) (some (.int .i64 m))).run Try.prog w = .ok vv w := run_lhmZ ki_ok w _ m c i (i + 1) m _ _ _ rfl rfl rfl (by omega) (by omega) hc
  have s1 : ∀ w', (Instr.sliceAt 48 (.slice (some ⟨g, o, none⟩) m c) none (some (.int .i64 i)) none).run Try.prog w' = .ok (.slice (some ⟨g, o, none⟩) i c) w' := fun w' => run_uptoZ ki_ok w' _ m c i i rfl (by omega)
  have s2 : ∀ w', (Instr.sliceAt 48 (.slice (some ⟨g, o, none⟩) m c) (some (.int .i64 ((i + 1 : Nat) : Int))) none none).run Try.prog w' = .ok (.slice (dropZ KI.n (some ⟨g, o, none⟩) c (i + 1)) (m - (i + 1)) (c - (i + 1))) w' := fun w' => run_cutZ ki_ok w' _ m c (i + 1) _ rfl (by omega)
  have h1 := (h.keep (drewB w.heap.size w)).upto ki_ok i (by rw [← hm]; omega)
  have h2 := (h.keep (drewB w.heap.size w)).cut ki_ok (i + 1) (by rw [← hm]; omega)
  have l1 : (d.take i).length = i := by rw [List.length_take]; omega
  have l2 : (d.drop (i + 1)).length = m - (i + 1) := by rw [List.length_drop]; omega
  obtain ⟨w1, hap, r1, k1⟩ := h1.app_room ki_ok 48 _ _ (h2.src ki_ok) (by rw [l1, l2]; omega)
  have l3 : (d.take i).length + (d.drop (i + 1)).length = m - 1 := by rw [l1, l2]; omega
  rw [l3] at hap r1
  obtain ⟨w2, hcl, r2, k2⟩ := r1.clr ki_ok 1 (c - (m - 1)) (by omega) ki_one
  have s3 : ∀ w', (Instr.sliceAt 48 (.slice (some ⟨g, o, none⟩) (m - 1) c) (some (.int .i64 ((m - 1 : Nat) : Int))) (some (.int .i64 m)) none).run Try.prog w' = .ok (.slice (dropZ KI.n (some ⟨g, o, none⟩) c (m - 1)) 1 (c - (m - 1))) w' := fun w' => by
    have := run_midZ ki_ok w' (some ⟨g, o, none⟩) (m - 1) c (m - 1) m _ _ rfl rfl (by omega) hc
    rw [show m - (m - 1) = 1 by omega] at this
    exact this
  have FIN : Hid (RowZ KI w2 (.slice (some ⟨g, o, none⟩) (m - 1) c) (d.take i ++ d.drop (i + 1)) ∧ Kept (fun k => (Value.slice (some ⟨g, o, none⟩) m c).ownBlock = some k) w w2) :=
    ⟨r2, (((Kept.of (fun k => k = g) (drewB _ w)).trans k1).trans k2).mono fun k _ q => by rw [q]; rfl⟩
  have q1 : decide ((i : Int) = ((i + 1 : Nat) : Int)) = false := decide_eq_false (by omega)
  have q2 : ((i : Int) == ((i + 1 : Nat) : Int)) = false := by simp; omega
  obtain ⟨j, hj⟩ : ∃ j, j = i + 1 := ⟨_, rfl⟩
  rw [← hj] at s2 hv3 q1 q2 hap FIN ⊢
  obtain ⟨n1, hn1⟩ : ∃ n, n = m - 1 := ⟨_, rfl⟩
  rw [← hn1] at s3 hap hcl FIN
  obtain ⟨A2, hA2⟩ : ∃ A, A = dropZ KI.n (some ⟨g, o, none⟩) c j := ⟨_, rfl⟩
  obtain ⟨M2, hM2⟩ : ∃ M, M = m - j := ⟨_, rfl⟩
  obtain ⟨C2, hC2⟩ : ∃ C, C = c - j := ⟨_, rfl⟩
  rw [← hA2, ← hM2, ← hC2] at s2 hap
  obtain ⟨A3, hA3⟩ : ∃ A, A = dropZ KI.n (some ⟨g, o, none⟩) c n1 := ⟨_, rfl⟩
  obtain ⟨C3, hC3⟩ : ∃ C, C = c - n1 := ⟨_, rfl⟩
  rw [← hA3, ← hC3] at s3 hcl
  have hn1l : n1 ≤ 9223372036854775807 := by omega
  have hap : Hid (∀ z, (builtin .append #[48, 48] 48 z #[.slice (some ⟨g, o, none⟩) i c, .slice A2 M2 C2]).run Try.prog w.drew = .ok (.value (.slice (some ⟨g, o, none⟩) n1 c)) w1) := hap
  have hcl : Hid (∀ ty z, (builtin .clear #[48] ty z #[.slice A3 1 C3]).run Try.prog w1 = .ok (.value (.tuple #[])) w2) := hcl
  clear h h1 h2 l1 l2 l3 r1 k1 r2 k2 hj hn1 hA2 hM2 hC2 hA3 hC3 ha hc hcm hi hm hg
  go_enter Try.func28, Try.ntmps28
  go_upto_region 5 with fail
  go_region_law (refine obB2S rfl .append _ _ 48 48 rfl _ _ (by simp [Act.eval, Act.put]) (by simp [Act.eval, Act.put]) hap.out ?_)
  all_goals
    clear hap s1 s2 hv3
    go_wp2_with (refine obB1L _ rfl .clear _ 48 rfl (.slice A3 1 C3) rfl (hcl.out _) ?_)
    go_ret
    exact ⟨_, _, _, rfl, FIN.out.1, rfl, FIN.out.2⟩
theorem cut_at {d : List Int} {i : Nat} {x : Int} (hn : d.Nodup) (hi : i < d.length) (hx : d.getD i 0 = x) : d.take i ++ d.drop (i + 1) = d.filter fun y => decide (y ≠ x) := by
  have e : d[i] = x := by
    rw [List.getD_eq_getElem?_getD, List.getElem?_eq_getElem hi] at hx
    exact hx
  have hd : d = d.take i ++ x :: d.drop (i + 1) := by
    rw [← e, ← List.drop_eq_getElem_cons hi, List.take_append_drop]
  generalize d.take i = a at *
  generalize d.drop (i + 1) = b at *
  clear e hi hx
  subst hd
  rw [List.nodup_append, List.nodup_cons] at hn
  rw [List.filter_append, List.filter_cons, if_neg (by simp)]
  rw [List.filter_eq_self.2 fun y hy => by simpa using hn.2.2 y hy x (List.mem_cons_self ..), List.filter_eq_self.2 fun y hy => by
    simp only [ne_eq, decide_not, Bool.not_eq_eq_eq_not, Bool.not_true, decide_eq_false_iff_not]
    exact fun q => hn.2.1.1 (q ▸ hy)]
theorem tail_filter {x : Int} {t : List Int} (hn : (x :: t).Nodup) : t = (x :: t).filter fun y => decide (y ≠ x) := by
  rw [List.nodup_cons] at hn
  rw [List.filter_cons, if_neg (by simp), List.filter_eq_self.2 fun y hy => by
    simp only [ne_eq, decide_not, Bool.not_eq_eq_eq_not, Bool.not_true, decide_eq_false_iff_not]
    exact fun q => hn.1 (q ▸ hy)]
/-- Someone's entry is taken out of the map. -/
theorem PX.del {w w' : World} {B : Nat} {T : Tag} {p : FaP} {rv : Value} {bm : Nat} {S : Int → Option Value} (h : PX w B T p rv bm S) (x : Int) (g : w.grownBy w' (some bm)) (m : MapV MQ w' bm p.n (fun y => if y = x then none else S y)) :
    PX w' B T { p with tb := updT p.tb x none } rv bm (fun y => if y = x then none else S y) ∧ Kept (Low T) w w' := by
  have ne : ∀ j t, T j = some t → t ≠ (1, 0) → some j ≠ some bm := fun j t hj h0 q => by
    injection q with q
    rw [q, h.tm] at hj
    injection hj with hj
    exact h0 hj.symm
  have hs := g.size
  refine ⟨⟨h.h.of_block (g.block B (h.h.lt (by show 0 < 6; decide)) (ne B _ h.tB (by simp))), h.r.of fun j hj => g.block j (h.r.lt j hj) (ne j _ (h.tr j hj) (by simp)), m, h.tB, h.tm, h.tr, fun y => ?_, fun j hj => Nat.lt_of_lt_of_le (h.lt j hj) hs⟩, ⟨g.os, g.tape, g.output, hs, fun k hk hT => g.block k hk fun q => ?_⟩⟩
  · show QAt w' T _ y (updT p.tb x none y)
    unfold updT
    by_cases e : y = x
    · rw [if_pos e]
      show (if y = x then none else S y) = none
      rw [if_pos e]
    · rw [if_neg e]
      refine (h.q y).keep (fun j hj ht => g.block j hj ?_) (.refl _ _) (by show (if y = x then none else S y) = S y; rw [if_neg e])
      rcases ht with ht | ht <;> exact ne j _ ht (by simp)
  · injection q with q
    exact hT (.inr (.inl (by rw [q, h.tm])))
set_option maxHeartbeats 2000000 in
theorem fleave_ok (B : Nat) (T : Tag) (p : FaP) (x0 : Int) (t : List Int) (x : Int) (w : World) (h : PG w B T p) (hp : p.ids = x0 :: t) (hn : p.ids.Nodup) (hx : In64 x) (hm : x ∈ p.ids) (hl : p.ids.length < 1073741824) :
    Calls Try.prog 25 #[ptr B, .int .i64 x] w fun e w' => e = .returned (.tuple #[]) ∧ ∃ T', PG w' B T' { p with ids := p.ids.filter (fun y => decide (y ≠ x)), tb := updT p.tb x none, sv := if x0 = x then false else p.sv } ∧ ExtT T T' w.heap.size ∧ Kept (Low T) w w' := by
  obtain ⟨rv, bm, S, h⟩ := h
  have hr := h.r
  rw [hp] at hr
  obtain ⟨g, o, c, rfl, -, -, -, hg⟩ := hr.first ki_ok rfl
  have c2 := h.h.cell 2 (v := .slice (some ⟨g, o, none⟩) (t.length + 1) c) rfl
  have c3 := h.h.cell 3 (v := .map (some bm)) rfl
  have hH := Lib.hid h
  have hMp := h.m
  have hx' : -9223372036854775808 ≤ x ∧ x ≤ 9223372036854775807 := hx
  replace hn := Lib.hid hn
  replace hm := Lib.hid hm
  replace hp := Lib.hid hp
  replace hl := Lib.hid hl
  have hMp := Lib.hid hMp
  obtain ⟨sv', hsv⟩ : ∃ b, b = if x0 = x then false else p.sv := ⟨_, rfl⟩
  rw [← hsv]
  replace hsv := Lib.hid hsv
  clear h hr
  go_enter Try.func25, Try.ntmps25
  go_upto_region 1 with (refine hMp.out.wdel mq_ok rfl (.tmp 8) (.tmp 9) rfl hx' rfl rfl ?_)
  intro w1 m1 g1
  obtain ⟨P1, K1⟩ := hH.out.del x g1 m1
  have d2 := P1.h.cell 2 (v := .slice (some ⟨g, o, none⟩) (t.length + 1) c) rfl
  have hr1 := P1.r
  have hr1' : RowZ KI w1 (.slice (some ⟨g, o, none⟩) (t.length + 1) c) p.ids := hr1
  have hr2 := hr1'
  rw [hp.out] at hr2
  have ce : w1.cell? ⟨g, o, none⟩ = some (.int .i64 x0) := by
    obtain ⟨g', o', c', e, ce, -⟩ := hr2.first ki_ok rfl
    injection e with e1 _ _
    injection e1 with e1
    injection e1 with e1 e2
    subst e1 e2
    exact ce
  have hix : ∀ w', (Instr.indexAt 48 (.slice (some ⟨g, o, none⟩) (t.length + 1) c) (.int .i64 0)).run Try.prog w' = .ok (.pointer (some ⟨g, o, none⟩)) w' := fun w' => at_Z ki_ok g o (t.length + 1) c 0 w' (by omega) 0 rfl o (by show o = o + 1 * 0; omega)
  obtain ⟨N, hN⟩ : ∃ N, N = t.length + 1 := ⟨_, rfl⟩
  rw [← hN] at hix d2 hr1' P1
  by_cases q : x0 = x
  · have q1 : decide (x0 = x) = true := decide_eq_true q
    have q2 : (x0 == x) = true := by simp [q]
    have C := Lib.hid (fcut_ok B T _ x0 t w1 ⟨_, _, _, P1⟩ hp.out)
    have eF : p.ids.filter (fun y => decide (y ≠ x)) = t := by
      have := hn.out
      rw [hp.out] at this ⊢
      rw [← q]
      exact (tail_filter this).symm
    have KK : Hid (Kept (Low T) w w1) := K1
    have hs : sv' = false := by rw [hsv.out, if_pos q]
    replace hs := Lib.hid hs
    replace eF := Lib.hid eF
    replace q := Lib.hid q
    clear P1 K1 hr1 hr1' hr2 hH hMp hN m1 c2 c3
    go_wp2_with fail
    refine C.out.mono ?_
    rintro e w2 ⟨rfl, P2, K2⟩
    have FIN : Hid (∃ T', PG w2 B T' { p with ids := p.ids.filter (fun y => decide (y ≠ x)), tb := updT p.tb x none, sv := sv' } ∧ ExtT T T' w.heap.size ∧ Kept (Low T) w w2) := by
      rw [hs.out, eF.out]
      exact ⟨T, P2, .refl _ _, KK.out.trans K2⟩
    clear P2 K2 C
    go_wp2_with fail
    exact bodyPost_ret (v := .tuple #[]) (by simp [results, Try.results25, go_sem]) rfl ⟨rfl, FIN.out⟩
  · have q1 : decide (x0 = x) = false := decide_eq_false q
    have q2 : (x0 == x) = false := by simp [q]
    have CI := Lib.hid (index_ok _ _ x w1 hr1' hm.out hl.out)
    have CD : Hid (∀ i : Nat, i < p.ids.length → Calls Try.prog 28 #[.slice (some ⟨g, o, none⟩) N c, .int .i64 i, .int .i64 ((i + 1 : Nat) : Int)] w1 _) := fun i hi => delete_ok _ _ i w1 hr1' hi hl.out
    have EF : Hid (∀ i, i < p.ids.length → p.ids.getD i 0 = x → p.ids.take i ++ p.ids.drop (i + 1) = p.ids.filter fun y => decide (y ≠ x)) := fun i hi e => cut_at hn.out hi e
    have KK : Hid (Kept (Low T) w w1) := K1
    have hP1 := Lib.hid P1
    have hs : sv' = p.sv := by rw [hsv.out, if_neg q]
    replace hs := Lib.hid hs
    replace q := Lib.hid q
    have hl' := hl.out
    clear P1 K1 hr1 hr1' hr2 hH hMp m1 c2 c3 hN
    go_wp2_with fail
    refine CI.out.mono ?_
    rintro e w2 ⟨i, rfl, hi, hgi, rfl⟩
    have ew : wrap64 ((i : Int) + 1) = ((i + 1 : Nat) : Int) := by unfold wrap64; omega
    have ei : (i : Int) + 1 = ((i + 1 : Nat) : Int) := by omega
    have C2 := Lib.hid (CD.out i hi)
    have EF2 := Lib.hid (EF.out i hi hgi)
    rw [← ei] at C2
    clear ei ew CD EF CI hgi
    have hib : (i : Int) < 1073741824 := by omega
    go_wp2_with fail
    refine C2.out.mono ?_
    rintro e w3 ⟨a3, n3, c3', rfl, r3, ho3, k3⟩
    rw [EF2.out] at r3
    have ne : ¬ (Value.slice (some ⟨g, o, none⟩) N c).ownBlock = some B := fun q => by
      have := hP1.out.tr B q
      rw [hP1.out.tB] at this
      simp at this
    have l3 := hP1.out.h.of_block (k3.block B (hP1.out.h.lt (by show 0 < 6; decide)) ne)
    have z2 := l3.free 2 (by show 2 < 6; decide)
    have d23 := l3.cell 2 (v := .slice (some ⟨g, o, none⟩) N c) rfl
    have l4 : Lies (w3.setCell ⟨B, 2, none⟩ (.slice a3 n3 c3')) B (paC { p with ids := p.ids.filter (fun y => decide (y ≠ x)), tb := updT p.tb x none, sv := p.sv } (.slice a3 n3 c3') bm) := l3.put 2 (by show 2 < 6; decide) _
    have k4 : Kept (fun k => k = B ∨ (Value.slice (some ⟨g, o, none⟩) N c).ownBlock = some k) w1 (w3.setCell ⟨B, 2, none⟩ (.slice a3 n3 c3')) := (k3.mono fun _ _ q => .inr q).set ⟨B, 2, none⟩ (.inl rfl) _
    have r4 : RowZ KI (w3.setCell ⟨B, 2, none⟩ (.slice a3 n3 c3')) (.slice a3 n3 c3') (p.ids.filter (fun y => decide (y ≠ x))) := r3.of fun k hk => ((Kept.refl (fun k => k = B) w3).set ⟨B, 2, none⟩ rfl _).block k (r3.lt k hk) (fun e => ne (by rw [← ho3, ← e]; exact hk))
    obtain ⟨T', P4, E4⟩ := hP1.out.row (ids' := p.ids.filter (fun y => decide (y ≠ x))) (sv' := p.sv) (cnt' := p.cnt) k4 l4 r4 fun k hk => .inl (by rw [← ho3]; exact hk)
    have FIN : Hid (∃ T', PG (w3.setCell ⟨B, 2, none⟩ (.slice a3 n3 c3')) B T' { p with ids := p.ids.filter (fun y => decide (y ≠ x)), tb := updT p.tb x none, sv := sv' } ∧ ExtT T T' w.heap.size ∧ Kept (Low T) w (w3.setCell ⟨B, 2, none⟩ (.slice a3 n3 c3'))) :=
      by
      rw [hs.out]
      exact ⟨T', ⟨_, _, _, P4⟩, fun k hk => E4 k (Nat.lt_of_lt_of_le hk KK.out.size), KK.out.trans (k4.mono fun k _ q => by
        rcases q with q | q
        · exact .inl (by rw [q, hP1.out.tB])
        · exact .inr (.inr (hP1.out.tr k q)))⟩
    clear l3 l4 k4 r4 P4 E4 r3 ho3 k3 ne C2 EF2 hP1 KK
    go_wp2_with fail
    go_end0
    exact ⟨rfl, FIN.out⟩
end Go.Proofs.Ytiamlldooihkdaa
