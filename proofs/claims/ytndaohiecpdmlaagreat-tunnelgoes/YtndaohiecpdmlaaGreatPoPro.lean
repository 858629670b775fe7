/-
  What the program's own protosOf answers: the protocols that rules name. No condition but how many rules there are.
-/
import Derived.Test.YtndaohiecpdmlaaGreatPoReach
import Derived.Test.YtndaohiecpdmlaaGreatSoAll
import Derived.Sort.OwnSortedInts
namespace Go.Proofs.YtndaohiecpdmlaaGreat
set_option maxRecDepth 100000
open Go.RowKit Go.Sort

theorem ki_flat (d : List Int) : d.flatMap KI.cells = d.map (Value.int .i64) := by
  induction d with
  | nil => rfl
  | cons x d ih => rw [List.flatMap_cons, ih]; rfl
/-- A row of one's own, laid open. -/
theorem own_ki {w : World} {base : Nat} {v : Value} {d : List Int} (h : OwnK KI w base v d) : (v = .slice none 0 0 ∧ d = []) ∨ ∃ g c cur, v = .slice (some ⟨g, 0, none⟩) d.length c ∧ base ≤ g ∧ w.heap[g]? = some (.cells cur 3 (0, 0)) ∧ d.length ≤ c ∧ c ≤ maxLen ∧ cur.size = c * 1 ∧ Holds (Value.int .i64) w g 0 d.toArray := by
  rcases h.2 with ⟨rfl, h0⟩ | ⟨g, c, cur, rfl, h2, h3, h4, h5, h6, h7⟩
  · exact .inl ⟨rfl, List.eq_nil_of_length_eq_zero h0⟩
  · refine .inr ⟨g, c, cur, rfl, h2, h3, h4, h5, h6, holds_of_blockI h3 ?_⟩
    rw [← ki_flat, ← h7]
    congr 1
    exact (Nat.mul_one _).symm
theorem ki_of {w : World} {base : Nat} {v : Value} {d : List Int} (h : w.ownsRow base 3 1 v d.length (d.map (Value.int .i64))) : OwnK KI w base v d := by
  unfold OwnK
  rw [ki_flat]
  exact h
theorem grow_none (w : World) : grow w #[] = w := by
  unfold grow
  cases w
  simp
theorem kept_g {w w' : World} {g : Nat} {v : Value} (h : w.grownBy w' (some g)) (hv : v.ownBlock = some g) : Kept (fun k => v.ownBlock = some k) w w' :=
  ⟨h.os, h.tape, h.output, h.size, fun k hk hn => h.block k hk (fun e => hn (by rw [hv]; exact e.symm))⟩
theorem sortI (base : Nat) (v : Value) (d : List Int) (w : World) (h : OwnK KI w base v d) (hl : d.length < 4611686018427387904) :
    Calls Tryz.prog 59 #[v] w fun e w' => e = .returned (.tuple #[]) ∧ ∃ d', OwnK KI w' base v d' ∧ d'.Perm d ∧ Kept (fun k => v.ownBlock = some k) w w' := by
  rcases own_ki h with ⟨rfl, rfl⟩ | ⟨g, c, cur, rfl, hb, hg, hc, hm, hs, H⟩
  · exact (Tryz.slices_Sort_int_none none 0 w).mono fun e w' ⟨h1, h2⟩ => ⟨h1, [], h2 ▸ h, .refl _, h2 ▸ .refl _ _⟩
  · refine (Tryz.slices_Sort_int g 0 c d w H (Array.getElem?_eq_some_iff.1 hg).1 hl).mono fun e w' ⟨h1, n, os, h2⟩ => ⟨h1, d.mergeSort (fun x y => decide (x ≤ y)), ?_, List.mergeSort_perm d _, ?_⟩
    · rw [h2]
      refine ki_of ?_
      rw [List.length_mergeSort]
      exact ownsRow_sortedI (List.length_mergeSort d) hb hg hc hm hs
    · rw [h2]
      exact kept_g (grownBy_sortedI _) rfl
theorem compI (base : Nat) (v : Value) (d : List Int) (w : World) (h : OwnK KI w base v d) (hl : d.length < 4611686018427387904) :
    Calls Tryz.prog 60 #[v] w fun e w' => ∃ v' d', e = .returned v' ∧ OwnK KI w' base v' d' ∧ d'.length ≤ d.length ∧ (∀ x, x ∈ d' ↔ x ∈ d) ∧ v'.ownBlock = v.ownBlock ∧ Kept (fun k => v.ownBlock = some k) w w' := by
  rcases own_ki h with ⟨rfl, rfl⟩ | ⟨g, c, cur, rfl, hb, hg, hc, hm, hs, H⟩
  · exact (Tryz.slices_Compact_int_empty none 0 w).mono fun e w' ⟨h1, h2⟩ => ⟨_, [], h1, h2 ▸ h, Nat.le_refl _, fun x => Iff.rfl, rfl, h2 ▸ .refl _ _⟩
  · have hle : (Lib.compact d).length ≤ d.length := by
      unfold Lib.compact Lib.compactUpTo
      rw [List.length_map]
      exact Nat.le_trans (List.length_filter_le _ _) (by rw [List.length_range]; exact Nat.le_refl _)
    refine (Tryz.slices_Compact_int g 0 c d w H (by omega) hc).mono fun e w' ⟨h1, q, h2⟩ => ⟨_, Lib.compact d, h1, ?_, hle, fun x => ?_, rfl, ?_⟩
    · have e0 : w' = grow (putRow (Value.int .i64) (Sort.ahead w q) g 0 (Lib.compact d ++ List.replicate (d.length - (Lib.compact d).length) 0).toArray) #[] := by rw [h2, grow_none]
      have hl2 : (Lib.compact d ++ List.replicate (d.length - (Lib.compact d).length) (0 : Int)).length = d.length := by simp; omega
      have ho : OwnK KI w' base (.slice (some ⟨g, 0, none⟩) d.length c) (Lib.compact d ++ List.replicate (d.length - (Lib.compact d).length) 0) := by
        rw [e0]
        refine ki_of ?_
        rw [hl2]
        exact ownsRow_sortedI hl2 hb hg hc hm hs
      have hp := ho.pre ki_ok (k := (Lib.compact d).length) (by rw [hl2]; exact hle)
      rw [List.take_left'  rfl] at hp
      exact hp
    · unfold Lib.compact
      rw [cu_mem, List.mem_iff_getElem]
      constructor
      · rintro ⟨j, hj, e⟩
        exact ⟨j, hj, by rw [← e, getElem!_pos d.toArray j (by simpa using hj)]; simp⟩
      · rintro ⟨j, hj, e⟩
        exact ⟨j, hj, by rw [← e, getElem!_pos d.toArray j (by simpa using hj)]; simp⟩
    · have e0 : w' = grow (putRow (Value.int .i64) (Sort.ahead w q) g 0 (Lib.compact d ++ List.replicate (d.length - (Lib.compact d).length) 0).toArray) #[] := by rw [h2, grow_none]
      rw [e0]
      exact kept_g (grownBy_sortedI _) rfl
set_option maxHeartbeats 8000000 in
theorem protos_ok (l : List Ru) (v : Value) (w : World) (h : RusAt w v l) (hl : l.length ≤ 32) :
    Calls Tryz.prog 45 #[v] w fun e w' => ∃ vp ps, e = .returned vp ∧ OwnK KI w' w.heap.size vp ps ∧ ps.length ≤ 32 ∧ (∀ x, x ∈ ps ↔ ∃ r ∈ l, r.pro = x) ∧ Below w.heap.size w w' := by
  have H := Lib.hid h
  obtain ⟨ad', c', rfl, -, -⟩ := h
  obtain ⟨m, hm⟩ : ∃ m, m = l.length := ⟨_, rfl⟩
  rw [← hm] at H hl
  have hml : m ≤ 9223372036854775807 := by omega
  rw [← hm]
  replace hm := Lib.hid hm
  go_enter Tryz.func45, Tryz.ntmps45
  go_wp2_with fail
  go_loopg [3, 8] m (fun g' s3 s8 wr => ∃ (k : Nat) (a0 : Option Addr) (n0 c0 : Nat), s3 = .slice a0 n0 c0 ∧ k + g' = m ∧ s8 = .int .i64 k ∧ Hid (OwnK KI wr w.heap.size (.slice a0 n0 c0) ((l.take k).map (·.pro))) ∧ Hid (Below w.heap.size w wr))
  case atStart => exact ⟨0, none, 0, 0, rfl, by omega, rfl, .nil _ _, Below.refl _ _⟩
  case round =>
    obtain ⟨k, a0, n0, c0, rfl, hk, rfl, O, b⟩ := hrel
    by_cases hlt : k < m
    · have g1 : decide ((k : Int) < (m : Int)) = true := decide_eq_true (by omega)
      have g1' : decide (k < m) = true := decide_eq_true hlt
      have hkl : k < l.length := by rw [← hm.out]; exact hlt
      obtain ⟨g, o, cap, e0, hg, m0, m1, m2, m3, m4, m5⟩ := (H.out.keep b.out).at (k := k) hkl rfl
      injection e0 with e1 e2 e3
      subst e1 e3
      clear e2
      have ia := fun w' => at_rus g o m c' k w' hlt (k : Int) rfl (o + 6 * k) rfl
      have et : (l.take (k + 1)).map (·.pro) = (l.take k).map (·.pro) ++ [(l.getD k ru0).pro] := by
        rw [List.take_add_one, List.getElem?_eq_getElem hkl, List.map_append, List.getD_eq_getElem?_getD, List.getElem?_eq_getElem hkl]
        rfl
      obtain ⟨r, hr⟩ : ∃ r, r = l.getD k ru0 := ⟨_, rfl⟩
      rw [← hr] at m0 m1 m2 m3 m4 m5 et
      clear hr
      have hlen : ((l.take k).map (·.pro)).length = k := by rw [List.length_map, List.length_take]; omega
      have bx := box_below wr (ruO r)
      have X := RBox.new wr r
      obtain ⟨wb, hwb⟩ : ∃ wb, wb = wr.alloc (ruO r) := ⟨_, rfl⟩
      obtain ⟨A, hA⟩ : ∃ A, A = wr.heap.size := ⟨_, rfl⟩
      have O1 := Lib.hid (O.out.keep bx)
      have B1 := Lib.hid (b.out.trans (bx.mono b.out.size))
      rw [← hwb] at X O1 B1
      rw [← hA] at X
      have k1 := X.c1
      replace X := Lib.hid X
      obtain ⟨al, pro, ad, bits, fr, up⟩ := r
      unfold ruO at hwb
      simp only at *
      have by1 : Below wb.heap.size wb (wb.alloc (.cells #[.int .i64 pro] 3)) := box_below wb _
      have Lc := X.out.lt
      have k1' : (wb.alloc (.cells #[.int .i64 pro] 3)).cell? ⟨A, 1, none⟩ = some (.int .i64 pro) := (by1.cell Lc).trans k1
      have hrow : RowAt KI.n KI.cells KI.x0 (wb.alloc (.cells #[.int .i64 pro] 3)) (.slice (some ⟨wb.heap.size, 0, none⟩) 1 1) [pro] := row_one wb pro _
      obtain ⟨v5, w5, hap, O5, g5, hob5, -⟩ := (O1.out.keep by1).cat ki_ok (Nat.le_trans B1.out.size by1.size) hrow (by rw [hlen]; show (k + 1) * 8 ≤ _; omega) (by rw [hlen]; show k + 1 ≤ _; unfold maxLen; omega) 77
      rw [← et] at O5
      obtain ⟨a5, c5, e5⟩ := O5.slice
      rw [show ((l.take (k + 1)).map (·.pro)).length = k + 1 by rw [List.length_map, List.length_take]; omega] at e5
      subst e5
      have B5 := Lib.hid ((B1.out.trans (by1.mono B1.out.size)).grown g5 (Nat.le_trans B1.out.size by1.size) (fun j hj => (O1.out.lt j hj).1))
      replace O5 := Lib.hid O5
      replace hap := Lib.hid hap
      replace by1 := Lib.hid by1
      clear g5 hob5 hrow et bx O b
      replace hwb := Lib.hid hwb
      replace hA := Lib.hid hA
      go_upto_region 5 with fail
      rw [← hwb.out, ← hA.out]
      clear m0 m1 m2 m3 m4 m5 hwb hA
      go_wp2_with (refine obB2L _ rfl .append _ _ _ _ rfl _ _ rfl rfl hap.out ?_)
      go_roundg (m - (k + 1))
      case measure => omega
      case rel => exact ⟨k + 1, _, _, _, rfl, by omega, by go_num, O5.out, B5.out⟩
    · obtain rfl : k = m := by omega
      have g1 : decide ((k : Int) < (k : Int)) = false := decide_eq_false (by omega)
      have g1' : decide (k < k) = false := decide_eq_false hlt
      rw [hm.out, List.take_length] at O
      have hlen : (l.map (·.pro)).length ≤ 32 := by rw [List.length_map, ← hm.out]; exact hl
      have SC := Lib.hid (sortI w.heap.size (.slice a0 n0 c0) _ wr O.out (by omega))
      go_wp2_with fail
      refine SC.out.mono ?_
      rintro e w1 ⟨rfl, d1, O1, p1, k1⟩
      have B1 := Lib.hid (b.out.trans (k1.below b.out.size fun x hx => (O.out.lt x hx).1) : Below w.heap.size w w1)
      have hl1 : d1.length ≤ 32 := by rw [p1.length_eq]; exact hlen
      replace O1 := Lib.hid O1
      replace p1 := Lib.hid p1
      clear k1 SC O b
      have CC := Lib.hid (compI w.heap.size (.slice a0 n0 c0) d1 w1 O1.out (by omega))
      go_wp2_with fail
      refine CC.out.mono ?_
      rintro e w2 ⟨v2, d2, rfl, O2, hl2, hm2, hob, k2⟩
      have B2 := Lib.hid (B1.out.trans (k2.below B1.out.size fun x hx => (O1.out.lt x hx).1) : Below w.heap.size w w2)
      have M : Hid (∀ x, x ∈ d2 ↔ ∃ r ∈ l, r.pro = x) := fun x => by
        rw [hm2, p1.out.mem_iff, List.mem_map]
      have hl3 : d2.length ≤ 32 := by omega
      replace O2 := Lib.hid O2
      clear hm2 k2 CC hob hl2 B1 O1 p1
      go_wp2_with fail
      go_ret
      exact ⟨v2, d2, rfl, O2.out, hl3, M.out, B2.out⟩
end Go.Proofs.YtndaohiecpdmlaaGreat
