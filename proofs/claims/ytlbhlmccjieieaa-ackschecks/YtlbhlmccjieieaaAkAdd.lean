/-
  What the document's own Add answers, and what it leaves. Right ranges, at most sixteen; no other condition.
-/
import Derived.Test.YtlbhlmccjieieaaAkFold
namespace Go.Proofs.Ytlbhlmccjieieaa
set_option maxRecDepth 100000
open Go.RowKit Go.Sort

theorem own_cut {w : World} {base size g n cap m : Nat} {e : TypeId} {xs : List Value} (h : w.ownsRow base e size (.slice (some ⟨g, 0, none⟩) n cap) n xs) (hm : m ≤ n) : w.ownsRow base e size (.slice (some ⟨g, 0, none⟩) m cap) m (xs.take (m * size)) := by
  have hms : m * size ≤ n * size := Nat.mul_le_mul_right size hm
  refine ⟨by rw [List.length_take, h.1]; omega, .inr ?_⟩
  rcases h.2 with ⟨q, _⟩ | ⟨g', cap', cur, q, h2, h3, h4, h5, h6, h7⟩
  · cases q
  · injection q with q1 _ q3
    injection q1 with q1
    injection q1 with q1 _ _
    subst q1 q3
    exact ⟨g, cap, cur, rfl, h2, h3, by omega, h5, h6, by rw [← h7, List.take_take, Nat.min_eq_left hms]⟩
theorem rgs_take (l : List Rg) : ∀ k, (rgs l).take (k * 2) = rgs (l.take k) := by
  induction l with
  | nil => intro k; simp [rgs]
  | cons x l ih =>
    intro k
    cases k with
    | zero => rfl
    | succ k => rw [show (k + 1) * 2 = k * 2 + 1 + 1 by omega, rgs_cons, List.take_succ_cons, List.take_succ_cons, ih, List.take_succ_cons, rgs_cons]
theorem sl16 (B N cap : Nat) (w : World) (h : 16 ≤ cap) : (Instr.sliceAt 27 (.slice (some ⟨B, 0, none⟩) N cap) none (some (.int .i64 16)) none).run Try.prog w = .ok (.slice (some ⟨B, 0, none⟩) 16 cap) w := by
  have h3 : ¬ cap = 0 := by omega
  simp [Instr.sliceAt, Instr.slice, run_underlying Try.underlying27, Instr.sliceBounds, Instr.sliceBound, asIntOf, Try.sizeOf38, h3, Addr.add_mid]
  intro hh
  omega
set_option maxHeartbeats 16000000 in
theorem radd_b (R : Nat) (o0 : Option Nat) (l : List Rg) (lo hi : Int) (w : World) (h : SB w R o0 l) (hr : Right l) (hl : l.length ≤ 16) :
    Calls Try.prog 12 #[.pointer (some ⟨R, 0, none⟩), .int .i64 lo, .int .i64 hi] w fun e w' => e = .returned (.int .i64 (addE lo hi)) ∧ ((w' = w ∧ addS l lo hi = l) ∨ SN w w' R (addS l lo hi)) ∧ Kept (fun k => k = R) w w' := by
  have FN : Hid (∀ _ : Unit, _) := fun _ => rfine_ok lo hi w
  have hnot : ∀ (x : Bool) (w : World), (Op.unary .not (.bool x)).run Try.prog w = .ok (.bool (!x)) w := fun _ _ => rfl
  cases hf : fineB lo hi with
  | false =>
    have e1 : addE lo hi = 2 := by unfold addE; rw [hf]; rfl
    have e2 : addS l lo hi = l := by unfold addS; rw [hf]; rfl
    rw [e1, e2]
    rw [hf] at FN
    have H0 : Hid _ := h
    clear h e1 e2 hf
    go_enter Try.func12, Try.ntmps12
    go_wp2_with fail
    refine (FN.out ()).mono ?_
    rintro e w1 ⟨rfl, rfl⟩
    clear FN
    go_wp2_with fail
    go_ret
    exact ⟨rfl, .inl ⟨rfl, by trivial⟩, Kept.refl _ _⟩
  | true =>
    have e1 : addE lo hi = 0 := by unfold addE; rw [hf]; rfl
    have e2 : addS l lo hi = (add l lo hi).take 16 := by unfold addS; rw [hf]; rfl
    rw [e1, e2]
    rw [hf] at FN
    obtain ⟨AD, hAD⟩ : ∃ AD, AD = add l lo hi := ⟨_, rfl⟩
    rw [← hAD]
    replace hAD : Hid _ := hAD
    obtain ⟨f1, f2, f3⟩ := fine_iff.1 hf
    obtain ⟨sv, h, ho, -⟩ := h
    have hRlt := h.lt (by show 0 < 1; decide)
    obtain ⟨i0, hi0, hz0, hz1, hz2⟩ := info_rg
    obtain ⟨a, cap, rfl, hc⟩ := own_rgAt ho
    have H0 : Hid (Lies w R [.slice a l.length cap]) := h
    obtain ⟨M, hM⟩ : ∃ M, M = l.length := ⟨_, rfl⟩
    rw [← hM] at H0 hl
    have fin : Hid (∀ w1 lv, Below w.heap.size w w1 → ∀ m, w1.ownsRow w.heap.size 38 2 lv m.length (rgs m) → SN w (w1.setCell ⟨R, 0, none⟩ lv) R m ∧ Kept (fun k => k = R) w (w1.setCell ⟨R, 0, none⟩ lv)) := fun w1 lv b1 m o1 =>
      ⟨⟨_, ⟨lv, (H0.out.keep (by show 0 < 1; decide) b1).put 0 (by show 0 < 1; decide) lv, (rows_block o1 fun k hk => Below.heap_setCell _ _ _ _ (by have := (o1.lt k hk).1; simp; omega)).mono (Nat.zero_le _), rfl⟩, fun k hk => (o1.lt k hk).1⟩, Kept.set (F := fun k => k = R) (Kept.of _ b1) ⟨R, 0, none⟩ rfl _⟩
    have hfa := fold_add l [] lo hi hr f3
    have hcell : Hid (∀ k, k < M → ∃ g o, a = some ⟨g, o, none⟩ ∧ w.cell? ⟨g, o + 2 * k, none⟩ = some (.int .i64 (l.getD k (0, 0)).1) ∧ w.cell? ⟨g, o + 2 * k + 1, none⟩ = some (.int .i64 (l.getD k (0, 0)).2)) := fun k hk => by
      rcases hc with rfl | ⟨g, o, e, hc⟩
      · simp at hM; omega
      · exact ⟨g, o, e, hc k (by omega)⟩
    have hmm : Hid (∀ k, k < M → 0 ≤ (l.getD k (0, 0)).1 ∧ (l.getD k (0, 0)).1 ≤ (l.getD k (0, 0)).2 ∧ (l.getD k (0, 0)).2 ≤ 4611686018427387903) := fun k hk => hr.mem _ (by simp [List.getD, List.getElem?_eq_getElem (show k < l.length by omega)])
    replace hfa : Hid _ := hfa
    replace hM : Hid _ := hM
    replace hf : Hid _ := hf
    clear h ho hc e1 e2
    go_enter Try.func12, Try.ntmps12
    go_wp2_with fail
    refine (FN.out ()).mono ?_
    rintro e w1 ⟨rfl, rfl⟩
    clear FN
    go_wp2_with fail
    go_loopg [1, 2, 7, 8, 9] M (fun g lv hv av ev iv wr => ∃ (k : Nat) (A : List Rg) (L H : Int) (E : List Rg), k + g = M ∧ iv = .int .i64 k ∧ lv = .int .i64 L ∧ hv = .int .i64 H ∧ Hid ((l.take k).foldl stp ([], lo, hi, []) = (A, L, H, E)) ∧ A.length ≤ k ∧ E.length ≤ k ∧ 0 ≤ L ∧ L ≤ H ∧ H ≤ 4611686018427387903 ∧ Hid (wr.ownsRow w.heap.size 38 2 av A.length (rgs A)) ∧ Hid (wr.ownsRow w.heap.size 38 2 ev E.length (rgs E)) ∧ Hid (Dis av ev) ∧ Hid (Below w.heap.size w wr))
    case atStart => exact ⟨0, [], lo, hi, [], by omega, rfl, rfl, rfl, rfl, by simp, by simp, f1, f3, f2, World.ownsRow_nil _ _ _ _, World.ownsRow_nil _ _ _ _, fun k hk => (by cases hk), Below.refl _ _⟩
    case round =>
      obtain ⟨k, A, L, H, E, hk, rfl, rfl, rfl, e, hA, hE, hL0, hLH, hH, OA, OE, dis, bel⟩ := hrel
      have H1 : Lies wr R [.slice a M cap] := H0.out.keep (by show 0 < 1; decide) bel.out
      have c0 := H1.cell 0 (v := .slice a M cap) rfl
      clear H1
      by_cases hlt : k < M
      · have g1 : decide ((k : Int) < (M : Int)) = true := decide_eq_true (by omega)
        obtain ⟨g, o, rfl, d1, d2⟩ := hcell.out k hlt
        obtain ⟨m1, m2, m3⟩ := hmm.out k hlt
        have c1 := (bel.out.cell (World.block_lt_of_cell? w _ d1)).trans d1
        have c2 := (bel.out.cell (World.block_lt_of_cell? w _ d2)).trans d2
        have ia := fun w' => at_rgs g o M cap k w' hlt (k : Int) rfl (o + 2 * k) rfl
        have es : (l.take (k + 1)).foldl stp ([], lo, hi, []) = if H + 1 < (l.getD k (0, 0)).1 then (A ++ [l.getD k (0, 0)], L, H, E) else if (l.getD k (0, 0)).2 + 1 < L then (A, L, H, E ++ [l.getD k (0, 0)]) else (A, min L (l.getD k (0, 0)).1, max H (l.getD k (0, 0)).2, E) := by
          rw [fold_take l _ k (by have := hM.out; omega), e.out]
          rfl
        clear e d1 d2
        have e := es
        clear es
        generalize l.getD k (0, 0) = X at *
        obtain ⟨p, q⟩ := X
        simp only at m1 m2 m3 c1 c2 e
        clear fin hfa hcell hmm H0
        have hsz := bel.out.size
        by_cases w1 : H + 1 < p
        · have t1 : decide (H < p) = true := decide_eq_true (by omega)
          have t2 : decide (1 < p - H) = true := decide_eq_true (by omega)
          rw [if_pos w1] at e
          replace e : Hid _ := e
          go_wp2_with (at_builtin; refine wpList_append_own_at _ rfl _ _ 27 rfl w.heap.size 38 i0 (.agg #[.int .i64 0, .int .i64 0]) 2 16 Try.underlying27 hi0 hz0 hz1 hz2 rfl (by decide) _ _ _ rfl ((OA.out.alloc _).alloc _) ⟨wr.heap.size + 1, 0, none⟩ 1 1 [.int .i64 p, .int .i64 q] rfl rfl ?aa1 ?aa2 ?aa3 ?aa4 ?aa5 ?_)
          case aa1 =>
            intro j u hj
            match j, hj with
            | 0, hj => simp at hj; subst hj; exact cell_new2 _ _ _ 0 _ rfl
            | 1, hj => simp at hj; subst hj; exact cell_new2 _ _ _ 1 _ rfl
            | j + 2, hj => simp at hj
          case aa2 => first | exact ⟨rfl, rfl⟩ | (intro u hu; simp at hu; rcases hu with rfl | rfl <;> rfl)
          case aa3 => unfold maxLen; omega
          case aa4 => omega
          case aa5 => first | omega | (simp; omega)
          intro v' w1 hown' hgrow _ hloc
          have ON : Hid (w1.ownsRow w.heap.size 38 2 v' (A ++ [(p, q)]).length (rgs (A ++ [(p, q)]))) := by unfold Hid; rw [rgs_snoc, List.length_append]; exact hown'
          have OO : Hid (w1.ownsRow w.heap.size 38 2 u8 E.length (rgs E)) := ((OE.out.alloc _).alloc _).kept hgrow dis.out.right
          have dis2 : Hid (Dis v' u8) := dis_l dis.out hloc (fun k hk => by have := (OE.out.lt k hk).2; simp; omega)
          have B2 : Hid (Below w.heap.size w w1) := ((bel.out.alloc bel.out.size _).alloc (by simp; omega) _).grown hgrow (by simp; omega) (fun k hk => (OA.out.lt k hk).1)
          clear hown' hgrow hloc OA OE dis bel
          go_wp2
          go_roundg (M - (k + 1))
          case measure => omega
          case rel => exact ⟨k + 1, A ++ [(p, q)], L, H, E, by omega, by go_num, rfl, rfl, e, by simp; omega, by skip; omega, by omega, by omega, by omega, ON, OO, dis2, B2⟩
        · by_cases w2 : q + 1 < L
          · have t1 : decide (H < p) = false := decide_eq_false (by omega)
            have t3 : decide (q < L) = true := decide_eq_true (by omega)
            have t4 : decide (1 < L - q) = true := decide_eq_true (by omega)
            rw [if_neg w1, if_pos w2] at e
            replace e : Hid _ := e
            go_wp2_with (at_builtin; refine wpList_append_own_at _ rfl _ _ 27 rfl w.heap.size 38 i0 (.agg #[.int .i64 0, .int .i64 0]) 2 16 Try.underlying27 hi0 hz0 hz1 hz2 rfl (by decide) _ _ _ rfl ((OE.out.alloc _).alloc _) ⟨wr.heap.size + 1, 0, none⟩ 1 1 [.int .i64 p, .int .i64 q] rfl rfl ?ee1 ?ee2 ?ee3 ?ee4 ?ee5 ?_)
            try (
              case ee1 =>
                intro j u hj
                match j, hj with
                | 0, hj => simp at hj; subst hj; exact cell_new2 _ _ _ 0 _ rfl
                | 1, hj => simp at hj; subst hj; exact cell_new2 _ _ _ 1 _ rfl
                | j + 2, hj => simp at hj
              )
            case ee2 => first | exact ⟨rfl, rfl⟩ | (intro u hu; simp at hu; rcases hu with rfl | rfl <;> rfl)
            case ee3 => unfold maxLen; omega
            case ee4 => omega
            case ee5 => first | omega | (simp; omega)
            intro v' w1 hown' hgrow _ hloc
            have ON : Hid (w1.ownsRow w.heap.size 38 2 v' (E ++ [(p, q)]).length (rgs (E ++ [(p, q)]))) := by unfold Hid; rw [rgs_snoc, List.length_append]; exact hown'
            have OO : Hid (w1.ownsRow w.heap.size 38 2 u7 A.length (rgs A)) := ((OA.out.alloc _).alloc _).kept hgrow dis.out.left
            have dis2 : Hid (Dis u7 v') := dis_r dis.out hloc (fun k hk => by have := (OA.out.lt k hk).2; simp; omega)
            have B2 : Hid (Below w.heap.size w w1) := ((bel.out.alloc bel.out.size _).alloc (by simp; omega) _).grown hgrow (by simp; omega) (fun k hk => (OE.out.lt k hk).1)
            clear hown' hgrow hloc OA OE dis bel
            go_wp2
            go_roundg (M - (k + 1))
            case measure => omega
            case rel => exact ⟨k + 1, A, L, H, E ++ [(p, q)], by omega, by go_num, rfl, rfl, e, by skip; omega, by simp; omega, by omega, by omega, by omega, OO, ON, dis2, B2⟩
          · by_cases w3 : H < p
            · have t1 : decide (H < p) = true := decide_eq_true w3
              have t2 : decide (1 < p - H) = false := decide_eq_false (by omega)
              have t3 : decide (q < L) = false := decide_eq_false (by omega)
              have t5 : ¬ p < L := by omega
              have t6 : H < q := by omega
              have em1 : min L p = L := by omega
              have em2 : max H q = q := by omega
              rw [if_neg (by omega), if_neg (by omega), em1, em2] at e
              clear em1 em2
              replace e : Hid _ := e
              have OA1 : Hid _ := OA.out.alloc (.cells #[.int .i64 p, .int .i64 q] 38)
              have OE1 : Hid _ := OE.out.alloc (.cells #[.int .i64 p, .int .i64 q] 38)
              have B1 : Hid _ := bel.out.alloc bel.out.size (.cells #[.int .i64 p, .int .i64 q] 38)
              clear OA OE bel
              go_wp2
              go_roundg (M - (k + 1))
              case measure => omega
              case rel => exact ⟨k + 1, A, L, q, E, by omega, by go_num, rfl, rfl, e, by skip; omega, by skip; omega, by omega, by omega, by omega, OA1, OE1, dis, B1⟩
            · have t1 : decide (H < p) = false := decide_eq_false w3
              by_cases w4 : q < L
              · have t3 : decide (q < L) = true := decide_eq_true w4
                have t4 : decide (1 < L - q) = false := decide_eq_false (by omega)
                have t5 : p < L := by omega
                have t6 : ¬ H < q := by omega
                have em1 : min L p = p := by omega
                have em2 : max H q = H := by omega
                rw [if_neg (by omega), if_neg (by omega), em1, em2] at e
                clear em1 em2
                replace e : Hid _ := e
                have OA1 : Hid _ := OA.out.alloc (.cells #[.int .i64 p, .int .i64 q] 38)
                have OE1 : Hid _ := OE.out.alloc (.cells #[.int .i64 p, .int .i64 q] 38)
                have B1 : Hid _ := bel.out.alloc bel.out.size (.cells #[.int .i64 p, .int .i64 q] 38)
                clear OA OE bel
                go_wp2
                go_roundg (M - (k + 1))
                case measure => omega
                case rel => exact ⟨k + 1, A, p, H, E, by omega, by go_num, rfl, rfl, e, by skip; omega, by skip; omega, by omega, by omega, by omega, OA1, OE1, dis, B1⟩
              · have t3 : decide (q < L) = false := decide_eq_false w4
                by_cases t5 : p < L
                · by_cases t6 : H < q
                  · skip
                    have em1 : min L p = p := by omega
                    have em2 : max H q = q := by omega
                    rw [if_neg (by omega), if_neg (by omega), em1, em2] at e
                    clear em1 em2
                    replace e : Hid _ := e
                    have OA1 : Hid _ := OA.out.alloc (.cells #[.int .i64 p, .int .i64 q] 38)
                    have OE1 : Hid _ := OE.out.alloc (.cells #[.int .i64 p, .int .i64 q] 38)
                    have B1 : Hid _ := bel.out.alloc bel.out.size (.cells #[.int .i64 p, .int .i64 q] 38)
                    clear OA OE bel
                    go_wp2
                    go_roundg (M - (k + 1))
                    case measure => omega
                    case rel => exact ⟨k + 1, A, p, q, E, by omega, by go_num, rfl, rfl, e, by skip; omega, by skip; omega, by omega, by omega, by omega, OA1, OE1, dis, B1⟩
                  · skip
                    have em1 : min L p = p := by omega
                    have em2 : max H q = H := by omega
                    rw [if_neg (by omega), if_neg (by omega), em1, em2] at e
                    clear em1 em2
                    replace e : Hid _ := e
                    have OA1 : Hid _ := OA.out.alloc (.cells #[.int .i64 p, .int .i64 q] 38)
                    have OE1 : Hid _ := OE.out.alloc (.cells #[.int .i64 p, .int .i64 q] 38)
                    have B1 : Hid _ := bel.out.alloc bel.out.size (.cells #[.int .i64 p, .int .i64 q] 38)
                    clear OA OE bel
                    go_wp2
                    go_roundg (M - (k + 1))
                    case measure => omega
                    case rel => exact ⟨k + 1, A, p, H, E, by omega, by go_num, rfl, rfl, e, by skip; omega, by skip; omega, by omega, by omega, by omega, OA1, OE1, dis, B1⟩
                · by_cases t6 : H < q
                  · skip
                    have em1 : min L p = L := by omega
                    have em2 : max H q = q := by omega
                    rw [if_neg (by omega), if_neg (by omega), em1, em2] at e
                    clear em1 em2
                    replace e : Hid _ := e
                    have OA1 : Hid _ := OA.out.alloc (.cells #[.int .i64 p, .int .i64 q] 38)
                    have OE1 : Hid _ := OE.out.alloc (.cells #[.int .i64 p, .int .i64 q] 38)
                    have B1 : Hid _ := bel.out.alloc bel.out.size (.cells #[.int .i64 p, .int .i64 q] 38)
                    clear OA OE bel
                    go_wp2
                    go_roundg (M - (k + 1))
                    case measure => omega
                    case rel => exact ⟨k + 1, A, L, q, E, by omega, by go_num, rfl, rfl, e, by skip; omega, by skip; omega, by omega, by omega, by omega, OA1, OE1, dis, B1⟩
                  · skip
                    have em1 : min L p = L := by omega
                    have em2 : max H q = H := by omega
                    rw [if_neg (by omega), if_neg (by omega), em1, em2] at e
                    clear em1 em2
                    replace e : Hid _ := e
                    have OA1 : Hid _ := OA.out.alloc (.cells #[.int .i64 p, .int .i64 q] 38)
                    have OE1 : Hid _ := OE.out.alloc (.cells #[.int .i64 p, .int .i64 q] 38)
                    have B1 : Hid _ := bel.out.alloc bel.out.size (.cells #[.int .i64 p, .int .i64 q] 38)
                    clear OA OE bel
                    go_wp2
                    go_roundg (M - (k + 1))
                    case measure => omega
                    case rel => exact ⟨k + 1, A, L, H, E, by omega, by go_num, rfl, rfl, e, by skip; omega, by skip; omega, by omega, by omega, by omega, OA1, OE1, dis, B1⟩
      · have g1 : decide ((k : Int) < (M : Int)) = false := decide_eq_false (by omega)
        obtain rfl : k = M := by omega
        have eN : A ++ (L, H) :: E = AD := by
          rw [hAD.out]
          have := hfa.out
          rw [← List.take_length (l := l), ← hM.out, e.out] at this
          rw [hM.out, List.take_length] at this
          simpa using this
        have hlen : A.length + 1 + E.length = AD.length := by rw [← eN]; simp; omega
        have hrg : rgs A ++ [.int .i64 L, .int .i64 H] ++ rgs E = rgs AD := by
          rw [← eN, rgs_append, rgs_cons]
          simp
        have fin1 : Hid (∀ w1 lv, Below w.heap.size w w1 → w1.ownsRow w.heap.size 38 2 lv AD.length (rgs AD) → SN w (w1.setCell ⟨R, 0, none⟩ lv) R AD ∧ Kept (fun k => k = R) w (w1.setCell ⟨R, 0, none⟩ lv)) := fun w1 lv b o => fin.out w1 lv b _ o
        replace hlen : Hid _ := hlen
        replace hrg : Hid _ := hrg
        clear hcell hmm hfa e eN hAD
        have hsz := bel.out.size
        have key : Hid (∀ w2 g3 N cap3, N = AD.length → w2.ownsRow w.heap.size 38 2 (.slice (some ⟨g3, 0, none⟩) N cap3) AD.length (rgs AD) → Below w.heap.size w w2 → 16 < N → 16 ≤ cap3 ∧ SN w ((w2.setCell ⟨R, 0, none⟩ (.slice (some ⟨g3, 0, none⟩) N cap3)).setCell ⟨R, 0, none⟩ (.slice (some ⟨g3, 0, none⟩) 16 cap3)) R (AD.take 16) ∧ Kept (fun k => k = R) w ((w2.setCell ⟨R, 0, none⟩ (.slice (some ⟨g3, 0, none⟩) N cap3)).setCell ⟨R, 0, none⟩ (.slice (some ⟨g3, 0, none⟩) 16 cap3))) := fun w2 g3 N cap3 eN o b h16 => by
          subst eN
          have oc := own_cut (m := 16) o (by omega)
          rw [rgs_take] at oc
          obtain ⟨⟨_, ⟨sv', s1, _⟩, _⟩, k1⟩ := fin1.out w2 _ b o
          have hcap : AD.length ≤ cap3 := by
            rcases o.2 with ⟨q, _⟩ | ⟨_, _, _, q, _, _, h4, _⟩
            · cases q
            · injection q with _ _ q3; omega
          have e16 : (AD.take 16).length = 16 := by rw [List.length_take]; omega
          refine ⟨by omega, ⟨_, ⟨_, s1.put 0 (by show 0 < 1; decide) _, ?_, rfl⟩, fun k hk => (oc.lt k hk).1⟩, Kept.set (F := fun k => k = R) k1 ⟨R, 0, none⟩ rfl _⟩
          rw [e16]
          exact (rows_block (rows_block oc fun k hk => Below.heap_setCell _ _ _ _ (by have := (oc.lt k hk).1; simp; omega)) fun k hk => Below.heap_setCell _ _ _ _ (by have := (oc.lt k hk).1; simp; omega)).mono (Nat.zero_le _)
        go_wp2_with (at_builtin; refine wpList_append_own_at _ rfl _ _ 27 rfl w.heap.size 38 i0 (.agg #[.int .i64 0, .int .i64 0]) 2 16 Try.underlying27 hi0 hz0 hz1 hz2 rfl (by decide) _ _ _ rfl (OA.out.alloc _) ⟨wr.heap.size, 0, none⟩ 1 1 [.int .i64 L, .int .i64 H] rfl rfl ?ff1 ?ff2 ?ff3 ?ff4 ?ff5 ?_)
        case ff1 =>
          intro j u hj
          match j, hj with
          | 0, hj => simp at hj; subst hj; simp [Addr.add]
          | 1, hj => simp at hj; subst hj; simp [Addr.add]
          | j + 2, hj => simp at hj
        case ff2 => first | exact ⟨rfl, rfl⟩ | (intro u hu; simp at hu; rcases hu with rfl | rfl <;> rfl)
        case ff3 => unfold maxLen; omega
        case ff4 => omega
        case ff5 => first | omega | (simp; omega)
        intro v1 w1 hown' hgrow _ hloc
        have ON : Hid (w1.ownsRow w.heap.size 38 2 v1 (A.length + 1) (rgs A ++ [.int .i64 L, .int .i64 H])) := hown'
        have OO : Hid (w1.ownsRow w.heap.size 38 2 u8 E.length (rgs E)) := (OE.out.alloc _).kept hgrow dis.out.right
        have B2 : Hid (Below w.heap.size w w1) := (bel.out.alloc bel.out.size _).grown hgrow (by simp; omega) (fun k hk => (OA.out.lt k hk).1)
        clear hown' hgrow hloc OA OE dis bel
        obtain ⟨g1', cap1', rfl⟩ : ∃ g1' cap1', v1 = .slice (some ⟨g1', 0, none⟩) (A.length + 1) cap1' := by
          rcases ON.out.2 with ⟨_, q⟩ | ⟨g1', cap1', _, q, _⟩
          · omega
          · exact ⟨g1', cap1', q⟩
        rcases OO.out.2 with ⟨rfl, q0⟩ | ⟨g2, cap2, cur2, rfl, -, -, -⟩
        · have eE : E = [] := List.eq_nil_of_length_eq_zero q0
          subst eE
          have hl1 : A.length + 1 = AD.length := hlen.out
          have O2 : w1.ownsRow w.heap.size 38 2 (.slice (some ⟨g1', 0, none⟩) (A.length + 1) cap1') AD.length (rgs AD) := by
            rw [← hrg.out, ← hl1]
            simpa [rgs] using ON.out
          rw [hl1] at O2 ⊢
          obtain ⟨w2, hw2⟩ : ∃ w2, w2 = w1 := ⟨_, rfl⟩
          have B3 : Hid (Below w.heap.size w w2) := by rw [hw2]; exact B2
          rw [← hw2] at O2 ⊢
          clear ON OO B2 hw2 hl1
          have O3 : Hid _ := O2
          have F1 : Hid _ := fin1.out w2 _ B3.out O3.out
          have kk := key.out w2 g1' AD.length cap1' rfl O3.out B3.out
          have H1 := H0.out.keep (by show 0 < 1; decide) B3.out
          have c0' := H1.cell 0 (v := .slice a k cap) rfl
          have f0' := H1.free 0 (by show 0 < 1; decide)
          have H2 := H1.put 0 (by show 0 < 1; decide) (.slice (some ⟨g1', 0, none⟩) AD.length cap1')
          have s0 := H2.cell 0 (v := .slice (some ⟨g1', 0, none⟩) AD.length cap1') rfl
          have s1 := H2.free 0 (by show 0 < 1; decide)
          have hADl : AD.length ≤ 100 := by have := hlen.out; omega
          have e16 : Hid (¬ 16 < AD.length → AD.take 16 = AD) := fun q => List.take_of_length_le (by omega)
          clear O2 H1 H2 fin fin1 key hrg hlen
          generalize hNN : AD.length = N at *
          replace hNN : Hid _ := hNN
          by_cases h16 : 16 < N
          · obtain ⟨k1, k2⟩ := kk h16
            have K2 : Hid _ := k2
            have hsl := fun w => sl16 g1' N cap1' w k1
            have q16 : decide ((16 : Int) < (N : Int)) = true := decide_eq_true (by omega)
            clear kk k2 F1 e16
            go_wp2_with (at_builtin; refine wpList_append_own_none rfl _ _ 27 rfl w.heap.size 38 i0 2 Try.underlying27 hi0 _ N (rgs AD) rfl O3.out rfl ?_)
            go_ret
            exact ⟨rfl, .inr K2.out.1, K2.out.2⟩
          · have q16 : decide ((16 : Int) < (N : Int)) = false := decide_eq_false (by omega)
            have F2 := F1.out
            rw [← e16.out (by omega)] at F2
            have F3 : Hid _ := F2
            clear kk F1 F2 e16
            go_wp2_with (at_builtin; refine wpList_append_own_none rfl _ _ 27 rfl w.heap.size 38 i0 2 Try.underlying27 hi0 _ N (rgs AD) rfl O3.out rfl ?_)
            go_ret
            exact ⟨rfl, .inr F3.out.1, F3.out.2⟩
        · have cE := fun j u hj => OO.out.cells (g := g2) rfl j u hj
          have lE : (rgs E).length = E.length * 2 := OO.out.1
          have oneE : ∀ u ∈ rgs E, u.oneCell' = true := fun u hu => by
            unfold rgs at hu
            obtain ⟨x, _, hx⟩ := List.mem_flatMap.1 hu
            simp at hx
            rcases hx with rfl | rfl <;> rfl
          replace cE : Hid _ := cE
          replace oneE : Hid _ := oneE
          go_wp2_with (at_builtin; refine wpList_append_own _ rfl _ _ 27 rfl w.heap.size 38 i0 (.agg #[.int .i64 0, .int .i64 0]) 2 16 Try.underlying27 hi0 hz0 hz1 hz2 rfl (by decide) _ (A.length + 1) _ rfl ON.out ⟨g2, 0, none⟩ E.length cap2 (rgs E) rfl lE cE.out oneE.out (by unfold maxLen; omega) (by omega) (by have := B2.out.size; omega) ?_)
          intro v2 w2 hown' hgrow _
          have O2 : w2.ownsRow w.heap.size 38 2 v2 AD.length (rgs AD) := by
            rw [← hlen.out, ← hrg.out]
            simpa using hown'
          have B3 : Hid (Below w.heap.size w w2) := B2.out.grown hgrow B2.out.size (fun k hk => (ON.out.lt k hk).1)
          clear hown' hgrow ON OO B2 cE oneE lE
          have O3 : Hid (w2.ownsRow w.heap.size 38 2 v2 AD.length (rgs AD)) := O2
          obtain ⟨g3, cap3, rfl⟩ : ∃ g3 cap3, v2 = .slice (some ⟨g3, 0, none⟩) AD.length cap3 := by
            rcases O3.out.2 with ⟨_, q⟩ | ⟨g3, cap3, _, q, _⟩
            · have := hlen.out; omega
            · exact ⟨g3, cap3, q⟩
          have F1 : Hid _ := fin1.out w2 _ B3.out O3.out
          have kk := key.out w2 g3 AD.length cap3 rfl O3.out B3.out
          have H1 := H0.out.keep (by show 0 < 1; decide) B3.out
          have c0' := H1.cell 0 (v := .slice a k cap) rfl
          have f0' := H1.free 0 (by show 0 < 1; decide)
          have H2 := H1.put 0 (by show 0 < 1; decide) (.slice (some ⟨g3, 0, none⟩) AD.length cap3)
          have s0 := H2.cell 0 (v := .slice (some ⟨g3, 0, none⟩) AD.length cap3) rfl
          have s1 := H2.free 0 (by show 0 < 1; decide)
          have hADl : AD.length ≤ 100 := by have := hlen.out; omega
          have e16 : Hid (¬ 16 < AD.length → AD.take 16 = AD) := fun q => List.take_of_length_le (by omega)
          clear O2 O3 H1 H2 fin fin1 key hrg hlen
          generalize hNN : AD.length = N at *
          replace hNN : Hid _ := hNN
          by_cases h16 : 16 < N
          · obtain ⟨k1, k2⟩ := kk h16
            have K2 : Hid _ := k2
            have hsl := fun w => sl16 g3 N cap3 w k1
            have q16 : decide ((16 : Int) < (N : Int)) = true := decide_eq_true (by omega)
            clear kk k2 F1 e16
            go_wp2
            go_ret
            exact ⟨rfl, .inr K2.out.1, K2.out.2⟩
          · have q16 : decide ((16 : Int) < (N : Int)) = false := decide_eq_false (by omega)
            have F2 := F1.out
            rw [← e16.out (by omega)] at F2
            have F3 : Hid _ := F2
            clear kk F1 F2 e16
            go_wp2
            go_ret
            exact ⟨rfl, .inr F3.out.1, F3.out.2⟩
end Go.Proofs.Ytlbhlmccjieieaa
