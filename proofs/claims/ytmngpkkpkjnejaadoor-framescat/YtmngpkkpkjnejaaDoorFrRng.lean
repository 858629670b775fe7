/-
  What the document's own reader of frames answers for ranges, and what it leaves. Texts below 2^63 bytes; no other condition.
-/
import Derived.Test.YtmngpkkpkjnejaaDoorFrRd
import Derived.Test.YtmngpkkpkjnejaaDoorAkRow
import Derived.Deep.LoopGhost
namespace Go.Proofs.YtmngpkkpkjnejaaDoor
set_option maxRecDepth 100000
open Go.RowKit Go.Sort

/-- Where the loop over ranges stands: what is read so far, and what comes. -/
def Sofar (N : Nat) (s0 : ByteArray) (i : Nat) (m : List Rg) (s : ByteArray) (x : Int) : Prop :=
  if x = 0 then rMany N (toL s0) = (match rMany (N - i) (toL s) with
    | .ok (l, r) => .ok (m ++ l, r)
    | .error e => .error e) else rMany N (toL s0) = .error x
theorem size_of_int {s s' : ByteArray} {n : Int} (h : rInt (toL s) = .ok (n, toL s')) : s'.size ≤ s.size := by
  have := (int_back h).2
  rw [toL_len, toL_len] at this
  omega
theorem sofar_yes {N i : Nat} {s0 s1 s2 s3 : ByteArray} {m : List Rg} {a b : Int} (h : Sofar N s0 i m s1 0) (hi : i < N) (h1 : rInt (toL s1) = .ok (a, toL s2)) (h2 : rInt (toL s2) = .ok (b, toL s3)) : Sofar N s0 (i + 1) (m ++ [(b, a)]) s3 0 := by
  unfold Sofar at h ⊢
  rw [if_pos rfl] at h ⊢
  rw [h]
  obtain ⟨k, hk⟩ : ∃ k, N - i = k + 1 := ⟨N - i - 1, by omega⟩
  rw [hk, show N - (i + 1) = k by omega, rMany, bind_ok h1, bind_ok h2]
  unfold Rd.bind
  cases rMany k (toL s3) with
  | error e => rfl
  | ok y =>
    obtain ⟨l, r⟩ := y
    show Except.ok (m ++ (b, a) :: l, r) = Except.ok (m ++ [(b, a)] ++ l, r)
    simp
theorem sofar_no1 {N i : Nat} {s0 s1 s3 : ByteArray} {m m' : List Rg} (h : Sofar N s0 i m s1 0) (hi : i < N) (h1 : rInt (toL s1) = .error 1) : Sofar N s0 (i + 1) m' s3 1 := by
  unfold Sofar at h ⊢
  rw [if_pos rfl] at h
  rw [if_neg (by decide), h]
  obtain ⟨k, hk⟩ : ∃ k, N - i = k + 1 := ⟨N - i - 1, by omega⟩
  rw [hk, rMany]
  unfold Rd.bind
  rw [h1]
theorem sofar_no2 {N i : Nat} {s0 s1 s2 s3 : ByteArray} {m m' : List Rg} {a : Int} (h : Sofar N s0 i m s1 0) (hi : i < N) (h1 : rInt (toL s1) = .ok (a, toL s2)) (h2 : rInt (toL s2) = .error 1) : Sofar N s0 (i + 1) m' s3 1 := by
  unfold Sofar at h ⊢
  rw [if_pos rfl] at h
  rw [if_neg (by decide), h]
  obtain ⟨k, hk⟩ : ∃ k, N - i = k + 1 := ⟨N - i - 1, by omega⟩
  rw [hk, rMany, bind_ok h1]
  unfold Rd.bind
  rw [h2]
/-- What is said of a count, a reader in its state, and a slice. -/
def AfterR (w w' : World) (R : Nat) (s : ByteArray) (e : Ending) : Prop :=
  Kept (fun k => k = R) w w' ∧ ((∃ l s' v, rRanges (toL s) = .ok (l, toL s') ∧ e = .returned v ∧ w'.ownsRow w.heap.size 67 2 v l.length (rgs l) ∧ RdIs w' R s' 0) ∨
    (∃ x a n c s', x ≠ 0 ∧ rRanges (toL s) = .error x ∧ e = .returned (.slice a n c) ∧ RdIs w' R s' x))
theorem own_slice {w : World} {base size n : Nat} {t : TypeId} {v : Value} {xs : List Value} (h : w.ownsRow base t size v n xs) : ∃ a n c, v = .slice a n c := by
  rcases h.2 with ⟨rfl, _⟩ | ⟨g, cap, cur, rfl, _⟩
  · exact ⟨_, _, _, rfl⟩
  · exact ⟨_, _, _, rfl⟩
set_option maxHeartbeats 16000000 in
theorem rranges_ok (R : Nat) (s : ByteArray) (w : World) (h : RdIs w R s 0) (hs : s.size ≤ 9223372036854775807) :
    Calls Tryd.prog 50 #[.pointer (some ⟨R, 0, none⟩)] w fun e w' => AfterR w w' R s e := by
  have hR := h.lt (by show 0 < 2; decide)
  obtain ⟨i0, hi0, hz0, hz1, hz2⟩ := info_rg
  have NM : Hid (∀ _ : Unit, _) := fun _ => rnum_ok R s w h hs
  clear h
  go_enter Tryd.func50, Tryd.ntmps50
  go_wp2_with fail
  refine (NM.out ()).mono ?_
  rintro e w1 ⟨k1, q⟩
  have K1 : Hid _ := k1
  clear NM k1
  rcases q with ⟨n, s1, hn, rfl, r1⟩ | ⟨hn, rfl, r1⟩
  · have hb := (int_back hn).1
    obtain ⟨N, rfl⟩ : ∃ N : Nat, n = N := ⟨n.toNat, by omega⟩
    have hs1 := Nat.le_trans (size_of_int hn) hs
    have c1 := r1.cell 1 (v := .int .i64 0) rfl
    have f1 := r1.free 1 (by show 1 < 2; decide)
    have hnum : rNum (toL s) = .ok (N, toL s1) := by
      obtain ⟨m, r, a1, a2⟩ := bind_back hn
      obtain ⟨e1, e2⟩ := pure_back a2
      rw [a1, e2, Int.ofNat_inj.1 e1]
    by_cases hN : N = 0 ∨ 16 < N
    · have hE : Hid (rRanges (toL s) = .error 3) := by
        unfold Hid rRanges
        rw [bind_ok hnum]
        unfold Rd.bind Rd.test
        rw [if_pos hN, if_neg (by decide)]
      have R2 : Hid (Lies (w1.setCell ⟨R, 1, none⟩ (.int .i64 3)) R [.string s1, .int .i64 3]) := r1.put 1 (by show 1 < 2; decide) (.int .i64 3)
      have K2 : Hid (Kept (fun k => k = R) w (w1.setCell ⟨R, 1, none⟩ (.int .i64 3))) := keptR w1 R 1 _ K1.out
      have d1 := R2.out.cell 1 (v := .int .i64 3) rfl
      clear r1 K1 hn hnum hb
      by_cases h0 : N = 0
      · subst h0
        go_wp2_with fail
        go_rounds 1
        go_wp2_with fail
        go_ret
        exact ⟨K2.out, .inr ⟨3, none, 0, 0, s1, by decide, hE.out, rfl, R2.out⟩⟩
      · have g0 : ((N : Int) == 0) = false := by rw [beq_eq_false_iff_ne]; omega
        have g1 : decide ((16 : Int) < (N : Int)) = true := decide_eq_true (by omega)
        have g2 : decide ((0 : Int) < (N : Int)) = true := decide_eq_true (by omega)
        have g3 : 0 < N := by omega
        go_wp2_with fail
        go_rounds 1
        go_wp2_with fail
        go_ret
        exact ⟨K2.out, .inr ⟨3, none, 0, 0, s1, by decide, hE.out, rfl, R2.out⟩⟩
    · have hE : Hid (rRanges (toL s) = rMany N (toL s1)) := by
        unfold Hid rRanges
        rw [bind_ok hnum, bind_ok (a := ()) (r := toL s1) (by unfold Rd.test; rw [if_neg hN, if_pos rfl])]
      have g0 : ((N : Int) == 0) = false := by rw [beq_eq_false_iff_ne]; omega
      have g1 : decide ((16 : Int) < (N : Int)) = false := decide_eq_false (by omega)
      have R1 : Hid (RdIs w1 R s1 0) := r1
      have S1 : Hid (Sofar N s1 0 [] s1 0) := by
        unfold Hid Sofar
        rw [if_pos rfl, Nat.sub_zero]
        cases rMany N (toL s1) <;> rfl
      clear r1 hn hnum hb
      go_wp2_with fail
      clear c1 f1
      go_loopg [4, 5] N (fun g lv iv wr => ∃ (i : Nat) (m : List Rg) (s2 : ByteArray) (x : Int), i + g = N ∧ iv = .int .i64 i ∧ m.length = i ∧ Hid (wr.ownsRow w.heap.size 67 2 lv m.length (rgs m)) ∧ Hid (RdIs wr R s2 x) ∧ s2.size ≤ 9223372036854775807 ∧ Hid (Kept (fun k => k = R) w wr) ∧ Hid (Sofar N s1 i m s2 x))
      case atStart => exact ⟨0, [], s1, 0, by omega, rfl, rfl, World.ownsRow_nil _ _ _ _, R1, hs1, K1, S1⟩
      case round =>
        clear R1 K1 S1
        obtain ⟨i, m, s2, x, hi, rfl, hm, OW, RR, hs2, KW, ST⟩ := hrel
        have c1 := RR.out.cell 1 (v := .int .i64 x) rfl
        by_cases hx : x = 0
        · subst hx
          by_cases hlt : i < N
          · have q1 : decide ((i : Int) < (N : Int)) = true := decide_eq_true (by omega)
            have N1 : Hid (∀ _ : Unit, _) := fun _ => rnum_ok R s2 wr RR.out hs2
            go_wp2_with fail
            refine (N1.out ()).mono ?_
            rintro e w3 ⟨k3, q⟩
            clear N1 c1
            rcases q with ⟨a, s3, ha, rfl, r3⟩ | ⟨ha, rfl, r3⟩
            · have hs3 := Nat.le_trans (size_of_int ha) hs2
              have N2 : Hid (∀ _ : Unit, _) := fun _ => rnum_ok R s3 w3 r3 hs3
              have K3 : Hid (Kept (fun k => k = R) wr w3) := k3
              clear r3 k3 RR
              go_wp2_with fail
              refine (N2.out ()).mono ?_
              rintro e w4 ⟨k4, q⟩
              clear N2
              rcases q with ⟨b, s4, hb, rfl, r4⟩ | ⟨hb, rfl, r4⟩
              · have KK : Hid (Kept (fun k => k = R) wr w4) := K3.out.trans k4
                have K2 : Hid (Kept (fun k => k = R) w w4) := KW.out.trans KK.out
                have R2 : Hid (RdIs w4 R s4 0) := r4
                have ST' : Hid (Sofar N s1 (i + 1) (m ++ [(b, a)]) s4 0) := sofar_yes ST.out hlt ha hb
                have hs4 := Nat.le_trans (size_of_int hb) hs3
                have hRw : R < w4.heap.size := by have := K2.out.size; omega
                clear r4 k4 K3 KW ST ha hb
                have OA : Hid (w4.ownsRow w.heap.size 67 2 u4 m.length (rgs m)) := rows_block OW.out fun k hk => KK.out.block k (OW.out.lt k hk).2 (by have := (OW.out.lt k hk).1; omega)
                have hsz := K2.out.size
                clear OW KK
                go_wp2_with (at_builtin; refine wpList_append_own _ rfl _ _ 22 rfl w.heap.size 67 i0 (.agg #[.int .i64 0, .int .i64 0]) 2 16 Tryd.underlying22 hi0 hz0 hz1 hz2 rfl (by decide) _ _ _ rfl (OA.out.alloc _) ⟨w4.heap.size, 0, none⟩ 1 1 [.int .i64 b, .int .i64 a] rfl rfl ?x1 ?x2 ?x3 ?x4 ?x5 ?_)
                case x1 =>
                  intro j u hj
                  match j, hj with
                  | 0, hj => simp at hj; subst hj; simp [Addr.add]
                  | 1, hj => simp at hj; subst hj; simp [Addr.add]
                  | j + 2, hj => simp at hj
                case x2 => first | exact ⟨rfl, rfl⟩ | (intro u hu; simp at hu; rcases hu with rfl | rfl <;> rfl)
                case x3 => unfold maxLen; omega
                case x4 => omega
                case x5 => first | omega | (simp; omega)
                intro v1 w5 hown' hgrow _
                have ON : Hid (w5.ownsRow w.heap.size 67 2 v1 (m ++ [(b, a)]).length (rgs (m ++ [(b, a)]))) := by unfold Hid; rw [rgs_snoc, List.length_append, hm]; exact hown'
                have bA : Below w4.heap.size w4 (w4.alloc (.cells #[.int .i64 b, .int .i64 a] 67)) := (Below.refl _ _).alloc (Nat.le_refl _) _
                have K5 : Hid (Kept (fun k => k = R) w w5) := (K2.out.add bA).grown hgrow (fun k hk hl => by have := (OA.out.lt k hk).1; omega)
                have R5 : Hid (RdIs w5 R s4 0) := R2.out.of_block ((hgrow.block R (by have := bA.size; omega) (fun hk => by have := (OA.out.lt R hk.symm).1; omega)).trans (bA.block R (by omega)))
                clear hown' hgrow bA OA K2 R2
                go_wp2_with fail
                go_roundg (N - (i + 1))
                case measure => omega
                case rel => exact ⟨i + 1, m ++ [(b, a)], s4, 0, by omega, by go_num, by simp [hm], ON, R5, hs4, K5, ST'⟩
              · have KK : Hid (Kept (fun k => k = R) wr w4) := K3.out.trans k4
                have K2 : Hid (Kept (fun k => k = R) w w4) := KW.out.trans KK.out
                have R2 : Hid (RdIs w4 R s3 1) := r4
                have ST' : Hid (Sofar N s1 (i + 1) (m ++ [(0, a)]) s3 1) := sofar_no2 ST.out hlt ha hb
                have hRw : R < w4.heap.size := by have := K2.out.size; omega
                clear r4 k4 K3 KW ST ha hb
                have OA : Hid (w4.ownsRow w.heap.size 67 2 u4 m.length (rgs m)) := rows_block OW.out fun k hk => KK.out.block k (OW.out.lt k hk).2 (by have := (OW.out.lt k hk).1; omega)
                have hsz := K2.out.size
                clear OW KK
                go_wp2_with (at_builtin; refine wpList_append_own _ rfl _ _ 22 rfl w.heap.size 67 i0 (.agg #[.int .i64 0, .int .i64 0]) 2 16 Tryd.underlying22 hi0 hz0 hz1 hz2 rfl (by decide) _ _ _ rfl (OA.out.alloc _) ⟨w4.heap.size, 0, none⟩ 1 1 [.int .i64 0, .int .i64 a] rfl rfl ?y1 ?y2 ?y3 ?y4 ?y5 ?_)
                case y1 =>
                  intro j u hj
                  match j, hj with
                  | 0, hj => simp at hj; subst hj; simp [Addr.add]
                  | 1, hj => simp at hj; subst hj; simp [Addr.add]
                  | j + 2, hj => simp at hj
                case y2 => first | exact ⟨rfl, rfl⟩ | (intro u hu; simp at hu; rcases hu with rfl | rfl <;> rfl)
                case y3 => unfold maxLen; omega
                case y4 => omega
                case y5 => first | omega | (simp; omega)
                intro v1 w5 hown' hgrow _
                have ON : Hid (w5.ownsRow w.heap.size 67 2 v1 (m ++ [(0, a)]).length (rgs (m ++ [(0, a)]))) := by unfold Hid; rw [rgs_snoc, List.length_append, hm]; exact hown'
                have bA : Below w4.heap.size w4 (w4.alloc (.cells #[.int .i64 0, .int .i64 a] 67)) := (Below.refl _ _).alloc (Nat.le_refl _) _
                have K5 : Hid (Kept (fun k => k = R) w w5) := (K2.out.add bA).grown hgrow (fun k hk hl => by have := (OA.out.lt k hk).1; omega)
                have R5 : Hid (RdIs w5 R s3 1) := R2.out.of_block ((hgrow.block R (by have := bA.size; omega) (fun hk => by have := (OA.out.lt R hk.symm).1; omega)).trans (bA.block R (by omega)))
                clear hown' hgrow bA OA K2 R2
                go_wp2_with fail
                go_roundg (N - (i + 1))
                case measure => omega
                case rel => exact ⟨i + 1, m ++ [(0, a)], s3, 1, by omega, by go_num, by simp [hm], ON, R5, hs3, K5, ST'⟩
            · have N2 : Hid (∀ _ : Unit, _) := fun _ => rnum_bad R s2 1 w3 r3 (by decide) hs2
              have K3 : Hid (Kept (fun k => k = R) wr w3) := k3
              clear r3 k3 RR
              go_wp2_with fail
              refine (N2.out ()).mono ?_
              rintro e w4 ⟨rfl, r4, k4⟩
              clear N2
              have KK : Hid (Kept (fun k => k = R) wr w4) := K3.out.trans k4
              have K2 : Hid (Kept (fun k => k = R) w w4) := KW.out.trans KK.out
              have R2 : Hid (RdIs w4 R s2 1) := r4
              have ST' : Hid (Sofar N s1 (i + 1) (m ++ [(0, 0)]) s2 1) := sofar_no1 ST.out hlt ha
              have hRw : R < w4.heap.size := by have := K2.out.size; omega
              clear r4 k4 K3 KW ST ha
              have OA : Hid (w4.ownsRow w.heap.size 67 2 u4 m.length (rgs m)) := rows_block OW.out fun k hk => KK.out.block k (OW.out.lt k hk).2 (by have := (OW.out.lt k hk).1; omega)
              have hsz := K2.out.size
              clear OW KK
              go_wp2_with (at_builtin; refine wpList_append_own _ rfl _ _ 22 rfl w.heap.size 67 i0 (.agg #[.int .i64 0, .int .i64 0]) 2 16 Tryd.underlying22 hi0 hz0 hz1 hz2 rfl (by decide) _ _ _ rfl (OA.out.alloc _) ⟨w4.heap.size, 0, none⟩ 1 1 [.int .i64 0, .int .i64 0] rfl rfl ?z1 ?z2 ?z3 ?z4 ?z5 ?_)
              case z1 =>
                intro j u hj
                match j, hj with
                | 0, hj => simp at hj; subst hj; simp [Addr.add]
                | 1, hj => simp at hj; subst hj; simp [Addr.add]
                | j + 2, hj => simp at hj
              case z2 => first | exact ⟨rfl, rfl⟩ | (intro u hu; simp at hu; rcases hu with rfl | rfl <;> rfl)
              case z3 => unfold maxLen; omega
              case z4 => omega
              case z5 => first | omega | (simp; omega)
              intro v1 w5 hown' hgrow _
              have ON : Hid (w5.ownsRow w.heap.size 67 2 v1 (m ++ [(0, 0)]).length (rgs (m ++ [(0, 0)]))) := by unfold Hid; rw [rgs_snoc, List.length_append, hm]; exact hown'
              have bA : Below w4.heap.size w4 (w4.alloc (.cells #[.int .i64 0, .int .i64 0] 67)) := (Below.refl _ _).alloc (Nat.le_refl _) _
              have K5 : Hid (Kept (fun k => k = R) w w5) := (K2.out.add bA).grown hgrow (fun k hk hl => by have := (OA.out.lt k hk).1; omega)
              have R5 : Hid (RdIs w5 R s2 1) := R2.out.of_block ((hgrow.block R (by have := bA.size; omega) (fun hk => by have := (OA.out.lt R hk.symm).1; omega)).trans (bA.block R (by omega)))
              clear hown' hgrow bA OA K2 R2
              go_wp2_with fail
              go_roundg (N - (i + 1))
              case measure => omega
              case rel => exact ⟨i + 1, m ++ [(0, 0)], s2, 1, by omega, by go_num, by simp [hm], ON, R5, hs2, K5, ST'⟩
          · have q1 : decide ((i : Int) < (N : Int)) = false := decide_eq_false (by omega)
            go_wp2_with fail
            go_ret
            refine ⟨KW.out, .inl ⟨m, s2, _, ?_, rfl, OW.out, RR.out⟩⟩
            have := ST.out
            unfold Sofar at this
            rw [if_pos rfl, show N - i = 0 by omega] at this
            rw [hE.out, this]
            show Except.ok (m ++ [], _) = _
            rw [List.append_nil]
        · have gx : (x == 0) = false := by simp [hx]
          obtain ⟨a9, n9, c9, rfl⟩ := own_slice OW.out
          have hF : rMany N (toL s1) = .error x := by
            have := ST.out
            unfold Sofar at this
            rw [if_neg hx] at this
            exact this
          replace hF : Hid _ := hF
          by_cases hlt : i < N
          · have q1 : decide ((i : Int) < (N : Int)) = true := decide_eq_true (by omega)
            go_wp2_with fail
            go_ret
            exact ⟨KW.out, .inr ⟨x, a9, n9, c9, s2, hx, hE.out.trans hF.out, rfl, RR.out⟩⟩
          · have q1 : decide ((i : Int) < (N : Int)) = false := decide_eq_false (by omega)
            go_wp2_with fail
            go_ret
            exact ⟨KW.out, .inr ⟨x, a9, n9, c9, s2, hx, hE.out.trans hF.out, rfl, RR.out⟩⟩
  · have hE : Hid (rRanges (toL s) = .error 1) := by
      unfold Hid rRanges Rd.bind
      have : rNum (toL s) = .error 1 := by
        unfold rInt Rd.bind at hn
        cases hh : rNum (toL s) with
        | ok y => rw [hh] at hn; cases hn
        | error e =>
          rw [hh] at hn
          injection hn with hn
          rw [hn]
      rw [this]
    have R2 : Hid (RdIs w1 R s 1) := r1
    have c1 := r1.cell 1 (v := .int .i64 1) rfl
    clear r1 hn
    go_wp2_with fail
    go_rounds 1
    go_wp2_with fail
    go_ret
    exact ⟨K1.out, .inr ⟨1, none, 0, 0, s, by decide, hE.out, rfl, R2.out⟩⟩
end Go.Proofs.YtmngpkkpkjnejaaDoor
