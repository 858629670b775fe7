/-
  What the document's own Pairs and content answer, of any bytes. No condition but the form's own reach.
-/
import Derived.Test.YtnngdlleicjegaaDoorH3Get
import Derived.Test.YtnngdlleicjegaaDoorAkRow
import Derived.Deep.LoopGhost
import Derived.Deep.DeepCutAuto
namespace Go.Proofs.YtnngdlleicjegaaDoor
set_option maxRecDepth 100000
open Go.RowKit

/-- Pairs, gathered one behind the other. -/
def pairsA : Nat → List (Nat × Nat) → L → Except Int (List (Nat × Nat))
  | 0, _, _ => .error 1
  | k + 1, acc, s => if s = [] then .ok acc else match getL s with
    | none => .error 1
    | some (a, n) => match getL (s.drop n) with
      | none => .error 1
      | some (b, m) => if 2 ≤ a ∧ a ≤ 5 then .error 5 else if a ∈ acc.map Prod.fst then .error 3 else if acc.length = 16 then .error 8 else pairsA k (acc ++ [(a, b)]) (s.drop (n + m))
theorem pairsA_succ (k : Nat) (acc : List (Nat × Nat)) (s : L) : pairsA (k + 1) acc s = if s = [] then .ok acc else match getL s with
    | none => .error 1
    | some (a, n) => match getL (s.drop n) with
      | none => .error 1
      | some (b, m) => if 2 ≤ a ∧ a ≤ 5 then .error 5 else if a ∈ acc.map Prod.fst then .error 3 else if acc.length = 16 then .error 8 else pairsA k (acc ++ [(a, b)]) (s.drop (n + m)) := rfl
theorem pairsN_succ (k : Nat) (had : List Nat) (s : L) : pairsN (k + 1) had s = if s = [] then .ok [] else match getL s with
    | none => .error 1
    | some (a, n) => match getL (s.drop n) with
      | none => .error 1
      | some (b, m) => if 2 ≤ a ∧ a ≤ 5 then .error 5 else if a ∈ had then .error 3 else if had.length = 16 then .error 8 else match pairsN k (a :: had) (s.drop (n + m)) with
        | .ok l => .ok ((a, b) :: l)
        | .error e => .error e := rfl
theorem pairsA_eq : ∀ (k : Nat) (acc : List (Nat × Nat)) (s : L), pairsA k acc s = match pairsN k (acc.map Prod.fst).reverse s with
    | .ok l => .ok (acc ++ l)
    | .error e => .error e
  | 0, _, _ => rfl
  | k + 1, acc, s => by
    rw [pairsA_succ, pairsN_succ]
    by_cases h0 : s = []
    · rw [if_pos h0, if_pos h0]
      simp
    · rw [if_neg h0, if_neg h0]
      cases h1 : getL s with
      | none => rfl
      | some p =>
        obtain ⟨a, n⟩ := p
        simp only
        cases h2 : getL (s.drop n) with
        | none => rfl
        | some q =>
          obtain ⟨b, m⟩ := q
          simp only
          by_cases h3 : 2 ≤ a ∧ a ≤ 5
          · rw [if_pos h3, if_pos h3]
          · rw [if_neg h3, if_neg h3]
            by_cases h4 : a ∈ acc.map Prod.fst
            · rw [if_pos h4, if_pos (List.mem_reverse.2 h4)]
            · rw [if_neg h4, if_neg (fun c => h4 (List.mem_reverse.1 c))]
              by_cases h5 : acc.length = 16
              · rw [if_pos h5, if_pos (by simpa using h5)]
              · rw [if_neg h5, if_neg (by simpa using h5), pairsA_eq k]
                have e : ((acc ++ [(a, b)]).map Prod.fst).reverse = a :: (acc.map Prod.fst).reverse := by simp
                rw [e]
                cases pairsN k (a :: (acc.map Prod.fst).reverse) (s.drop (n + m)) with
                | error e => rfl
                | ok l => simp
theorem pairsL_eq (s : L) : pairsL s = pairsA (s.length + 1) [] s := by
  rw [pairsA_eq]
  unfold pairsL
  show pairsN (s.length + 1) [] s = match pairsN (s.length + 1) [] s with
    | .ok l => .ok ([] ++ l)
    | .error e => .error e
  cases pairsN (s.length + 1) [] s <;> rfl
/-- Pairs as ranges. -/
def accR (l : List (Nat × Nat)) : List Rg := l.map fun p => ((p.1 : Int), (p.2 : Int))
theorem accR_len (l : List (Nat × Nat)) : (accR l).length = l.length := by simp [accR]
theorem accR_get (l : List (Nat × Nat)) (i : Nat) (h : i < l.length) : (accR l).getD i (0, 0) = (((l.getD i (0, 0)).1 : Int), ((l.getD i (0, 0)).2 : Int)) := by
  simp [accR, List.getD, List.getElem?_eq_getElem h]
theorem accR_snoc (l : List (Nat × Nat)) (a b : Nat) : accR (l ++ [(a, b)]) = accR l ++ [((a : Int), (b : Int))] := by simp [accR]
/-- What Pairs answers. -/
def PrA (s : ByteArray) (e : Ending) (w' : World) : Prop :=
  (∃ l v, pairsL (toL s) = .ok l ∧ l.length ≤ 16 ∧ e = .returned (.tuple #[v, .int .i64 0]) ∧ RgAt w' v (accR l)) ∨ (∃ x : Int, pairsL (toL s) = .error x ∧ x ≠ 0 ∧ e = .returned (.tuple #[.slice none 0 0, .int .i64 x]))
/-- The pairs so far. -/
structure PS15 (w wr : World) (s0 : ByteArray) (g : Nat) (s : ByteArray) (acc : List (Nat × Nat)) (lv : Value) : Prop where
  eq : pairsL (toL s0) = pairsA g acc (toL s)
  len : s.size < g
  few : acc.length ≤ 16
  row : wr.ownsRow w.heap.size 63 2 lv acc.length (rgs (accR acc))
  bel : Below w.heap.size w wr
theorem mem_low {acc : List (Nat × Nat)} {a : Nat} (h : a ∈ acc.map Prod.fst) : ∃ i, i < acc.length ∧ (acc.getD i (0, 0)).1 = a := by
  obtain ⟨p, hp, rfl⟩ := List.mem_map.1 h
  obtain ⟨i, hi, e⟩ := List.getElem_of_mem hp
  exact ⟨i, hi, by rw [List.getD, List.getElem?_eq_getElem hi, e]; rfl⟩
theorem low_mem {acc : List (Nat × Nat)} {a i : Nat} (hi : i < acc.length) (h : (acc.getD i (0, 0)).1 = a) : a ∈ acc.map Prod.fst := by
  rw [List.getD, List.getElem?_eq_getElem hi] at h
  exact List.mem_map.2 ⟨acc[i], List.getElem_mem hi, h⟩
set_option maxHeartbeats 8000000 in
theorem rpairs_ok (s0 : ByteArray) (w : World) (hs : s0.size ≤ 4611686018427387903) :
    Calls Tryd.prog 16 #[.string s0] w fun e w' => PrA s0 e w' ∧ Below w.heap.size w w' := by
  obtain ⟨i0, hi0, hz0, hz1, hz2⟩ := info_rg
  have P0 : Hid (PS15 w w s0 (s0.size + 1) s0 [] (.slice none 0 0)) := ⟨by rw [pairsL_eq, toL_len], Nat.lt_succ_self _, by simp, World.ownsRow_nil _ _ _ _, Below.refl _ _⟩
  go_enter Tryd.func16, Tryd.ntmps16
  go_wp2_with fail
  go_loopg [0, 4] (s0.size + 1) (fun g sv lv wr => ∃ (s : ByteArray) (acc : List (Nat × Nat)), sv = .string s ∧ g ≤ s0.size + 1 ∧ Hid (PS15 w wr s0 g s acc lv))
  case atStart => exact ⟨s0, [], rfl, Nat.le_refl _, P0⟩
  case round =>
    obtain ⟨s, acc, rfl, hg, X⟩ := hrel
    clear P0
    have hlen := X.out.len
    obtain ⟨g1, rfl⟩ : ∃ g1, gk = g1 + 1 := ⟨gk - 1, by omega⟩
    have EQ := Lib.hid X.out.eq
    rw [pairsA_succ] at EQ
    by_cases h0 : toL s = []
    · have hz : s = ⟨#[]⟩ := toL_nil h0
      subst hz
      rw [if_pos h0] at EQ
      have ZZ : Hid (Below w.heap.size w wr) := X.out.bel
      have OO := Lib.hid X.out.row
      have FW := Lib.hid X.out.few
      clear X h0
      go_wp2_with fail
      go_ret2
      exact ⟨.inl ⟨acc, u4, EQ.out, FW.out, rfl, own_rgAt (by rw [accR_len]; exact OO.out)⟩, ZZ.out⟩
    · have n0 : s.toList.isEmpty = false := by
        rw [toL_emp]
        cases hx : toL s with
        | nil => exact absurd hx h0
        | cons _ _ => rfl
      rw [if_neg h0] at EQ
      have hsz : s.size ≤ 4611686018427387903 := by omega
      have ZZ : Hid (Below w.heap.size w wr) := X.out.bel
      cases h1 : getL (toL s) with
      | none =>
        rw [h1] at EQ
        have G : Hid (∀ w, _) := fun w => rget_none s w (by omega) h1
        clear X h1 h0
        go_wp2_with fail
        refine (G.out _).mono ?_
        rintro e w1 ⟨rfl, b1⟩
        have Z1 : Hid (Below w.heap.size w w1) := ZZ.out.trans (b1.mono ZZ.out.size)
        clear b1 G ZZ
        go_wp2_with fail
        go_ret2
        exact ⟨.inr ⟨1, EQ.out, by decide, rfl⟩, Z1.out⟩
      | some p =>
        obtain ⟨a, n⟩ := p
        rw [h1] at EQ
        simp only at EQ
        have hk := get_len h1
        have hab := (getL_bound h1).1
        have G : Hid (∀ w, _) := fun w => rget_some s w (by omega) h1
        have e2 : toL (s.extract n s.size) = (toL s).drop n := toL_extract s n
        have z2 : (s.extract n s.size).size = s.size - n := by rw [ByteArray.size_extract]; omega
        rw [← e2] at EQ
        cases h2 : getL (toL (s.extract n s.size)) with
        | none =>
          rw [h2] at EQ
          have G2 : Hid (∀ w, _) := fun w => rget_none (s.extract n s.size) w (by omega) h2
          clear X h1 h0 h2 e2
          go_wp2_with fail
          refine (G.out _).mono ?_
          rintro e w1 ⟨rfl, b1⟩
          have Z1 : Hid (Below w.heap.size w w1) := ZZ.out.trans (b1.mono ZZ.out.size)
          clear b1 G ZZ
          go_wp2_with fail
          refine (G2.out _).mono ?_
          rintro e w2 ⟨rfl, b2⟩
          have Z2 : Hid (Below w.heap.size w w2) := Z1.out.trans (b2.mono Z1.out.size)
          clear b2 G2 Z1
          go_wp2_with fail
          go_ret2
          exact ⟨.inr ⟨1, EQ.out, by decide, rfl⟩, Z2.out⟩
        | some q =>
          obtain ⟨b, m⟩ := q
          rw [h2] at EQ
          simp only at EQ
          have hk2 := get_len h2
          have hbb := (getL_bound h2).1
          have G2 : Hid (∀ w, _) := fun w => rget_some (s.extract n s.size) w (by omega) h2
          have OO := Lib.hid X.out.row
          have FW := X.out.few
          have hsum : Hid ((toL s).drop (n + m) = toL (s.extract (n + m) s.size)) := (toL_extract s (n + m)).symm
          clear X h1 h0 h2 e2
          by_cases h3 : 2 ≤ a ∧ a ≤ 5
          · rw [if_pos h3] at EQ
            have q1 : decide ((2 : Int) ≤ (a : Int)) = true := decide_eq_true (by omega)
            have q2 : decide ((a : Int) ≤ 5) = true := decide_eq_true (by omega)
            go_wp2_with fail
            refine (G.out _).mono ?_
            rintro e w1 ⟨rfl, b1⟩
            have Z1 : Hid (Below w.heap.size w w1) := ZZ.out.trans (b1.mono ZZ.out.size)
            clear b1 G ZZ
            go_wp2_with fail
            refine (G2.out _).mono ?_
            rintro e w2 ⟨rfl, b2⟩
            have Z2 : Hid (Below w.heap.size w w2) := Z1.out.trans (b2.mono Z1.out.size)
            clear b2 G2 Z1
            go_wp2_with fail
            go_ret2
            exact ⟨.inr ⟨5, EQ.out, by decide, rfl⟩, Z2.out⟩
          · rw [if_neg h3] at EQ
            have NO : Hid (decide ((2 : Int) ≤ (a : Int)) = false ∨ (decide ((2 : Int) ≤ (a : Int)) = true ∧ decide ((a : Int) ≤ 5) = false)) := by
              unfold Hid
              simp only [decide_eq_true_eq, decide_eq_false_iff_not]
              omega
            have O2 : Hid (∀ w', Below wr.heap.size wr w' → w'.ownsRow w.heap.size 63 2 u4 acc.length (rgs (accR acc))) := fun w' b => rows_block OO.out fun k hk => b.block k ((OO.out.lt k hk).2)
            go_wp2_with fail
            refine (G.out _).mono ?_
            rintro e w1 ⟨rfl, b1⟩
            clear G
            go_wp2_with fail
            refine (G2.out _).mono ?_
            rintro e w2 ⟨rfl, b2⟩
            have bb := b1.trans (b2.mono b1.size)
            have Z2 : Hid (Below w.heap.size w w2) := ZZ.out.trans (bb.mono ZZ.out.size)
            have OW := Lib.hid (O2.out w2 bb)
            clear bb b1 b2 G2 ZZ OO O2
            have hRg := own_rgAt (l := accR acc) (by rw [accR_len]; exact OW.out)
            obtain ⟨av, cap, eu, hc⟩ := hRg
            rw [accR_len] at eu hc
            subst eu
            go_upto_region 9 with fail
            go_cut [38] (fun s wc => s = .bool false ∧ w2 = wc)
            case first =>
              rcases NO.out with q1 | ⟨q1, q2⟩
              · go_wp2_with fail
                go_meet
                exact ⟨rfl, rfl⟩
              · go_wp2_with fail
                go_meet
                exact ⟨rfl, rfl⟩
            case rest =>
              obtain ⟨rfl, rfl⟩ := hcut
              go_wp2_with fail
              have ROW : Hid (∀ j, j < acc.length → ∃ g o, av = some ⟨g, o, none⟩ ∧ w2.cell? ⟨g, o + 2 * j, none⟩ = some (.int .i64 ((acc.getD j (0, 0)).1 : Int))) := fun j hj => by
                rcases hc with hc | ⟨g, o, e, hc⟩
                · have := accR_len acc
                  rw [hc] at this
                  simp at this
                  omega
                · exact ⟨g, o, e, by have := (hc j hj).1; rw [accR_get acc j hj] at this; exact this⟩
              clear hc NO h3
              obtain ⟨M, hM⟩ : ∃ M, M = acc.length := ⟨_, rfl⟩
              rw [← hM] at ROW OW FW EQ ⊢
              replace hM : Hid _ := hM
              by_cases hin : a ∈ acc.map Prod.fst
              · rw [if_pos hin] at EQ
                obtain ⟨x, hx, ex⟩ := mem_low hin
                rw [← hM.out] at hx
                go_loopg [10] M (fun g iv wx => ∃ j : Nat, j + g = M ∧ iv = .int .i64 (j : Int) ∧ w2 = wx ∧ j ≤ x)
                case atStart => exact ⟨0, by omega, rfl, rfl, by omega⟩
                case round =>
                  obtain ⟨j, hj, rfl, rfl, hjx⟩ := hrel
                  have g2 : decide ((j : Int) < (M : Int)) = true := decide_eq_true (by omega)
                  obtain ⟨gg, oo, rfl, cj⟩ := ROW.out j (by omega)
                  have ia := fun w' => at_rgs gg oo M cap j w' (by omega) (j : Int) rfl (oo + 2 * j) rfl
                  by_cases hq : (acc.getD j (0, 0)).1 = a
                  · rw [hq] at cj
                    go_wp2_with fail
                    go_ret2
                    exact ⟨.inr ⟨3, EQ.out, by decide, rfl⟩, Z2.out⟩
                  · have q3 : ((((acc.getD j (0, 0)).1 : Nat) : Int) == (a : Int)) = false := by
                      simp only [beq_eq_false_iff_ne]
                      omega
                    have hlt : j < x := by
                      rcases Nat.lt_or_ge j x with h | h
                      · exact h
                      · exact absurd (by rw [Nat.le_antisymm hjx h]; exact ex) hq
                    generalize (acc.getD j (0, 0)).1 = y at cj q3
                    go_wp2_with fail
                    go_roundg (M - 1 - j)
                    case measure => omega
                    case rel => exact ⟨j + 1, by omega, by simp, rfl, by omega⟩
              · rw [if_neg hin] at EQ
                go_loopg [10] M (fun g iv wx => ∃ j : Nat, j + g = M ∧ iv = .int .i64 (j : Int) ∧ w2 = wx)
                case atStart => exact ⟨0, by omega, rfl, rfl⟩
                case round =>
                  obtain ⟨j, hj, rfl, rfl⟩ := hrel
                  by_cases hlt : j < M
                  · have g2 : decide ((j : Int) < (M : Int)) = true := decide_eq_true (by omega)
                    obtain ⟨gg, oo, rfl, cj⟩ := ROW.out j (by omega)
                    have ia := fun w' => at_rgs gg oo M cap j w' (by omega) (j : Int) rfl (oo + 2 * j) rfl
                    have q3 : ((((acc.getD j (0, 0)).1 : Nat) : Int) == (a : Int)) = false := by
                      simp only [beq_eq_false_iff_ne]
                      intro c
                      exact hin (low_mem (hM.out ▸ hlt) (by omega))
                    generalize (acc.getD j (0, 0)).1 = y at cj q3
                    go_wp2_with fail
                    go_roundg (M - 1 - j)
                    case measure => omega
                    case rel => exact ⟨j + 1, by omega, by simp, rfl⟩
                  · have hE : j = M := by omega
                    subst hE
                    clear ROW
                    by_cases h16 : j = 16
                    · rw [if_pos h16] at EQ
                      have q4 : ((j : Int) == 16) = true := by rw [h16]; rfl
                      replace h16 : Hid _ := h16
                      clear OW
                      go_wp2_with fail
                      go_ret2
                      exact ⟨.inr ⟨8, EQ.out, by decide, rfl⟩, Z2.out⟩
                    · rw [if_neg h16] at EQ
                      have q4 : ((j : Int) == 16) = false := by
                        simp only [beq_eq_false_iff_ne]
                        omega
                      have O3 := Lib.hid (OW.out.alloc (.cells #[.int .i64 (a : Int), .int .i64 (b : Int)] 63))
                      have Z3 := Lib.hid (Z2.out.alloc Z2.out.size (.cells #[.int .i64 (a : Int), .int .i64 (b : Int)] 63))
                      have lt0 := Lib.hid (fun k hk => (OW.out.lt k hk).1)
                      clear OW Z2
                      have hnm : n + m ≤ s.size := by omega
                      have e3' : Hid ((n : Int) + (m : Int) = ((n + m : Nat) : Int)) := by unfold Hid; omega
                      go_wp2_with (at_builtin; refine wpList_append_own _ rfl _ _ 37 rfl w.heap.size 63 i0 (.agg #[.int .i64 0, .int .i64 0]) 2 16 Tryd.underlying37 hi0 hz0 hz1 hz2 rfl (by decide) _ _ _ rfl O3.out ⟨w2.heap.size, 0, none⟩ 1 1 [.int .i64 (a : Int), .int .i64 (b : Int)] rfl rfl ?aa1 ?aa2 ?aa3 ?aa4 ?aa5 ?_)
                      case aa1 =>
                        intro i u hi
                        match i, hi with
                        | 0, hi => simp at hi; subst hi; exact World.cell?_alloc_new _ _ _ 0
                        | 1, hi => simp at hi; subst hi; exact World.cell?_alloc_new _ _ _ 1
                        | i + 2, hi => simp at hi
                      case aa2 => intro u hu; simp at hu; rcases hu with rfl | rfl <;> rfl
                      case aa3 => unfold maxLen; omega
                      case aa4 => omega
                      case aa5 => exact Z3.out.size
                      intro v' w4 hown' hgrow _
                      have PX : Hid (PS15 w w4 s0 g1 (s.extract (n + m) s.size) (acc ++ [(a, b)]) v') := by
                        refine ⟨by rw [EQ.out, hsum.out], by rw [ByteArray.size_extract]; omega, by rw [List.length_append, ← hM.out]; simp; omega, ?_, Z3.out.grown hgrow Z3.out.size lt0.out⟩
                        rw [accR_snoc, rgs_snoc, List.length_append, ← hM.out]
                        exact hown'
                      clear hown' hgrow O3 Z3 lt0 EQ hsum
                      go_wp2_with fail
                      go_roundg g1
                      case measure => omega
                      case rel => exact ⟨_, _, rfl, by omega, PX⟩
/-- What content answers. -/
theorem rcont_ok (k : Nat) (d : ByteArray) (w : World) (hs : d.size ≤ 4611686018427387903) :
    Calls Tryd.prog 27 #[.int .i64 (k : Int), .string d] w fun e w' => e = .returned (.int .i64 (contC k (toL d))) ∧ Below w.heap.size w w' := by
  obtain ⟨E, hE⟩ : ∃ E, E = contC k (toL d) := ⟨_, rfl⟩
  rw [← hE]
  unfold contC hFrame hSettings at hE
  by_cases k7 : k = 7
  · subst k7
    rw [if_pos rfl] at hE
    cases h1 : getL (toL d) with
    | none =>
      rw [h1] at hE
      subst hE
      have G : Hid (∀ w, _) := fun w => rget_none d w (by omega) h1
      clear h1
      go_enter Tryd.func27, Tryd.ntmps27
      go_wp2_with fail
      refine (G.out _).mono ?_
      rintro e w1 ⟨rfl, b1⟩
      have Z1 : Hid (Below w.heap.size w w1) := b1
      clear b1 G
      go_wp2_with fail
      go_ret
      exact ⟨rfl, Z1.out⟩
    | some p =>
      obtain ⟨a, n⟩ := p
      rw [h1] at hE
      simp only [toL_len] at hE
      have G : Hid (∀ w, _) := fun w => rget_some d w (by omega) h1
      have hk := get_len h1
      clear h1
      by_cases hn : n = d.size
      · rw [if_neg (fun c => c hn)] at hE
        subst hE
        have q1 : ((n : Int) == (d.size : Int)) = true := by simp; omega
        replace hn : Hid _ := hn
        go_enter Tryd.func27, Tryd.ntmps27
        go_wp2_with fail
        refine (G.out _).mono ?_
        rintro e w1 ⟨rfl, b1⟩
        have Z1 : Hid (Below w.heap.size w w1) := b1
        clear b1 G
        go_wp2_with fail
        go_ret
        exact ⟨rfl, Z1.out⟩
      · rw [if_pos hn] at hE
        subst hE
        have q1 : ((n : Int) == (d.size : Int)) = false := by simp; omega
        go_enter Tryd.func27, Tryd.ntmps27
        go_wp2_with fail
        refine (G.out _).mono ?_
        rintro e w1 ⟨rfl, b1⟩
        have Z1 : Hid (Below w.heap.size w w1) := b1
        clear b1 G
        go_wp2_with fail
        go_ret
        exact ⟨rfl, Z1.out⟩
  · have q7 : ((k : Int) == 7) = false := by simp; omega
    rw [if_neg k7] at hE
    by_cases k4 : k = 4
    · subst k4
      rw [if_pos rfl] at hE
      have P : Hid (∀ w, _) := fun w => rpairs_ok d w hs
      go_enter Tryd.func27, Tryd.ntmps27
      go_wp2_with fail
      refine (P.out _).mono ?_
      rintro e w1 ⟨pr, b1⟩
      have Z1 : Hid (Below w.heap.size w w1) := b1
      clear b1 P
      rcases pr with ⟨l, v, h1, -, rfl, -⟩ | ⟨x, h1, hx, rfl⟩
      · rw [h1] at hE
        subst hE
        clear h1
        go_wp2_with fail
        go_ret
        exact ⟨rfl, Z1.out⟩
      · rw [h1] at hE
        subst hE
        have qx : (x == 0) = false := by simpa using hx
        clear h1
        replace hx : Hid _ := hx
        go_wp2_with fail
        go_ret
        exact ⟨rfl, Z1.out⟩
    · have q4 : ((k : Int) == 4) = false := by simp; omega
      rw [if_neg k4] at hE
      subst hE
      go_enter Tryd.func27, Tryd.ntmps27
      go_wp2
      go_ret
      exact ⟨rfl, Below.refl _ _⟩
end Go.Proofs.YtnngdlleicjegaaDoor
