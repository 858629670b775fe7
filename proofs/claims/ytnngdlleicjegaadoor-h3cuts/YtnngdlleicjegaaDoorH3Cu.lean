/-
  What the document's own Joined answers: events, with those of data one behind the other put together. No condition but the form's own reach. A row of numbers that is handed in, as the program holds it: how many, and where each stands. No condition. Events of the program's in a row of one's own, with others put behind them; what two readers are, one fed whole, one in pieces. No condition but the form's own reach. What the law H3Cuts answers. It leans on what the laws ask of the program's calls (H3Face). No other condition.
-/
import Derived.Test.YtnngdlleicjegaaDoorH3Two
import Derived.Deep.RegionLaw
import Derived.Test.YtnngdlleicjegaaDoorRows
import Derived.Test.YtnngdlleicjegaaDoorShOpen
import Derived.ProofKit
import Derived.OpenShut
import Derived.ShutString
import Derived.ChangeSlices
import Derived.SizedLaws
import Derived.Deep.DeepHandedRow
import Derived.Test.YtnngdlleicjegaaDoorH3PgA
import Derived.Laws.OwnMore
import Derived.Maps.AppendAt
namespace Go.Proofs.YtnngdlleicjegaaDoor
set_option maxRecDepth 100000
open Go.RowKit

/-- All the events' bytes. -/
def evB (l : List Ev) : L := l.flatMap fun e : Ev => e.2
theorem evB_app (a b : List Ev) : evB (a ++ b) = evB a ++ evB b := List.flatMap_append
theorem add_bytes (out : List Ev) (e : Ev) : evB (evAdd out e) = evB out ++ e.2 := by
  unfold evAdd
  rcases List.eq_nil_or_concat out with rfl | ⟨o, ⟨k, d⟩, rfl⟩
  · simp [evB]
  · simp only [List.concat_eq_append, List.getLast?_append, List.getLast?_singleton, Option.some_or]
    split
    · rw [List.dropLast_concat, evB_app, evB_app]
      simp [evB]
    · rw [evB_app]
      simp [evB]
theorem join_bytes : ∀ (l out : List Ev), evB (joinE out l) = evB out ++ evB l
  | [], out => by simp [joinE, evB]
  | e :: l, out => by
    show evB (joinE (evAdd out e) l) = _
    rw [join_bytes l, add_bytes]
    simp [evB]
theorem step_bytes {r q : Hr} {e : List Ev} (h0 : r.s ≠ []) (h : r.step = some (q, e)) : q.code ≠ 0 ∧ e = [] ∨ (evB e).length + q.s.length ≤ r.s.length := by
  have hp := List.length_pos_iff.2 h0
  unfold Hr.step at h
  split at h
  · split at h <;> (
      injection h with h
      injection h with h he
      subst h he
      first
      | (right; show 0 + (r.s.drop 1).length ≤ _; rw [List.length_drop]; omega)
      | (right; show 0 + r.s.length ≤ _; omega))
  · split at h
    · injection h with h
      injection h with h he
      subst h he
      right
      show _ + (r.s.drop _).length ≤ _
      rw [List.length_drop]
      split
      · show 0 + _ ≤ _
        omega
      · show (evB [(0, r.s.take (min r.left r.s.length))]).length + _ ≤ _
        simp only [evB, List.flatMap_cons, List.flatMap_nil, List.append_nil, List.length_take]
        omega
    · split at h
      · cases h
      · rename_i k z m hh
        have hm := head_len hh
        split at h
        · rename_i hw
          injection h with h
          injection h with h he
          subst h he
          exact .inl ⟨hw, rfl⟩
        · split at h
          · split at h
            · injection h with h
              injection h with h he
              subst h he
              exact .inl ⟨by show hFrame ≠ 0; decide, rfl⟩
            · split at h
              · cases h
              · rename_i hz
                split at h
                · rename_i hc
                  injection h with h
                  injection h with h he
                  subst h he
                  exact .inl ⟨hc, rfl⟩
                · injection h with h
                  injection h with h he
                  subst h he
                  right
                  show (evB [(k, (r.s.drop m).take z)]).length + (r.s.drop _).length ≤ _
                  simp only [evB, List.flatMap_cons, List.flatMap_nil, List.append_nil, List.length_take, List.length_drop]
                  omega
          · injection h with h
            injection h with h he
            subst h he
            right
            show 0 + (r.s.drop _).length ≤ _
            rw [List.length_drop]
            omega
theorem run_bytes : ∀ (k : Nat) (r : Hr), (evB (Hr.run k r).2).length ≤ r.s.length
  | 0, _ => Nat.zero_le _
  | k + 1, r => by
    rw [Hr.run_succ]
    split
    · exact Nat.zero_le _
    · rename_i hn
      split
      · exact Nat.zero_le _
      · rename_i q e hq
        show (evB (e ++ (Hr.run k q).2)).length ≤ _
        rw [evB_app, List.length_append]
        have ih := run_bytes k q
        rcases step_bytes (fun c => hn (.inl c)) hq with ⟨h1, h2⟩ | h1
        · rw [Hr.run_coded k q (.inr h1), h2]
          exact Nat.zero_le _
        · omega
theorem feed_bytes (r : Hr) (t : L) : (evB (r.feed t).2).length ≤ r.s.length + t.length := by
  unfold Hr.feed
  split
  · exact Nat.zero_le _
  · have := run_bytes ((r.more t).s.length + 1) (r.more t)
    have e : (r.more t).s.length = r.s.length + t.length := by
      show (r.s ++ t).length = _
      rw [List.length_append]
    rw [e] at this
    unfold Hr.go
    rw [e]
    exact this
/-- A store into a row of one's own. -/
theorem own_put {w : World} {base g cap n size : Nat} {e : TypeId} {xs : List Value} (h : w.ownsRow base e size (.slice (some ⟨g, 0, none⟩) n cap) n xs) (i : Nat) (hi : i < xs.length) (x : Value) :
    (w.setCell ⟨g, i, none⟩ x).ownsRow base e size (.slice (some ⟨g, 0, none⟩) n cap) n (xs.set i x) ∧ (∀ y, xs[i]? = some y → w.cell? ⟨g, i, none⟩ = some y) ∧ w.frozen? ⟨g, i, none⟩ = false ∧ base ≤ g ∧ g < w.heap.size := by
  obtain ⟨hl, h2⟩ := h
  rcases h2 with ⟨h2, -⟩ | ⟨g', cap', cur, h2, hb, hg, h3, h4, h5, h6⟩
  · cases h2
  · injection h2 with h2 _ h2c
    injection h2 with h2
    injection h2 with h2
    subst h2 h2c
    have hlt : i < cur.size := by
      have := congrArg List.length h6
      rw [List.length_take, Array.length_toList] at this
      omega
    have q := setCell_eq_setRow w g i cur e (0, 0) x hg
    have k := setRow_heap w g cur (cur.setIfInBounds i x) e (0, 0) hg
    rw [← q] at k
    have gl : g < w.heap.size := (Array.getElem?_eq_some_iff.1 hg).1
    refine ⟨⟨by rw [List.length_set]; exact hl, .inr ⟨g, cap, cur.setIfInBounds i x, rfl, hb, k, h3, h4, by simpa using h5, ?_⟩⟩, ?_, ?_, hb, gl⟩
    · rw [Array.toList_setIfInBounds, List.take_set, h6]
    · intro y hx
      rw [← h6, List.getElem?_take] at hx
      split at hx
      · rw [Array.getElem?_toList] at hx
        simp [World.cell?, hg, hx]
      · cases hx
    · simp [World.frozen?, hg]
theorem evv_len (l : List Ev) : (evv l).length = 2 * l.length := by
  induction l with
  | nil => rfl
  | cons e l ih =>
    show ([_, _] ++ evv l).length = _
    rw [List.length_append, ih]
    show 2 + _ = 2 * (l.length + 1)
    omega
theorem evv_put (o : List Ev) (k : Nat) (d d' : L) : (evv (o ++ [(k, d)])).set (2 * o.length + 1) (.string (strL d')) = evv (o ++ [(k, d')]) := by
  rw [evv_snoc, evv_snoc, ← evv_len o, List.set_append_right _ _ (by omega), show (evv o).length + 1 - (evv o).length = 1 by omega]
  rfl
theorem at_rev15 (B o N cap i : Nat) (w : World) (h : i < N) (z : Int) (hz : z = i) (p : Nat) (hp : p = o + 2 * i) :
    (Instr.indexAt 31 (.slice (some ⟨B, o, none⟩) N cap) (.int .i64 z)).run Tryd.prog w = .ok (.pointer (some ⟨B, p, none⟩)) w := at_rev B o N cap i w h z hz p hp
theorem add_joins (o : List Ev) (d ed : L) : evAdd (o ++ [(0, d)]) (0, ed) = o ++ [(0, d ++ ed)] := by
  unfold evAdd
  simp
theorem add_else {out : List Ev} {e : Ev} (h : ¬ (e.1 = 0 ∧ ∃ o d, out = o ++ [(0, d)])) : evAdd out e = out ++ [e] := by
  unfold evAdd
  rcases List.eq_nil_or_concat out with rfl | ⟨o, ⟨k, d⟩, rfl⟩
  · rfl
  · simp only [List.concat_eq_append, List.getLast?_append, List.getLast?_singleton, Option.some_or]
    rw [if_neg]
    rintro ⟨h1, h2⟩
    subst h2
    exact h ⟨h1, o, d, by simp⟩
theorem join_next (l : List Ev) (i : Nat) (h : i < l.length) : joinE [] (l.take (i + 1)) = evAdd (joinE [] (l.take i)) (l.getD i (0, [])) := by
  rw [List.take_add_one, List.getElem?_eq_getElem h, Option.toList_some, join_app, List.getD, List.getElem?_eq_getElem h]
  rfl
theorem join_len : ∀ (l out : List Ev), (joinE out l).length ≤ out.length + l.length
  | [], out => Nat.le_refl _
  | e :: l, out => by
    show (joinE (evAdd out e) l).length ≤ _
    have h1 := join_len l (evAdd out e)
    have h2 : (evAdd out e).length ≤ out.length + 1 := by
      by_cases h : e.1 = 0 ∧ ∃ o d, out = o ++ [(0, d)]
      · obtain ⟨h0, o, d, rfl⟩ := h
        obtain ⟨ek, ed⟩ := e
        simp only at h0
        subst h0
        rw [add_joins]
        simp
      · rw [add_else h]
        simp
    rw [List.length_cons]
    omega
/-- The state within Joined. -/
structure JnI (w wr : World) (l : List Ev) (i : Nat) (ov : Value) : Prop where
  row : EvR w.heap.size wr ov (joinE [] (l.take i))
  bel : Below w.heap.size w wr
set_option maxHeartbeats 8000000 in
theorem rjoin15_ok (v : Value) (l : List Ev) (w : World) (hv : EvAt w v l) (hl : l.length < 10000000) (hb : (evB l).length < 1000000000) :
    Calls Tryd.prog 21 #[v] w fun e w' => ∃ u, e = .returned u ∧ EvR w.heap.size w' u (joinE [] l) ∧ Below w.heap.size w w' := by
  obtain ⟨i0, hi0, hz0, hz1, hz2⟩ := info_ev
  obtain ⟨a, cap, rfl, hc⟩ := hv
  have P0 : Hid (JnI w w l 0 (.slice none 0 0)) := ⟨by rw [List.take_zero]; exact EvR.nil _ _, Below.refl _ _⟩
  have CE : Hid (∀ i, i < l.length → ∃ g o, a = some ⟨g, o, none⟩ ∧ g < w.heap.size ∧ w.cell? ⟨g, o + 2 * i, none⟩ = some (.int .i64 ((l.getD i (0, [])).1 : Int)) ∧ w.cell? ⟨g, o + 2 * i + 1, none⟩ = some (.string (strL (l.getD i (0, [])).2))) := fun i hi => by
    rcases hc with hc | ⟨g, o, e, hc⟩
    · rw [hc] at hi; exact absurd hi (Nat.not_lt_zero _)
    · have := hc i hi
      exact ⟨g, o, e, World.block_lt_of_cell? w _ this.1, this⟩
  obtain ⟨M, hM⟩ : ∃ M, M = l.length := ⟨_, rfl⟩
  rw [← hM] at CE hl ⊢
  replace hM := Lib.hid hM
  replace hb := Lib.hid hb
  clear hc
  go_enter Tryd.func21, Tryd.ntmps21
  go_wp2_with fail
  go_loopg [3, 4] M (fun g ov iv wr => ∃ i : Nat, i + g = M ∧ iv = .int .i64 (i : Int) ∧ Hid (JnI w wr l i ov))
  case atStart => exact ⟨0, by omega, rfl, P0⟩
  case round =>
    obtain ⟨i, hi, rfl, X⟩ := hrel
    clear P0
    by_cases hin : i < M
    · obtain ⟨g, o, rfl, hgw, c0, c1⟩ := CE.out i hin
      have il : i < l.length := by have := hM.out; omega
      have k0 := (X.out.bel.cell hgw).trans c0
      have k1 := (X.out.bel.cell hgw).trans c1
      have ia := fun w' => at_rev15 g o M cap i w' hin (i : Int) rfl (o + 2 * i) rfl
      have JN := Lib.hid (join_next l i il)
      have hjl : (joinE [] (l.take i)).length ≤ i := by
        have := join_len (l.take i) []
        rw [List.length_take, List.length_nil] at this
        omega
      have hjb : (evB (joinE [] (l.take i))).length < 1000000000 := by
        rw [join_bytes]
        show ([] ++ evB (l.take i)).length < _
        rw [List.nil_append]
        have e := congrArg (fun x => (evB x).length) (List.take_append_drop i l)
        simp only [evB_app, List.length_append] at e
        have := hb.out
        omega
      have heb : (l.getD i (0, [])).2.length < 1000000000 := by
        have e := congrArg (fun x => (evB x).length) (List.take_append_drop i l)
        rw [List.drop_eq_getElem_cons il] at e
        simp only [evB_app, List.length_append] at e
        have e2 : (evB (l[i] :: l.drop (i + 1))).length = l[i].2.length + (evB (l.drop (i + 1))).length := by
          show (l[i].2 ++ evB (l.drop (i + 1))).length = _
          rw [List.length_append]
        rw [e2] at e
        have e3 : l.getD i (0, []) = l[i] := by rw [List.getD, List.getElem?_eq_getElem il]; rfl
        rw [e3]
        have := hb.out
        omega
      obtain ⟨out, hout⟩ : ∃ out, out = joinE [] (l.take i) := ⟨_, rfl⟩
      have RW := X.out.row
      rw [← hout] at RW JN hjl hjb
      have ZB := Lib.hid X.out.bel
      have hov : ∃ av cv, u3 = .slice av out.length cv := RW.slice
      obtain ⟨E, hE⟩ : ∃ E, E = l.getD i (0, []) := ⟨_, rfl⟩
      rw [← hE] at k0 k1 JN heb
      obtain ⟨ek, ed⟩ := E
      simp only at k0 k1 heb
      have zed : (strL ed).size < 1000000000 := by rw [strL_size]; exact heb
      clear X c0 c1 hout hE heb CE
      by_cases hJ : ek = 0 ∧ ∃ o' d, out = o' ++ [(0, d)]
      · obtain ⟨rfl, o', d, rfl⟩ := hJ
        obtain ⟨n, hn⟩ : ∃ n, n = o'.length := ⟨_, rfl⟩
        obtain ⟨N, hN⟩ : ∃ N, N = (o' ++ [(0, d)]).length := ⟨_, rfl⟩
        have hNn : N = n + 1 := by rw [hN, List.length_append, hn]; rfl
        have zd : (strL d).size < 1000000000 := by
          rw [strL_size]
          rw [evB_app, List.length_append] at hjb
          have e : (evB [(0, d)]).length = d.length := by simp [evB]
          omega
        have R0 := RW.row
        rcases R0.2 with ⟨-, e⟩ | ⟨g2, cap2, cur, rfl, -⟩
        · rw [← hN, hNn] at e
          cases e
        · have el := evv_len (o' ++ [(0, d)])
          rw [← hN, hNn] at el
          obtain ⟨R1, cg1, fr1, hb2, hl2⟩ := own_put R0 (2 * n + 1) (by omega) (.string (strL (d ++ ed)))
          obtain ⟨-, cg0, -, -, -⟩ := own_put R0 (2 * n) (by omega) (.string (strL (d ++ ed)))
          rw [hn, evv_put, ← hn] at R1
          have gv := evv_get (o' ++ [(0, d)]) n (by rw [← hN]; omega)
          have ge : (o' ++ [((0 : Nat), d)]).getD n (0, []) = (0, d) := by rw [hn]; simp [List.getD]
          rw [ge] at gv
          have d0 : wr.cell? ⟨g2, 2 * n, none⟩ = some (.int .i64 0) := cg0 _ gv.1
          have d1 : wr.cell? ⟨g2, 2 * n + 1, none⟩ = some (.string (strL d)) := cg1 _ gv.2
          have ib := fun w' => at_rev15 g2 0 N cap2 n w' (by omega) (n : Int) rfl (2 * n) (by omega)
          have sub : (N : Int) - 1 = (n : Int) := by omega
          have hNb : N ≤ 10000000 := by rw [hN]; omega
          have q0 : decide ((0 : Int) < (N : Int)) = true := decide_eq_true (by omega)
          have NX : Hid (JnI w (wr.setCell ⟨g2, 2 * n + 1, none⟩ (.string (strL d ++ strL ed))).drew l (i + 1) (.slice (some ⟨g2, 0, none⟩) N cap2)) := by
            refine ⟨⟨?_⟩, (ZB.out.setCell (p := ⟨g2, 2 * n + 1, none⟩) hb2 _).trans (drewB _ _)⟩
            rw [JN.out, add_joins, strL_append]
            have e2 : (o' ++ [((0 : Nat), d ++ ed)]).length = N := by rw [hN]; simp
            rw [e2]
            rw [← hN] at R1
            exact R1
          have NX2 : Hid (JnI w (wr.drew.setCell ⟨g2, 2 * n + 1, none⟩ (.string (strL d ++ strL ed))) l (i + 1) (.slice (some ⟨g2, 0, none⟩) N cap2)) := NX
          have m1 : ¬ (9223372036854775807 < (strL d).size + (strL ed).size) := by omega
          rw [← hN]
          replace hn := Lib.hid hn
          replace hN := Lib.hid hN
          replace hNn := Lib.hid hNn
          clear R0 R1 RW JN ZB cg0 cg1 gv ge el hov NX hjl hjb
          generalize strL d = SD at *
          generalize strL ed = SE at *
          go_wp2_with fail
          go_region
          all_goals
            go_wp2_with fail
            go_roundg (M - (i + 1))
            case measure => omega
            case rel => exact ⟨i + 1, by omega, by simp, NX2⟩
      · have NO : Hid (ek ≠ 0 ∨ (ek = 0 ∧ out = []) ∨ (ek = 0 ∧ ∃ o' k d, out = o' ++ [(k, d)] ∧ k ≠ 0)) := by
          unfold Hid
          by_cases h0 : ek = 0
          · right
            rcases List.eq_nil_or_concat out with h1 | ⟨o', ⟨k, d⟩, h1⟩
            · exact .inl ⟨h0, h1⟩
            · rw [List.concat_eq_append] at h1
              refine .inr ⟨h0, o', k, d, h1, fun hk => ?_⟩
              subst hk
              exact hJ ⟨h0, o', d, h1⟩
          · exact .inl h0
        have eA := add_else (out := out) (e := (ek, ed)) hJ
        rw [eA] at JN
        clear eA hJ
        obtain ⟨v2, w2, hap, he2, kp2, -⟩ := RW.app (R := 0) ZB.out.size (by omega) ek ed
        have NX : Hid (JnI w w2 l (i + 1) v2) := ⟨by rw [JN.out]; exact he2, ZB.out.trans (kp2.below ZB.out.size fun _ h => h)⟩
        obtain ⟨av2, cv2, rfl⟩ := he2.slice
        obtain ⟨av, cv, rfl⟩ := hov
        have LAST : Hid (∀ (o' : List Ev) (k : Nat) (d : L), out = o' ++ [(k, d)] → ∃ g2, av = some ⟨g2, 0, none⟩ ∧ wr.cell? ⟨g2, 2 * o'.length, none⟩ = some (.int .i64 (k : Int))) := fun o' k d e => by
          subst e
          have R0 := RW.row
          rcases R0.2 with ⟨-, e⟩ | ⟨g2, cap2, cur, e, -⟩
          · rw [List.length_append] at e
            cases e
          · injection e with e e1 e2
            subst e e2
            refine ⟨g2, rfl, ?_⟩
            have el := evv_len (o' ++ [(k, d)])
            rw [List.length_append] at el
            have e1 : ([(k, d)] : List Ev).length = 1 := rfl
            obtain ⟨-, cg0, -, -, -⟩ := own_put R0 (2 * o'.length) (by omega) (.string ⟨#[]⟩)
            have gv := evv_get (o' ++ [(k, d)]) o'.length (by rw [List.length_append]; omega)
            have ge : (o' ++ [(k, d)]).getD o'.length (0, []) = (k, d) := by simp [List.getD]
            rw [ge] at gv
            exact cg0 _ gv.1
        replace hap := Lib.hid hap
        generalize (out ++ [(ek, ed)]).length = N2 at hap NX he2
        obtain ⟨N, hN⟩ : ∃ N, N = out.length := ⟨_, rfl⟩
        rw [← hN] at hap hjl ⊢
        have hNb : N ≤ 10000000 := by omega
        replace hN := Lib.hid hN
        clear JN ZB RW he2 kp2
        go_upto_region 6 with fail
        go_cut [32] (fun s wc => s = .bool false ∧ wr = wc)
        case first =>
          rcases NO.out with y | ⟨rfl, rfl⟩ | ⟨rfl, o', k, d, rfl, hk⟩
          · have y0 : ((ek : Int) == 0) = false := by simp; omega
            clear LAST NO hap NX
            go_wp2_with fail
            go_meet
            exact ⟨rfl, rfl⟩
          · have hN0 : ¬ 0 < N := by rw [hN.out]; exact Nat.not_lt_zero _
            clear LAST NO hap NX
            go_wp2_with fail
            go_meet
            exact ⟨rfl, rfl⟩
          · obtain ⟨g2, rfl, d0⟩ := LAST.out o' k d rfl
            have yk : ((k : Int) == 0) = false := by simp; omega
            obtain ⟨n, hn⟩ : ∃ n, n = o'.length := ⟨_, rfl⟩
            rw [← hn] at d0
            have hNn : N = n + 1 := by rw [hN.out, List.length_append, hn]; rfl
            have ib := fun w' => at_rev15 g2 0 N cv n w' (by omega) (n : Int) rfl (2 * n) (by omega)
            have sub : (N : Int) - 1 = (n : Int) := by omega
            have q0 : decide ((0 : Int) < (N : Int)) = true := decide_eq_true (by omega)
            replace hn := Lib.hid hn
            have hN0 : 0 < N := by omega
            replace hNn := Lib.hid hNn
            clear LAST NO hap NX hjl hjb hk
            go_wp2_with fail
            go_meet
            exact ⟨rfl, rfl⟩
        case rest =>
          obtain ⟨rfl, rfl⟩ := hcut
          clear LAST NO
          generalize strL ed = SE at *
          go_wp2_with (refine obB2L _ rfl .append _ _ 31 31 rfl _ _ rfl rfl hap.out ?_)
          go_roundg (M - (i + 1))
          case measure => omega
          case rel => exact ⟨i + 1, by omega, by simp, NX⟩
    · obtain rfl : i = M := by omega
      have RW := X.out.row
      have e : l.take i = l := List.take_of_length_le (by have := hM.out; omega)
      rw [e] at RW
      have ZZ := Lib.hid (And.intro RW X.out.bel)
      clear X CE RW e
      go_wp2_with fail
      go_ret
      exact ⟨_, rfl, ZZ.out.1, ZZ.out.2⟩
end Go.Proofs.YtnngdlleicjegaaDoor
namespace Go.Proofs.YtnngdlleicjegaaDoor
set_option maxRecDepth 100000
open Go.ChangeShapes Go.WideShapes Go.ChangeAt Go.RowKit
/-- The n numbers of a row, where they stand. -/
def Nums (w : World) (a : Option Addr) (n : Nat) (f : Nat → Int) : Prop :=
  n = 0 ∨ ∃ b off, a = some ⟨b, off, none⟩ ∧ b < w.heap.size ∧ ∀ i, i < n → w.cell? ⟨b, off + i, none⟩ = some (.int .i64 (f i))
theorem open_i64s {t e : TypeId} (ht : Tryd.prog.underlying t = some (.slice e)) (he : Tryd.prog.underlying e = some (.int .i64)) (hce : Tryd.prog.cellsOf e = 1) {H : Type} {enc : TypeId × Value → H} {W : World} {base : Nat} {v : Value} {d : DataW H} {p : List MemPlace} (hv : Value.okWide Tryd.prog W .any base t v)
    (h : DataW.Trod enc Tryd.prog W 0 (fun _ => true) true t v d p) :
    ∃ (a : Option Addr) (n cap : Nat) (f : Nat → Int), v = .slice a n cap ∧ n ≤ maxLen ∧ (∀ i, i < n → -9223372036854775808 ≤ f i ∧ f i ≤ 9223372036854775807) ∧ Nums W a n f := by
  obtain ⟨a, len, cap, rfl⟩ := okWide_slice ht hv
  obtain ⟨fuel, hf⟩ := h
  rcases open_ints ht he hce hf with ⟨hcs, _⟩ | ⟨x, l, c, zs, hcs, _, hl, hm, hz, _, hcell, hwf⟩
  · simp [Value.cells] at hcs
    obtain ⟨rfl, rfl, rfl⟩ := hcs
    exact ⟨_, _, _, fun _ => 0, rfl, Nat.zero_le _, fun i hi => by omega, .inl rfl⟩
  · simp [Value.cells] at hcs
    obtain ⟨rfl, rfl, rfl⟩ := hcs
    have hzl : zs.length = cap := by simpa using hz
    refine ⟨_, _, _, fun i => zs.getD i 0, rfl, by omega, fun i hi => ?_, ?_⟩
    · have hi' : i < zs.length := by omega
      have hmem : zs.getD i 0 ∈ zs := by simp [List.getD, List.getElem?_eq_getElem hi']
      have b := bounds_i64 (hwf _ hmem)
      omega
    · rcases Nat.eq_zero_or_pos len with h0 | h0
      · exact .inl h0
      · right
        obtain ⟨b, off, spot⟩ := x
        have hc := hcell 0 (by omega)
        have hspot : spot = none := by simpa [Addr.add] using World.cell?_spot hc
        subst hspot
        refine ⟨b, off, rfl, ?_, fun i hi => ?_⟩
        · exact cell_block (o := off) (by simpa [Addr.add] using hc)
        · have hadd : (⟨b, off, none⟩ : Addr).add i = ⟨b, off + i, none⟩ := by unfold Addr.add; split <;> simp_all
          rw [← hadd]
          exact hcell i (by omega)
end Go.Proofs.YtnngdlleicjegaaDoor
namespace Go.Proofs.YtnngdlleicjegaaDoor
set_option maxRecDepth 100000
open Go.RowKit

theorem place9 (a : Int) (c : Int) (hc : 0 < c) (hc2 : c < 4611686018427387904) : ∃ x : Nat, wrap64 ((IntKind.u64.wrap a).tmod c) = x ∧ IntKind.i64.wrap ((IntKind.u64.wrap a).tmod c) = x ∧ (x : Int) < c := by
  have h : 0 ≤ IntKind.u64.wrap a := by rw [IntKind.wrap_u64]; omega
  rw [Int.tmod_eq_emod_of_nonneg h]
  have h1 := Int.emod_nonneg (IntKind.u64.wrap a) (by omega : c ≠ 0)
  have h2 := Int.emod_lt_of_pos (IntKind.u64.wrap a) hc
  refine ⟨(IntKind.u64.wrap a % c).toNat, ?_, ?_, by omega⟩
  · unfold wrap64
    omega
  · rw [IntKind.wrap_i64]
    omega
theorem evv_app (a b : List Ev) : evv (a ++ b) = evv a ++ evv b := by simp [evv, List.flatMap_append]
theorem evv_one (l : List Ev) : ∀ u ∈ evv l, u.oneCell' = true := fun u hu => by
  unfold evv at hu
  obtain ⟨e, -, he⟩ := List.mem_flatMap.1 hu
  simp only [List.mem_cons, List.not_mem_nil, or_false] at he
  rcases he with rfl | rfl <;> rfl
theorem evv_at {w : World} {g o : Nat} {l : List Ev} (h : ∀ k, k < l.length → w.cell? ⟨g, o + 2 * k, none⟩ = some (.int .i64 ((l.getD k (0, [])).1 : Int)) ∧ w.cell? ⟨g, o + 2 * k + 1, none⟩ = some (.string (strL (l.getD k (0, [])).2))) (j : Nat) (u : Value) (hj : (evv l)[j]? = some u) : w.cell? ((⟨g, o, none⟩ : Addr).add j) = some u := by
  rw [Addr.add_lit]
  have hl : j < (evv l).length := (List.getElem?_eq_some_iff.1 hj).1
  rw [evv_len] at hl
  have hk : j / 2 < l.length := by omega
  have e := evv_get l (j / 2) hk
  have c := h (j / 2) hk
  rcases Nat.mod_two_eq_zero_or_one j with q | q
  · have e1 : 2 * (j / 2) = j := by omega
    rw [e1] at e c
    rw [hj] at e
    rw [e.1]
    exact c.1
  · have e1 : 2 * (j / 2) + 1 = j := by omega
    have e2 : o + 2 * (j / 2) + 1 = o + j := by omega
    rw [e1] at e
    rw [e2] at c
    rw [hj] at e
    rw [e.2]
    exact c.2
theorem app_none {w : World} {base n cap : Nat} {v : Value} {xs : List Value} (h : w.ownsRow base 48 2 v n xs) {i : TypeInfo} (hi : Tryd.prog.info? 48 = some i) :
    (Builtin.append_ #[28, 28] 28 #[v, .slice none 0 cap]).run Tryd.prog w = .ok v w := by
  rcases h.2 with ⟨rfl, rfl⟩ | ⟨g, c, cur, rfl, _, _, hnc, _⟩
  · simp [Builtin.append_, run_underlying Tryd.underlying28, sizeOf, typeInfo, hi, Builtin.lenOf, Builtin.firstCells]
  · simp [Builtin.append_, run_underlying Tryd.underlying28, sizeOf, typeInfo, hi, Builtin.lenOf, Builtin.firstCells, hnc, storeCells]
/-- Events put behind those of a row of one's own. -/
theorem EvP.appS {base : Nat} {w : World} {v x : Value} {l l2 : List Ev} (h : EvP base w v l) (hx : EvAt w x l2) (hb : base ≤ w.heap.size) (hl : l.length + l2.length < 1000000000) :
    ∃ v' w', (∀ z, (builtin .append #[28, 28] 28 z #[v, x]).run Tryd.prog w = .ok (.value v') w') ∧ EvP base w' v' (l ++ l2) ∧ Kept (fun k => v.ownBlock = some k) w w' ∧ (∀ k, v'.ownBlock = some k → v.ownBlock = some k ∨ (w.heap.size ≤ k ∧ k < w'.heap.size)) := by
  obtain ⟨i0, hi0, hz0, hz1, hz2⟩ := info_evp
  obtain ⟨a, cap, rfl, hc⟩ := hx
  have nil : l2 = [] → a = none → ∃ v' w', (∀ z, (builtin .append #[28, 28] 28 z #[v, .slice a l2.length cap]).run Tryd.prog w = .ok (.value v') w') ∧ EvP base w' v' (l ++ l2) ∧ Kept (fun k => v.ownBlock = some k) w w' ∧ (∀ k, v'.ownBlock = some k → v.ownBlock = some k ∨ (w.heap.size ≤ k ∧ k < w'.heap.size)) := fun e ea => by
    subst e ea
    refine ⟨v, w, fun z => ?_, by rw [List.append_nil]; exact h, Kept.refl _ _, fun k hk => .inl hk⟩
    have := app_none (cap := cap) h.row hi0
    simp only [builtin, Sem.run_bind, Sem.run_pure]
    rw [show ([] : List Ev).length = 0 from rfl, this, Result.andThen_ok]
  have some' : ∀ (p : Addr), a = some p → (∀ j u, (evv l2)[j]? = some u → w.cell? (p.add j) = some u) → ∃ v' w', (∀ z, (builtin .append #[28, 28] 28 z #[v, .slice a l2.length cap]).run Tryd.prog w = .ok (.value v') w') ∧ EvP base w' v' (l ++ l2) ∧ Kept (fun k => v.ownBlock = some k) w w' ∧ (∀ k, v'.ownBlock = some k → v.ownBlock = some k ∨ (w.heap.size ≤ k ∧ k < w'.heap.size)) := fun p ea hp => by
    subst ea
    obtain ⟨v', w', hr, h3, h4, -, h5⟩ := run_append_own_at (P := Tryd.prog) w base 28 28 48 i0 (.agg #[.int .i64 0, .string ⟨#[]⟩]) 2 24 Tryd.underlying28 hi0 hz0 hz1 hz2 rfl (by decide) v l.length (evv l) h.row p l2.length cap (evv l2) (by rw [evv_len]; omega) hp (evv_one l2) (by unfold maxLen; omega) (by omega) hb
    have row : EvP base w' v' (l ++ l2) := ⟨by rw [evv_app, List.length_append]; exact h3⟩
    refine ⟨v', w', fun z => by simp only [builtin, Sem.run_bind, Sem.run_pure, hr, Result.andThen_ok], row, ⟨h4.os, h4.tape, h4.output, h4.size, fun k hk hf => h4.block k hk (by intro e; exact hf e.symm)⟩, fun k hk => ?_⟩
    rcases h5 with q | q
    · exact .inl (by rw [← q]; exact hk)
    · have hlt := (row.row.lt k hk).2
      rw [q] at hk
      injection hk with hk
      exact .inr ⟨by omega, hlt⟩
  rcases hc with hc | ⟨g, o, rfl, hc⟩
  · cases a with
    | none => exact nil hc rfl
    | some p => exact some' p rfl (fun j u hj => by rw [hc] at hj; cases hj)
  · exact some' ⟨g, o, none⟩ rfl (evv_at hc)
theorem evp_at15 {base : Nat} {w : World} {v : Value} {l : List Ev} (h : EvP base w v l) : EvAt w v l := by
  obtain ⟨h1, h2⟩ := h.row
  rcases h2 with ⟨rfl, e⟩ | ⟨g, cap, cur, rfl, e2, e3, e4, e5, e6, e7⟩
  · have : l = [] := List.eq_nil_of_length_eq_zero e
    subst this
    exact ⟨_, _, rfl, .inl rfl⟩
  · have get : ∀ i x, (evv l)[i]? = some x → w.cell? ⟨g, i, none⟩ = some x := fun i x hx => by
      rw [← e7, List.getElem?_take] at hx
      split at hx
      · rw [Array.getElem?_toList] at hx
        simp [World.cell?, e3, hx]
      · cases hx
    refine ⟨_, _, rfl, .inr ⟨g, 0, rfl, fun k hk => ?_⟩⟩
    have := evv_get l k hk
    rw [Nat.zero_add]
    exact ⟨get _ _ this.1, get _ _ this.2⟩
theorem Kept.weak {F G : Nat → Prop} {w w' : World} (h : Kept F w w') (g : ∀ k, F k → G k) : Kept G w w' := h.mono fun k _ e => g k e
/-- What a reader has told, that was fed these pieces. -/
def told (c : Bool) (ts : List L) : List Ev := ((Hr.new c).feeds ts).2
theorem told_snoc (c : Bool) (ts : List L) (t : L) : told c (ts ++ [t]) = told c ts ++ ((fed c ts).feed t).2 := by
  unfold told fed
  rw [feeds_snoc]
theorem feeds_append : ∀ (ts us : List L) (r : Hr), r.feeds (ts ++ us) = (((r.feeds ts).1.feeds us).1, (r.feeds ts).2 ++ ((r.feeds ts).1.feeds us).2)
  | [], us, r => by simp [Hr.feeds]
  | t :: ts, us, r => by
    show (((r.feed t).1.feeds (ts ++ us)).1, (r.feed t).2 ++ ((r.feed t).1.feeds (ts ++ us)).2) = _
    rw [feeds_append ts]
    simp [Hr.feeds]
theorem feed_nil_new (c : Bool) : (Hr.new c).feed [] = (Hr.new c, []) := by
  unfold Hr.feed
  rw [if_neg (by simp [Hr.new])]
  exact Hr.go_stop (.inl rfl)
theorem new_feeds (c : Bool) (ts : List L) : SameH ((Hr.new c).feed ts.flatten) ((Hr.new c).feeds ts) := by
  have := Hr.feeds_cut ts [] (Hr.new c) rfl
  rw [List.nil_append] at this
  have e : (Hr.new c).feeds ([] :: ts) = (Hr.new c).feeds ts := by
    show (((Hr.new c).feed []).1.feeds ts |>.1, ((Hr.new c).feed []).2 ++ (((Hr.new c).feed []).1.feeds ts).2) = _
    rw [feed_nil_new]
    rfl
  rw [e] at this
  exact this
/-- One fed whole, one in pieces, up to a fault. -/
theorem cuts_same (c : Bool) (s : L) (ts : List L) (u : L) (hs : ts.flatten ++ u = s) (h : u = [] ∨ (fed c ts).code ≠ 0) :
    ((Hr.new c).feed s).1.code = (fed c ts).code ∧ ((Hr.new c).feed s).1.fin = (fed c ts).fin ∧ joinE [] ((Hr.new c).feed s).2 = joinE [] (told c ts) := by
  have S : SameH ((Hr.new c).feed s) (fed c ts, told c ts) := by
    rcases h with h | h
    · subst h
      rw [List.append_nil] at hs
      subst hs
      exact new_feeds c ts
    · have := new_feeds c (ts ++ [u])
      rw [List.flatten_append, List.flatten_cons, List.flatten_nil, List.append_nil, hs, feeds_append, Hr.feeds_coded [u] ((Hr.new c).feeds ts).1 h] at this
      simp only [List.append_nil] at this
      exact this
  refine ⟨S.code, ?_, S.ev []⟩
  by_cases hc : ((Hr.new c).feed s).1.code = 0
  · rw [S.all hc]
  · rw [fin_code hc, fin_code (by rw [← S.code]; exact hc)]
    exact S.code
end Go.Proofs.YtnngdlleicjegaaDoor
namespace Go.Proofs.YtnngdlleicjegaaDoor
set_option maxRecDepth 100000
open Go.RowKit

theorem at_ints15 (B o N cap i : Nat) (w : World) (h : i < N) :
    (Instr.indexAt 44 (.slice (some ⟨B, o, none⟩) N cap) (.int .i64 (i : Int))).run Tryd.prog w = .ok (.pointer (some ⟨B, o + i, none⟩)) w := by
  have e : Tryd.prog.elem 44 = 3 := by kernel_rfl
  rw [run_indexAt_slice (P := Tryd.prog) w 44 ⟨B, o, none⟩ N cap .i64 i (by rw [e]; exact Tryd.underlying44), if_pos (by omega), e]
  have s : (sizeOf 3).run Tryd.prog w = .ok 1 w := Tryd.sizeOf3 w
  rw [s]
  simp [Addr.add_mid]
section
variable {T : World → Prop} {PR : (Nat → Prop) → World → Value → Bool → List L → Prop}
/-- One reader fed whole, one in pieces; what was told. -/
structure CtI (T : World → Prop) (PR : (Nat → Prop) → World → Value → Bool → List L → Prop) (w wr : World) (c : Bool) (s : L) (v1 v2 av : Value) (EA : List Ev) (ts : List L) (at' : Nat) (bv : Value) : Prop where
  r : R2 T PR w wr v2 c ts v1 c [s] (fun k => av.ownBlock = some k ∨ bv.ownBlock = some k)
  ea : EvAt wr av EA
  eb : EvP w.heap.size wr bv (told c ts)
  ba : ∀ k, av.ownBlock = some k → w.heap.size ≤ k
  ne : ∀ k, av.ownBlock = some k → bv.ownBlock ≠ some k
  fl : ts.flatten = s.take at'
  le : at' ≤ s.length
  z : s.length ≤ 3000
theorem CtI.bb {w wr : World} {c : Bool} {s : L} {v1 v2 av : Value} {EA : List Ev} {ts : List L} {n : Nat} {bv : Value} (h : CtI T PR w wr c s v1 v2 av EA ts n bv) : ∀ k, bv.ownBlock = some k → w.heap.size ≤ k := fun k hk => (h.eb.row.lt k hk).1
theorem CtI.bytes {w wr : World} {c : Bool} {s : L} {v1 v2 av : Value} {EA : List Ev} {ts : List L} {n : Nat} {bv : Value} (h : CtI T PR w wr c s v1 v2 av EA ts n bv) : bytesL ts = n := by
  unfold bytesL
  rw [h.fl, List.length_take]
  have := h.le
  omega
/-- One more piece: Feed of it, and its events put behind the others. -/
theorem ct_feed (f : H3Face T PR) {w wr : World} (t0 : T w) {c : Bool} {s : L} {v1 v2 av : Value} {EA : List Ev} {ts : List L} {n : Nat} {bv : Value} (h : CtI T PR w wr c s v1 v2 av EA ts n bv) (t : ByteArray) (m : Nat) (hm : n + m ≤ s.length) (ht : toL t = (s.take (n + m)).drop n) (hl : (told c ts).length ≤ 900000000) :
    Calls Tryd.prog 10 #[v2, .string t] wr fun e w' => ∃ ev v' w'', e = .returned (.tuple #[ev, .int .i64 (fed c (ts ++ [toL t])).code]) ∧ (∀ z, (builtin .append #[28, 28] 28 z #[bv, ev]).run Tryd.prog w' = .ok (.value v') w'') ∧ CtI T PR w w'' c s v1 v2 av EA (ts ++ [toL t]) (n + m) v' ∧ (told c (ts ++ [toL t])).length ≤ (told c ts).length + 6000 := by
  have hb := h.bytes
  have hle := h.le
  have hz := h.z
  have tl : t.size = m := by
    rw [← toL_len, ht, List.length_drop, List.length_take]
    omega
  have few := feed_few (fed c ts) (toL t)
  have sm := (fed_small c ts).1
  rw [toL_len] at few
  refine (r2_feed f h.r t (by omega)).mono ?_
  rintro e w' ⟨ev, rfl, r', ve, kp, fr⟩
  have ebw : EvP w.heap.size w' bv (told c ts) := h.eb.of fun k hk => kp k (.inr hk)
  have eaw : EvAt w' av EA := h.ea.of fun k hk => kp k (.inl hk)
  obtain ⟨v', w'', hap, row, kp2, fr2⟩ := ebw.appS ve r'.below.size (by omega)
  rw [← told_snoc] at row
  have sn : (told c (ts ++ [toL t])).length ≤ (told c ts).length + 6000 := by
    rw [told_snoc, List.length_append]
    omega
  have old : ∀ k, (av.ownBlock = some k ∨ bv.ownBlock = some k) → k < wr.heap.size := fun k hk => by
    obtain ⟨F, G, -, -, -, -, -, -, -, x⟩ := h.r
    exact (x k hk).1
  have new : ∀ k, av.ownBlock = some k → k < w'.heap.size := fun k hk => by
    have e := kp k (.inl hk)
    have h1 := old k (.inl hk)
    rw [Array.getElem?_eq_getElem h1] at e
    exact (Array.getElem?_eq_some_iff.1 e).1
  refine ⟨ev, v', w'', by rw [fed_snoc], hap, ⟨?_, eaw.of fun k hk => kp2.block k ?_ fun c => h.ne k hk c, row, h.ba, fun k hk c => ?_, ?_, hm, hz⟩, sn⟩
  · refine r'.wrote f t0 (fun k hk => ?_) (kp2.weak fun k hk => .inl (.inr hk)) fun k hk => ?_
    · rcases hk with (hk | hk) | hk
      · exact h.ba k hk
      · exact h.bb k hk
      · exact Nat.le_trans h.r.below.size (fr k hk)
    · rcases hk with hk | hk
      · exact .inl (.inl (.inl hk))
      · rcases fr2 k hk with q | q
        · exact .inl (.inl (.inr q))
        · exact .inr q
  · exact new k hk
  · rcases fr2 k c with q | q
    · exact h.ne k hk q
    · have := new k hk
      omega
  · rw [List.flatten_append, h.fl, List.flatten_cons, List.flatten_nil, List.append_nil, ht, List.drop_take]
    rw [show n + m - n = m by omega]
    exact List.take_add.symm
/-- The walk. -/
theorem EvAt.cells {w : World} {v : Value} {l : List Ev} (h : EvAt w v l) : ∃ a cap, v = .slice a l.length cap ∧ ∀ j, j < l.length → ∃ g o, a = some ⟨g, o, none⟩ ∧ g < w.heap.size ∧ w.cell? ⟨g, o + 2 * j, none⟩ = some (.int .i64 ((l.getD j (0, [])).1 : Int)) ∧ w.cell? ⟨g, o + 2 * j + 1, none⟩ = some (.string (strL (l.getD j (0, [])).2)) := by
  obtain ⟨a, cap, rfl, h⟩ := h
  refine ⟨a, cap, rfl, fun j hj => ?_⟩
  rcases h with h | ⟨g, o, e, h⟩
  · rw [h] at hj
    exact absurd hj (Nat.not_lt_zero _)
  · exact ⟨g, o, e, World.block_lt_of_cell? w _ (h j hj).1, h j hj⟩
theorem ints_at {w : World} {a : Option Addr} {n : Nat} {g : Nat → Int} (h : Nums w a n g) : ∀ i, i < n → ∃ b off, a = some ⟨b, off, none⟩ ∧ w.cell? ⟨b, off + i, none⟩ = some (.int .i64 (g i)) := fun i hi => by
  rcases h with h | ⟨b, off, e, -, h⟩
  · omega
  · exact ⟨b, off, e, h i hi⟩
/-- How the feeding ends. -/
structure CtE (T : World → Prop) (PR : (Nat → Prop) → World → Value → Bool → List L → Prop) (w wr : World) (c : Bool) (s : L) (v1 v2 av : Value) (EA : List Ev) (ts : List L) (bv : Value) : Prop where
  ex : ∃ n, CtI T PR w wr c s v1 v2 av EA ts n bv ∧ (n = s.length ∨ (fed c ts).code ≠ 0)
  few : (told c ts).length ≤ 2000000
set_option maxHeartbeats 64000000 in
theorem cuts15_ok (f : H3Face T PR) (c : Bool) (S : ByteArray) (a : Option Addr) (n cap : Nat) (g : Nat → Int) (w : World) (t : T w) (hS : ∀ i, i < n → ∃ b off, a = some ⟨b, off, none⟩ ∧ w.cell? ⟨b, off + i, none⟩ = some (.int .i64 (g i))) :
    Calls Tryd.prog 5 #[.bool c, .string S, .slice a n cap] w fun e w' => e = .returned (.bool true) ∧ Below w.heap.size w w' := by
  have WO : Hid (∀ _ : Unit, _) := fun _ => works15_ok f w t
  by_cases h1 : S.size ≤ 3000
  · have q1 : decide ((3000 : Int) < (S.size : Int)) = false := decide_eq_false (by omega)
    have T0 := Lib.hid t
    have SS := Lib.hid hS
    have FA : Hid (∀ wz v1 v2 Y, R2 T PR w wz v1 c [] v2 c [] Y → _) := fun wz v1 v2 Y h => r2_feed f h S (by show 0 + S.size < 1000000; omega)
    have e0 : fed c [] = Hr.new c := rfl
    rw [e0] at FA
    obtain ⟨EA, hEA⟩ : ∃ EA, EA = ((Hr.new c).feed (toL S)).2 := ⟨_, rfl⟩
    obtain ⟨C1, hC1⟩ : ∃ C1, C1 = ((Hr.new c).feed (toL S)).1.code := ⟨_, rfl⟩
    rw [← hEA, ← hC1] at FA
    have zEA : EA.length ≤ 3000 := by
      have := feed_few (Hr.new c) (toL S)
      rw [← hEA, toL_len] at this
      have e : (Hr.new c).s.length = 0 := rfl
      omega
    have zEB : (evB EA).length ≤ 3000 := by
      have := feed_bytes (Hr.new c) (toL S)
      rw [← hEA, toL_len] at this
      have e : (Hr.new c).s.length = 0 := rfl
      omega
    replace hEA := Lib.hid hEA
    replace hC1 := Lib.hid hC1
    replace zEB := Lib.hid zEB
    clear t hS e0
    go_enter Tryd.func5, Tryd.ntmps5
    go_wp2_with fail
    refine (WO.out ()).mono ?_
    rintro e w1 ⟨rfl, b1⟩
    have N1 := Lib.hid (r1_new f c w w1 b1 (f.keep T0.out b1))
    clear b1 WO
    go_wp2_with fail
    refine N1.out.mono ?_
    rintro e w2 ⟨pa, rfl, r2⟩
    have N2 := Lib.hid (r2_new f c c r2)
    clear r2 N1
    go_wp2_with fail
    refine N2.out.mono ?_
    rintro e w3 ⟨pb, rfl, r3⟩
    have A3 := Lib.hid (FA.out w3 _ _ _ r3)
    have sz3 := r3.below.size
    clear r3 N2 FA
    go_wp2_with fail
    refine A3.out.mono ?_
    rintro e w4 ⟨av, rfl, r4, v4, -, o4⟩
    have X0 : Hid (CtI T PR w w4 c (toL S) (.pointer (some pa)) (.pointer (some pb)) av EA [] 0 (.slice none 0 0)) := by
      refine ⟨?_, v4, EvP.nil _ _, fun k hk => Nat.le_trans sz3 (o4 k hk), fun k _ q => (by cases q), rfl, Nat.zero_le _, by rw [toL_len]; exact h1⟩
      obtain ⟨F, G, x1, x2, x3, x4, x5, x6, x7, x8⟩ := r4.swap
      exact ⟨F, G, x1, x2, x3, x4, x5, x6, x7, fun k hk => x8 k (by
        rcases hk with hk | hk
        · exact .inr hk
        · cases hk)⟩
    obtain ⟨aa, ca, hav⟩ := v4.slice
    clear A3 r4 v4 o4 sz3
    subst hav
    go_wp2_with fail
    go_loopg [11, 12, 13, 14] 200 (fun gg bv dv atv iv wr => ∃ (i p : Nat) (ts : List L), i + gg = 200 ∧ iv = .int .i64 (i : Int) ∧ atv = .int .i64 (p : Int) ∧ dv = .int .i64 (fed c ts).code ∧ Hid ((told c ts).length ≤ 6000 * i) ∧ Hid (CtI T PR w wr c (toL S) (.pointer (some pa)) (.pointer (some pb)) (.slice aa EA.length ca) EA ts p bv))
    case atStart => exact ⟨0, 0, [], by omega, rfl, rfl, rfl, Nat.zero_le _, X0⟩
    case round =>
      obtain ⟨i, p, ts, hi, rfl, rfl, rfl, LN, X⟩ := hrel
      clear X0
      have hp : p ≤ S.size := by have := X.out.le; rw [toL_len] at this; exact this
      obtain ⟨bb, cb, hbv⟩ := X.out.eb.slice
      subst hbv
      by_cases hgo : i < n ∧ i < 200 ∧ (fed c ts).code = 0
      · obtain ⟨hin, hi2, hc0⟩ := hgo
        obtain ⟨b, off, rfl, ci⟩ := SS.out i hin
        have hbw := World.block_lt_of_cell? w _ ci
        have ci' := (X.out.r.below.cell hbw).trans ci
        have ia := fun w' => at_ints15 b off n cap i w' hin
        obtain ⟨y, hy1, hy2, hy3⟩ := place9 (g i) 9 (by decide) (by decide)
        obtain ⟨m, hm⟩ : ∃ m : Nat, m = S.size - p := ⟨_, rfl⟩
        have sub : (S.size : Int) - (p : Int) = (m : Int) := by omega
        obtain ⟨k, hk⟩ : ∃ k : Nat, k = if y < m then y else m := ⟨_, rfl⟩
        have fold2 : (if y < m then (y : Int) else (m : Int)) = (k : Int) := by rw [hk]; split <;> rfl
        obtain ⟨q, hq⟩ : ∃ q : Nat, q = p + k := ⟨_, rfl⟩
        have sumE : (p : Int) + (k : Int) = (q : Int) := by omega
        have hkm : k ≤ m := by rw [hk]; split <;> omega
        have hqs : q ≤ S.size := by omega
        have hpq : p ≤ q := by omega
        have CF := Lib.hid (ct_feed f T0.out X.out (S.extract p q) k (by rw [toL_len]; omega) (by rw [toL_cut, hq]) (by have := LN.out; omega))
        rw [← hq] at CF
        have hc0' := Lib.hid hc0
        rw [hc0]
        have LN' := LN.out
        replace hq := Lib.hid hq
        replace hk := Lib.hid hk
        replace hm := Lib.hid hm
        clear X LN SS ci hbw hc0
        generalize g i = GI at *
        go_wp2_with fail
        refine CF.out.mono ?_
        rintro e w5 ⟨ev, v', w6, rfl, hap, X', sn⟩
        have X2 := Lib.hid X'
        have L2 : Hid ((told c (ts ++ [toL (S.extract p q)])).length ≤ 6000 * (i + 1)) := by
          unfold Hid
          omega
        obtain ⟨bb', cb', hb'⟩ := X'.eb.slice
        subst hb'
        replace hap := Lib.hid hap
        clear X' CF sn LN'
        go_wp2_with (refine obB2L _ rfl .append _ _ 28 28 rfl _ _ rfl rfl hap.out ?_)
        go_roundg (200 - (i + 1))
        case measure => omega
        case rel => exact ⟨i + 1, q, _, by omega, by simp, rfl, rfl, L2, X2⟩
      · have NO : Hid (¬ i < n ∨ (i < n ∧ ¬ i < 200) ∨ (i < n ∧ i < 200 ∧ ¬ (fed c ts).code = 0)) := by
          unfold Hid
          omega
        clear hgo SS
        obtain ⟨D, hD⟩ : ∃ D, D = (fed c ts).code := ⟨_, rfl⟩
        rw [← hD] at NO ⊢
        replace hD := Lib.hid hD
        go_upto_region 11 with fail
        go_cut [51] (fun s wc => s = .bool false ∧ wr = wc)
        case first =>
          rcases NO.out with y1 | ⟨y1, y2⟩ | ⟨y1, y2, y3⟩
          · go_wp2_with fail
            go_meet
            exact ⟨rfl, rfl⟩
          · go_wp2_with fail
            go_meet
            first
            | exact ⟨rfl, rfl⟩
            | exact ⟨by rw [decide_eq_false (by omega)], rfl⟩
          · have y4 : (D == 0) = false := by simpa using y3
            go_wp2_with fail
            go_meet
            first
            | exact ⟨rfl, rfl⟩
            | exact ⟨by rw [y4], rfl⟩
        case rest =>
          obtain ⟨rfl, rfl⟩ := hcut
          clear NO
          go_upto_if 85 with fail
          go_cut [11, 12] (fun bv dv wc => ∃ ts' : List L, dv = .int .i64 (fed c ts').code ∧ Hid (CtE T PR w wc c (toL S) (.pointer (some pa)) (.pointer (some pb)) (.slice aa EA.length ca) EA ts' bv))
          case first =>
            by_cases hd0 : D = 0
            · have y4 : (D == 0) = true := by simpa using hd0
              have CF := Lib.hid (ct_feed f T0.out X.out (S.extract p S.size) (S.size - p) (by rw [toL_len]; omega) (by
                rw [toL_cut, show p + (S.size - p) = S.size by omega]) (by have := LN.out; omega))
              rw [show p + (S.size - p) = S.size by omega] at CF
              have LN' := LN.out
              clear X LN hD hd0
              go_wp2_with fail
              refine CF.out.mono ?_
              rintro e w5 ⟨ev, v', w6, rfl, hap, X', sn⟩
              have X2 : Hid (CtE T PR w w6 c (toL S) (.pointer (some pa)) (.pointer (some pb)) (.slice aa EA.length ca) EA (ts ++ [toL (S.extract p S.size)]) v') := ⟨⟨S.size, X', .inl (toL_len S).symm⟩, by omega⟩
              obtain ⟨bb', cb', hb'⟩ := X'.eb.slice
              subst hb'
              replace hap := Lib.hid hap
              clear X' CF sn LN'
              go_wp2_with (refine obB2L _ rfl .append _ _ 28 28 rfl _ _ rfl rfl hap.out ?_)
              go_meet
              exact ⟨_, rfl, X2⟩
            · have y4 : (D == 0) = false := by simpa using hd0
              have X2 : Hid (CtE T PR w wr c (toL S) (.pointer (some pa)) (.pointer (some pb)) (.slice aa EA.length ca) EA ts (.slice bb (told c ts).length cb)) := ⟨⟨p, X.out, .inr (by rw [← hD.out]; exact hd0)⟩, by have := LN.out; omega⟩
              clear X LN hd0
              go_wp2_with fail
              go_meet
              exact ⟨ts, by rw [hD.out], X2⟩
          case rest =>
            obtain ⟨ts', rfl, X⟩ := hcut
            clear hD LN
            obtain ⟨np, XI, FIN⟩ := X.out.ex
            have hnp := XI.le
            have SAME := cuts_same c (toL S) ts' ((toL S).drop np) (by rw [XI.fl, List.take_append_drop]) (by
              rcases FIN with q | q
              · exact .inl (by rw [q, List.drop_length])
              · exact .inr q)
            rw [← hC1.out, ← hEA.out] at SAME
            obtain ⟨sa1, sa2, sa3⟩ := SAME
            rw [← sa1]
            obtain ⟨wL, hwL⟩ : ∃ wL, wL = wc := ⟨_, rfl⟩
            rw [← hwL] at X XI ⊢
            clear hwL
            have zTB := X.out.few
            obtain ⟨EB, hEB⟩ : ∃ EB, EB = told c ts' := ⟨_, rfl⟩
            have EBW := XI.eb
            rw [← hEB] at EBW sa3 zTB
            obtain ⟨bb2, cb2, hb2, CB1⟩ := (evp_at15 EBW).cells
            obtain ⟨aa2, ca2, ha2, CA1⟩ := XI.ea.cells
            injection ha2 with ha2 _ hc2
            subst ha2 hc2 hb2
            obtain ⟨NA, hNA⟩ : ∃ NA, NA = EA.length := ⟨_, rfl⟩
            obtain ⟨NB, hNB⟩ : ∃ NB, NB = EB.length := ⟨_, rfl⟩
            rw [← hNA] at CA1 zEA ⊢
            rw [← hNB] at CB1 zTB ⊢
            have CA := Lib.hid CA1
            have CB0 := Lib.hid CB1
            have zBB : (evB EB).length ≤ 3000 := by
              have e := congrArg (fun x => (evB x).length) sa3
              simp only [join_bytes] at e
              rw [show evB [] = [] from rfl, List.nil_append, List.nil_append] at e
              have := zEB.out
              omega
            have RR := Lib.hid XI.r
            have hX1 := Lib.hid XI.ba
            have hX2 := Lib.hid XI.bb
            obtain ⟨JE, hJE⟩ : ∃ JE, JE = joinE [] EA := ⟨_, rfl⟩
            have jB : Hid (joinE [] EB = JE) := by unfold Hid; rw [hJE]; exact sa3.symm
            have zJ : JE.length ≤ 3000 := by
              have := join_len EA []
              rw [← hJE, ← hNA, List.length_nil] at this
              omega
            have jA := Lib.hid hJE.symm
            obtain ⟨FV, hFV⟩ : ∃ FV, FV = ((Hr.new c).feed (toL S)).1.fin := ⟨_, rfl⟩
            rw [← hFV] at sa2
            have fv1 : Hid ((fed c [toL S]).fin = FV) := hFV.symm
            have fv2 : Hid ((fed c ts').fin = FV) := sa2.symm
            replace hNA := Lib.hid hNA
            replace hNB := Lib.hid hNB
            replace zBB := Lib.hid zBB
            clear X XI FIN hnp sa1 sa2 sa3 EBW CA1 CB1 hJE hFV hEB zEB hEA hC1 hp
            go_wp2_with fail
            go_loopg [20, 22] NA (fun gg pv iv wr => ∃ i : Nat, i + gg = NA ∧ iv = .int .i64 (i : Int) ∧ Hid (EvR wL.heap.size wr pv (EA.take i)) ∧ Hid (Below wL.heap.size wL wr))
            case atStart => exact ⟨0, by omega, rfl, by rw [List.take_zero]; exact EvR.nil _ _, Below.refl _ _⟩
            case round =>
              obtain ⟨i, hi, rfl, RW, ZB⟩ := hrel
              by_cases hin : i < NA
              · obtain ⟨gx, ox, rfl, hgx, c0, c1⟩ := CA.out i hin
                have k0 : wr.cell? ⟨gx, ox + 2 * i, none⟩ = _ := (ZB.out.cell hgx).trans c0
                have k1 : wr.cell? ⟨gx, ox + 2 * i + 1, none⟩ = _ := (ZB.out.cell hgx).trans c1
                have ix := fun w' => at_ev gx ox NA ca i w' hin (i : Int) rfl (ox + 2 * i) rfl
                have RD : EvR wL.heap.size wr.drew u20 (EA.take i) := RW.out.of fun _ _ => rfl
                obtain ⟨v2, w2, hap, he2, kp2, -⟩ := RD.app (R := 0) ZB.out.size (by rw [List.length_take]; omega) (EA.getD i (0, [])).1 (EA.getD i (0, [])).2
                have il : i < EA.length := by have := hNA.out; omega
                have tk : EA.take (i + 1) = EA.take i ++ [((EA.getD i (0, [])).1, (EA.getD i (0, [])).2)] := by
                  have e3 : ((EA.getD i (0, [])).1, (EA.getD i (0, [])).2) = EA[i] := by
                    rw [List.getD, List.getElem?_eq_getElem il]
                    rfl
                  rw [e3, List.take_add_one, List.getElem?_eq_getElem il]
                  rfl
                have NX : Hid (EvR wL.heap.size w2 v2 (EA.take (i + 1)) ∧ Below wL.heap.size wL w2) := ⟨by rw [tk]; exact he2, (ZB.out.trans (drewB _ _)).trans (kp2.below ZB.out.size fun _ h => h)⟩
                obtain ⟨av2, cv2, rfl⟩ := he2.slice
                obtain ⟨av0, cv0, hu⟩ := RD.slice
                subst hu
                have hapd : Hid (∀ z, (builtin .append #[31, 31] 31 z #[.slice av0 (EA.take i).length cv0, .slice (some ⟨wr.heap.size, 0, none⟩) 1 1]).run Tryd.prog (wr.alloc (.cells #[.int .i64 ((EA.getD i (0, [])).1 : Int), .string (strL (EA.getD i (0, [])).2)] 49)).drew = .ok (.value (.slice av2 (EA.take i ++ [((EA.getD i (0, [])).1, (EA.getD i (0, [])).2)]).length cv2)) w2) := hap
                generalize (EA.take i ++ [((EA.getD i (0, [])).1, (EA.getD i (0, [])).2)]).length = N2 at hapd NX
                generalize (EA.take i).length = N1 at *
                clear hap he2 kp2 RD RW ZB tk il c0 c1
                generalize (EA.getD i (0, [])).1 = KK at *
                generalize strL (EA.getD i (0, [])).2 = DD at *
                go_upto_region 26 with fail
                go_region_law (refine obB2S rfl .append _ _ 31 31 rfl _ _ (by simp [Act.eval]) (by simp [Act.eval]) hapd.out ?_)
                all_goals
                  go_wp2_with fail
                  go_roundg (NA - (i + 1))
                  case measure => omega
                  case rel => exact ⟨i + 1, by omega, by simp, NX.out.1, NX.out.2⟩
              · obtain rfl : i = NA := by omega
                have eNA : EA.take i = EA := List.take_of_length_le (by have := hNA.out; omega)
                have RP := RW.out
                rw [eNA] at RP
                have wMB := ZB
                clear RW ZB eNA hi hin
                obtain ⟨wM, hwM⟩ : ∃ wM, wM = wr := ⟨_, rfl⟩
                rw [← hwM] at RP wMB ⊢
                clear hwM
                have PP := Lib.hid RP
                clear RP
                have CB : Hid (∀ j, j < NB → ∃ g o, bb2 = some ⟨g, o, none⟩ ∧ g < wM.heap.size ∧ wM.cell? ⟨g, o + 2 * j, none⟩ = some (.int .i64 ((EB.getD j (0, [])).1 : Int)) ∧ wM.cell? ⟨g, o + 2 * j + 1, none⟩ = some (.string (strL (EB.getD j (0, [])).2))) := fun j hj => by
                  obtain ⟨g, o, e, hg, c0, c1⟩ := CB0.out j hj
                  exact ⟨g, o, e, Nat.lt_of_lt_of_le hg wMB.out.size, (wMB.out.cell hg).trans c0, (wMB.out.cell hg).trans c1⟩
                clear CB0 CA
                go_wp2_with fail
                go_loopg [21, 23] NB (fun gg pv iv wr => ∃ i : Nat, i + gg = NB ∧ iv = .int .i64 (i : Int) ∧ Hid (EvR wM.heap.size wr pv (EB.take i)) ∧ Hid (Below wM.heap.size wM wr))
                case atStart => exact ⟨0, by omega, rfl, by rw [List.take_zero]; exact EvR.nil _ _, Below.refl _ _⟩
                case round =>
                  obtain ⟨i, hi, rfl, RW, ZB⟩ := hrel
                  by_cases hin : i < NB
                  · obtain ⟨gx, ox, rfl, hgx, c0, c1⟩ := CB.out i hin
                    have k0 : wr.cell? ⟨gx, ox + 2 * i, none⟩ = _ := (ZB.out.cell hgx).trans c0
                    have k1 : wr.cell? ⟨gx, ox + 2 * i + 1, none⟩ = _ := (ZB.out.cell hgx).trans c1
                    have ix := fun w' => at_ev gx ox NB cb2 i w' hin (i : Int) rfl (ox + 2 * i) rfl
                    have RD : EvR wM.heap.size wr.drew u21 (EB.take i) := RW.out.of fun _ _ => rfl
                    obtain ⟨v2, w2, hap, he2, kp2, -⟩ := RD.app (R := 0) ZB.out.size (by rw [List.length_take]; omega) (EB.getD i (0, [])).1 (EB.getD i (0, [])).2
                    have il : i < EB.length := by have := hNB.out; omega
                    have tk : EB.take (i + 1) = EB.take i ++ [((EB.getD i (0, [])).1, (EB.getD i (0, [])).2)] := by
                      have e3 : ((EB.getD i (0, [])).1, (EB.getD i (0, [])).2) = EB[i] := by
                        rw [List.getD, List.getElem?_eq_getElem il]
                        rfl
                      rw [e3, List.take_add_one, List.getElem?_eq_getElem il]
                      rfl
                    have NX : Hid (EvR wM.heap.size w2 v2 (EB.take (i + 1)) ∧ Below wM.heap.size wM w2) := ⟨by rw [tk]; exact he2, (ZB.out.trans (drewB _ _)).trans (kp2.below ZB.out.size fun _ h => h)⟩
                    obtain ⟨av2, cv2, rfl⟩ := he2.slice
                    obtain ⟨av0, cv0, hu⟩ := RD.slice
                    subst hu
                    have hapd : Hid (∀ z, (builtin .append #[31, 31] 31 z #[.slice av0 (EB.take i).length cv0, .slice (some ⟨wr.heap.size, 0, none⟩) 1 1]).run Tryd.prog (wr.alloc (.cells #[.int .i64 ((EB.getD i (0, [])).1 : Int), .string (strL (EB.getD i (0, [])).2)] 49)).drew = .ok (.value (.slice av2 (EB.take i ++ [((EB.getD i (0, [])).1, (EB.getD i (0, [])).2)]).length cv2)) w2) := hap
                    generalize (EB.take i ++ [((EB.getD i (0, [])).1, (EB.getD i (0, [])).2)]).length = N2 at hapd NX
                    generalize (EB.take i).length = N1 at *
                    clear hap he2 kp2 RD RW ZB tk il c0 c1
                    generalize (EB.getD i (0, [])).1 = KK at *
                    generalize strL (EB.getD i (0, [])).2 = DD at *
                    go_upto_region 30 with fail
                    go_region_law (refine obB2S rfl .append _ _ 31 31 rfl _ _ (by simp [Act.eval]) (by simp [Act.eval]) hapd.out ?_)
                    all_goals
                      go_wp2_with fail
                      go_roundg (NB - (i + 1))
                      case measure => omega
                      case rel => exact ⟨i + 1, by omega, by simp, NX.out.1, NX.out.2⟩
                  · obtain rfl : i = NB := by omega
                    have eNB : EB.take i = EB := List.take_of_length_le (by have := hNB.out; omega)
                    have RP := RW.out
                    rw [eNB] at RP
                    have wNB := ZB
                    clear RW ZB eNB hi hin
                    obtain ⟨wN, hwN⟩ : ∃ wN, wN = wr := ⟨_, rfl⟩
                    rw [← hwN] at RP wNB ⊢
                    clear hwN
                    have QQ := Lib.hid RP
                    clear RP
                    have JP := Lib.hid (rjoin15_ok u20 EA wN (EvR.at (PP.out.keep wNB.out)) (by have := hNA.out; omega) (by
                      have e := congrArg (fun x => (evB x).length) (jA.out.trans jB.out.symm)
                      simp only [join_bytes] at e
                      rw [show evB [] = [] from rfl, List.nil_append, List.nil_append] at e
                      have := zBB.out
                      omega))
                    rw [jA.out] at JP
                    have JQ0 : Hid (∀ w6, Below wN.heap.size wN w6 → _) := fun w6 b6 => rjoin15_ok u21 EB w6 (EvR.at (QQ.out.keep b6)) (by have := hNB.out; omega) (by have := zBB.out; omega)
                    rw [jB.out] at JQ0
                    have bLN := Lib.hid (wMB.out.trans (wNB.out.mono wMB.out.size))
                    clear PP QQ CB jA jB zBB
                    go_wp2_with fail
                    refine JP.out.mono ?_
                    rintro e w6 ⟨u1, rfl, ru1, b6⟩
                    have JQ := Lib.hid (JQ0.out w6 b6)
                    have b6' := Lib.hid b6
                    replace ru1 := Lib.hid ru1
                    clear JP JQ0 b6
                    go_wp2_with fail
                    refine JQ.out.mono ?_
                    rintro e w7 ⟨u2, rfl, ru2, b7⟩
                    have s1 := bLN.out.size
                    have s2 := b6'.out.size
                    have s3 := b7.size
                    have bL7 : Below wL.heap.size wL w7 := (bLN.out.trans (b6'.out.mono s1)).trans (b7.mono (Nat.le_trans s1 s2))
                    have r7 : R2 T PR w w7 (.pointer (some pb)) c ts' (.pointer (some pa)) c [toL S] (fun k => u1.ownBlock = some k ∨ u2.ownBlock = some k) := by
                      refine RR.out.wrote f T0.out (fun k hk => ?_) (Kept.of _ bL7) fun k hk => .inr ?_
                      · rcases hk with hk | hk
                        · exact hX1.out k hk
                        · exact hX2.out k hk
                      · rcases hk with hk | hk
                        · have := ru1.out.row.lt k hk
                          omega
                        · have := ru2.row.lt k hk
                          omega
                    have v1 := Lib.hid (EvR.at (ru1.out.keep b7))
                    have v2 := Lib.hid (EvR.at ru2)
                    obtain ⟨ax, cx, hex⟩ := v1.out.slice
                    obtain ⟨ay, cy, hey⟩ := v2.out.slice
                    have E1 := Lib.hid (r2_fin f r7.swap)
                    rw [fv1.out] at E1
                    have FN2 : Hid (∀ wz Y us, R2 T PR w wz (.pointer (some pb)) c ts' (.pointer (some pa)) c us Y → _) := fun wz Y us h => r2_fin f h
                    rw [fv2.out] at FN2
                    subst hex hey
                    clear JQ b6' b7 bLN bL7 r7 ru1 ru2 RR hX1 hX2 fv1 fv2 s1 s2 s3 wMB wNB
                    go_wp2_with fail
                    refine E1.out.mono ?_
                    rintro e w8 ⟨rfl, r8, s8⟩
                    have x8 := Lib.hid (v1.out.of fun k hk => s8 k (.inl hk))
                    have y8 := Lib.hid (v2.out.of fun k hk => s8 k (.inr hk))
                    have E2 := Lib.hid (FN2.out w8 _ _ r8.swap)
                    clear r8 s8 v1 v2 E1 FN2
                    go_wp2_with fail
                    refine E2.out.mono ?_
                    rintro e w9 ⟨rfl, r9, s9⟩
                    have x9 := x8.out.of fun k hk => s9 k (.inl hk)
                    have y9 := y8.out.of fun k hk => s9 k (.inr hk)
                    have ZZ := Lib.hid r9.below
                    obtain ⟨ax2, cx2, hx2, HX⟩ := x9.cells
                    obtain ⟨ay2, cy2, hy2, HY⟩ := y9.cells
                    injection hx2 with hx2 _ hxc
                    injection hy2 with hy2 _ hyc
                    subst hx2 hxc hy2 hyc
                    replace HX := Lib.hid HX
                    replace HY := Lib.hid HY
                    clear r9 s9 x8 y8 x9 y9 E2
                    go_wp2_with fail
                    go_loopg [24] JE.length (fun g2 iv wx => ∃ j : Nat, j + g2 = JE.length ∧ iv = .int .i64 (j : Int) ∧ Hid (wx.heap = w9.heap) ∧ Hid (Below w.heap.size w wx))
                    case atStart => exact ⟨0, by omega, rfl, rfl, ZZ⟩
                    case round =>
                      obtain ⟨j, hj, rfl, hw, zz⟩ := hrel
                      by_cases hjn : j < JE.length
                      · obtain ⟨gx, ox, rfl, -, d0, d1⟩ := HX.out j hjn
                        obtain ⟨gy, oy, rfl, -, d2, d3⟩ := HY.out j hjn
                        have tr : ∀ (a : Addr) (v : Value), w9.cell? a = some v → wr.cell? a = some v := fun a v hv => by
                          unfold World.cell? at hv ⊢
                          rw [hw.out]
                          exact hv
                        replace d0 := tr _ _ d0
                        replace d1 := tr _ _ d1
                        replace d2 := tr _ _ d2
                        replace d3 := tr _ _ d3
                        have ix := fun w' => at_rev15 gx ox JE.length cx j w' hjn (j : Int) rfl (ox + 2 * j) rfl
                        have iy := fun w' => at_rev15 gy oy JE.length cy j w' hjn (j : Int) rfl (oy + 2 * j) rfl
                        have NW : Hid (wr.drew.heap = w9.heap ∧ Below w.heap.size w wr.drew) := ⟨hw.out, zz.out.trans (drewB _ _)⟩
                        generalize (JE.getD j (0, [])).1 = kk at *
                        generalize strL (JE.getD j (0, [])).2 = DD at *
                        clear HX HY hw tr ZZ zz
                        go_wp2_with fail
                        go_region
                        all_goals
                          go_wp2_with fail
                          go_roundg (JE.length - (j + 1))
                          case measure => omega
                          case rel => exact ⟨j + 1, by omega, by simp, NW.out.1, NW.out.2⟩
                      · clear HX HY hw
                        go_wp2_with fail
                        go_ret
                        exact ⟨rfl, zz.out⟩
  · have q1 : decide ((3000 : Int) < (S.size : Int)) = true := decide_eq_true (by omega)
    go_enter Tryd.func5, Tryd.ntmps5
    go_wp2_with fail
    refine (WO.out ()).mono ?_
    rintro e w1 ⟨rfl, b1⟩
    have Z1 := Lib.hid b1
    clear b1 WO
    go_wp2_with fail
    go_ret
    exact ⟨rfl, Z1.out⟩
end
end Go.Proofs.YtnngdlleicjegaaDoor
