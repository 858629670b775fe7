/-
  What the document's own Ways answers. No condition but the form's own reach.
-/
import Derived.Test.YtihkbakbciejiaaDoorCpSm
import Derived.Test.YtihkbakbciejiaaDoorCpTl
import Derived.OrdersHeld
namespace Go.Proofs.YtihkbakbciejiaaDoor
set_option maxRecDepth 100000
open Go.RowKit Go.Sort

theorem info_ror : ∃ i, Tryd.prog.info? 54 = some i ∧ i.zero = some (.agg #[.int .u32 0, .int .u32 0, .int .i64 0]) ∧ i.size = 3 ∧ i.bytes = 16 := by
  have h : (Tryd.prog.info? 54).map (fun i => (i.zero, i.size, i.bytes)) = some (some (.agg #[.int .u32 0, .int .u32 0, .int .i64 0]), 3, 16) := by kernel_rfl
  obtain ⟨i, hi, e⟩ := Option.map_eq_some_iff.1 h
  injection e with e1 e2
  injection e2 with e2 e3
  exact ⟨i, hi, e1, e2, e3⟩
/-- Routes that the call itself has made. -/
structure RoR (base : Nat) (w : World) (v : Value) (l : List Ro) : Prop where
  row : w.ownsRow base 54 3 v l.length (rov l)
theorem RoR.nil (base : Nat) (w : World) : RoR base w (.slice none 0 0) [] := ⟨World.ownsRow_nil _ _ _ _⟩
theorem RoR.of {base : Nat} {w w' : World} {v : Value} {l : List Ro} (h : RoR base w v l) (b : ∀ k, v.ownBlock = some k → w'.heap[k]? = w.heap[k]?) : RoR base w' v l := ⟨rows_blockC h.row b⟩
theorem RoR.keep {base : Nat} {w w' : World} {v : Value} {l : List Ro} (h : RoR base w v l) (b : Below w.heap.size w w') : RoR base w' v l := h.of fun k hk => b.block k (h.row.lt k hk).2
theorem RoR.slice {base : Nat} {w : World} {v : Value} {l : List Ro} (h : RoR base w v l) : ∃ a c, v = .slice a l.length c := by
  rcases h.row.2 with ⟨rfl, e⟩ | ⟨g, cap, cur, rfl, -⟩
  · exact ⟨_, _, by rw [e]⟩
  · exact ⟨_, _, rfl⟩
theorem RoR.app {base : Nat} {w : World} {v : Value} {l : List Ro} (h : RoR base w v l) (hb : base ≤ w.heap.size) (hl : l.length < 1000000000) (a : Ro) :
    ∃ v' w', (∀ z, (builtin .append #[44, 44] 44 z #[v, .slice (some ⟨w.heap.size, 0, none⟩) 1 1]).run Tryd.prog (w.alloc (.cells #[.int .u32 (a.low : Int), .int .u32 (a.high : Int), .int .i64 a.pro] 54)) = .ok (.value v') w') ∧ RoR base w' v' (l ++ [a]) ∧ Kept (fun x => base ≤ x) w w' := by
  obtain ⟨i0, hi0, hz0, hz1, hz2⟩ := info_ror
  have bA : Below w.heap.size w (w.alloc (.cells #[.int .u32 (a.low : Int), .int .u32 (a.high : Int), .int .i64 a.pro] 54)) := (Below.refl _ _).alloc (Nat.le_refl _) _
  have h2 := h.keep bA
  obtain ⟨v', w', hr, h3, h4, -, -⟩ := run_append_own_at (P := Tryd.prog) (w.alloc (.cells #[.int .u32 (a.low : Int), .int .u32 (a.high : Int), .int .i64 a.pro] 54)) base 44 44 54 i0 (.agg #[.int .u32 0, .int .u32 0, .int .i64 0]) 3 16 Tryd.underlying44 hi0 hz0 hz1 hz2 (by decide) (by decide) v l.length (rov l) h2.row ⟨w.heap.size, 0, none⟩ 1 1 (roC a) rfl (fun j u hj => by
    rw [Addr.add_lit]
    exact (Lies.new w (roC a) 54).r j u hj) (fun x hx => by unfold roC at hx; simp only [List.mem_cons, List.not_mem_nil, or_false] at hx; rcases hx with rfl | rfl | rfl <;> rfl) (by unfold maxLen; omega) (by omega) (Nat.le_trans hb bA.size)
  have kp : Kept (fun x => base ≤ x) w w' := (Kept.of _ bA).grown h4 (fun k hk _ => (h2.row.lt k hk).1)
  exact ⟨v', w', fun z => by simp only [builtin, Sem.run_bind, Sem.run_pure, hr, Result.andThen_ok], ⟨by rw [rov_snoc, List.length_append]; exact h3⟩, kp⟩
theorem rov_app (a b : List Ro) : rov (a ++ b) = rov a ++ rov b := by simp [rov, List.flatMap_append]
theorem rov_len (l : List Ro) : (rov l).length = 3 * l.length := by
  induction l with
  | nil => rfl
  | cons e l ih =>
    show (roC e ++ rov l).length = _
    rw [List.length_append, ih]
    show 3 + _ = 3 * (l.length + 1)
    omega
theorem rov_one (l : List Ro) : ∀ u ∈ rov l, u.oneCell' = true := fun u hu => by
  unfold rov at hu
  obtain ⟨e, -, he⟩ := List.mem_flatMap.1 hu
  unfold roC at he
  simp only [List.mem_cons, List.not_mem_nil, or_false] at he
  rcases he with rfl | rfl | rfl <;> rfl
theorem rov_at {w : World} {g o : Nat} {l : List Ro} (h : ∀ k, k < l.length → ∀ j, j < 3 → w.cell? ⟨g, o + 3 * k + j, none⟩ = (roC (l.getD k nR))[j]?) (j : Nat) (u : Value) (hj : (rov l)[j]? = some u) : w.cell? ((⟨g, o, none⟩ : Addr).add j) = some u := by
  rw [Addr.add_lit]
  have hl : j < (rov l).length := (List.getElem?_eq_some_iff.1 hj).1
  rw [rov_len] at hl
  have e := rov_get l (j / 3) (by omega) (j % 3) (by omega)
  rw [show 3 * (j / 3) + j % 3 = j by omega, hj] at e
  have c := h (j / 3) (by omega) (j % 3) (by omega)
  rw [show o + 3 * (j / 3) + j % 3 = o + j by omega, ← e] at c
  exact c
theorem app_noneR {w : World} {base n cap : Nat} {v : Value} {xs : List Value} (h : w.ownsRow base 54 3 v n xs) {i : TypeInfo} (hi : Tryd.prog.info? 54 = some i) :
    (Builtin.append_ #[44, 44] 44 #[v, .slice none 0 cap]).run Tryd.prog w = .ok v w := by
  rcases h.2 with ⟨rfl, rfl⟩ | ⟨g, c, cur, rfl, _, _, hnc, _⟩
  · simp [Builtin.append_, run_underlying Tryd.underlying44, sizeOf, typeInfo, hi, Builtin.lenOf, Builtin.firstCells]
  · simp [Builtin.append_, run_underlying Tryd.underlying44, sizeOf, typeInfo, hi, Builtin.lenOf, Builtin.firstCells, hnc, storeCells]
/-- Routes put behind those of a row of one's own. -/
theorem RoR.appS {base : Nat} {w : World} {v x : Value} {l l2 : List Ro} (h : RoR base w v l) (hx : RowAt 3 roC nR w x l2) (hb : base ≤ w.heap.size) (hl : l.length + l2.length < 1000000000) :
    ∃ v' w', (∀ z, (builtin .append #[44, 44] 44 z #[v, x]).run Tryd.prog w = .ok (.value v') w') ∧ RoR base w' v' (l ++ l2) ∧ Kept (fun k => v.ownBlock = some k) w w' := by
  obtain ⟨i0, hi0, hz0, hz1, hz2⟩ := info_ror
  obtain ⟨a, cap, rfl, -, hc⟩ := hx
  have nil : l2 = [] → a = none → ∃ v' w', (∀ z, (builtin .append #[44, 44] 44 z #[v, .slice a l2.length cap]).run Tryd.prog w = .ok (.value v') w') ∧ RoR base w' v' (l ++ l2) ∧ Kept (fun k => v.ownBlock = some k) w w' := fun e ea => by
    subst e ea
    refine ⟨v, w, fun z => ?_, by rw [List.append_nil]; exact h, Kept.refl _ _⟩
    have := app_noneR (cap := cap) h.row hi0
    simp only [builtin, Sem.run_bind, Sem.run_pure]
    rw [show ([] : List Ro).length = 0 from rfl, this, Result.andThen_ok]
  have some' : ∀ (p : Addr), a = some p → (∀ j u, (rov l2)[j]? = some u → w.cell? (p.add j) = some u) → ∃ v' w', (∀ z, (builtin .append #[44, 44] 44 z #[v, .slice a l2.length cap]).run Tryd.prog w = .ok (.value v') w') ∧ RoR base w' v' (l ++ l2) ∧ Kept (fun k => v.ownBlock = some k) w w' := fun p ea hp => by
    subst ea
    obtain ⟨v', w', hr, h3, h4, -, h5⟩ := run_append_own_at (P := Tryd.prog) w base 44 44 54 i0 (.agg #[.int .u32 0, .int .u32 0, .int .i64 0]) 3 16 Tryd.underlying44 hi0 hz0 hz1 hz2 (by decide) (by decide) v l.length (rov l) h.row p l2.length cap (rov l2) (by rw [rov_len]; omega) hp (rov_one l2) (by unfold maxLen; omega) (by omega) hb
    exact ⟨v', w', fun z => by simp only [builtin, Sem.run_bind, Sem.run_pure, hr, Result.andThen_ok], ⟨by rw [rov_app, List.length_append]; exact h3⟩, ⟨h4.os, h4.tape, h4.output, h4.size, fun k hk hf => h4.block k hk (by intro e; exact hf e.symm)⟩⟩
  cases l2 with
  | nil =>
    cases a with
    | none => exact nil rfl rfl
    | some p => exact some' p rfl (fun j u hj => by cases hj)
  | cons y l2 =>
    obtain ⟨g, o, e, -, -⟩ := hc 0 (by simp)
    refine some' ⟨g, o, none⟩ e (rov_at fun k hk j hj => ?_)
    obtain ⟨g', o', e', -, c⟩ := hc k hk
    rw [e] at e'
    injection e' with e'
    injection e' with e1 e2
    subst e1 e2
    exact c j hj
/-- An empty row. -/
theorem ror_empty (w : World) : RoR w.heap.size (w.alloc (.cells #[] 54)) (.slice (some ⟨w.heap.size, 0, none⟩) 0 0) [] := by
  exact ⟨rfl, .inr ⟨w.heap.size, 0, #[], rfl, Nat.le_refl _, heap_alloc_new _ _, Nat.le_refl _, Nat.zero_le _, rfl, rfl⟩⟩
theorem row_one (w : World) (lo hi : Nat) (pr : Int) : RowAt 3 roC nR (w.alloc (.cells #[.int .u32 (lo : Int), .int .u32 (hi : Int), .int .i64 pr] 54)) (.slice (some ⟨w.heap.size, 0, none⟩) 1 1) [⟨lo, hi, pr⟩] := by
  have L := Lies.new w [.int .u32 (lo : Int), .int .u32 (hi : Int), .int .i64 pr] 54
  refine ⟨_, _, rfl, Nat.le_refl _, fun k hk => ⟨w.heap.size, 0, rfl, by simp, fun j hj => ?_⟩⟩
  obtain rfl : k = 0 := by simp at hk; exact hk
  have e : 0 + 3 * 0 + j = j := by omega
  rw [e]
  match j, hj with
  | 0, _ => exact L.cell 0 rfl
  | 1, _ => exact L.cell 1 rfl
  | 2, _ => exact L.cell 2 rfl
/-- What Ways answers. -/
def RoRA (s : ByteArray) (base : Nat) (e : Ending) (w' : World) : Prop :=
  (∃ l v, wayL (toL s) = .ok l ∧ l.length ≤ 16 ∧ e = .returned (.tuple #[v, .int .i64 0]) ∧ RoR base w' v l) ∨ (∃ x : Int, wayL (toL s) = .error x ∧ x ≠ 0 ∧ e = .returned (.tuple #[.slice none 0 0, .int .i64 x]))
structure RoK (w wr : World) (s0 : ByteArray) (g : Nat) (s : ByteArray) (acc : List Ro) (lv : Value) : Prop where
  eq : wayL (toL s0) = wayN g acc (toL s)
  len : s.size < g
  few : acc.length ≤ 16
  row : RoR w.heap.size wr lv acc
  bel : Below w.heap.size w wr
set_option maxHeartbeats 16000000 in
theorem rways16_ok (s0 : ByteArray) (w : World) (_hs : s0.size ≤ 4611686018427387903) :
    Calls Tryd.prog 20 #[.string s0] w fun e w' => RoRA s0 w.heap.size e w' ∧ Below w.heap.size w w' := by
  have P0 : Hid (RoK w w s0 (s0.size + 1) s0 [] (.slice none 0 0)) := ⟨by unfold wayL; rw [toL_len], Nat.lt_succ_self _, by simp, RoR.nil _ _, Below.refl _ _⟩
  have hcf : ∀ (x : Value) (w : World), (callFunc 43 #[x]).run Tryd.prog w = .ok (.enter 43 #[x]) w := fun x w => by simp [go_sem]
  have hcr : ∀ (x : Value) (w : World), (callFunc 48 #[x]).run Tryd.prog w = .ok (.enter 48 #[x]) w := fun x w => by simp [go_sem]
  go_enter Tryd.func20, Tryd.ntmps20
  go_wp2_with fail
  go_loopg [0, 4] (s0.size + 1) (fun g sv lv wr => ∃ (s : ByteArray) (acc : List Ro), sv = .string s ∧ g ≤ s0.size + 1 ∧ Hid (RoK w wr s0 g s acc lv))
  case atStart => exact ⟨s0, [], rfl, Nat.le_refl _, P0⟩
  case round =>
    obtain ⟨s, acc, rfl, hg, X⟩ := hrel
    clear P0
    have hlen := X.out.len
    obtain ⟨g1, rfl⟩ : ∃ g1, gk = g1 + 1 := ⟨gk - 1, by omega⟩
    obtain ⟨av, cv, hu⟩ := X.out.row.slice
    subst hu
    have EQ := X.out.eq
    have ZZ := Lib.hid X.out.bel
    have few := X.out.few
    cases h2 : toL s with
    | nil =>
      have hz : s = ⟨#[]⟩ := toL_inj (by rw [h2]; rfl)
      have AN : Hid (RoRA s0 w.heap.size (.returned (.tuple #[.slice av acc.length cv, .int .i64 0])) wr) := .inl ⟨acc, _, by rw [EQ, h2]; rfl, few, rfl, X.out.row⟩
      subst hz
      generalize acc.length = M at *
      clear X h2 EQ
      go_wp2_with fail
      go_ret2
      exact ⟨AN.out, ZZ.out⟩
    | cons c t =>
      rw [h2, wayN_cons] at EQ
      have zl : s.size = t.length + 1 := by rw [← toL_len, h2]; rfl
      have n0 : s.toList.isEmpty = false := by
        rw [toL_empC, h2]
        rfl
      have ix0 : ∀ w', (Instr.index 9 (.string s) (.int .i64 0)).run Tryd.prog w' = .ok (.int .u8 (c.toNat : Int)) w' := fun w' => by
        have := at_str0 s 0 w' (by omega) 0 rfl
        rw [h2] at this
        exact this
      by_cases hc : c = 4
      · subst hc
        rw [if_neg (by simp)] at EQ
        by_cases h9 : t.length < 9
        · rw [if_pos h9] at EQ
          have q9 : decide ((s.size : Int) < 10) = true := decide_eq_true (by omega)
          have q9n : s.size < 10 := by omega
          replace EQ := Lib.hid EQ
          replace zl := Lib.hid zl
          generalize acc.length = M at *
          clear X h2 h9
          go_wp2_with fail
          go_ret2
          exact ⟨.inr ⟨1, EQ.out, by decide, rfl⟩, ZZ.out⟩
        · rw [if_neg h9] at EQ
          have q9 : decide ((s.size : Int) < 10) = false := decide_eq_false (by omega)
          have q9n : ¬ s.size < 10 := by omega
          have e4 : w4 (toL (s.extract 1 5)) = w4 t := by
            rw [toL_cut, h2]
            unfold w4
            show fold 0 ((t.take 4).take 4) = _
            rw [List.take_take]
            rfl
          have e5 : w4 (toL (s.extract 5 9)) = w4 (t.drop 4) := by
            rw [toL_cut, h2]
            unfold w4
            show fold 0 (((t.take 8).drop 4).take 4) = _
            rw [List.drop_take, List.take_take]
            rfl
          have N1 : Hid (∀ w', _) := fun w' => rnum4 (s.extract 1 5) w' (by rw [ByteArray.size_extract]; omega)
          have N2 : Hid (∀ w', _) := fun w' => rnum4 (s.extract 5 9) w' (by rw [ByteArray.size_extract]; omega)
          rw [e4] at N1
          rw [e5] at N2
          have ix9 : ∀ w', (Instr.index 9 (.string s) (.int .i64 9)).run Tryd.prog w' = .ok (.int .u8 ((t.getD 8 0).toNat : Int)) w' := fun w' => by
            have := at_str0 s 9 w' (by omega) 9 rfl
            rw [h2] at this
            exact this
          have e6 : toL (s.extract 10 s.size) = t.drop 9 := by
            rw [toL_extract, h2]
            rfl
          have z6 : (s.extract 10 s.size).size = s.size - 10 := by rw [ByteArray.size_extract]; omega
          have a1 := w4_lt t
          have a2 := w4_lt (t.drop 4)
          have b1 : (t.getD 8 0).toNat < 256 := (t.getD 8 0).toNat_lt
          obtain ⟨A, hA⟩ : ∃ A, A = w4 t := ⟨_, rfl⟩
          obtain ⟨A2, hA2⟩ : ∃ A2, A2 = w4 (t.drop 4) := ⟨_, rfl⟩
          obtain ⟨B, hB⟩ : ∃ B, B = (t.getD 8 0).toNat := ⟨_, rfl⟩
          rw [← hA] at N1 a1 EQ
          rw [← hA2] at N2 a2 EQ
          rw [← hB] at ix9 b1 EQ
          rw [← e6] at EQ
          have wr1 : IntKind.u32.wrap (A : Int) = (A : Int) := by rw [IntKind.wrap_u32]; omega
          have wr2 : IntKind.u32.wrap (A2 : Int) = (A2 : Int) := by rw [IntKind.wrap_u32]; omega
          have wr3 : IntKind.i64.wrap (B : Int) = (B : Int) := by rw [IntKind.wrap_i64]; omega
          have g5 : (5 : Int) ≤ (s.size : Int) := by omega
          have g5n : 5 ≤ s.size := by omega
          have g9 : (9 : Int) ≤ (s.size : Int) := by omega
          have g9n : 9 ≤ s.size := by omega
          have g5m : ¬ (s.size < 5) := by omega
          have g9m : ¬ (s.size < 9) := by omega
          have R0 := X.out.row
          have L2 : Lies (wr.alloc (.cells #[.int .u32 (A : Int), .int .u32 (A2 : Int), .int .i64 (B : Int)] 54)).drew wr.heap.size [.int .u32 (A : Int), .int .u32 (A2 : Int), .int .i64 (B : Int)] := (Lies.new wr [.int .u32 (A : Int), .int .u32 (A2 : Int), .int .i64 (B : Int)] 54).of_block rfl
          have B2 : Below wr.heap.size wr (wr.alloc (.cells #[.int .u32 (A : Int), .int .u32 (A2 : Int), .int .i64 (B : Int)] 54)).drew := ((Below.refl wr.heap.size wr).alloc (Nat.le_refl wr.heap.size) _).trans (drewB _ _)
          have R2 := Lib.hid (R0.keep B2)
          have Z2 := Lib.hid (ZZ.out.trans (B2.mono ZZ.out.size))
          replace L2 := Lib.hid L2
          replace EQ := Lib.hid EQ
          replace hA := Lib.hid hA
          replace hA2 := Lib.hid hA2
          replace hB := Lib.hid hB
          replace zl := Lib.hid zl
          replace z6 := Lib.hid z6
          replace e6 := Lib.hid e6
          clear X h2 h9 e4 e5 R0 B2
          go_upto_region 7 with fail
          go_cut [5] (fun u wc => u = .pointer (some ⟨wr.heap.size, 0, none⟩) ∧ (wr.alloc (.cells #[.int .u32 (A : Int), .int .u32 (A2 : Int), .int .i64 (B : Int)] 54)).drew = wc)
          case first =>
            go_region_law (first | (refine cal1S 43 (k1 := 15) (.string (s.extract 1 5)) (.int .i64 (A : Int)) (N1.out _) (hcf _) rfl rfl (by simp [Act.eval, Act.put]) ?_) | (refine cal1S 43 (k1 := 19) (.string (s.extract 5 9)) (.int .i64 (A2 : Int)) (N2.out _) (hcf _) rfl rfl (by simp [Act.eval, Act.put]) ?_))
            all_goals
              go_wp2_with fail
              go_meet
              exact ⟨rfl, rfl⟩
          case rest =>
            obtain ⟨rfl, hwc⟩ := hcut
            clear N1 N2 ix9 ix0 wr1 wr2 wr3 g5 g5n g9 g9n g5m g9m ZZ
            rw [hwc] at R2 Z2 L2
            clear hwc
            go_upto_region 8 with fail
            generalize wc = wb at *
            generalize wr.heap.size = K at *
            have hKw := L2.out.lt (by show 0 < 3; decide)
            have KS : Hid (∀ w', Below wb.heap.size wb w' → w'.cell? ⟨K, 0, none⟩ = some (.int .u32 (A : Int)) ∧ w'.cell? ⟨K, 1, none⟩ = some (.int .u32 (A2 : Int)) ∧ w'.cell? ⟨K, 2, none⟩ = some (.int .i64 (B : Int))) := fun w' b => ⟨(b.cell hKw).trans (L2.out.cell 0 rfl), (b.cell hKw).trans (L2.out.cell 1 rfl), (b.cell hKw).trans (L2.out.cell 2 rfl)⟩
            have RL : Hid (∀ w', Below wb.heap.size wb w' → RowAt 3 roC nR w' (.slice av acc.length cv) acc) := fun w' b => (rop_at R2.out.row).low b
            have BB : Below wb.heap.size wb wb.drew := drewB _ _
            have hS := KS.out _ BB
            obtain ⟨M, hM⟩ : ∃ M, M = acc.length := ⟨_, rfl⟩
            have fewM : M ≤ 16 := by omega
            rw [← hM] at RL ⊢
            replace hM := Lib.hid hM
            refine wp_region_held (S := fun w' => w'.cell? ⟨K, 0, none⟩ = some (.int .u32 (A : Int)) ∧ w'.cell? ⟨K, 1, none⟩ = some (.int .u32 (A2 : Int)) ∧ w'.cell? ⟨K, 2, none⟩ = some (.int .i64 (B : Int))) (by kernel_rfl) ?_
            change wpAnyH _ .any _ _ _ 8 (Array.replicate 8 false) _ wb.drew
            generalize wb.drew = wd at *
            refine obTakeH (i := 1) (d := 27) (v := .slice av M cv) rfl rfl (by kernel_rfl) (by kernel_rfl) (by kernel_rfl) (fun _ _ _ h => h) rfl (fun w hS => by obtain ⟨s0, s1, s2⟩ := hS; go_simp) hS ?_
            refine obTakeH (i := 3) (d := 29) (v := .agg #[.int .u32 (A : Int), .int .u32 (A2 : Int), .int .i64 (B : Int)]) rfl rfl (by kernel_rfl) (by kernel_rfl) (by kernel_rfl) (fun _ _ _ h => h) rfl (fun w hS => by obtain ⟨s0, s1, s2⟩ := hS; go_simp) hS ?_
            try simp only [Act.put, List.setIfInBounds_toArray, List.set_cons_succ, List.set_cons_zero]
            refine wpAnyH_all (rs := [0, 4]) (by kernel_rfl) (by simp) (fun y hy => ?_)
            have hy2 : y = 0 ∨ y = 4 := by simpa using hy
            clear hy
            rcases hy2 with rfl | rfl
            · refine wpOp_step rfl (fun K' hK => ?_)
              have BA := BB.alloc BB.size (.cells #[] 54)
              have hSk := KS.out _ BA
              have RE : RoR wb.heap.size (wd.alloc (.cells #[] 54)) (.slice (some ⟨wd.heap.size, 0, none⟩) 0 0) [] := ⟨⟨(ror_empty wd).row.1, .inr ⟨wd.heap.size, 0, #[], rfl, BB.size, heap_alloc_new _ _, Nat.le_refl _, Nat.zero_le _, rfl, rfl⟩⟩⟩
              go_simp
              refine hK _ _ ⟨hSk, ?_⟩
              clear hK K'
              replace hS := hSk
              replace BB := BA
              clear hSk BA
              have hEl : wd.heap.size < (wd.alloc (.cells #[] 54)).heap.size := by simp
              generalize wd.alloc (.cells #[] 54) = wn1 at *
              generalize wd.heap.size = KE at *
              try simp only [Act.put, List.setIfInBounds_toArray, List.set_cons_succ, List.set_cons_zero]
              refine wpAnyH_all (rs := [2, 4]) (by kernel_rfl) (by simp) (fun y hy => ?_)
              have hy2 : y = 2 ∨ y = 4 := by simpa using hy
              clear hy
              rcases hy2 with rfl | rfl
              · refine wpOp_step rfl (fun K' hK => ?_)
                obtain ⟨vF, wn2, hap, RF, kp⟩ := RE.appS (RL.out wn1 BB) BB.size (by simp [← hM.out]; omega)
                rw [List.nil_append] at RF
                have BA : Below wb.heap.size wb wn2 := BB.trans (kp.below BB.size fun k hk => (RE.row.lt k hk).1)
                have hSk := KS.out _ BA
                have hFl : ∀ k, vF.ownBlock = some k → k < wn2.heap.size := fun k hk => (RF.row.lt k hk).2
                refine obB2 _ .append _ _ 44 44 rfl _ _ rfl rfl hap (hK _ _ ⟨hSk, ?_⟩)
                clear hK K' hap
                replace hS := hSk
                replace BB := BA
                clear hSk BA kp RE
                try simp only [Act.put, List.setIfInBounds_toArray]
                refine wpAnyH_all (rs := [4]) (by kernel_rfl) (by simp) (fun y hy => ?_)
                obtain rfl : y = 4 := by simpa using hy
                clear hy
                refine wpOp_step rfl (fun K' hK => ?_)
                have BA := BB.alloc BB.size (.cells #[.int .u32 (A : Int), .int .u32 (A2 : Int), .int .i64 (B : Int)] 54)
                have hSk := KS.out _ BA
                have RX := row_one wn2 A A2 (B : Int)
                have RF2 := RF.keep ((Below.refl _ _).alloc (Nat.le_refl _) (.cells #[.int .u32 (A : Int), .int .u32 (A2 : Int), .int .i64 (B : Int)] 54))
                go_simp
                refine hK _ _ ⟨hSk, ?_⟩
                clear hK K'
                replace hS := hSk
                replace BB := BA
                clear hSk BA
                replace RF := RF2
                clear RF2
                have hne : ∀ k, vF.ownBlock = some k → wn2.heap.size ≠ k := fun k hk q => by have := hFl k hk; omega
                have hXl : wn2.heap.size < (wn2.alloc (.cells #[.int .u32 (A : Int), .int .u32 (A2 : Int), .int .i64 (B : Int)] 54)).heap.size := by simp
                generalize wn2.alloc (.cells #[.int .u32 (A : Int), .int .u32 (A2 : Int), .int .i64 (B : Int)] 54) = wn3 at *
                generalize wn2.heap.size = KX at *
                try simp only [Act.put, List.setIfInBounds_toArray, List.set_cons_succ, List.set_cons_zero]
                refine wpAnyH_all (rs := [5]) (by kernel_rfl) (by simp) (fun y hy => ?_)
                obtain rfl : y = 5 := by simpa using hy
                clear hy
                refine wpOp_step rfl (fun K' hK => ?_)
                obtain ⟨vG, wn4, hap, RG, kp⟩ := RF.appS RX BB.size (by simp [← hM.out]; omega)
                have BA : Below wb.heap.size wb wn4 := BB.trans (kp.below BB.size fun k hk => (RF.row.lt k hk).1)
                have hSk := KS.out _ BA
                have RI := rright_ok vG _ wn4 (rop_at RG.row).ro (by simp [← hM.out]; omega)
                obtain ⟨aG, cG, hG⟩ := RG.slice
                subst hG
                refine obB2 _ .append _ _ 44 44 rfl _ _ rfl rfl hap (hK _ _ ⟨hSk, ?_⟩)
                clear hK K' hap
                replace hS := hSk
                replace BB := BA
                clear hSk BA kp RF RX RG
                try simp only [Act.put, List.setIfInBounds_toArray]
                refine wpAnyH_all (rs := [6]) (by kernel_rfl) (by simp) (fun y hy => ?_)
                obtain rfl : y = 6 := by simpa using hy
                clear hy
                refine wpOp_step rfl (fun K' hK => ?_)
                refine obCall1g (k1 := 31) (d := 32) 48 _ rfl rfl _ _ _ _ (hcr _) rfl RI (fun e wn5 hR => ?_)
                obtain ⟨rfl, b5⟩ := hR
                have hSk := KS.out wn5 (BB.trans (b5.mono BB.size))
                refine ⟨_, rfl, hK _ _ ⟨hSk, ?_⟩⟩
                replace hS := hSk
                replace BB := BB.trans (b5.mono BB.size)
                clear hK K' b5 hSk RI
                try simp only [Act.put]
                refine obTakeH (i := 7) (d := 33) (v := .bool (!rightR (acc ++ [⟨A, A2, (B : Int)⟩]))) rfl rfl (by kernel_rfl) (by kernel_rfl) (by kernel_rfl) (fun _ _ _ h => h) rfl (fun w hS => by obtain ⟨s0, s1, s2⟩ := hS; go_simp) hS ?_
                try simp only [Act.put]
                refine wpAnyH_done (by kernel_rfl) ?_ 0
                have BF := BB
                clear BB
                generalize hcur : wn5 = wf at *
                clear hcur
                have L3 : Hid (w.heap.size ≤ wb.heap.size) := Z2.out.size
                have Z3 := Z2.out.trans (BF.mono Z2.out.size)
                have R3 := R2.out.keep BF
                obtain ⟨d0, d1, d2⟩ := KS.out wf BF
                clear hS KS RL BF L2
                cases hrt : rightR (acc ++ [⟨A, A2, (B : Int)⟩]) with
                | false =>
                  have E : Hid (wayL (toL s0) = .error 2) := by
                    unfold Hid
                    rw [EQ.out, if_pos hrt]
                  replace Z3 := Lib.hid Z3
                  clear R3 EQ hrt
                  go_wp2_with fail
                  go_ret2
                  exact ⟨.inr ⟨2, E.out, by decide, rfl⟩, Z3.out⟩
                | true =>
                  have EQ2 := EQ.out
                  rw [if_neg (by rw [hrt]; simp)] at EQ2
                  rw [← hM.out] at EQ2
                  by_cases h16 : M = 16
                  · rw [if_pos h16] at EQ2
                    have q16 : ((M : Int) == 16) = true := by rw [h16]; rfl
                    replace EQ2 := Lib.hid EQ2
                    replace Z3 := Lib.hid Z3
                    replace h16 := Lib.hid h16
                    clear R3 EQ hrt
                    go_wp2_with fail
                    go_ret2
                    exact ⟨.inr ⟨8, EQ2.out, by decide, rfl⟩, Z3.out⟩
                  · rw [if_neg h16] at EQ2
                    have q16 : ((M : Int) == 16) = false := by
                      have : ¬ (M : Int) = 16 := by omega
                      simpa using this
                    obtain ⟨v', w4', hap, row, kp⟩ := R3.app Z3.size (by omega) ⟨A, A2, (B : Int)⟩
                    have NX : Hid (RoK w w4' s0 g1 (s.extract 10 s.size) (acc ++ [⟨A, A2, (B : Int)⟩]) v') := ⟨EQ2, by
                      have h1 := z6.out
                      have h2 := zl.out
                      omega, by have := hM.out; rw [List.length_append]; simp; omega, row, Z3.trans (kp.below Z3.size fun _ h => h)⟩
                    obtain ⟨av', cv', hu'⟩ := row.slice
                    subst hu'
                    rw [← hM.out] at hap
                    replace hap := Lib.hid hap
                    have hg1 : g1 ≤ s0.size + 1 := by omega
                    have g10 : (10 : Int) ≤ (s.size : Int) := by omega
                    have g10n : 10 ≤ s.size := by omega
                    generalize (acc ++ [(⟨A, A2, (B : Int)⟩ : Ro)]).length = N2 at *
                    replace h16 := Lib.hid h16
                    clear R3 row kp EQ EQ2 Z3 hrt
                    go_wp2_with (refine obB2L _ rfl .append _ _ 44 44 rfl _ _ rfl rfl hap.out ?_)
                    go_roundg g1
                    case measure => omega
                    case rel => exact ⟨_, _, rfl, hg1, NX⟩
              · refine wpOp_step rfl (fun K' hK => ?_)
                have BA := BB.alloc BB.size (.cells #[.int .u32 (A : Int), .int .u32 (A2 : Int), .int .i64 (B : Int)] 54)
                have hSk := KS.out _ BA
                have RX := row_one wn1 A A2 (B : Int)
                have RE2 := RE.keep ((Below.refl _ _).alloc (Nat.le_refl _) (.cells #[.int .u32 (A : Int), .int .u32 (A2 : Int), .int .i64 (B : Int)] 54))
                have hne : wn1.heap.size ≠ KE := fun q => by omega
                go_simp
                refine hK _ _ ⟨hSk, ?_⟩
                clear hK K'
                replace hS := hSk
                replace BB := BA
                clear hSk BA
                replace RE := RE2
                clear RE2
                have hXl : wn1.heap.size < (wn1.alloc (.cells #[.int .u32 (A : Int), .int .u32 (A2 : Int), .int .i64 (B : Int)] 54)).heap.size := by simp
                generalize wn1.alloc (.cells #[.int .u32 (A : Int), .int .u32 (A2 : Int), .int .i64 (B : Int)] 54) = wn6 at *
                generalize wn1.heap.size = KX at *
                try simp only [Act.put, List.setIfInBounds_toArray, List.set_cons_succ, List.set_cons_zero]
                refine wpAnyH_all (rs := [2]) (by kernel_rfl) (by simp) (fun y hy => ?_)
                obtain rfl : y = 2 := by simpa using hy
                clear hy
                refine wpOp_step rfl (fun K' hK => ?_)
                obtain ⟨vF, wn7, hap, RF, kp⟩ := RE.appS (RL.out wn6 BB) BB.size (by simp [← hM.out]; omega)
                rw [List.nil_append] at RF
                have BA : Below wb.heap.size wb wn7 := BB.trans (kp.below BB.size fun k hk => (RE.row.lt k hk).1)
                have hSk := KS.out _ BA
                have hFl : ∀ k, vF.ownBlock = some k → k < wn7.heap.size := fun k hk => (RF.row.lt k hk).2
                have RX2 := RX.of kp.size (fun k hk hl => kp.block k hl (fun q => hne (by injection hk with hk; injection q with q; exact hk.trans q.symm)))
                refine obB2 _ .append _ _ 44 44 rfl _ _ rfl rfl hap (hK _ _ ⟨hSk, ?_⟩)
                clear hK K' hap
                replace hS := hSk
                replace BB := BA
                clear hSk BA kp RE
                replace RX := RX2
                clear RX2 hne
                try simp only [Act.put, List.setIfInBounds_toArray]
                refine wpAnyH_all (rs := [5]) (by kernel_rfl) (by simp) (fun y hy => ?_)
                obtain rfl : y = 5 := by simpa using hy
                clear hy
                refine wpOp_step rfl (fun K' hK => ?_)
                obtain ⟨vG, wn8, hap, RG, kp⟩ := RF.appS RX BB.size (by simp [← hM.out]; omega)
                have BA : Below wb.heap.size wb wn8 := BB.trans (kp.below BB.size fun k hk => (RF.row.lt k hk).1)
                have hSk := KS.out _ BA
                have RI := rright_ok vG _ wn8 (rop_at RG.row).ro (by simp [← hM.out]; omega)
                obtain ⟨aG, cG, hG⟩ := RG.slice
                subst hG
                refine obB2 _ .append _ _ 44 44 rfl _ _ rfl rfl hap (hK _ _ ⟨hSk, ?_⟩)
                clear hK K' hap
                replace hS := hSk
                replace BB := BA
                clear hSk BA kp RF RX RG
                try simp only [Act.put]
                refine wpAnyH_all (rs := [6]) (by kernel_rfl) (by simp) (fun y hy => ?_)
                obtain rfl : y = 6 := by simpa using hy
                clear hy
                refine wpOp_step rfl (fun K' hK => ?_)
                refine obCall1g (k1 := 31) (d := 32) 48 _ rfl rfl _ _ _ _ (hcr _) rfl RI (fun e wn9 hR => ?_)
                obtain ⟨rfl, b9⟩ := hR
                have hSk := KS.out wn9 (BB.trans (b9.mono BB.size))
                refine ⟨_, rfl, hK _ _ ⟨hSk, ?_⟩⟩
                replace hS := hSk
                replace BB := BB.trans (b9.mono BB.size)
                clear hK K' b9 hSk RI
                try simp only [Act.put]
                refine obTakeH (i := 7) (d := 33) (v := .bool (!rightR (acc ++ [⟨A, A2, (B : Int)⟩]))) rfl rfl (by kernel_rfl) (by kernel_rfl) (by kernel_rfl) (fun _ _ _ h => h) rfl (fun w hS => by obtain ⟨s0, s1, s2⟩ := hS; go_simp) hS ?_
                try simp only [Act.put]
                refine wpAnyH_done (by kernel_rfl) ?_ 0
                have BF := BB
                clear BB
                generalize hcur : wn9 = wf at *
                clear hcur
                have L3 : Hid (w.heap.size ≤ wb.heap.size) := Z2.out.size
                have Z3 := Z2.out.trans (BF.mono Z2.out.size)
                have R3 := R2.out.keep BF
                obtain ⟨d0, d1, d2⟩ := KS.out wf BF
                clear hS KS RL BF L2
                cases hrt : rightR (acc ++ [⟨A, A2, (B : Int)⟩]) with
                | false =>
                  have E : Hid (wayL (toL s0) = .error 2) := by
                    unfold Hid
                    rw [EQ.out, if_pos hrt]
                  replace Z3 := Lib.hid Z3
                  clear R3 EQ hrt
                  go_wp2_with fail
                  go_ret2
                  exact ⟨.inr ⟨2, E.out, by decide, rfl⟩, Z3.out⟩
                | true =>
                  have EQ2 := EQ.out
                  rw [if_neg (by rw [hrt]; simp)] at EQ2
                  rw [← hM.out] at EQ2
                  by_cases h16 : M = 16
                  · rw [if_pos h16] at EQ2
                    have q16 : ((M : Int) == 16) = true := by rw [h16]; rfl
                    replace EQ2 := Lib.hid EQ2
                    replace Z3 := Lib.hid Z3
                    replace h16 := Lib.hid h16
                    clear R3 EQ hrt
                    go_wp2_with fail
                    go_ret2
                    exact ⟨.inr ⟨8, EQ2.out, by decide, rfl⟩, Z3.out⟩
                  · rw [if_neg h16] at EQ2
                    have q16 : ((M : Int) == 16) = false := by
                      have : ¬ (M : Int) = 16 := by omega
                      simpa using this
                    obtain ⟨v', w4', hap, row, kp⟩ := R3.app Z3.size (by omega) ⟨A, A2, (B : Int)⟩
                    have NX : Hid (RoK w w4' s0 g1 (s.extract 10 s.size) (acc ++ [⟨A, A2, (B : Int)⟩]) v') := ⟨EQ2, by
                      have h1 := z6.out
                      have h2 := zl.out
                      omega, by have := hM.out; rw [List.length_append]; simp; omega, row, Z3.trans (kp.below Z3.size fun _ h => h)⟩
                    obtain ⟨av', cv', hu'⟩ := row.slice
                    subst hu'
                    rw [← hM.out] at hap
                    replace hap := Lib.hid hap
                    have hg1 : g1 ≤ s0.size + 1 := by omega
                    have g10 : (10 : Int) ≤ (s.size : Int) := by omega
                    have g10n : 10 ≤ s.size := by omega
                    generalize (acc ++ [(⟨A, A2, (B : Int)⟩ : Ro)]).length = N2 at *
                    replace h16 := Lib.hid h16
                    clear R3 row kp EQ EQ2 Z3 hrt
                    go_wp2_with (refine obB2L _ rfl .append _ _ 44 44 rfl _ _ rfl rfl hap.out ?_)
                    go_roundg g1
                    case measure => omega
                    case rel => exact ⟨_, _, rfl, hg1, NX⟩
            · refine wpOp_step rfl (fun K' hK => ?_)
              have BA := BB.alloc BB.size (.cells #[.int .u32 (A : Int), .int .u32 (A2 : Int), .int .i64 (B : Int)] 54)
              have hSk := KS.out _ BA
              have RX := row_one wd A A2 (B : Int)
              go_simp
              refine hK _ _ ⟨hSk, ?_⟩
              clear hK K'
              replace hS := hSk
              replace BB := BA
              clear hSk BA
              have hXl : wd.heap.size < (wd.alloc (.cells #[.int .u32 (A : Int), .int .u32 (A2 : Int), .int .i64 (B : Int)] 54)).heap.size := by simp
              generalize wd.alloc (.cells #[.int .u32 (A : Int), .int .u32 (A2 : Int), .int .i64 (B : Int)] 54) = wn10 at *
              generalize wd.heap.size = KX at *
              try simp only [Act.put, List.setIfInBounds_toArray, List.set_cons_succ, List.set_cons_zero]
              refine wpAnyH_all (rs := [0]) (by kernel_rfl) (by simp) (fun y hy => ?_)
              obtain rfl : y = 0 := by simpa using hy
              clear hy
              refine wpOp_step rfl (fun K' hK => ?_)
              have BA := BB.alloc BB.size (.cells #[] 54)
              have hSk := KS.out _ BA
              have RE : RoR wb.heap.size (wn10.alloc (.cells #[] 54)) (.slice (some ⟨wn10.heap.size, 0, none⟩) 0 0) [] := ⟨⟨(ror_empty wn10).row.1, .inr ⟨wn10.heap.size, 0, #[], rfl, BB.size, heap_alloc_new _ _, Nat.le_refl _, Nat.zero_le _, rfl, rfl⟩⟩⟩
              have RX2 := RX.low ((Below.refl _ _).alloc (Nat.le_refl _) (.cells #[] 54))
              have hne : KX ≠ wn10.heap.size := Nat.ne_of_lt hXl
              go_simp
              refine hK _ _ ⟨hSk, ?_⟩
              clear hK K'
              replace hS := hSk
              replace BB := BA
              clear hSk BA
              replace RX := RX2
              clear RX2 hXl
              have hEl : wn10.heap.size < (wn10.alloc (.cells #[] 54)).heap.size := by simp
              generalize wn10.alloc (.cells #[] 54) = wn11 at *
              generalize wn10.heap.size = KE at *
              try simp only [Act.put, List.setIfInBounds_toArray, List.set_cons_succ, List.set_cons_zero]
              refine wpAnyH_all (rs := [2]) (by kernel_rfl) (by simp) (fun y hy => ?_)
              obtain rfl : y = 2 := by simpa using hy
              clear hy
              refine wpOp_step rfl (fun K' hK => ?_)
              obtain ⟨vF, wn12, hap, RF, kp⟩ := RE.appS (RL.out wn11 BB) BB.size (by simp [← hM.out]; omega)
              rw [List.nil_append] at RF
              have BA : Below wb.heap.size wb wn12 := BB.trans (kp.below BB.size fun k hk => (RE.row.lt k hk).1)
              have hSk := KS.out _ BA
              have hFl : ∀ k, vF.ownBlock = some k → k < wn12.heap.size := fun k hk => (RF.row.lt k hk).2
              have RX2 := RX.of kp.size (fun k hk hl => kp.block k hl (fun q => hne (by injection hk with hk; injection q with q; exact hk.trans q.symm)))
              refine obB2 _ .append _ _ 44 44 rfl _ _ rfl rfl hap (hK _ _ ⟨hSk, ?_⟩)
              clear hK K' hap
              replace hS := hSk
              replace BB := BA
              clear hSk BA kp RE
              replace RX := RX2
              clear RX2 hne
              try simp only [Act.put, List.setIfInBounds_toArray]
              refine wpAnyH_all (rs := [5]) (by kernel_rfl) (by simp) (fun y hy => ?_)
              obtain rfl : y = 5 := by simpa using hy
              clear hy
              refine wpOp_step rfl (fun K' hK => ?_)
              obtain ⟨vG, wn13, hap, RG, kp⟩ := RF.appS RX BB.size (by simp [← hM.out]; omega)
              have BA : Below wb.heap.size wb wn13 := BB.trans (kp.below BB.size fun k hk => (RF.row.lt k hk).1)
              have hSk := KS.out _ BA
              have RI := rright_ok vG _ wn13 (rop_at RG.row).ro (by simp [← hM.out]; omega)
              obtain ⟨aG, cG, hG⟩ := RG.slice
              subst hG
              refine obB2 _ .append _ _ 44 44 rfl _ _ rfl rfl hap (hK _ _ ⟨hSk, ?_⟩)
              clear hK K' hap
              replace hS := hSk
              replace BB := BA
              clear hSk BA kp RF RX RG
              try simp only [Act.put]
              refine wpAnyH_all (rs := [6]) (by kernel_rfl) (by simp) (fun y hy => ?_)
              obtain rfl : y = 6 := by simpa using hy
              clear hy
              refine wpOp_step rfl (fun K' hK => ?_)
              refine obCall1g (k1 := 31) (d := 32) 48 _ rfl rfl _ _ _ _ (hcr _) rfl RI (fun e wn14 hR => ?_)
              obtain ⟨rfl, b14⟩ := hR
              have hSk := KS.out wn14 (BB.trans (b14.mono BB.size))
              refine ⟨_, rfl, hK _ _ ⟨hSk, ?_⟩⟩
              replace hS := hSk
              replace BB := BB.trans (b14.mono BB.size)
              clear hK K' b14 hSk RI
              try simp only [Act.put]
              refine obTakeH (i := 7) (d := 33) (v := .bool (!rightR (acc ++ [⟨A, A2, (B : Int)⟩]))) rfl rfl (by kernel_rfl) (by kernel_rfl) (by kernel_rfl) (fun _ _ _ h => h) rfl (fun w hS => by obtain ⟨s0, s1, s2⟩ := hS; go_simp) hS ?_
              try simp only [Act.put]
              refine wpAnyH_done (by kernel_rfl) ?_ 0
              have BF := BB
              clear BB
              generalize hcur : wn14 = wf at *
              clear hcur
              have L3 : Hid (w.heap.size ≤ wb.heap.size) := Z2.out.size
              have Z3 := Z2.out.trans (BF.mono Z2.out.size)
              have R3 := R2.out.keep BF
              obtain ⟨d0, d1, d2⟩ := KS.out wf BF
              clear hS KS RL BF L2
              cases hrt : rightR (acc ++ [⟨A, A2, (B : Int)⟩]) with
              | false =>
                have E : Hid (wayL (toL s0) = .error 2) := by
                  unfold Hid
                  rw [EQ.out, if_pos hrt]
                replace Z3 := Lib.hid Z3
                clear R3 EQ hrt
                go_wp2_with fail
                go_ret2
                exact ⟨.inr ⟨2, E.out, by decide, rfl⟩, Z3.out⟩
              | true =>
                have EQ2 := EQ.out
                rw [if_neg (by rw [hrt]; simp)] at EQ2
                rw [← hM.out] at EQ2
                by_cases h16 : M = 16
                · rw [if_pos h16] at EQ2
                  have q16 : ((M : Int) == 16) = true := by rw [h16]; rfl
                  replace EQ2 := Lib.hid EQ2
                  replace Z3 := Lib.hid Z3
                  replace h16 := Lib.hid h16
                  clear R3 EQ hrt
                  go_wp2_with fail
                  go_ret2
                  exact ⟨.inr ⟨8, EQ2.out, by decide, rfl⟩, Z3.out⟩
                · rw [if_neg h16] at EQ2
                  have q16 : ((M : Int) == 16) = false := by
                    have : ¬ (M : Int) = 16 := by omega
                    simpa using this
                  obtain ⟨v', w4', hap, row, kp⟩ := R3.app Z3.size (by omega) ⟨A, A2, (B : Int)⟩
                  have NX : Hid (RoK w w4' s0 g1 (s.extract 10 s.size) (acc ++ [⟨A, A2, (B : Int)⟩]) v') := ⟨EQ2, by
                    have h1 := z6.out
                    have h2 := zl.out
                    omega, by have := hM.out; rw [List.length_append]; simp; omega, row, Z3.trans (kp.below Z3.size fun _ h => h)⟩
                  obtain ⟨av', cv', hu'⟩ := row.slice
                  subst hu'
                  rw [← hM.out] at hap
                  replace hap := Lib.hid hap
                  have hg1 : g1 ≤ s0.size + 1 := by omega
                  have g10 : (10 : Int) ≤ (s.size : Int) := by omega
                  have g10n : 10 ≤ s.size := by omega
                  generalize (acc ++ [(⟨A, A2, (B : Int)⟩ : Ro)]).length = N2 at *
                  replace h16 := Lib.hid h16
                  clear R3 row kp EQ EQ2 Z3 hrt
                  go_wp2_with (refine obB2L _ rfl .append _ _ 44 44 rfl _ _ rfl rfl hap.out ?_)
                  go_roundg g1
                  case measure => omega
                  case rel => exact ⟨_, _, rfl, hg1, NX⟩
      · rw [if_pos hc] at EQ
        have qc : ((c.toNat : Int) == 4) = false := by
          have h3 : c.toNat ≠ 4 := fun q => hc (UInt8.toNat_inj.1 q)
          have : ¬ (c.toNat : Int) = 4 := by omega
          simpa using this
        replace EQ := Lib.hid EQ
        replace zl := Lib.hid zl
        generalize acc.length = M at *
        clear X h2 hc
        go_wp2_with fail
        go_ret2
        exact ⟨.inr ⟨5, EQ.out, by decide, rfl⟩, ZZ.out⟩
end Go.Proofs.YtihkbakbciejiaaDoor
