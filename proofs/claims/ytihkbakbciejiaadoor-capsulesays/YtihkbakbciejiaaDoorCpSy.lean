/-
  What the law CapsuleSays answers. The table of sizes lies as the row's list gives it; no condition but the form's own reach.
-/
import Derived.Test.YtihkbakbciejiaaDoorCpSm
import Derived.Test.YtihkbakbciejiaaDoorCpAg
import Derived.Test.YtihkbakbciejiaaDoorCpWy
import Derived.Test.YtihkbakbciejiaaDoorCpAdrB
namespace Go.Proofs.YtihkbakbciejiaaDoor
set_option maxRecDepth 100000
open Go.RowKit Go.Sort

theorem AdP.appB {base : Nat} {w : World} {v : Value} {l : List Ad} (h : AdP base w v l) (hb : base ≤ w.heap.size) (hl : (l.length + 1) * 24 ≤ 140737488355328) (a : Ad) :
    ∃ v' w', (∀ z, (builtin .append #[45, 45] 45 z #[v, .slice (some ⟨w.heap.size, 0, none⟩) 1 1]).run Tryd.prog (w.alloc (.cells #[.int .i64 a.id, .int .u32 (a.addr : Int), .int .i64 a.bits] 51)) = .ok (.value v') w') ∧ AdP base w' v' (l ++ [a]) ∧ Kept (fun x => base ≤ x) w w' := by
  obtain ⟨i0, hi0, hz0, hz1, hz2⟩ := info_adp
  have bA : Below w.heap.size w (w.alloc (.cells #[.int .i64 a.id, .int .u32 (a.addr : Int), .int .i64 a.bits] 51)) := (Below.refl _ _).alloc (Nat.le_refl _) _
  have h2 := h.keep bA
  obtain ⟨v', w', hr, h3, h4, -, -⟩ := run_append_own_at (P := Tryd.prog) (w.alloc (.cells #[.int .i64 a.id, .int .u32 (a.addr : Int), .int .i64 a.bits] 51)) base 45 45 51 i0 (.agg #[.int .i64 0, .int .u32 0, .int .i64 0]) 3 24 Tryd.underlying45 hi0 hz0 hz1 hz2 (by decide) (by decide) v l.length (adv l) h2.row ⟨w.heap.size, 0, none⟩ 1 1 (adc a) rfl (fun j u hj => by
    rw [Addr.add_lit]
    exact (Lies.new w (adc a) 51).r j u hj) (fun x hx => by unfold adc at hx; simp only [List.mem_cons, List.not_mem_nil, or_false] at hx; rcases hx with rfl | rfl | rfl <;> rfl) (by unfold maxLen; omega) (by omega) (Nat.le_trans hb bA.size)
  have kp : Kept (fun x => base ≤ x) w w' := (Kept.of _ bA).grown h4 (fun k hk _ => (h2.row.lt k hk).1)
  exact ⟨v', w', fun z => by simp only [builtin, Sem.run_bind, Sem.run_pure, hr, Result.andThen_ok], ⟨by rw [adv_snoc, List.length_append]; exact h3⟩, kp⟩
theorem RoP.appB {base : Nat} {w : World} {v : Value} {l : List Ro} (h : RoP base w v l) (hb : base ≤ w.heap.size) (hl : (l.length + 1) * 16 ≤ 140737488355328) (a : Ro) :
    ∃ v' w', (∀ z, (builtin .append #[52, 52] 52 z #[v, .slice (some ⟨w.heap.size, 0, none⟩) 1 1]).run Tryd.prog (w.alloc (.cells #[.int .u32 (a.low : Int), .int .u32 (a.high : Int), .int .i64 a.pro] 55)) = .ok (.value v') w') ∧ RoP base w' v' (l ++ [a]) ∧ Kept (fun x => base ≤ x) w w' := by
  obtain ⟨i0, hi0, hz0, hz1, hz2⟩ := info_rop
  have bA : Below w.heap.size w (w.alloc (.cells #[.int .u32 (a.low : Int), .int .u32 (a.high : Int), .int .i64 a.pro] 55)) := (Below.refl _ _).alloc (Nat.le_refl _) _
  have h2 := h.keep bA
  obtain ⟨v', w', hr, h3, h4, -, -⟩ := run_append_own_at (P := Tryd.prog) (w.alloc (.cells #[.int .u32 (a.low : Int), .int .u32 (a.high : Int), .int .i64 a.pro] 55)) base 52 52 55 i0 (.agg #[.int .u32 0, .int .u32 0, .int .i64 0]) 3 16 Tryd.underlying52 hi0 hz0 hz1 hz2 (by decide) (by decide) v l.length (rov l) h2.row ⟨w.heap.size, 0, none⟩ 1 1 (roC a) rfl (fun j u hj => by
    rw [Addr.add_lit]
    exact (Lies.new w (roC a) 55).r j u hj) (fun x hx => by unfold roC at hx; simp only [List.mem_cons, List.not_mem_nil, or_false] at hx; rcases hx with rfl | rfl | rfl <;> rfl) (by unfold maxLen; omega) (by omega) (Nat.le_trans hb bA.size)
  have kp : Kept (fun x => base ≤ x) w w' := (Kept.of _ bA).grown h4 (fun k hk _ => (h2.row.lt k hk).1)
  exact ⟨v', w', fun z => by simp only [builtin, Sem.run_bind, Sem.run_pure, hr, Result.andThen_ok], ⟨by rw [rov_snoc, List.length_append]; exact h3⟩, kp⟩
def exE {X : Type} (r : Except Int X) : Int := match r with | .ok _ => 0 | .error x => x
def exL {X : Type} (r : Except Int (List X)) : List X := match r with | .ok l => l | .error _ => []
theorem row_nil {X : Type} {n : Nat} {cells : X → List Value} {x0 : X} (w : World) : RowAt n cells x0 w (.slice none 0 0) [] := ⟨none, 0, rfl, Nat.le_refl _, fun _ hk => absurd hk (Nat.not_lt_zero _)⟩
theorem AdPA.fix {s : ByteArray} {b : Nat} {e : Ending} {w' : World} (h : AdPA s b e w') : ∃ v, e = .returned (.tuple #[v, .int .i64 (exE (adrL (toL s)))]) ∧ RowAt 3 adc nA w' v (exL (adrL (toL s))) ∧ (exL (adrL (toL s))).length ≤ 16 := by
  rcases h with ⟨l, v, h1, h2, rfl, h3⟩ | ⟨x, h1, -, rfl⟩
  · rw [h1]
    exact ⟨v, rfl, adp_at h3.row, h2⟩
  · rw [h1]
    exact ⟨_, rfl, row_nil _, Nat.zero_le _⟩
theorem AdA.fix {s : ByteArray} {b : Nat} {e : Ending} {w' : World} (h : AdA s b e w') : ∃ v, e = .returned (.tuple #[v, .int .i64 (exE (adrL (toL s)))]) ∧ RowAt 3 adc nA w' v (exL (adrL (toL s))) := by
  rcases h with ⟨l, v, h1, h2, rfl, h3⟩ | ⟨x, h1, -, rfl⟩
  · rw [h1]
    exact ⟨v, rfl, adp_at h3.row⟩
  · rw [h1]
    exact ⟨_, rfl, row_nil _⟩
theorem RoPA.fix {s : ByteArray} {b : Nat} {e : Ending} {w' : World} (h : RoPA s b e w') : ∃ v, e = .returned (.tuple #[v, .int .i64 (exE (wayL (toL s)))]) ∧ RowAt 3 roC nR w' v (exL (wayL (toL s))) ∧ (exL (wayL (toL s))).length ≤ 16 := by
  rcases h with ⟨l, v, h1, h2, rfl, h3⟩ | ⟨x, h1, -, rfl⟩
  · rw [h1]
    exact ⟨v, rfl, rop_at h3.row, h2⟩
  · rw [h1]
    exact ⟨_, rfl, row_nil _, Nat.zero_le _⟩
theorem RoRA.fix {s : ByteArray} {b : Nat} {e : Ending} {w' : World} (h : RoRA s b e w') : ∃ v, e = .returned (.tuple #[v, .int .i64 (exE (wayL (toL s)))]) ∧ RowAt 3 roC nR w' v (exL (wayL (toL s))) := by
  rcases h with ⟨l, v, h1, h2, rfl, h3⟩ | ⟨x, h1, -, rfl⟩
  · rw [h1]
    exact ⟨v, rfl, rop_at h3.row⟩
  · rw [h1]
    exact ⟨_, rfl, row_nil _⟩
theorem RowAt.sl {X : Type} {n : Nat} {cells : X → List Value} {x0 : X} {w : World} {v : Value} {l : List X} (h : RowAt n cells x0 w v l) : ∃ a m c, v = .slice a m c := by
  obtain ⟨a, cap, rfl, -⟩ := h
  exact ⟨_, _, _, rfl⟩
theorem telV_is (l : List Ro) : ∃ (U : ByteArray) (G : Int), telV l = .tuple #[.string U, .int .i64 G] := by
  unfold telV
  split
  · exact ⟨_, _, rfl⟩
  · exact ⟨_, _, rfl⟩
theorem grmV_is (a b : Int) (d : L) : ∃ (U : ByteArray) (G : Int), grmV a b d = .tuple #[.string U, .int .i64 G] := by
  unfold grmV
  split
  · exact ⟨_, _, rfl⟩
  · exact ⟨_, _, rfl⟩
theorem opnV_is (s : L) : ∃ (a b : Int) (U : ByteArray) (G : Int), opnV s = .tuple #[.int .i64 a, .int .i64 b, .string U, .int .i64 G] := by
  unfold opnV
  split
  · exact ⟨_, _, _, _, rfl⟩
  · exact ⟨_, _, _, _, rfl⟩
structure Y1 (w wr : World) (qv : Value) (l : List Ad) (i : Nat) : Prop where
  row : AdP w.heap.size wr qv (l.take i)
  bel : Below w.heap.size w wr
/-- The routes so far, beside the addresses: these lie below the world v. -/
structure Y2 (w v wr : World) (qv : Value) (l2 : List Ro) (i : Nat) : Prop where
  row : RoP v.heap.size wr qv (l2.take i)
  bel : Below v.heap.size v wr
set_option maxHeartbeats 64000000 in
theorem says16_ok (l1 : List Ad) (l2 : List Ro) (v1 v2 : Value) (S : ByteArray) (st cx : Int) (w : World) (t : VTab w) (h1 : RowAt 3 adc nA w v1 l1) (hb1 : l1.length * 24 ≤ 140737488351232 ∧ ∀ x ∈ l1, AdB x) (h2 : RowAt 3 roC nR w v2 l2) (hb2 : l2.length * 16 ≤ 140737488351232 ∧ ∀ x ∈ l2, RoB x) (hs : S.size ≤ 140737488351232) :
    Calls Tryd.prog 4 #[v1, v2, .string S, .int .i64 st, .int .i64 cx] w fun e w' => e = .returned (.bool true) ∧ Below w.heap.size w w' := by
  have T0 := Lib.hid t
  have HA : Hid (∀ x ∈ l1, x.addr < 4294967296) := fun x hx => (hb1.2 x hx).addr
  have HR : Hid (∀ x ∈ l2, x.low < 4294967296 ∧ x.high < 4294967296) := fun x hx => ⟨(hb2.2 x hx).low, (hb2.2 x hx).high⟩
  have hl1 := hb1.1
  have hl2 := hb2.1
  have H1 := Lib.hid h1
  have H2 := Lib.hid h2
  clear hb1 hb2 t
  obtain ⟨a1, cap1, rfl, hc1, cc1⟩ := h1
  obtain ⟨a2, cap2, rfl, hc2, cc2⟩ := h2
  obtain ⟨n1, hn1⟩ : ∃ n, n = l1.length := ⟨_, rfl⟩
  obtain ⟨n2, hn2⟩ : ∃ n, n = l2.length := ⟨_, rfl⟩
  have C1 := Lib.hid cc1
  have C2 := Lib.hid cc2
  rw [← hn1] at C1 hl1 hc1 H1 ⊢
  rw [← hn2] at C2 hl2 hc2 H2 ⊢
  replace hn1 := Lib.hid hn1
  replace hn2 := Lib.hid hn2
  clear cc1 cc2
  have Q0 : Hid (Y1 w w (.slice none 0 0) l1 0) := ⟨by rw [List.take_zero]; exact AdP.nil _ _, Below.refl _ _⟩
  go_enter Tryd.func4, Tryd.ntmps4
  go_wp2_with fail
  go_loopg [11, 12] n1 (fun gg qv iv wr => ∃ j : Nat, j + gg = n1 ∧ iv = .int .i64 (j : Int) ∧ Hid (Y1 w wr qv l1 j))
  case atStart => exact ⟨0, by omega, rfl, Q0⟩
  case round =>
    clear Q0
    obtain ⟨j, hj, rfl, Y⟩ := hrel
    have jl : j ≤ l1.length := by have := hn1.out; omega
    have tl : (l1.take j).length = j := by rw [List.length_take]; omega
    obtain ⟨aq, cq, hq⟩ := Y.out.row.slice
    rw [tl] at hq
    subst hq
    by_cases hin : j < n1
    · have il : j < l1.length := by have := hn1.out; omega
      obtain ⟨g, o, rfl, hgw, cs⟩ := C1.out j hin
      have tk := take_next l1 nA j il
      obtain ⟨x, hx⟩ : ∃ x, x = l1.getD j nA := ⟨_, rfl⟩
      rw [← hx] at cs tk
      obtain ⟨id, ad, bi⟩ := x
      have ia := fun w' => at_rad g o n1 cap1 j w' hin (j : Int) rfl (o + 3 * j) rfl
      have k0 : wr.cell? ⟨g, o + 3 * j, none⟩ = some (.int .i64 id) := (Y.out.bel.cell hgw).trans (cs 0 (by decide))
      have k1 : wr.cell? ⟨g, o + 3 * j + 1, none⟩ = some (.int .u32 (ad : Int)) := (Y.out.bel.cell hgw).trans (cs 1 (by decide))
      have k2 : wr.cell? ⟨g, o + 3 * j + 2, none⟩ = some (.int .i64 bi) := (Y.out.bel.cell hgw).trans (cs 2 (by decide))
      have RD : AdP w.heap.size wr.drew (.slice aq j cq) (l1.take j) := Y.out.row.of fun _ _ => rfl
      have ZD : Below w.heap.size w wr.drew := Y.out.bel.trans (drewB _ _)
      obtain ⟨v', w4', hap, row, kp⟩ := RD.appB ZD.size (by rw [tl]; omega) ⟨id, ad, bi⟩
      rw [← tk] at row
      have NX : Hid (Y1 w w4' v' l1 (j + 1)) := ⟨row, ZD.trans (kp.below ZD.size fun _ h => h)⟩
      obtain ⟨a3, c3, hv3⟩ := row.slice
      have tl2 : (l1.take (j + 1)).length = j + 1 := by rw [List.length_take]; omega
      rw [tl2] at hv3
      subst hv3
      have hapd : Hid (∀ z, (builtin .append #[45, 45] 45 z #[.slice aq j cq, .slice (some ⟨wr.heap.size, 0, none⟩) 1 1]).run Tryd.prog (wr.alloc (.cells #[.int .i64 id, .int .u32 (ad : Int), .int .i64 bi] 51)).drew = .ok (.value (.slice a3 (j + 1) c3)) w4') := hap
      replace tl := Lib.hid tl
      replace tl2 := Lib.hid tl2
      clear cs hx Y tk row kp RD ZD hap C1 C2 HA HR H1 H2
      go_upto_region 5 with fail
      go_region_law (refine obB2S rfl .append _ _ 45 45 rfl _ _ (by simp [Act.eval]) (by simp [Act.eval]) hapd.out ?_)
      all_goals
        go_wp2_with fail
        go_roundg (n1 - (j + 1))
        case measure => omega
        case rel => exact ⟨j + 1, by omega, by simp, NX⟩
    · have eT : l1.take j = l1 := List.take_of_length_le (by have := hn1.out; omega)
      have PR0 := Y.out.row
      rw [eT] at PR0
      have PR := Lib.hid PR0
      have ZP := Lib.hid Y.out.bel
      have hjn : j = n1 := by omega
      have qn : decide ((j : Int) < (n1 : Int)) = false := decide_eq_false (by omega)
      obtain ⟨wp, hwp⟩ : ∃ wp, wp = wr := ⟨_, rfl⟩
      rw [← hwp] at PR ZP ⊢
      have Q0 : Hid (Y2 w wp wp (.slice none 0 0) l2 0) := ⟨by rw [List.take_zero]; exact RoP.nil _ _, Below.refl _ _⟩
      clear hwp
      replace hjn := Lib.hid hjn
      replace tl := Lib.hid tl
      clear C1 eT PR0 Y
      go_wp2_with fail
      go_loopg [13, 14] n2 (fun gg qv iv wr => ∃ m : Nat, m + gg = n2 ∧ iv = .int .i64 (m : Int) ∧ Hid (Y2 w wp wr qv l2 m))
      case atStart => exact ⟨0, by omega, rfl, Q0⟩
      case round =>
        clear Q0
        obtain ⟨m, hm, rfl, V⟩ := hrel
        have ml : m ≤ l2.length := by have := hn2.out; omega
        have tm : (l2.take m).length = m := by rw [List.length_take]; omega
        obtain ⟨ar, cr, hq⟩ := V.out.row.slice
        rw [tm] at hq
        subst hq
        by_cases hin : m < n2
        · have il : m < l2.length := by have := hn2.out; omega
          obtain ⟨g, o, rfl, hgw, cs⟩ := C2.out m hin
          have tk := take_next l2 nR m il
          obtain ⟨x, hx⟩ : ∃ x, x = l2.getD m nR := ⟨_, rfl⟩
          rw [← hx] at cs tk
          obtain ⟨lo, hh, pr⟩ := x
          have ia := fun w' => at_ro g o n2 cap2 m w' hin (m : Int) rfl (o + 3 * m) rfl
          have bw : Below w.heap.size w wr := ZP.out.trans (V.out.bel.mono ZP.out.size)
          have k0 : wr.cell? ⟨g, o + 3 * m, none⟩ = some (.int .u32 (lo : Int)) := (bw.cell hgw).trans (cs 0 (by decide))
          have k1 : wr.cell? ⟨g, o + 3 * m + 1, none⟩ = some (.int .u32 (hh : Int)) := (bw.cell hgw).trans (cs 1 (by decide))
          have k2 : wr.cell? ⟨g, o + 3 * m + 2, none⟩ = some (.int .i64 pr) := (bw.cell hgw).trans (cs 2 (by decide))
          have RD : RoP wp.heap.size wr.drew (.slice ar m cr) (l2.take m) := V.out.row.of fun _ _ => rfl
          have ZD : Below wp.heap.size wp wr.drew := V.out.bel.trans (drewB _ _)
          obtain ⟨v', w4', hap, row, kp⟩ := RD.appB ZD.size (by rw [tm]; omega) ⟨lo, hh, pr⟩
          rw [← tk] at row
          have NX : Hid (Y2 w wp w4' v' l2 (m + 1)) := ⟨row, ZD.trans (kp.below ZD.size fun _ h => h)⟩
          obtain ⟨a4, c4, hv4⟩ := row.slice
          have tm2 : (l2.take (m + 1)).length = m + 1 := by rw [List.length_take]; omega
          rw [tm2] at hv4
          subst hv4
          have hapd : Hid (∀ z, (builtin .append #[52, 52] 52 z #[.slice ar m cr, .slice (some ⟨wr.heap.size, 0, none⟩) 1 1]).run Tryd.prog (wr.alloc (.cells #[.int .u32 (lo : Int), .int .u32 (hh : Int), .int .i64 pr] 55)).drew = .ok (.value (.slice a4 (m + 1) c4)) w4') := hap
          replace tm := Lib.hid tm
          replace tm2 := Lib.hid tm2
          clear cs hx V tk row kp RD ZD hap C2 HR HA H1 H2 bw PR
          go_upto_region 10 with fail
          go_region_law (refine obB2S rfl .append _ _ 52 52 rfl _ _ (by simp [Act.eval]) (by simp [Act.eval]) hapd.out ?_)
          all_goals
            go_wp2_with fail
            go_roundg (n2 - (m + 1))
            case measure => omega
            case rel => exact ⟨m + 1, by omega, by simp, NX⟩
        · have eT : l2.take m = l2 := List.take_of_length_le (by have := hn2.out; omega)
          have QR0 := V.out.row
          rw [eT] at QR0
          have Z0 := Lib.hid (ZP.out.trans (V.out.bel.mono ZP.out.size))
          have PW : Hid (∀ w', Below wr.heap.size wr w' → RowAt 3 adc nA w' (.slice aq j cq) l1) := fun w' b => (adp_at PR.out.row).low (V.out.bel.trans (b.mono V.out.bel.size))
          have QW : Hid (∀ w', Below wr.heap.size wr w' → RowAt 3 roC nR w' (.slice ar m cr) l2) := fun w' b => (rop_at QR0.row).low b
          have NW : Hid (∀ w', Below wr.heap.size wr w' → Below w.heap.size w w') := fun w' b => Z0.out.trans (b.mono Z0.out.size)
          have qn : decide ((m : Int) < (n2 : Int)) = false := decide_eq_false (by omega)
          have AP : Hid (∀ w', VTab w' → _) := fun w' t' => padrs_ok S w' t' (by omega)
          have AR : Hid (∀ w', _) := fun w' => raddr_ok S w' (by omega)
          have WP : Hid (∀ w', _) := fun w' => pways_ok S w' (by omega)
          have WR : Hid (∀ w', _) := fun w' => rways16_ok S w' (by omega)
          have TP : Hid (∀ w', RowAt 3 roC nR w' (.slice ar m cr) l2 → _) := fun w' h => ptel_ok (.slice ar m cr) l2 w' h (by have := hn2.out; omega) HR.out
          have TR : Hid (∀ w', RowAt 3 roC nR w' (.slice a2 n2 cap2) l2 → _) := fun w' h => rtel16_ok (.slice a2 n2 cap2) l2 w' h (by have := hn2.out; omega) HR.out
          have GP : Hid (∀ w', VTab w' → RowAt 3 adc nA w' (.slice aq j cq) l1 → _) := fun w' t' h => pasg_ok (.slice aq j cq) l1 w' t' h (by have := hn1.out; omega) HA.out
          have GR : Hid (∀ w', RowAt 3 adc nA w' (.slice a1 n1 cap1) l1 → _) := fun w' h => rasg16_ok (.slice a1 n1 cap1) l1 w' h (by have := hn1.out; omega) HA.out
          have MP : Hid (∀ w', VTab w' → _) := fun w' t' => pgrm_ok st cx S w' t' (by omega)
          have MR : Hid (∀ w', _) := fun w' => rgrm_ok st cx S w' (by omega)
          have OP : Hid (∀ w', VTab w' → _) := fun w' t' => popn_ok S w' t' (by omega)
          have OR : Hid (∀ w', _) := fun w' => ropn_ok S w' (by omega)
          obtain ⟨U1, G1, e1⟩ := telV_is l2
          obtain ⟨U2, G2, e2⟩ := grmV_is st cx (toL S)
          obtain ⟨o1, o2, U3, G3, e3⟩ := opnV_is (toL S)
          rw [e1] at TP TR
          rw [e2] at MP MR
          rw [e3] at OP OR
          generalize strL (asgL l1) = U4 at *
          have EA : Hid (∃ E L, E = exE (adrL (toL S)) ∧ L = exL (adrL (toL S))) := ⟨_, _, rfl, rfl⟩
          replace tm := Lib.hid tm
          clear V e1 e2 e3 QR0 C2 HR HA ZP PR eT EA
          have ZB : Hid (Below wr.heap.size wr wr) := Below.refl _ _
          go_wp2_with fail
          refine (AP.out wr (T0.out.below Z0.out)).mono ?_
          rintro e w1 ⟨hA1, b1⟩
          obtain ⟨va, rfl, ra, la⟩ := hA1.fix
          have Z1 := Lib.hid (ZB.out.trans (b1.mono ZB.out.size))
          have RA1 := Lib.hid ra
          obtain ⟨xa, xm, xc, rfl⟩ := ra.sl
          replace la := Lib.hid la
          clear hA1 b1 AP ra ZB
          go_wp2_with fail
          refine (AR.out w1).mono ?_
          rintro e w2 ⟨hA2, b2⟩
          obtain ⟨vb, rfl, rb⟩ := hA2.fix
          have Z2 := Lib.hid (Z1.out.trans (b2.mono Z1.out.size))
          have RA2 := Lib.hid (RA1.out.low b2)
          have RB2 := Lib.hid rb
          obtain ⟨ya, ym, yc, rfl⟩ := rb.sl
          generalize exE (adrL (toL S)) = E1 at *
          generalize exL (adrL (toL S)) = LA at *
          clear hA2 b2 AR rb RA1 Z1
          go_wp2_with fail
          refine (WP.out w2).mono ?_
          rintro e w3 ⟨hA3, b3⟩
          obtain ⟨vc, rfl, rc, lc⟩ := hA3.fix
          have Z3 := Lib.hid (Z2.out.trans (b3.mono Z2.out.size))
          have RA3 := Lib.hid (RA2.out.low b3)
          have RB3 := Lib.hid (RB2.out.low b3)
          have RC3 := Lib.hid rc
          obtain ⟨za, zm, zc, rfl⟩ := rc.sl
          replace lc := Lib.hid lc
          clear hA3 b3 WP rc RA2 RB2 Z2
          go_wp2_with fail
          refine (WR.out w3).mono ?_
          rintro e w4 ⟨hA4, b4⟩
          obtain ⟨vd, rfl, rd⟩ := hA4.fix
          have Z4 := Lib.hid (Z3.out.trans (b4.mono Z3.out.size))
          have RA4 := Lib.hid (RA3.out.low b4)
          have RB4 := Lib.hid (RB3.out.low b4)
          have RC4 := Lib.hid (RC3.out.low b4)
          have RD4 := Lib.hid rd
          obtain ⟨ua, um, uc, rfl⟩ := rd.sl
          generalize exE (wayL (toL S)) = E2 at *
          generalize exL (wayL (toL S)) = LB at *
          clear hA4 b4 WR rd RA3 RB3 RC3 Z3
          go_wp2_with fail
          refine (TP.out w4 (QW.out w4 Z4.out)).mono ?_
          rintro e w5 ⟨rfl, b5⟩
          have Z5 := Lib.hid (Z4.out.trans (b5.mono Z4.out.size))
          have RA5 := Lib.hid (RA4.out.low b5)
          have RB5 := Lib.hid (RB4.out.low b5)
          have RC5 := Lib.hid (RC4.out.low b5)
          have RD5 := Lib.hid (RD4.out.low b5)
          clear b5 TP RA4 RB4 RC4 RD4 Z4
          go_wp2_with fail
          refine (TR.out w5 (H2.out.low (NW.out w5 Z5.out))).mono ?_
          rintro e w6 ⟨rfl, b6⟩
          have Z6 := Lib.hid (Z5.out.trans (b6.mono Z5.out.size))
          have RC6 := Lib.hid (RC5.out.low b6)
          have RD6 := Lib.hid (RD5.out.low b6)
          have SA := Lib.hid (sameA_ok _ _ LA w6 (RA5.out.low b6) (RB5.out.low b6) (by have := la.out; omega))
          clear b6 TR RA5 RB5 RC5 RD5 Z5
          go_wp2_with fail
          refine SA.out.mono ?_
          rintro e w7 ⟨rfl, b7⟩
          have Z7 := Lib.hid (Z6.out.trans (b7.mono Z6.out.size))
          have SB := Lib.hid (sameR_ok _ _ LB w7 (RC6.out.low b7) (RD6.out.low b7) (by have := lc.out; omega))
          clear b7 SA RC6 RD6 Z6
          go_wp2_with fail
          refine SB.out.mono ?_
          rintro e w8 ⟨rfl, b8⟩
          have Z8 := Lib.hid (Z7.out.trans (b8.mono Z7.out.size))
          clear b8 SB Z7
          go_wp2_with fail
          refine (GP.out w8 (T0.out.below (NW.out w8 Z8.out)) (PW.out w8 Z8.out)).mono ?_
          rintro e w9 ⟨rfl, b9⟩
          have Z9 := Lib.hid (Z8.out.trans (b9.mono Z8.out.size))
          clear b9 GP Z8
          go_wp2_with fail
          refine (GR.out w9 (H1.out.low (NW.out w9 Z9.out))).mono ?_
          rintro e w10 ⟨rfl, b10⟩
          have Z10 := Lib.hid (Z9.out.trans (b10.mono Z9.out.size))
          clear b10 GR Z9
          go_wp2_with fail
          refine (MP.out w10 (T0.out.below (NW.out w10 Z10.out))).mono ?_
          rintro e w11 ⟨rfl, b11⟩
          have Z11 := Lib.hid (Z10.out.trans (b11.mono Z10.out.size))
          clear b11 MP Z10
          go_wp2_with fail
          refine (MR.out w11).mono ?_
          rintro e w12 ⟨rfl, b12⟩
          have Z12 := Lib.hid (Z11.out.trans (b12.mono Z11.out.size))
          clear b12 MR Z11
          go_wp2_with fail
          refine (OP.out w12 (T0.out.below (NW.out w12 Z12.out))).mono ?_
          rintro e w13 ⟨rfl, b13⟩
          have Z13 := Lib.hid (Z12.out.trans (b13.mono Z12.out.size))
          clear b13 OP Z12
          go_wp2_with fail
          refine (OR.out w13).mono ?_
          rintro e w14 ⟨rfl, b14⟩
          have Z14 := Lib.hid (NW.out w14 (Z13.out.trans (b14.mono Z13.out.size)))
          clear b14 OR Z13
          go_wp2_with fail
          go_ret
          exact ⟨rfl, Z14.out⟩
end Go.Proofs.YtihkbakbciejiaaDoor
