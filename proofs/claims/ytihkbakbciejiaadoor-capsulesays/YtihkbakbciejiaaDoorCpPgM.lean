/-
  What the program's own Addresses answers. The table of sizes lies as the row's list gives it; no condition but the form's own reach.
-/
import Derived.Test.YtihkbakbciejiaaDoorCpPgL
namespace Go.Proofs.YtihkbakbciejiaaDoor
set_option maxRecDepth 100000
open Go.RowKit

theorem info_adp : ∃ i, Tryd.prog.info? 51 = some i ∧ i.zero = some (.agg #[.int .i64 0, .int .u32 0, .int .i64 0]) ∧ i.size = 3 ∧ i.bytes = 24 := by
  have h : (Tryd.prog.info? 51).map (fun i => (i.zero, i.size, i.bytes)) = some (some (.agg #[.int .i64 0, .int .u32 0, .int .i64 0]), 3, 24) := by kernel_rfl
  obtain ⟨i, hi, e⟩ := Option.map_eq_some_iff.1 h
  injection e with e1 e2
  injection e2 with e2 e3
  exact ⟨i, hi, e1, e2, e3⟩
/-- Addresses that the call itself has made. -/
structure AdP (base : Nat) (w : World) (v : Value) (l : List Ad) : Prop where
  row : w.ownsRow base 51 3 v l.length (adv l)
theorem AdP.nil (base : Nat) (w : World) : AdP base w (.slice none 0 0) [] := ⟨World.ownsRow_nil _ _ _ _⟩
theorem AdP.of {base : Nat} {w w' : World} {v : Value} {l : List Ad} (h : AdP base w v l) (b : ∀ k, v.ownBlock = some k → w'.heap[k]? = w.heap[k]?) : AdP base w' v l := ⟨rows_blockC h.row b⟩
theorem AdP.keep {base : Nat} {w w' : World} {v : Value} {l : List Ad} (h : AdP base w v l) (b : Below w.heap.size w w') : AdP base w' v l := h.of fun k hk => b.block k (h.row.lt k hk).2
theorem AdP.slice {base : Nat} {w : World} {v : Value} {l : List Ad} (h : AdP base w v l) : ∃ a c, v = .slice a l.length c := by
  rcases h.row.2 with ⟨rfl, e⟩ | ⟨g, cap, cur, rfl, -⟩
  · exact ⟨_, _, by rw [e]⟩
  · exact ⟨_, _, rfl⟩
theorem AdP.app {base : Nat} {w : World} {v : Value} {l : List Ad} (h : AdP base w v l) (hb : base ≤ w.heap.size) (hl : l.length < 1000000000) (a : Ad) :
    ∃ v' w', (∀ z, (builtin .append #[45, 45] 45 z #[v, .slice (some ⟨w.heap.size, 0, none⟩) 1 1]).run Tryd.prog (w.alloc (.cells #[.int .i64 a.id, .int .u32 (a.addr : Int), .int .i64 a.bits] 51)) = .ok (.value v') w') ∧ AdP base w' v' (l ++ [a]) ∧ Kept (fun x => base ≤ x) w w' := by
  obtain ⟨i0, hi0, hz0, hz1, hz2⟩ := info_adp
  have bA : Below w.heap.size w (w.alloc (.cells #[.int .i64 a.id, .int .u32 (a.addr : Int), .int .i64 a.bits] 51)) := (Below.refl _ _).alloc (Nat.le_refl _) _
  have h2 := h.keep bA
  obtain ⟨v', w', hr, h3, h4, -, -⟩ := run_append_own_at (P := Tryd.prog) (w.alloc (.cells #[.int .i64 a.id, .int .u32 (a.addr : Int), .int .i64 a.bits] 51)) base 45 45 51 i0 (.agg #[.int .i64 0, .int .u32 0, .int .i64 0]) 3 24 Tryd.underlying45 hi0 hz0 hz1 hz2 (by decide) (by decide) v l.length (adv l) h2.row ⟨w.heap.size, 0, none⟩ 1 1 (adc a) rfl (fun j u hj => by
    rw [Addr.add_lit]
    exact (Lies.new w (adc a) 51).r j u hj) (fun x hx => by unfold adc at hx; simp only [List.mem_cons, List.not_mem_nil, or_false] at hx; rcases hx with rfl | rfl | rfl <;> rfl) (by unfold maxLen; omega) (by omega) (Nat.le_trans hb bA.size)
  have kp : Kept (fun x => base ≤ x) w w' := (Kept.of _ bA).grown h4 (fun k hk _ => (h2.row.lt k hk).1)
  exact ⟨v', w', fun z => by simp only [builtin, Sem.run_bind, Sem.run_pure, hr, Result.andThen_ok], ⟨by rw [adv_snoc, List.length_append]; exact h3⟩, kp⟩
/-- What Addresses answers. -/
def AdPA (s : ByteArray) (base : Nat) (e : Ending) (w' : World) : Prop :=
  (∃ l v, adrL (toL s) = .ok l ∧ l.length ≤ 16 ∧ e = .returned (.tuple #[v, .int .i64 0]) ∧ AdP base w' v l) ∨ (∃ x : Int, adrL (toL s) = .error x ∧ x ≠ 0 ∧ e = .returned (.tuple #[.slice none 0 0, .int .i64 x]))
/-- The addresses so far. -/
structure AdJ (w wr : World) (s0 : ByteArray) (g : Nat) (s : ByteArray) (acc : List Ad) (lv : Value) : Prop where
  eq : adrL (toL s0) = adrN g acc (toL s)
  len : s.size < g
  few : acc.length ≤ 16
  row : AdP w.heap.size wr lv acc
  bel : Below w.heap.size w wr
set_option maxHeartbeats 8000000 in
theorem prladr_ok (s0 : ByteArray) (w : World) (t : VTab w) (hs : s0.size ≤ 4611686018427387903) :
    Calls Tryd.prog 40 #[.string s0, .func (.func 41) #[] #[], .func (.func 42) #[] #[]] w fun e w' => AdPA s0 w.heap.size e w' ∧ Below w.heap.size w w' := by
  have P0 : Hid (AdJ w w s0 (s0.size + 1) s0 [] (.slice none 0 0)) := ⟨by unfold adrL; rw [toL_len], Nat.lt_succ_self _, by simp, AdP.nil _ _, Below.refl _ _⟩
  have T0 := Lib.hid t
  clear t
  go_enter Tryd.func40, Tryd.ntmps40
  go_wp2_with fail
  go_loopg [0, 8] (s0.size + 1) (fun g sv lv wr => ∃ (s : ByteArray) (acc : List Ad), sv = .string s ∧ g ≤ s0.size + 1 ∧ Hid (AdJ w wr s0 g s acc lv))
  case atStart => exact ⟨s0, [], rfl, Nat.le_refl _, P0⟩
  case round =>
    obtain ⟨s, acc, rfl, hg, X⟩ := hrel
    clear P0
    have hlen := X.out.len
    obtain ⟨g1, rfl⟩ : ∃ g1, gk = g1 + 1 := ⟨gk - 1, by omega⟩
    have EQ := Lib.hid X.out.eq
    obtain ⟨av, cv, hu⟩ := X.out.row.slice
    subst hu
    by_cases h0 : toL s = []
    · have hz : s = ⟨#[]⟩ := toL_inj (by rw [h0]; rfl)
      have EQ2 : Hid (adrL (toL s0) = .ok acc) := by
        unfold Hid
        rw [EQ.out, h0]
        rfl
      subst hz
      have OO := Lib.hid X.out.row
      have FW := Lib.hid X.out.few
      have ZZ := Lib.hid X.out.bel
      have AN : Hid (AdPA s0 w.heap.size (.returned (.tuple #[.slice av acc.length cv, .int .i64 0])) wr) := .inl ⟨acc, _, EQ2.out, FW.out, rfl, OO.out⟩
      generalize acc.length = M at *
      clear X h0 EQ EQ2 OO FW
      go_wp2_with fail
      go_ret2
      exact ⟨AN.out, ZZ.out⟩
    · have n0 : s.toList.isEmpty = false := by
        rw [toL_empC]
        cases hx : toL s with
        | nil => exact absurd hx h0
        | cons _ _ => rfl
      have EQ1 := EQ.out
      rw [adr_step _ _ _ h0] at EQ1
      have TA : Hid (∀ _ : Unit, _) := fun _ => ptadr_ok s wr (T0.out.below X.out.bel) (by omega)
      have RW := Lib.hid X.out.row
      have ZB := Lib.hid X.out.bel
      have FW := X.out.few
      replace EQ1 := Lib.hid EQ1
      clear X EQ
      go_wp2_with fail
      refine (TA.out ()).mono ?_
      rintro e w1 ⟨hA, b1⟩
      have R1 := RW.out.keep b1
      have Z1 := ZB.out.trans (b1.mono ZB.out.size)
      clear TA RW ZB b1
      rcases hA with ⟨⟨id, ad, bi⟩, r, hk, hrs, hb1, hb2, rfl⟩ | ⟨x, hk, hx, rfl⟩
      · have EQ2 := EQ1.out
        rw [hk] at EQ2
        simp only at EQ2
        have LB : Lies (w1.alloc (.cells #[.int .i64 id, .int .u32 (ad : Int), .int .i64 bi] 51)) w1.heap.size [.int .i64 id, .int .u32 (ad : Int), .int .i64 bi] := Lies.new w1 [.int .i64 id, .int .u32 (ad : Int), .int .i64 bi] 51
        have bB : Below w1.heap.size w1 (w1.alloc (.cells #[.int .i64 id, .int .u32 (ad : Int), .int .i64 bi] 51)) := (Below.refl _ _).alloc (Nat.le_refl _) _
        obtain ⟨wb, hwb⟩ : ∃ wb, wb = w1.alloc (.cells #[.int .i64 id, .int .u32 (ad : Int), .int .i64 bi] 51) := ⟨_, rfl⟩
        rw [← hwb] at LB bB
        have R2 := R1.keep bB
        have Z2 := Z1.trans (bB.mono Z1.size)
        have c0 := LB.cell 0 (v := .int .i64 id) rfl
        have c1 := LB.cell 1 (v := .int .u32 (ad : Int)) rfl
        have c2 := LB.cell 2 (v := .int .i64 bi) rfl
        have FT : Hid (∀ _ : Unit, _) := fun _ => pafit_ok (.slice av acc.length cv) id (ad : Int) bi wb (by omega) (by have : ad < 4294967296 := hb1; omega)
        replace LB := Lib.hid LB
        replace R2 := Lib.hid R2
        replace Z2 := Lib.hid Z2
        clear EQ1 hk R1 Z1 bB
        go_upto_region 4 with fail
        rw [← hwb]
        clear hwb
        generalize w1.heap.size = KB at *
        go_wp2_with fail
        refine (FT.out ()).mono ?_
        rintro e w2 ⟨rfl, b2⟩
        have LB2 := LB.out.keep (by show 0 < 3; decide) b2
        have R3 := R2.out.keep b2
        have Z3 := Z2.out.trans (b2.mono Z2.out.size)
        have d0 := LB2.cell 0 (v := .int .i64 id) rfl
        have d1 := LB2.cell 1 (v := .int .u32 (ad : Int)) rfl
        have d2 := LB2.cell 2 (v := .int .i64 bi) rfl
        clear FT b2 LB R2 Z2 LB2 c0 c1 c2
        cases hrt : rt (ad : Int) bi with
        | false =>
          have EQ3 : Hid (adrL (toL s0) = .error 2) := by
            unfold Hid
            rw [EQ2, if_pos (show adRt ⟨id, ad, bi⟩ = false from hrt)]
          replace Z3 := Lib.hid Z3
          generalize acc.length = M at *
          clear EQ2 R3 hrt
          go_wp2_with fail
          go_ret2
          exact ⟨.inr ⟨2, EQ3.out, by decide, rfl⟩, Z3.out⟩
        | true =>
          rw [if_neg (by unfold adRt; rw [hrt]; simp)] at EQ2
          by_cases h16 : acc.length = 16
          · rw [if_pos h16] at EQ2
            have q16 : ((acc.length : Int) == 16) = true := by rw [h16]; rfl
            replace EQ2 := Lib.hid EQ2
            replace Z3 := Lib.hid Z3
            generalize acc.length = M at *
            clear R3 h16 hrt
            go_wp2_with fail
            go_ret2
            exact ⟨.inr ⟨8, EQ2.out, by decide, rfl⟩, Z3.out⟩
          · rw [if_neg h16] at EQ2
            have q16 : ((acc.length : Int) == 16) = false := by
              have : ¬ (acc.length : Int) = 16 := by omega
              simpa using this
            obtain ⟨v', w4', hap, row, kp⟩ := R3.app Z3.size (by omega) ⟨id, ad, bi⟩
            have NX : Hid (AdJ w w4' s0 g1 r (acc ++ [⟨id, ad, bi⟩]) v') := ⟨EQ2, by omega, by rw [List.length_append]; simp; omega, row, Z3.trans (kp.below Z3.size fun _ h => h)⟩
            obtain ⟨av', cv', hu'⟩ := row.slice
            subst hu'
            replace hap := Lib.hid hap
            have hg1 : g1 ≤ s0.size + 1 := by omega
            generalize (acc ++ [(⟨id, ad, bi⟩ : Ad)]).length = N2 at *
            generalize acc.length = M at *
            clear R3 row kp EQ2 h16 Z3 hrt
            go_wp2_with (refine obB2L _ rfl .append _ _ 45 45 rfl _ _ rfl rfl hap.out ?_)
            go_roundg g1
            case measure => omega
            case rel => exact ⟨_, _, rfl, hg1, NX⟩
      · have EQ2 := EQ1.out
        rw [hk] at EQ2
        replace EQ2 := Lib.hid EQ2
        have hx0 : (x == 0) = false := by rcases hx with rfl | rfl <;> rfl
        have hx1 : ¬ x = 0 := by rcases hx with rfl | rfl <;> decide
        have bA : Below w1.heap.size w1 (w1.alloc (.cells #[.int .i64 0, .int .u32 0, .int .i64 0] 51)) := (Below.refl _ _).alloc (Nat.le_refl _) _
        have Z2 := Lib.hid (Z1.trans (bA.mono Z1.size))
        replace hx := Lib.hid hx
        generalize acc.length = M at *
        clear EQ1 hk R1 Z1 bA
        go_wp2_with fail
        go_ret2
        exact ⟨.inr ⟨x, EQ2.out, hx1, rfl⟩, Z2.out⟩
theorem padrs_ok (s0 : ByteArray) (w : World) (t : VTab w) (hs : s0.size ≤ 4611686018427387903) :
    Calls Tryd.prog 17 #[.string s0] w fun e w' => AdPA s0 w.heap.size e w' ∧ Below w.heap.size w w' := by
  have C := Lib.hid (prladr_ok s0 w t hs)
  go_enter Tryd.func17, Tryd.ntmps17
  go_wp2_with fail
  refine C.out.mono ?_
  rintro e w1 ⟨hA, b1⟩
  have B1 := Lib.hid b1
  clear C b1
  rcases hA with ⟨l, v, h1, h2, rfl, h3⟩ | ⟨x, h1, h2, rfl⟩
  · obtain ⟨a, c, rfl⟩ := h3.slice
    have A1 : Hid (AdPA s0 w.heap.size (.returned (.tuple #[.slice a l.length c, .int .i64 0])) w1) := .inl ⟨l, _, h1, h2, rfl, h3⟩
    generalize l.length = M at *
    clear h1 h2 h3
    go_wp2_with fail
    go_ret2
    exact ⟨A1.out, B1.out⟩
  · have A1 : Hid (AdPA s0 w.heap.size (.returned (.tuple #[.slice none 0 0, .int .i64 x])) w1) := .inr ⟨x, h1, h2, rfl⟩
    clear h1 h2
    go_wp2_with fail
    go_ret2
    exact ⟨A1.out, B1.out⟩
end Go.Proofs.YtihkbakbciejiaaDoor
