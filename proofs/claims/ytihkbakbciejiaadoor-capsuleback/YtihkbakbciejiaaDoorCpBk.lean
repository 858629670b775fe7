/-
  What the law CapsuleBack answers. The table of sizes lies as the row's list gives it; no condition but the form's own reach.
-/
import Derived.Test.YtihkbakbciejiaaDoorCpSm
import Derived.Test.YtihkbakbciejiaaDoorCpGr
namespace Go.Proofs.YtihkbakbciejiaaDoor
set_option maxRecDepth 100000
open Go.RowKit Go.Sort

/-- The capsules that are written so far. -/
structure B1 (w wr : World) (wv : Value) (evs : List Ev) (i : Nat) : Prop where
  row : CpR w.heap.size wr wv evs
  bel : Below w.heap.size w wr
  ok : ∀ e ∈ evs, Lim e.1 ∧ e.2.length ≤ 4096
  few : evs.length ≤ i
def evF (evs : List Ev) : L := evs.flatMap fun e => frm e.1 e.2
theorem evF_snoc (evs : List Ev) (k : Nat) (d : L) : evF (evs ++ [(k, d)]) = evF evs ++ frm k d := by simp [evF, List.flatMap_append]
theorem evF_len : ∀ (evs : List Ev), (∀ e ∈ evs, Lim e.1 ∧ e.2.length ≤ 4096) → (evF evs).length ≤ 4112 * evs.length
  | [], _ => Nat.le_refl _
  | e :: l, h => by
    have h1 := (h e (List.mem_cons_self ..)).2
    have h2 := frm_len e.1 e.2
    have h3 := evF_len l fun x hx => h x (List.mem_cons_of_mem _ hx)
    show (frm e.1 e.2 ++ evF l).length ≤ _
    rw [List.length_append, List.length_cons]
    omega
theorem frm_some (k : Nat) (d : L) : (strL (frm k d)).toList.isEmpty = false := by
  rw [toL_empC, toL_strL]
  have := putL_pos k
  unfold frm
  cases h : putL k with
  | nil => rw [h] at this; exact absurd this (by decide)
  | cons _ _ => rfl
theorem frI_yes (k : Nat) (d : L) (h : (k : Int) ≤ 4611686018427387903) : frI (k : Int) d = frm k d := by
  unfold frI
  rw [if_pos ⟨by omega, h⟩, Int.toNat_natCast]
theorem adr_nil : adrL [] = .ok [] := rfl
theorem way_nil : wayL [] = .ok [] := rfl
theorem row_take {X : Type} {n : Nat} {cells : X → List Value} {x0 : X} {w : World} {a : Option Addr} {l : List X} {cap : Nat} (hc : l.length ≤ cap) (h : ∀ k, k < l.length → ∃ g o, a = some ⟨g, o, none⟩ ∧ g < w.heap.size ∧ ∀ j, j < n → w.cell? ⟨g, o + n * k + j, none⟩ = (cells (l.getD k x0))[j]?) (m : Nat) (hm : m ≤ l.length) : RowAt n cells x0 w (.slice a m cap) (l.take m) := by
  have hl : (l.take m).length = m := by rw [List.length_take]; omega
  refine ⟨a, cap, by rw [hl], by omega, fun k hk => ?_⟩
  rw [hl] at hk
  obtain ⟨g, o, e, hg, c⟩ := h k (by omega)
  refine ⟨g, o, e, hg, fun j hj => ?_⟩
  rw [c j hj]
  have e2 : (l.take m).getD k x0 = l.getD k x0 := by simp [List.getD, hk]
  rw [e2]
/-- What Assigns writes is read. -/
theorem asg_back {l : List Ad} (ha : ∀ a ∈ l, a.addr < 4294967296) (hl : l.length ≤ 16) : ∃ l', adrL (asgL l) = .ok l' ∧ (asgL l ≠ [] → l' = l) ∧ (asgL l).length ≤ 224 := by
  by_cases h : ∀ a ∈ l, numI a.id ∧ adRt a = true
  · refine ⟨l, adr_back h ha hl, fun _ => rfl, ?_⟩
    rw [asg_ok h]
    have := adF_len l
    omega
  · have e : asgL l = [] := if_neg h
    exact ⟨[], by rw [e]; rfl, fun c => absurd e c, by rw [e]; simp⟩
theorem tel_back {l : List Ro} (ha : ∀ x ∈ l, x.low < 4294967296 ∧ x.high < 4294967296) (hl : l.length ≤ 16) : ∃ (U : ByteArray) (G : Int) (l' : List Ro), telV l = .tuple #[.string U, .int .i64 G] ∧ wayL (toL U) = .ok l' ∧ (G = 0 → l' = l) ∧ (G = 0 ∨ G = 2) ∧ U.size ≤ 160 := by
  cases h : rightR l with
  | true => exact ⟨_, 0, l, telV_yes h, way_back h ha hl, fun _ => rfl, .inl rfl, by rw [strL_size, roF_len]; omega⟩
  | false => exact ⟨_, 2, [], telV_no h, rfl, fun c => absurd c (by decide), .inr rfl, Nat.zero_le _⟩
structure B2 (w wr : World) (qv : Value) (l : List Ad) (i : Nat) : Prop where
  row : AdP w.heap.size wr qv (l.take i)
  bel : Below w.heap.size w wr
structure B3 (w wr : World) (qv : Value) (l : List Ro) (i : Nat) : Prop where
  row : RoP w.heap.size wr qv (l.take i)
  bel : Below w.heap.size w wr
set_option maxHeartbeats 64000000 in
theorem back16_ok (l0 : List Cq) (l1 : List Ad) (l2 : List Ro) (v0 v1 v2 : Value) (stm : Int) (dat : ByteArray) (w : World) (t : VTab w) (h0 : RowAt 2 cqC cq0 w v0 l0) (hb0 : l0.length * 24 ≤ 140737488351232 ∧ ∀ x ∈ l0, CqB x) (h1 : RowAt 3 adc nA w v1 l1) (hb1 : l1.length * 24 ≤ 140737488351232 ∧ ∀ x ∈ l1, AdB x) (h2 : RowAt 3 roC nR w v2 l2) (hb2 : l2.length * 16 ≤ 140737488351232 ∧ ∀ x ∈ l2, RoB x) (hs : dat.size ≤ 140737488351232) :
    Calls Tryd.prog 6 #[v0, v1, v2, .int .i64 stm, .string dat] w fun e w' => e = .returned (.bool true) ∧ Below w.heap.size w w' := by
  have WO := Lib.hid (works16_ok w t)
  have T0 := Lib.hid t
  have HD : Hid (∀ x ∈ l0, x.2.size ≤ 140737488351232) := fun x hx => (hb0.2 x hx).d
  have HA : Hid (∀ x ∈ l1, x.addr < 4294967296) := fun x hx => (hb1.2 x hx).addr
  have HR : Hid (∀ x ∈ l2, x.low < 4294967296 ∧ x.high < 4294967296) := fun x hx => ⟨(hb2.2 x hx).low, (hb2.2 x hx).high⟩
  have hl0 := hb0.1
  have hl1 := hb1.1
  have hl2 := hb2.1
  clear hb0 hb1 hb2 t
  obtain ⟨a0, cap0, rfl, hc0, cc0⟩ := h0
  obtain ⟨a1, cap1, rfl, hc1, cc1⟩ := h1
  obtain ⟨a2, cap2, rfl, hc2, cc2⟩ := h2
  obtain ⟨n0, hn0⟩ : ∃ n, n = l0.length := ⟨_, rfl⟩
  obtain ⟨n1, hn1⟩ : ∃ n, n = l1.length := ⟨_, rfl⟩
  obtain ⟨n2, hn2⟩ : ∃ n, n = l2.length := ⟨_, rfl⟩
  have C0 := Lib.hid cc0
  have C1 := Lib.hid cc1
  have C2 := Lib.hid cc2
  rw [← hn0] at C0 hl0 hc0 ⊢
  rw [← hn1] at C1 hl1 hc1 ⊢
  rw [← hn2] at C2 hl2 hc2 ⊢
  replace hn0 := Lib.hid hn0
  replace hn1 := Lib.hid hn1
  replace hn2 := Lib.hid hn2
  clear cc0 cc1 cc2
  go_enter Tryd.func6, Tryd.ntmps6
  go_wp2_with fail
  refine WO.out.mono ?_
  rintro e w1 ⟨rfl, b1⟩
  have P0 : Hid (B1 w w1 (.slice none 0 0) [] 0) := ⟨CpR.nil _ _, b1, (fun e h => by cases h), Nat.le_refl _⟩
  clear b1 WO
  go_wp2_with fail
  go_loopg [11, 12, 13] 20 (fun gg sv wv iv wr => ∃ (i : Nat) (evs : List Ev), i + gg = 20 ∧ iv = .int .i64 (i : Int) ∧ sv = .string (strL (evF evs)) ∧ Hid (B1 w wr wv evs i))
  case atStart => exact ⟨0, [], by omega, rfl, rfl, P0⟩
  case round =>
    obtain ⟨i, evs, hi, rfl, rfl, I⟩ := hrel
    clear P0
    have sl := evF_len evs I.out.ok
    have few := I.out.few
    have zS : (strL (evF evs)).size ≤ 4112 * evs.length := by rw [strL_size]; exact sl
    obtain ⟨av, cv, hu⟩ := I.out.row.slice
    subst hu
    by_cases hgo : i < n0 ∧ i < 20
    · obtain ⟨hin, hi20⟩ := hgo
      have il : i < l0.length := by have := hn0.out; omega
      obtain ⟨g, o, rfl, hgw, cs⟩ := C0.out i hin
      have xin := getD_in l0 cq0 i il
      have hds := HD.out _ xin
      obtain ⟨x, hx⟩ : ∃ x, x = l0.getD i cq0 := ⟨_, rfl⟩
      rw [← hx] at cs hds
      obtain ⟨k, d⟩ := x
      simp only at hds
      have ia := fun w' => at_rcp g o n0 cap0 i w' hin (i : Int) rfl (o + 2 * i) rfl
      have kk0 : w.cell? ⟨g, o + 2 * i, none⟩ = some (.int .i64 k) := cs 0 (by decide)
      have kk1 : w.cell? ⟨g, o + 2 * i + 1, none⟩ = some (.string d) := cs 1 (by decide)
      have x0 : ∀ d' os', (grow (redrawn wr d') os').cell? ⟨g, o + 2 * i, none⟩ = some (.int .i64 k) := fun d' os' => cell_regrown ((I.out.bel.cell hgw).trans kk0) d' os'
      have x1 : ∀ d' os', (grow (redrawn wr d') os').cell? ⟨g, o + 2 * i + 1, none⟩ = some (.string d) := fun d' os' => cell_regrown ((I.out.bel.cell hgw).trans kk1) d' os'
      have PW : Hid (∀ d' os', Calls Tryd.prog 10 #[.agg #[.int .i64 k, .string d]] (grow (redrawn wr d') os') fun e w' => e = .returned (.string (strL (frI k (toL d)))) ∧ Below (grow (redrawn wr d') os').heap.size (grow (redrawn wr d') os') w') := fun d' os' => pwr_ok k d _ ((T0.out.below I.out.bel).below (below_regrown wr d' os')) (by omega)
      obtain ⟨X, hX⟩ : ∃ X, X = strL (frI k (toL d)) := ⟨_, rfl⟩
      rw [← hX] at PW
      replace hX := Lib.hid hX
      clear cs xin hx C0 C1 C2 HD HA HR
      go_upto_region 8 with fail
      refine wp_region_quiet_below (by kernel_rfl) (by kernel_rfl) ?_
      repeat (go_big_quiet_step ((go_at_call 10; exact Calls.regrown_of (PW.out _ _))))
      refine wpQuiet_nil ?_
      intro _ hw'
      obtain ⟨⟨dq, osq⟩, hw''⟩ := hw'
      subst hw''
      have bq := below_regrown wr dq osq
      have I2 : B1 w (grow (redrawn wr dq) osq) (.slice av evs.length cv) evs i := ⟨I.out.row.keep bq, I.out.bel.trans (bq.mono I.out.bel.size), I.out.ok, I.out.few⟩
      clear PW x0 x1 bq I
      simp only
      generalize grow (redrawn wr dq) osq = w3 at *
      have k0 : w3.cell? ⟨g, o + 2 * i, none⟩ = some (.int .i64 k) := (I2.bel.cell hgw).trans kk0
      have k1 : w3.cell? ⟨g, o + 2 * i + 1, none⟩ = some (.string d) := (I2.bel.cell hgw).trans kk1
      by_cases hnum : numI k
      · obtain ⟨kn, hkn⟩ : ∃ kn : Nat, k = (kn : Int) := ⟨k.toNat, by unfold numI at hnum; omega⟩
        subst hkn
        have hkn2 : (kn : Int) ≤ 4611686018427387903 := hnum.2
        have eX : X = strL (frm kn (toL d)) := by rw [hX.out, frI_yes kn (toL d) hkn2]
        have sX : X.toList.isEmpty = false := by rw [eX]; exact frm_some _ _
        have zX : X.size ≤ d.size + 16 := by
          rw [eX, strL_size]
          have := frm_len kn (toL d)
          rw [toL_len] at this
          exact this
        by_cases hd4 : d.size ≤ 4096
        · have q4 : decide ((d.size : Int) ≤ 4096) = true := decide_eq_true (by omega)
          obtain ⟨v', w4', hap, row, kp⟩ := I2.row.app I2.bel.size (by omega) kn (toL d)
          rw [strL_toL] at hap
          have eS : Hid (strL (evF evs) ++ X = strL (evF (evs ++ [(kn, toL d)]))) := by
            unfold Hid
            rw [evF_snoc, ← strL_append, eX]
          have NX : Hid (B1 w w4' v' (evs ++ [(kn, toL d)]) (i + 1)) := ⟨row, I2.bel.trans (kp.below I2.bel.size fun _ h => h), fun e he => by
            rcases List.mem_append.1 he with he | he
            · exact I2.ok e he
            · rw [List.mem_singleton] at he
              rw [he]
              exact ⟨by unfold Lim; omega, by show (toL d).length ≤ 4096; rw [toL_len]; exact hd4⟩, by rw [List.length_append]; simp; omega⟩
          have m1 : ¬ (9223372036854775807 < (strL (evF evs)).size + X.size) := by omega
          obtain ⟨a3, c3, rfl⟩ : ∃ a3 c3, v' = .slice a3 (evs.length + 1) c3 := by
            obtain ⟨a3, c3, hv⟩ := row.slice
            rw [List.length_append] at hv
            exact ⟨a3, c3, hv⟩
          replace hap := Lib.hid hap
          generalize strL (evF evs) = SS at *
          replace eX := Lib.hid eX
          replace sl := Lib.hid sl
          clear I2 row kp
          go_wp2_with (refine obB2L _ rfl .append _ _ 37 37 rfl _ _ rfl rfl hap.out ?_)
          go_roundg (19 - i)
          case measure => omega
          case rel => exact ⟨i + 1, _, by omega, by simp, by rw [eS.out], NX⟩
        · have q4 : decide ((d.size : Int) ≤ 4096) = false := decide_eq_false (by omega)
          have NX : Hid (B1 w w3 (.slice av evs.length cv) evs (i + 1)) := ⟨I2.row, I2.bel, I2.ok, by omega⟩
          replace eX := Lib.hid eX
          replace sl := Lib.hid sl
          clear I2
          go_wp2_with fail
          go_roundg (19 - i)
          case measure => omega
          case rel => exact ⟨i + 1, _, by omega, by simp, rfl, NX⟩
      · have eX : X = ⟨#[]⟩ := by rw [hX.out, frI_none k (toL d) hnum]; rfl
        subst eX
        have NX : Hid (B1 w w3 (.slice av evs.length cv) evs (i + 1)) := ⟨I2.row, I2.bel, I2.ok, by omega⟩
        replace sl := Lib.hid sl
        replace hnum := Lib.hid hnum
        clear I2 hX
        go_wp2_with fail
        go_roundg (19 - i)
        case measure => omega
        case rel => exact ⟨i + 1, _, by omega, by simp, rfl, NX⟩
    · have NO : Hid (¬ i < n0 ∨ (i < n0 ∧ ¬ i < 20)) := by
        unfold Hid
        omega
      clear hgo C0 HD
      go_upto_region 6 with fail
      go_cut [44] (fun s wc => s = .bool false ∧ wr = wc)
      case first =>
        rcases NO.out with y1 | ⟨y1, y2⟩
        · go_wp2_with fail
          go_meet
          exact ⟨rfl, rfl⟩
        · go_wp2_with fail
          go_meet
          first
          | exact ⟨rfl, rfl⟩
          | exact ⟨by rw [decide_eq_false (by omega)], rfl⟩
      case rest =>
        obtain ⟨rfl, rfl⟩ := hcut
        clear NO
        have i20 : i ≤ 20 := by omega
        have fe : cNew.feed (toL (strL (evF evs))) = (⟨[], false⟩, evs) := by
          rw [toL_strL]
          exact cgo_all evs I.out.ok
        have NW := Lib.hid (pnew_ok wr (T0.out.below I.out.bel))
        have FS1 : Hid (∀ w' R, VTab w' → PC w' R cNew → _) := fun w' R t' h => pfeed_ok w' R cNew (strL (evF evs)) t' h (fun _ => by show 0 + (strL (evF evs)).size < 1000000; omega)
        rw [fe] at FS1
        simp only at FS1
        have ce : cErr ⟨[], false⟩ = 0 := rfl
        rw [ce] at FS1
        have EN : Hid (∀ w' R, PC w' R ⟨[], false⟩ → _) := fun w' R h => pend_ok w' R ⟨[], false⟩ h
        have fn : Cr.fin ⟨[], false⟩ = true := rfl
        rw [fn] at EN
        have hev : evs.length < 1000000000 := by omega
        have Z0 := Lib.hid I.out.bel
        have RW := Lib.hid I.out.row
        replace sl := Lib.hid sl
        generalize strL (evF evs) = SS at *
        clear fe ce fn I
        go_wp2_with fail
        refine NW.out.mono ?_
        rintro e w4 ⟨rfl, p4, b4⟩
        have Z4 := Lib.hid (Z0.out.trans (b4.mono Z0.out.size))
        have gR : Hid (w.heap.size ≤ wr.heap.size) := Z0.out.size
        have RW4 := Lib.hid (RW.out.keep b4)
        have ne4 : Hid (∀ k, (Value.slice av evs.length cv).ownBlock = some k → k ≠ wr.heap.size) := fun k hk c => by have := (RW.out.row.lt k hk).2; omega
        generalize wr.heap.size = R at *
        have P4 := Lib.hid p4
        clear p4 b4 NW Z0 RW
        go_wp2_with fail
        refine (FS1.out w4 R (T0.out.below Z4.out) P4.out).mono ?_
        rintro e w5 ⟨v5, rfl, p5, r5, k5⟩
        have Z5 := Lib.hid (Z4.out.trans (k5.below Z4.out.size (fun k hk => by rw [hk]; exact gR.out)))
        have P5 := Lib.hid p5
        have RW5 := RW4.out.of fun k hk => k5.block k (RW4.out.row.lt k hk).2 (fun c => ne4.out k hk c)
        have SM := Lib.hid (same16_ok v5 (.slice av evs.length cv) evs w5 r5.at RW5.at hev)
        obtain ⟨a5, c5, hv5⟩ := r5.slice
        subst hv5
        generalize evs.length = NE at *
        clear p5 r5 k5 RW5 RW4 FS1 P4 Z4 ne4
        go_wp2_with fail
        refine SM.out.mono ?_
        rintro e w6 ⟨rfl, b6⟩
        have Z6 := Lib.hid (Z5.out.trans (b6.mono Z5.out.size))
        have P6 := Lib.hid (P5.out.keep b6)
        clear b6 SM P5 Z5
        go_wp2_with fail
        refine (EN.out w6 R P6.out).mono ?_
        rintro e w7 ⟨rfl, rfl⟩
        have Q0 : Hid (B2 w w6 (.slice none 0 0) l1 0) := ⟨by rw [List.take_zero]; exact AdP.nil _ _, Z6.out⟩
        clear EN P6 gR
        go_wp2_with fail
        go_loopg [18, 19] 16 (fun gg qv iv wr => ∃ j : Nat, j + gg = 16 ∧ j ≤ n1 ∧ iv = .int .i64 (j : Int) ∧ Hid (B2 w wr qv l1 j))
        case atStart => exact ⟨0, by omega, Nat.zero_le _, rfl, Q0⟩
        case round =>
          clear Q0
          obtain ⟨j, hj, hjn, rfl, Y⟩ := hrel
          have jl : j ≤ l1.length := by have := hn1.out; omega
          have tl : (l1.take j).length = j := by rw [List.length_take]; omega
          obtain ⟨aq, cq, hq⟩ := Y.out.row.slice
          rw [tl] at hq
          subst hq
          by_cases hgo : j < n1 ∧ j < 16
          · obtain ⟨hin, hi20⟩ := hgo
            have il : j < l1.length := by have := hn1.out; omega
            obtain ⟨g, o, rfl, hgw, cs⟩ := C1.out j hin
            have tk := take_next l1 nA j il
            obtain ⟨x, hx⟩ : ∃ x, x = l1.getD j nA := ⟨_, rfl⟩
            rw [← hx] at cs tk
            obtain ⟨id, ad, bi⟩ := x
            have ia := fun w' => at_rad g o n1 cap1 j w' hin (j : Int) rfl (o + 3 * j) rfl
            have k0 : wr.cell? ⟨g, o + 3 * j, none⟩ = some (.int .i64 id) := (Y.out.bel.cell hgw).trans (cs 0 (by decide))
            have k1 : wr.cell? ⟨g, o + 3 * j + 1, none⟩ = some (.int .u32 (ad : Int)) := (Y.out.bel.cell hgw).trans (cs 1 (by decide))
            have k2 : wr.cell? ⟨g, o + 3 * j + 2, none⟩ = some (.int .i64 bi) := (Y.out.bel.cell hgw).trans (cs 2 (by decide))
            have RD : AdP w.heap.size wr.drew (.slice aq j cq) (l1.take j) := Y.out.row.of fun _ _ => rfl
            have ZD : Below w.heap.size w wr.drew := Y.out.bel.trans (drewB _ _)
            obtain ⟨v', w4', hap, row, kp⟩ := RD.app ZD.size (by rw [tl]; omega) ⟨id, ad, bi⟩
            rw [← tk] at row
            have NX : Hid (B2 w w4' v' l1 (j + 1)) := ⟨row, ZD.trans (kp.below ZD.size fun _ h => h)⟩
            obtain ⟨a3, c3, hv3⟩ := row.slice
            have tl2 : (l1.take (j + 1)).length = j + 1 := by rw [List.length_take]; omega
            rw [tl2] at hv3
            subst hv3
            have hapd : Hid (∀ z, (builtin .append #[45, 45] 45 z #[.slice aq j cq, .slice (some ⟨wr.heap.size, 0, none⟩) 1 1]).run Tryd.prog (wr.alloc (.cells #[.int .i64 id, .int .u32 (ad : Int), .int .i64 bi] 51)).drew = .ok (.value (.slice a3 (j + 1) c3)) w4') := hap
            replace tl := Lib.hid tl
            replace tl2 := Lib.hid tl2
            clear cs hx Y tk row kp RD ZD hap C1 C2 HA HR
            go_upto_region 20 with fail
            go_region_law (refine obB2S rfl .append _ _ 45 45 rfl _ _ (by simp [Act.eval]) (by simp [Act.eval]) hapd.out ?_)
            all_goals
              go_wp2_with fail
              go_roundg (15 - j)
              case measure => omega
              case rel => exact ⟨j + 1, by omega, by omega, by simp, NX⟩
          · have NO : Hid (¬ j < n1 ∨ (j < n1 ∧ ¬ j < 16)) := by
              unfold Hid
              omega
            clear hgo
            go_upto_region 18 with fail
            go_cut [107] (fun s wc => s = .bool false ∧ wr = wc)
            case first =>
              rcases NO.out with y1 | ⟨y1, y2⟩
              · go_wp2_with fail
                go_meet
                exact ⟨rfl, rfl⟩
              · go_wp2_with fail
                go_meet
                first
                | exact ⟨rfl, rfl⟩
                | exact ⟨by rw [decide_eq_false (by omega)], rfl⟩
            case rest =>
              obtain ⟨rfl, rfl⟩ := hcut
              clear NO
              have j16 : j ≤ 16 := by omega
              have HL : ∀ a ∈ l1.take j, a.addr < 4294967296 := fun a ha => HA.out a (List.mem_of_mem_take ha)
              obtain ⟨L', eA, eN, eZ⟩ := asg_back HL (by omega)
              have AS := Lib.hid (pasg_ok (.slice aq j cq) (l1.take j) wr (T0.out.below Y.out.bel) (adp_at Y.out.row.row) (by omega) HL)
              obtain ⟨T, hT⟩ : ∃ T, T = strL (asgL (l1.take j)) := ⟨_, rfl⟩
              rw [← hT] at AS
              have eT : toL T = asgL (l1.take j) := by rw [hT]; rfl
              have zT : T.size ≤ 224 := by rw [← toL_len, eT]; exact eZ
              rw [← eT] at eA eN
              have AD : Hid (∀ w', VTab w' → _) := fun w' t' => padrs_ok T w' t' (by omega)
              have Z0 := Lib.hid Y.out.bel
              have RT1 : Hid (∀ w', Below w.heap.size w w' → RowAt 3 adc nA w' (.slice a1 j cap1) (l1.take j)) := fun w' b' => RowAt.low (row_take (by have := hn1.out; omega) (fun k hk => C1.out k (by have := hn1.out; omega)) j jl) b'
              replace eA := Lib.hid eA
              replace eN := Lib.hid eN
              replace tl := Lib.hid tl
              clear hT eT eZ Y HL C1 HA
              go_wp2_with fail
              refine AS.out.mono ?_
              rintro e w2 ⟨rfl, b2⟩
              have Z2 := Lib.hid (Z0.out.trans (b2.mono Z0.out.size))
              clear b2 AS Z0
              go_wp2_with fail
              refine (AD.out w2 (T0.out.below Z2.out)).mono ?_
              rintro e w3 ⟨hA, b3⟩
              have Z3 := Lib.hid (Z2.out.trans (b3.mono Z2.out.size))
              clear b3 AD Z2
              rcases hA with ⟨l', v', g1, g2, rfl, g3⟩ | ⟨x, g1, -, -⟩
              · have el : l' = L' := by
                  rw [eA.out] at g1
                  injection g1 with g1
                  exact g1.symm
                have RA := Lib.hid (adp_at g3.row)
                obtain ⟨a3, c3, hv3⟩ := g3.slice
                subst hv3
                have SM : Hid (toL T ≠ [] → Calls Tryd.prog 23 #[.slice a3 l'.length c3, .slice a1 j cap1] w3 fun e w' => e = .returned (.bool true) ∧ Below w3.heap.size w3 w') := fun c => by
                  have e2 := eN.out c
                  rw [← el] at e2
                  have R3 := RA.out
                  rw [e2] at R3 ⊢
                  exact sameA_ok _ _ (l1.take j) w3 R3 (RT1.out w3 Z3.out) (by rw [tl.out]; omega)
                generalize l'.length = NL at *
                clear g1 g2 g3 el RA RT1 eA eN
                go_upto_region 23 with fail
                go_cut [145] (fun s wc => s = .bool false ∧ Hid (Below w.heap.size w wc))
                case first =>
                  by_cases hT0 : toL T = []
                  · have hz : T = ⟨#[]⟩ := toL_inj (by rw [hT0]; rfl)
                    subst hz
                    clear SM hT0
                    go_wp2_with fail
                    go_meet
                    exact ⟨rfl, Z3.out⟩
                  · have n0' : T.toList.isEmpty = false := by
                      rw [toL_empC]
                      cases hx : toL T with
                      | nil => exact absurd hx hT0
                      | cons _ _ => rfl
                    have SC := Lib.hid (SM.out hT0)
                    have hjc : j ≤ cap1 := by omega
                    have hjcI : (j : Int) ≤ (cap1 : Int) := by omega
                    clear SM hT0
                    go_wp2_with fail
                    refine SC.out.mono ?_
                    rintro e w4 ⟨rfl, b4⟩
                    have Z4 := Lib.hid (Z3.out.trans (b4.mono Z3.out.size))
                    clear b4 SC
                    go_wp2_with fail
                    go_meet
                    exact ⟨rfl, Z4.out⟩
                case rest =>
                  obtain ⟨rfl, ZC⟩ := hcut
                  clear SM Z3
                  have Q0 : Hid (B3 w wc (.slice none 0 0) l2 0) := ⟨by rw [List.take_zero]; exact RoP.nil _ _, ZC.out⟩
                  clear ZC
                  go_wp2_with fail
                  go_loopg [23, 24] 16 (fun gg qv iv wr => ∃ m : Nat, m + gg = 16 ∧ m ≤ n2 ∧ iv = .int .i64 (m : Int) ∧ Hid (B3 w wr qv l2 m))
                  case atStart => exact ⟨0, by omega, Nat.zero_le _, rfl, Q0⟩
                  case round =>
                    clear Q0
                    obtain ⟨m, hm, hmn, rfl, V⟩ := hrel
                    have ml : m ≤ l2.length := by have := hn2.out; omega
                    have tm : (l2.take m).length = m := by rw [List.length_take]; omega
                    obtain ⟨ar, cr, hq⟩ := V.out.row.slice
                    rw [tm] at hq
                    subst hq
                    by_cases hgo : m < n2 ∧ m < 16
                    · obtain ⟨hin, hi20⟩ := hgo
                      have il : m < l2.length := by have := hn2.out; omega
                      obtain ⟨g, o, rfl, hgw, cs⟩ := C2.out m hin
                      have tk := take_next l2 nR m il
                      obtain ⟨x, hx⟩ : ∃ x, x = l2.getD m nR := ⟨_, rfl⟩
                      rw [← hx] at cs tk
                      obtain ⟨lo, hh, pr⟩ := x
                      have ia := fun w' => at_ro g o n2 cap2 m w' hin (m : Int) rfl (o + 3 * m) rfl
                      have k0 : wr.cell? ⟨g, o + 3 * m, none⟩ = some (.int .u32 (lo : Int)) := (V.out.bel.cell hgw).trans (cs 0 (by decide))
                      have k1 : wr.cell? ⟨g, o + 3 * m + 1, none⟩ = some (.int .u32 (hh : Int)) := (V.out.bel.cell hgw).trans (cs 1 (by decide))
                      have k2 : wr.cell? ⟨g, o + 3 * m + 2, none⟩ = some (.int .i64 pr) := (V.out.bel.cell hgw).trans (cs 2 (by decide))
                      have RD : RoP w.heap.size wr.drew (.slice ar m cr) (l2.take m) := V.out.row.of fun _ _ => rfl
                      have ZD : Below w.heap.size w wr.drew := V.out.bel.trans (drewB _ _)
                      obtain ⟨v', w4', hap, row, kp⟩ := RD.app ZD.size (by rw [tm]; omega) ⟨lo, hh, pr⟩
                      rw [← tk] at row
                      have NX : Hid (B3 w w4' v' l2 (m + 1)) := ⟨row, ZD.trans (kp.below ZD.size fun _ h => h)⟩
                      obtain ⟨a4, c4, hv4⟩ := row.slice
                      have tm2 : (l2.take (m + 1)).length = m + 1 := by rw [List.length_take]; omega
                      rw [tm2] at hv4
                      subst hv4
                      have hapd : Hid (∀ z, (builtin .append #[52, 52] 52 z #[.slice ar m cr, .slice (some ⟨wr.heap.size, 0, none⟩) 1 1]).run Tryd.prog (wr.alloc (.cells #[.int .u32 (lo : Int), .int .u32 (hh : Int), .int .i64 pr] 55)).drew = .ok (.value (.slice a4 (m + 1) c4)) w4') := hap
                      replace tm := Lib.hid tm
                      replace tm2 := Lib.hid tm2
                      clear cs hx V tk row kp RD ZD hap C2 HR
                      go_upto_region 29 with fail
                      go_region_law (refine obB2S rfl .append _ _ 52 52 rfl _ _ (by simp [Act.eval]) (by simp [Act.eval]) hapd.out ?_)
                      all_goals
                        go_wp2_with fail
                        go_roundg (15 - m)
                        case measure => omega
                        case rel => exact ⟨m + 1, by omega, by omega, by simp, NX⟩
                    · have NO : Hid (¬ m < n2 ∨ (m < n2 ∧ ¬ m < 16)) := by
                        unfold Hid
                        omega
                      clear hgo
                      go_upto_region 27 with fail
                      go_cut [153] (fun s wc => s = .bool false ∧ wr = wc)
                      case first =>
                        rcases NO.out with y1 | ⟨y1, y2⟩
                        · go_wp2_with fail
                          go_meet
                          exact ⟨rfl, rfl⟩
                        · go_wp2_with fail
                          go_meet
                          first
                          | exact ⟨rfl, rfl⟩
                          | exact ⟨by rw [decide_eq_false (by omega)], rfl⟩
                      case rest =>
                        obtain ⟨rfl, rfl⟩ := hcut
                        clear NO
                        have m16 : m ≤ 16 := by omega
                        have HL2 : ∀ x ∈ l2.take m, x.low < 4294967296 ∧ x.high < 4294967296 := fun a ha => HR.out a (List.mem_of_mem_take ha)
                        obtain ⟨U, G, M', eV, eW, eG, cG, zU⟩ := tel_back HL2 (by omega)
                        have TL := Lib.hid (ptel_ok (.slice ar m cr) (l2.take m) wr (rop_at V.out.row.row) (by omega) HL2)
                        rw [eV] at TL
                        have WY : Hid (∀ w', _) := fun w' => pways_ok U w' (by omega)
                        have Z0 := Lib.hid V.out.bel
                        have RT2 : Hid (∀ w', Below w.heap.size w w' → RowAt 3 roC nR w' (.slice a2 m cap2) (l2.take m)) := fun w' b' => RowAt.low (row_take (by have := hn2.out; omega) (fun k hk => C2.out k (by have := hn2.out; omega)) m ml) b'
                        replace eW := Lib.hid eW
                        replace eG := Lib.hid eG
                        replace tm := Lib.hid tm
                        clear eV V HL2 C2 HR
                        go_wp2_with fail
                        refine TL.out.mono ?_
                        rintro e w5 ⟨rfl, b5⟩
                        have Z5 := Lib.hid (Z0.out.trans (b5.mono Z0.out.size))
                        clear b5 TL Z0
                        go_wp2_with fail
                        refine (WY.out w5).mono ?_
                        rintro e w6' ⟨hB, b6⟩
                        have Z6' := Lib.hid (Z5.out.trans (b6.mono Z5.out.size))
                        clear b6 WY Z5
                        rcases hB with ⟨k', v', g1, g2, rfl, g3⟩ | ⟨x, g1, -, -⟩
                        · have el : k' = M' := by
                            rw [eW.out] at g1
                            injection g1 with g1
                            exact g1.symm
                          have RA := Lib.hid (rop_at g3.row)
                          obtain ⟨a4, c4, hv4⟩ := g3.slice
                          subst hv4
                          have SM : Hid (G = 0 → Calls Tryd.prog 24 #[.slice a4 k'.length c4, .slice a2 m cap2] w6' fun e w' => e = .returned (.bool true) ∧ Below w6'.heap.size w6' w') := fun c => by
                            have e2 := eG.out c
                            rw [← el] at e2
                            have R3 := RA.out
                            rw [e2] at R3 ⊢
                            exact sameR_ok _ _ (l2.take m) w6' R3 (RT2.out w6' Z6'.out) (by rw [tm.out]; omega)
                          generalize k'.length = NK at *
                          clear g1 g2 g3 el RA RT2 eW eG
                          go_upto_region 32 with fail
                          go_cut [199] (fun s wc => s = .bool false ∧ Hid (Below w.heap.size w wc))
                          case first =>
                            rcases cG with rfl | rfl
                            · have SC := Lib.hid (SM.out rfl)
                              have hmc : m ≤ cap2 := by omega
                              have hmcI : (m : Int) ≤ (cap2 : Int) := by omega
                              clear SM
                              go_wp2_with fail
                              refine SC.out.mono ?_
                              rintro e w8 ⟨rfl, b8⟩
                              have Z8 := Lib.hid (Z6'.out.trans (b8.mono Z6'.out.size))
                              clear b8 SC
                              go_wp2_with fail
                              go_meet
                              exact ⟨rfl, Z8.out⟩
                            · clear SM
                              go_wp2_with fail
                              go_meet
                              exact ⟨rfl, Z6'.out⟩
                          case rest =>
                            obtain ⟨rfl, ZC⟩ := hcut
                            clear SM Z6'
                            obtain ⟨y, hy1, hy2, hy3⟩ := place9 stm 8 (by decide) (by decide)
                            obtain ⟨st, hst⟩ : ∃ st : Nat, st = 4 * y := ⟨_, rfl⟩
                            have mulE : (4 : Int) * (y : Int) = (st : Int) := by omega
                            have hc7 : (0 ≤ (st : Int) ∧ (st : Int) ≤ 28 ∧ (st : Int) % 4 = 0) ∧ numI 7 := ⟨⟨by omega, by omega, by omega⟩, by decide⟩
                            have hg : grmL (st : Int) 7 (toL dat) = .ok (putI ((st : Int) / 4) ++ (putI 7 ++ toL dat)) := if_pos hc7
                            have ho := opn_grm hg
                            obtain ⟨S, hS⟩ : ∃ S, S = strL (putI ((st : Int) / 4) ++ (putI 7 ++ toL dat)) := ⟨_, rfl⟩
                            have eL : toL S = putI ((st : Int) / 4) ++ (putI 7 ++ toL dat) := by rw [hS]; rfl
                            rw [← eL] at ho
                            have gv : grmV (st : Int) 7 (toL dat) = .tuple #[.string S, .int .i64 0] := by
                              unfold grmV
                              rw [hg, hS]
                            have zS : S.size ≤ 140737488351300 := by
                              rw [← toL_len, eL, List.length_append, List.length_append, toL_len]
                              unfold putI
                              have l3 := put_len ((st : Int) / 4).toNat
                              have l4 := put_len (7 : Int).toNat
                              omega
                            have GR : Hid (∀ w', VTab w' → _) := fun w' t' => pgrm_ok (st : Int) 7 dat w' t' (by omega)
                            rw [gv] at GR
                            have O1 : Hid (∀ w', VTab w' → _) := fun w' t' => popn_ok S w' t' (by omega)
                            have v1 : opnV (toL S) = .tuple #[.int .i64 (st : Int), .int .i64 7, .string dat, .int .i64 0] := by
                              unfold opnV
                              rw [ho]
                              simp only
                              rw [strL_toL, Int.toNat_natCast]
                              rfl
                            rw [v1] at O1
                            replace hst := Lib.hid hst
                            clear hg ho gv eL hS zS v1 hc7
                            go_wp2_with fail
                            refine (GR.out wc (T0.out.below ZC.out)).mono ?_
                            rintro e w8 ⟨rfl, b8⟩
                            have Z8 := Lib.hid (ZC.out.trans (b8.mono ZC.out.size))
                            clear b8 GR ZC
                            go_wp2_with fail
                            refine (O1.out w8 (T0.out.below Z8.out)).mono ?_
                            rintro e w9 ⟨rfl, b9⟩
                            have Z9 := Lib.hid (Z8.out.trans (b9.mono Z8.out.size))
                            clear b9 O1 Z8
                            go_wp2_with fail
                            go_ret
                            exact ⟨rfl, Z9.out⟩
                        · rw [eW.out] at g1
                          cases g1
              · rw [eA.out] at g1
                cases g1
end Go.Proofs.YtihkbakbciejiaaDoor
