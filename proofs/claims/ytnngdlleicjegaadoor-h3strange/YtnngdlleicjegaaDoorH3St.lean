/-
  What the law H3Strange answers. It leans on what the laws ask of the program's calls (H3Face). No other condition.
-/
import Derived.Test.YtnngdlleicjegaaDoorH3Bk
namespace Go.Proofs.YtnngdlleicjegaaDoor
set_option maxRecDepth 100000
open Go.RowKit

def frs (c : Bool) : L := if c = true then 0 :: frm 4 [6, 1] else frm 1 [104]
def frE (c : Bool) : Ev := if c = true then (4, [6, 1]) else (1, [104])
def oneB (c : Bool) (d : L) : L := if c = true then frm 7 [0] else frm 0 d
/-- The bytes without strange frames, and with them. -/
def sB (c : Bool) (ls : List L) : L := frs c ++ ls.flatMap (oneB c)
def tB (c : Bool) (k : Nat) (ls : List L) : L := frs c ++ ls.flatMap fun d => frm k d ++ oneB c d ++ frm k []
def evS (c : Bool) (ls : List L) : List Ev := frE c :: (if c = true then List.replicate ls.length (7, [0]) else dats ls)
theorem go_first0 {t : L} {f p : Bool} : (Hr.mk true (0 :: t) false f 0 p 0).go = (Hr.mk true t true f 0 p 0).go := by
  have st : (Hr.mk true (0 :: t) false f 0 p 0).step = some (Hr.mk true t true f 0 p 0, []) := by
    unfold Hr.step
    rw [if_pos ⟨rfl, rfl⟩]
    exact if_pos (show List.head? (0 :: t) = some 0 from rfl)
  rw [Hr.go_some (by simp) st]
  rfl
theorem away_is (ls : List L) : ls.flatMap (oneB true) = awayB ls.length := by
  induction ls with
  | nil => rfl
  | cons d ls ih =>
    show frm 7 [0] ++ ls.flatMap (oneB true) = (List.replicate (ls.length + 1) (frm 7 [0])).flatten
    rw [ih, List.replicate_succ, List.flatten_cons]
    rfl
theorem dat_is (ls : List L) : ls.flatMap (oneB false) = datB ls := rfl
theorem feed_new (c : Bool) (t : L) : (Hr.new c).feed t = (Hr.mk c t false false 0 false 0).go := by
  unfold Hr.feed Hr.new Hr.more
  rw [if_neg (by simp)]
  rfl
theorem strange_s (c : Bool) (ls : List L) (hl : ∀ d ∈ ls, Lim d.length) : ∃ p', (Hr.new c).feed (sB c ls) = (Hr.mk c [] c true 0 p' 0, evS c ls) := by
  rw [feed_new]
  unfold sB evS frs frE
  cases c
  · simp only [Bool.false_eq_true, if_false]
    rw [dat_is]
    obtain ⟨p', e⟩ := go_dat ls false false hl
    exact ⟨p', by rw [go_whole (by simp) (.inl rfl) (by decide) (by decide) (by decide), e]⟩
  · simp only [if_true]
    rw [away_is, List.cons_append, go_first0]
    obtain ⟨p', e⟩ := go_away ls.length false
    exact ⟨p', by rw [go_whole (by simp) (.inr (.inl rfl)) (by decide) (by decide) (by decide), e]⟩
theorem strange_t (c : Bool) {k : Nat} (hk : Lim k) (h : k ≠ 0 ∧ k ≠ 1 ∧ k ≠ 4 ∧ k ≠ 7) (ls : List L) (hl : ∀ d ∈ ls, Lim d.length) : ∃ p', (Hr.new c).feed (tB c k ls) = (Hr.mk c [] c true 0 p' 0, evS c ls) := by
  rw [feed_new]
  unfold tB evS frs frE
  cases c
  · simp only [Bool.false_eq_true, if_false]
    obtain ⟨p', e⟩ := go_str hk h ls false false hl
    have e2 : (ls.flatMap fun d => frm k d ++ oneB false d ++ frm k []) = strB k ls := rfl
    rw [e2]
    exact ⟨p', by rw [go_whole (by simp) (.inl rfl) (by decide) (by decide) (by decide), e]⟩
  · simp only [if_true]
    rw [List.cons_append, go_first0]
    obtain ⟨p', e⟩ := go_awayS hk h ls false hl
    have e2 : (ls.flatMap fun d => frm k d ++ oneB true d ++ frm k []) = awayS k ls := rfl
    rw [e2]
    exact ⟨p', by rw [go_whole (by simp) (.inr (.inl rfl)) (by decide) (by decide) (by decide), e]⟩
theorem evS_len (c : Bool) (ls : List L) : 1 ≤ (evS c ls).length ∧ (evS c ls).length ≤ ls.length + 1 := by
  unfold evS
  rw [List.length_cons]
  split
  · rw [List.length_replicate]
    omega
  · have := dats_len ls
    omega
theorem sB_snoc (c : Bool) (ls : List L) (d : L) : sB c (ls ++ [d]) = sB c ls ++ oneB c d := by
  unfold sB
  rw [List.flatMap_append]
  simp
theorem tB_snoc (c : Bool) (k : Nat) (ls : List L) (d : L) : tB c k (ls ++ [d]) = tB c k ls ++ (frm k d ++ oneB c d ++ frm k []) := by
  unfold tB
  rw [List.flatMap_append]
  simp
theorem frs_len15 (c : Bool) : (frs c).length ≤ 19 := by cases c <;> decide
theorem one_len (c : Bool) (d : L) : (oneB c d).length ≤ 17 + d.length := by
  unfold oneB
  split
  · have := frm_len15 7 [0]
    have e : ([0] : L).length = 1 := rfl
    omega
  · have := frm_len15 0 d
    omega
section
variable {T : World → Prop} {PR : (Nat → Prop) → World → Value → Bool → List L → Prop}
/-- The bytes so far, and both readers. -/
structure StI (T : World → Prop) (PR : (Nat → Prop) → World → Value → Bool → List L → Prop) (w wr : World) (c : Bool) (k : Nat) (g : Nat → ByteArray) (va vb : Value) (i : Nat) (S U : ByteArray) : Prop where
  s : toL S = sB c (lsN g i)
  u : toL U = tB c k (lsN g i)
  z : S.size ≤ 30 + 530 * i
  zu : U.size ≤ 30 + 1100 * i
  le : ∀ j, j < i → (g j).size ≤ 500
  r : R2 T PR w wr va c [] vb c [] (fun _ => False)
theorem StI.next (f : H3Face T PR) {w wr : World} {c : Bool} {k : Nat} {g : Nat → ByteArray} {va vb : Value} {i : Nat} {S U : ByteArray} (h : StI T PR w wr c k g va vb i S U) (hi : (g i).size ≤ 500) {w' : World} (b : Below wr.heap.size wr w') {A K E : ByteArray} (hA : A = strL (oneB c (toL (g i)))) (hK : K = strL (frm k (toL (g i)))) (hE : E = strL (frm k [])) : StI T PR w w' c k g va vb (i + 1) (S ++ A) (U ++ K ++ A ++ E) := by
  have zS := h.z
  have zU := h.zu
  have o1 := one_len c (toL (g i))
  have o2 := frm_len15 k (toL (g i))
  have o3 := frm_len15 k []
  have o4 : ([] : L).length = 0 := rfl
  rw [toL_len] at o1 o2
  refine ⟨?_, ?_, ?_, ?_, fun j hj => ?_, h.r.keep f b⟩
  · rw [toL_append, hA, toL_strL, h.s, lsN_succ, sB_snoc]
  · rw [toL_append, toL_append, toL_append, hA, hK, hE, toL_strL, toL_strL, toL_strL, h.u, lsN_succ, tB_snoc]
    simp only [List.append_assoc]
  · rw [ByteArray.size_append, hA, strL_size]
    omega
  · rw [ByteArray.size_append, ByteArray.size_append, ByteArray.size_append, hA, hK, hE, strL_size, strL_size, strL_size]
    omega
  · by_cases e : j = i
    · rw [e]; exact hi
    · exact h.le j (by omega)
set_option maxHeartbeats 32000000 in
theorem strange_req (f : H3Face T PR) (a : Option Addr) (n cap : Nat) (g : Nat → ByteArray) (z : Int) (w : World) (t : T w) (hS : ∀ i, i < n → ∃ b off, a = some ⟨b, off, none⟩ ∧ w.cell? ⟨b, off + i, none⟩ = some (.string (g i))) :
    Calls Tryd.prog 7 #[.bool false, .slice a n cap, .int .i64 z] w fun e w' => e = .returned (.bool true) ∧ Below w.heap.size w w' := by
  have WO : Hid (∀ _ : Unit, _) := fun _ => works15_ok f w t
  obtain ⟨x, hx1, hx2, hx3⟩ := place15 z 100000 (by decide) (by decide)
  obtain ⟨k, hk⟩ : ∃ k : Nat, k = 33 + x := ⟨_, rfl⟩
  have hk2 : (33 : Int) + (x : Int) = (k : Int) := by omega
  have lk : Lim k := by unfold Lim; omega
  have nk : k ≠ 0 ∧ k ≠ 1 ∧ k ≠ 4 ∧ k ≠ 7 := by omega
  have FR : ∀ (j : Nat) (w' : World) (d : ByteArray), Lim j → T w' → d.size ≤ 5000 → Calls Tryd.prog 17 #[.int .i64 (j : Int), .string d] w' fun e w'' => e = .returned (.string (strL (frm j (toL d)))) ∧ Below w'.heap.size w' w'' := fun j w' d lj t' hz => by
    have := f.frame (j : Int) d w' t' (by omega)
    rw [frI_nat j lj] at this
    exact this
  have FK : Hid (∀ (w' : World) (d : ByteArray), T w' → d.size ≤ 5000 → _) := fun w' d t' hz => FR k w' d lk t' hz
  have F0 : Hid (∀ (w' : World) (d : ByteArray), T w' → d.size ≤ 5000 → _) := fun w' d t' hz => FR 0 w' d (by unfold Lim; decide) t' hz
  have F1 : Hid (∀ (w' : World), T w' → _) := fun w' t' => FR 1 w' ⟨#[104]⟩ (by unfold Lim; decide) t' (by decide)
  have F4 : Hid (∀ (w' : World), T w' → _) := fun w' t' => FR 4 w' ⟨#[6, 1]⟩ (by unfold Lim; decide) t' (by decide)
  have F7 : Hid (∀ (w' : World), T w' → _) := fun w' t' => FR 7 w' ⟨#[0]⟩ (by unfold Lim; decide) t' (by decide)
  have QS := Lib.hid (fun ls hl => strange_s false ls hl)
  have QT := Lib.hid (fun ls hl => strange_t false lk nk ls hl)
  have X0 : Hid (∀ wr va vb (A : ByteArray), R2 T PR w wr va false [] vb false [] (fun _ => False) → A = strL (frs false) → StI T PR w wr false k g va vb 0 A A) := fun wr va vb A r hA => by
    subst hA
    have := frs_len15 false
    refine ⟨?_, ?_, by rw [strL_size]; omega, by rw [strL_size]; omega, fun j hj => absurd hj (Nat.not_lt_zero _), r⟩
    · rw [toL_strL]
      show frs false = frs false ++ []
      rw [List.append_nil]
    · rw [toL_strL]
      show frs false = frs false ++ []
      rw [List.append_nil]
  have T0 := Lib.hid t
  have SS := Lib.hid hS
  have e4 : Hid ((⟨#[0]⟩ : ByteArray) ++ strL (frm 4 (toL ⟨#[6, 1]⟩)) = strL (frs true)) := by
    unfold Hid
    exact toL_inj rfl
  have z1 : (strL (frm 4 (toL ⟨#[6, 1]⟩))).size ≤ 19 := by
    rw [strL_size]
    exact Nat.le_trans (frm_len15 4 [6, 1]) (by decide)
  have ek : Hid ((frm k (toL ⟨#[]⟩)) = frm k []) := rfl
  replace lk := Lib.hid lk
  replace nk := Lib.hid nk
  replace hk := Lib.hid hk
  clear t hS FR
  go_enter Tryd.func7, Tryd.ntmps7
  go_wp2_with fail
  refine (WO.out ()).mono ?_
  rintro e w1 ⟨rfl, b1⟩
  have N1 := Lib.hid (r1_new f false w w1 b1 (f.keep T0.out b1))
  clear b1 WO
  go_wp2_with fail
  refine N1.out.mono ?_
  rintro e w2 ⟨pa, rfl, r2⟩
  clear hx1 hx2 hx3 hk2
  generalize (IntKind.u64.wrap z).tmod 100000 = Z1 at *
  have N2 := Lib.hid (r2_new f false false r2)
  clear r2 N1
  go_wp2_with fail
  refine N2.out.mono ?_
  rintro e w3 ⟨pb, rfl, r3⟩
  have C1 := Lib.hid (F1.out w3 r3.tab)
  replace r3 := Lib.hid r3
  clear N2 F1
  go_wp2_with fail
  refine C1.out.mono ?_
  rintro e w4 ⟨rfl, b4⟩
  have r4 := Lib.hid (r3.out.keep f b4)
  have XX := Lib.hid (X0.out w4 _ _ (strL (frm 1 (toL ⟨#[104]⟩))) r4.out rfl)
  clear b4 r3 r4 C1 X0 F4 F7 e4 z1
  generalize strL (frm 1 (toL ⟨#[104]⟩)) = A1 at *
  go_wp2_with fail
  go_loopg [10, 11, 12] 12 (fun gg sv uv iv wr => ∃ (i : Nat) (S U : ByteArray), i + gg = 12 ∧ sv = .string S ∧ uv = .string U ∧ iv = .int .i64 (i : Int) ∧ Hid (StI T PR w wr false k g (.pointer (some pa)) (.pointer (some pb)) i S U))
  case atStart => exact ⟨0, _, _, by omega, rfl, rfl, rfl, XX⟩
  case round =>
    obtain ⟨i, S, U, hi, rfl, rfl, rfl, X⟩ := hrel
    clear XX
    have zS : S.size ≤ 30000 := by have := X.out.z; omega
    have zU : U.size ≤ 30000 := by have := X.out.zu; omega
    by_cases h2 : i < n ∧ i < 12
    · have hin := h2.1
      have hi12 := h2.2
      obtain ⟨b, off, rfl, ci⟩ := SS.out i h2.1
      have hbw := World.block_lt_of_cell? w _ ci
      have ci' := (X.out.r.below.cell hbw).trans ci
      have KC : Hid (∀ w', Below wr.heap.size wr w' → w'.cell? ⟨b, off + i, none⟩ = some (.string (g i))) := fun w' b' => (b'.cell (World.block_lt_of_cell? wr _ ci')).trans ci'
      have ia := fun w' => at_strs15 b off n cap i w' h2.1
      by_cases h3 : (g i).size ≤ 500
      · have q3 : decide ((500 : Int) < ((g i).size : Int)) = false := decide_eq_false (by omega)
        have NX : Hid (∀ w' (A K E : ByteArray), Below wr.heap.size wr w' → A = strL (oneB false (toL (g i))) → K = strL (frm k (toL (g i))) → E = strL (frm k []) → StI T PR w w' false k g (.pointer (some pa)) (.pointer (some pb)) (i + 1) (S ++ A) (U ++ K ++ A ++ E)) := fun w' A K E b' hA hK hE => X.out.next f h3 b' hA hK hE
        have C0 := Lib.hid (F0.out wr (g i) X.out.r.tab (by omega))
        have TT : Hid (∀ w', Below wr.heap.size wr w' → T w') := fun w' b' => f.keep X.out.r.tab b'
        have zA : (strL (frm 0 (toL (g i)))).size ≤ 516 := by
          have f0 := frm_len15 0 (toL (g i))
          rw [toL_len] at f0
          rw [strL_size]
          omega
        have zK : (strL (frm k (toL (g i)))).size ≤ 516 := by
          have f0 := frm_len15 k (toL (g i))
          rw [toL_len] at f0
          rw [strL_size]
          omega
        have zE : (strL (frm k (toL ⟨#[]⟩))).size ≤ 16 := by
          rw [strL_size]
          exact frm_len15 k []
        have hz5 : (g i).size ≤ 5000 := by omega
        clear X SS QS QT T0 F0 h2 ci hbw
        go_wp2_with fail
        refine C0.out.mono ?_
        rintro e w6 ⟨rfl, b6⟩
        have B6 := Lib.hid b6
        clear b6 C0
        have B7 := B6
        clear B6
        obtain ⟨w7, hw7⟩ : ∃ w7, w7 = w6 := ⟨_, rfl⟩
        rw [← hw7] at B7 ⊢
        clear hw7
        obtain ⟨A, hA⟩ : ∃ A, A = strL (frm 0 (toL (g i))) := ⟨_, rfl⟩
        rw [← hA] at zA ⊢
        have zA' : A.size ≤ 516 := zA
        have HA : Hid (A = strL (oneB false (toL (g i)))) := hA
        clear hA
        have cc := KC.out _ B7.out
        have CK := Lib.hid (FK.out w7 (g i) (TT.out _ B7.out) hz5)
        obtain ⟨K, hK⟩ : ∃ K, K = strL (frm k (toL (g i))) := ⟨_, rfl⟩
        obtain ⟨E, hE⟩ : ∃ E, E = strL (frm k (toL ⟨#[]⟩)) := ⟨_, rfl⟩
        rw [← hK] at zK CK
        rw [← hE] at zE
        replace hK := Lib.hid hK
        replace hE := Lib.hid hE
        have m1 : ¬ (9223372036854775807 < S.size + A.size) := by omega
        have m2 : ¬ (9223372036854775807 < U.size + K.size) := by omega
        have m3 : ¬ (9223372036854775807 < U.size + K.size + A.size) := by omega
        have m4 : ¬ (9223372036854775807 < U.size + K.size + A.size + E.size) := by omega
        generalize hD : g i = D at *
        replace hD := Lib.hid hD
        go_wp2_with fail
        refine CK.out.mono ?_
        rintro e w8 ⟨rfl, b8⟩
        have B8 := Lib.hid (B7.out.trans (b8.mono B7.out.size))
        have CE := Lib.hid (FK.out w8 ⟨#[]⟩ (TT.out _ B8.out) (by decide))
        rw [← hE.out] at CE
        clear b8 B7 CK
        go_wp2_with fail
        refine CE.out.mono ?_
        rintro e w9 ⟨rfl, b9⟩
        have N2 := Lib.hid (NX.out w9 A K E (B8.out.trans (b9.mono B8.out.size)) HA.out hK.out hE.out)
        clear b9 B8 CE NX KC FK TT
        go_wp2_with fail
        go_roundg (12 - (i + 1))
        case measure => omega
        case rel => exact ⟨i + 1, _, _, by omega, rfl, rfl, by simp, N2⟩
      · have q3 : decide ((500 : Int) < ((g i).size : Int)) = true := decide_eq_true (by omega)
        have ZZ := Lib.hid X.out.r.below
        clear X SS QS QT F0 FK KC
        go_wp2_with fail
        go_ret
        exact ⟨rfl, ZZ.out⟩
    · have NO : Hid (¬ i < n ∨ (i < n ∧ ¬ i < 12)) := by
        unfold Hid
        omega
      clear h2 SS F0 FK
      go_upto_region 10 with fail
      go_cut [43] (fun s wc => s = .bool false ∧ wr = wc)
      case first =>
        rcases NO.out with y1 | ⟨y1, y2⟩
        · go_wp2_with fail
          go_meet
          exact ⟨rfl, rfl⟩
        · go_wp2_with fail
          go_meet
          exact ⟨by rw [decide_eq_false (by omega)], rfl⟩
      case rest =>
        obtain ⟨rfl, rfl⟩ := hcut
        clear NO
        have hlim : ∀ d ∈ lsN g i, Lim d.length := fun d hd => by
          have := lsN_bd X.out.le d hd
          unfold Lim
          omega
        obtain ⟨p1, FS⟩ := QS.out (lsN g i) hlim
        obtain ⟨p2, FT⟩ := QT.out (lsN g i) hlim
        rw [← X.out.s] at FS
        rw [← X.out.u] at FT
        have hev := evS_len false (lsN g i)
        rw [lsN_len] at hev
        obtain ⟨ES, hES⟩ : ∃ ES, ES = evS false (lsN g i) := ⟨_, rfl⟩
        rw [← hES] at FS FT hev
        clear hES hlim
        have e0 : fed false [] = Hr.new false := rfl
        have eF1 : fed false ([] ++ [toL S]) = Hr.mk false [] false true 0 p1 0 := by rw [fed_snoc, e0, FS]
        have eF2 : fed false ([] ++ [toL U]) = Hr.mk false [] false true 0 p2 0 := by rw [fed_snoc, e0, FT]
        have FA : Hid (∀ wz Y, R2 T PR w wz (.pointer (some pa)) false [] (.pointer (some pb)) false [] Y → _) := fun wz Y h => r2_feed f h S (by show 0 + S.size < 1000000; omega)
        have FB : Hid (∀ wz Y ts, R2 T PR w wz (.pointer (some pb)) false [] (.pointer (some pa)) false ts Y → _) := fun wz Y ts h => r2_feed f h U (by show 0 + U.size < 1000000; omega)
        rw [e0, FS] at FA
        rw [e0, FT] at FB
        simp only at FA FB
        have FN1 : Hid (∀ wz Y ts, R2 T PR w wz (.pointer (some pa)) false ([] ++ [toL S]) (.pointer (some pb)) false ts Y → _) := fun wz Y ts h => r2_fin f h
        have FN2 : Hid (∀ wz Y ts, R2 T PR w wz (.pointer (some pb)) false ([] ++ [toL U]) (.pointer (some pa)) false ts Y → _) := fun wz Y ts h => r2_fin f h
        rw [eF1] at FN1
        rw [eF2] at FN2
        have g1 : (Hr.mk false [] false true 0 p1 0).fin = 0 := rfl
        have g2 : (Hr.mk false [] false true 0 p2 0).fin = 0 := rfl
        rw [g1] at FN1
        rw [g2] at FN2
        have A0 := Lib.hid (FA.out wr _ X.out.r)
        clear QS QT T0 FS FT eF1 eF2 e0 g1 g2 X FA
        go_wp2_with fail
        refine A0.out.mono ?_
        rintro e w4 ⟨ex, rfl, r4, v4, -, -⟩
        have B4 := Lib.hid (FB.out w4 _ _ r4.swap)
        replace v4 := Lib.hid v4
        clear r4 A0 FB
        go_wp2_with fail
        refine B4.out.mono ?_
        rintro e w5 ⟨ey, rfl, r5, v5, s5, -⟩
        have x5 := v4.out.of fun k hk => s5 k (.inr hk)
        have M5 := Lib.hid (FN1.out w5 _ _ r5.swap)
        obtain ⟨ax, cx, hex⟩ := x5.slice
        obtain ⟨ay, cy, hey⟩ := v5.slice
        subst hex hey
        replace x5 := Lib.hid x5
        replace v5 := Lib.hid v5
        clear r5 s5 B4 FN1 v4
        go_wp2_with fail
        refine M5.out.mono ?_
        rintro e w6 ⟨rfl, r6, s6⟩
        have x6 := Lib.hid (x5.out.of fun k hk => s6 k (.inl (.inr hk)))
        have y6 := Lib.hid (v5.out.of fun k hk => s6 k (.inr hk))
        have M6 := Lib.hid (FN2.out w6 _ _ r6.swap)
        clear r6 s6 x5 v5 M5 FN2
        go_wp2_with fail
        refine M6.out.mono ?_
        rintro e w7 ⟨rfl, r7, s7⟩
        have x7 := Lib.hid (x6.out.of fun k hk => s7 k (.inl (.inr hk)))
        have y7 := Lib.hid (y6.out.of fun k hk => s7 k (.inr hk))
        have ZZ := Lib.hid r7.below
        clear r7 s7 x6 y6 M6
        have hN1 := hev.1
        have hN2 := hev.2
        clear hev
        obtain ⟨N, hN⟩ : ∃ N, N = ES.length := ⟨_, rfl⟩
        have HX : Hid (∀ j, j < N → ∃ gx ox gy oy, ax = some ⟨gx, ox, none⟩ ∧ ay = some ⟨gy, oy, none⟩ ∧ w7.cell? ⟨gx, ox + 2 * j, none⟩ = some (.int .i64 ((ES.getD j (0, [])).1 : Int)) ∧ w7.cell? ⟨gx, ox + 2 * j + 1, none⟩ = some (.string (strL (ES.getD j (0, [])).2)) ∧ w7.cell? ⟨gy, oy + 2 * j, none⟩ = some (.int .i64 ((ES.getD j (0, [])).1 : Int)) ∧ w7.cell? ⟨gy, oy + 2 * j + 1, none⟩ = some (.string (strL (ES.getD j (0, [])).2))) := fun j hj => by
          obtain ⟨a1, c1, e1, h1⟩ := x7.out
          obtain ⟨a2, c2, e2, h2⟩ := y7.out
          injection e1 with e1 _ _
          injection e2 with e2 _ _
          subst e1 e2
          rcases h1 with h1 | ⟨gx, ox, rfl, h1⟩
          · rw [h1] at hN
            rw [hN] at hj
            exact absurd hj (Nat.not_lt_zero _)
          · rcases h2 with h2 | ⟨gy, oy, rfl, h2⟩
            · rw [h2] at hN
              rw [hN] at hj
              exact absurd hj (Nat.not_lt_zero _)
            · have hj' : j < ES.length := by omega
              exact ⟨gx, ox, gy, oy, rfl, rfl, (h1 j hj').1, (h1 j hj').2, (h2 j hj').1, (h2 j hj').2⟩
        rw [← hN] at hN1 hN2 ⊢
        clear x7 y7
        replace hN := Lib.hid hN
        go_wp2_with fail
        go_loopg [18] N (fun g2 iv wx => ∃ j : Nat, j + g2 = N ∧ iv = .int .i64 (j : Int) ∧ Hid (w7.drew.heap = wx.heap ∨ w7.heap = wx.heap) ∧ Hid (Below w.heap.size w wx))
        case atStart => exact ⟨0, by omega, rfl, .inr rfl, ZZ⟩
        case round =>
          obtain ⟨j, hj, rfl, hw, zz⟩ := hrel
          by_cases hjn : j < N
          · obtain ⟨gx, ox, gy, oy, rfl, rfl, d0, d1, d2, d3⟩ := HX.out j hjn
            have hh : wr.heap = w7.heap := by
              rcases hw.out with q | q
              · exact q.symm
              · exact q.symm
            have tr : ∀ (a : Addr) (v : Value), w7.cell? a = some v → wr.cell? a = some v := fun a v hv => by
              unfold World.cell? at hv ⊢
              rw [hh]
              exact hv
            replace d0 := tr _ _ d0
            replace d1 := tr _ _ d1
            replace d2 := tr _ _ d2
            replace d3 := tr _ _ d3
            have ix := fun w' => at_ev gx ox N cx j w' hjn (j : Int) rfl (ox + 2 * j) rfl
            have iy := fun w' => at_ev gy oy N cy j w' hjn (j : Int) rfl (oy + 2 * j) rfl
            have NW : Hid ((w7.drew.heap = wr.drew.heap ∨ w7.heap = wr.drew.heap) ∧ Below w.heap.size w wr.drew) := ⟨.inr hh.symm, zz.out.trans (drewB _ _)⟩
            generalize (ES.getD j (0, [])).1 = kk at *
            generalize strL (ES.getD j (0, [])).2 = DD at *
            clear HX hw tr ZZ zz
            go_wp2_with fail
            go_region
            all_goals
              go_wp2_with fail
              go_roundg (N - (j + 1))
              case measure => omega
              case rel => exact ⟨j + 1, by omega, by simp, NW.out.1, NW.out.2⟩
          · clear HX hw
            go_wp2_with fail
            go_ret
            exact ⟨rfl, zz.out⟩
set_option maxHeartbeats 32000000 in
theorem strange_ctl (f : H3Face T PR) (a : Option Addr) (n cap : Nat) (g : Nat → ByteArray) (z : Int) (w : World) (t : T w) (hS : ∀ i, i < n → ∃ b off, a = some ⟨b, off, none⟩ ∧ w.cell? ⟨b, off + i, none⟩ = some (.string (g i))) :
    Calls Tryd.prog 7 #[.bool true, .slice a n cap, .int .i64 z] w fun e w' => e = .returned (.bool true) ∧ Below w.heap.size w w' := by
  have WO : Hid (∀ _ : Unit, _) := fun _ => works15_ok f w t
  obtain ⟨x, hx1, hx2, hx3⟩ := place15 z 100000 (by decide) (by decide)
  obtain ⟨k, hk⟩ : ∃ k : Nat, k = 33 + x := ⟨_, rfl⟩
  have hk2 : (33 : Int) + (x : Int) = (k : Int) := by omega
  have lk : Lim k := by unfold Lim; omega
  have nk : k ≠ 0 ∧ k ≠ 1 ∧ k ≠ 4 ∧ k ≠ 7 := by omega
  have FR : ∀ (j : Nat) (w' : World) (d : ByteArray), Lim j → T w' → d.size ≤ 5000 → Calls Tryd.prog 17 #[.int .i64 (j : Int), .string d] w' fun e w'' => e = .returned (.string (strL (frm j (toL d)))) ∧ Below w'.heap.size w' w'' := fun j w' d lj t' hz => by
    have := f.frame (j : Int) d w' t' (by omega)
    rw [frI_nat j lj] at this
    exact this
  have FK : Hid (∀ (w' : World) (d : ByteArray), T w' → d.size ≤ 5000 → _) := fun w' d t' hz => FR k w' d lk t' hz
  have F0 : Hid (∀ (w' : World) (d : ByteArray), T w' → d.size ≤ 5000 → _) := fun w' d t' hz => FR 0 w' d (by unfold Lim; decide) t' hz
  have F1 : Hid (∀ (w' : World), T w' → _) := fun w' t' => FR 1 w' ⟨#[104]⟩ (by unfold Lim; decide) t' (by decide)
  have F4 : Hid (∀ (w' : World), T w' → _) := fun w' t' => FR 4 w' ⟨#[6, 1]⟩ (by unfold Lim; decide) t' (by decide)
  have F7 : Hid (∀ (w' : World), T w' → _) := fun w' t' => FR 7 w' ⟨#[0]⟩ (by unfold Lim; decide) t' (by decide)
  have QS := Lib.hid (fun ls hl => strange_s true ls hl)
  have QT := Lib.hid (fun ls hl => strange_t true lk nk ls hl)
  have X0 : Hid (∀ wr va vb (A : ByteArray), R2 T PR w wr va true [] vb true [] (fun _ => False) → A = strL (frs true) → StI T PR w wr true k g va vb 0 A A) := fun wr va vb A r hA => by
    subst hA
    have := frs_len15 true
    refine ⟨?_, ?_, by rw [strL_size]; omega, by rw [strL_size]; omega, fun j hj => absurd hj (Nat.not_lt_zero _), r⟩
    · rw [toL_strL]
      show frs true = frs true ++ []
      rw [List.append_nil]
    · rw [toL_strL]
      show frs true = frs true ++ []
      rw [List.append_nil]
  have T0 := Lib.hid t
  have SS := Lib.hid hS
  have e4 : Hid ((⟨#[0]⟩ : ByteArray) ++ strL (frm 4 (toL ⟨#[6, 1]⟩)) = strL (frs true)) := by
    unfold Hid
    exact toL_inj rfl
  have z1 : (strL (frm 4 (toL ⟨#[6, 1]⟩))).size ≤ 19 := by
    rw [strL_size]
    exact Nat.le_trans (frm_len15 4 [6, 1]) (by decide)
  have ek : Hid ((frm k (toL ⟨#[]⟩)) = frm k []) := rfl
  replace lk := Lib.hid lk
  replace nk := Lib.hid nk
  replace hk := Lib.hid hk
  clear t hS FR
  go_enter Tryd.func7, Tryd.ntmps7
  go_wp2_with fail
  refine (WO.out ()).mono ?_
  rintro e w1 ⟨rfl, b1⟩
  have N1 := Lib.hid (r1_new f true w w1 b1 (f.keep T0.out b1))
  clear b1 WO
  go_wp2_with fail
  refine N1.out.mono ?_
  rintro e w2 ⟨pa, rfl, r2⟩
  clear hx1 hx2 hx3 hk2
  generalize (IntKind.u64.wrap z).tmod 100000 = Z1 at *
  have N2 := Lib.hid (r2_new f true true r2)
  clear r2 N1
  go_wp2_with fail
  refine N2.out.mono ?_
  rintro e w3 ⟨pb, rfl, r3⟩
  have C1 := Lib.hid (F1.out w3 r3.tab)
  replace r3 := Lib.hid r3
  clear N2 F1
  go_wp2_with fail
  refine C1.out.mono ?_
  rintro e w4 ⟨rfl, b4⟩
  have r4 := Lib.hid (r3.out.keep f b4)
  have C4 := Lib.hid (F4.out w4 r4.out.tab)
  clear b4 r3 C1 F4
  generalize strL (frm 1 (toL ⟨#[104]⟩)) = A1 at *
  go_wp2_with fail
  refine C4.out.mono ?_
  rintro e w5 ⟨rfl, b5⟩
  have XX := Lib.hid (X0.out w5 _ _ _ (r4.out.keep f b5) e4.out)
  clear b5 r4 C4 X0 e4
  generalize strL (frm 4 (toL ⟨#[6, 1]⟩)) = A4 at *
  go_wp2_with fail
  go_loopg [10, 11, 12] 12 (fun gg sv uv iv wr => ∃ (i : Nat) (S U : ByteArray), i + gg = 12 ∧ sv = .string S ∧ uv = .string U ∧ iv = .int .i64 (i : Int) ∧ Hid (StI T PR w wr true k g (.pointer (some pa)) (.pointer (some pb)) i S U))
  case atStart => exact ⟨0, _, _, by omega, rfl, rfl, rfl, XX⟩
  case round =>
    obtain ⟨i, S, U, hi, rfl, rfl, rfl, X⟩ := hrel
    clear XX
    have zS : S.size ≤ 30000 := by have := X.out.z; omega
    have zU : U.size ≤ 30000 := by have := X.out.zu; omega
    by_cases h2 : i < n ∧ i < 12
    · have hin := h2.1
      have hi12 := h2.2
      obtain ⟨b, off, rfl, ci⟩ := SS.out i h2.1
      have hbw := World.block_lt_of_cell? w _ ci
      have ci' := (X.out.r.below.cell hbw).trans ci
      have KC : Hid (∀ w', Below wr.heap.size wr w' → w'.cell? ⟨b, off + i, none⟩ = some (.string (g i))) := fun w' b' => (b'.cell (World.block_lt_of_cell? wr _ ci')).trans ci'
      have ia := fun w' => at_strs15 b off n cap i w' h2.1
      by_cases h3 : (g i).size ≤ 500
      · have q3 : decide ((500 : Int) < ((g i).size : Int)) = false := decide_eq_false (by omega)
        have NX : Hid (∀ w' (A K E : ByteArray), Below wr.heap.size wr w' → A = strL (oneB true (toL (g i))) → K = strL (frm k (toL (g i))) → E = strL (frm k []) → StI T PR w w' true k g (.pointer (some pa)) (.pointer (some pb)) (i + 1) (S ++ A) (U ++ K ++ A ++ E)) := fun w' A K E b' hA hK hE => X.out.next f h3 b' hA hK hE
        have C0 := Lib.hid (F0.out wr (g i) X.out.r.tab (by omega))
        have TT : Hid (∀ w', Below wr.heap.size wr w' → T w') := fun w' b' => f.keep X.out.r.tab b'
        have zA : (strL (frm 0 (toL (g i)))).size ≤ 516 := by
          have f0 := frm_len15 0 (toL (g i))
          rw [toL_len] at f0
          rw [strL_size]
          omega
        have zK : (strL (frm k (toL (g i)))).size ≤ 516 := by
          have f0 := frm_len15 k (toL (g i))
          rw [toL_len] at f0
          rw [strL_size]
          omega
        have zE : (strL (frm k (toL ⟨#[]⟩))).size ≤ 16 := by
          rw [strL_size]
          exact frm_len15 k []
        have hz5 : (g i).size ≤ 5000 := by omega
        clear X SS QS QT T0 F0 h2 ci hbw
        go_wp2_with fail
        refine C0.out.mono ?_
        rintro e w6 ⟨rfl, b6⟩
        have B6 := Lib.hid b6
        clear b6 C0
        have C7 := Lib.hid (F7.out w6 (TT.out _ B6.out))
        have z7 : (strL (frm 7 (toL ⟨#[0]⟩))).size ≤ 17 := by
          rw [strL_size]
          exact frm_len15 7 [0]
        go_wp2_with fail
        refine C7.out.mono ?_
        rintro e w7 ⟨rfl, b7⟩
        have B7 := Lib.hid (B6.out.trans (b7.mono B6.out.size))
        clear b7 C7 B6
        obtain ⟨A, hA⟩ : ∃ A, A = strL (frm 7 (toL ⟨#[0]⟩)) := ⟨_, rfl⟩
        rw [← hA] at z7 ⊢
        have HA : Hid (A = strL (oneB true (toL (g i)))) := hA
        clear hA
        have zA' : A.size ≤ 516 := by omega
        generalize strL (frm 0 (toL (g i))) = A0 at *
        have cc := KC.out _ B7.out
        have CK := Lib.hid (FK.out w7 (g i) (TT.out _ B7.out) hz5)
        obtain ⟨K, hK⟩ : ∃ K, K = strL (frm k (toL (g i))) := ⟨_, rfl⟩
        obtain ⟨E, hE⟩ : ∃ E, E = strL (frm k (toL ⟨#[]⟩)) := ⟨_, rfl⟩
        rw [← hK] at zK CK
        rw [← hE] at zE
        replace hK := Lib.hid hK
        replace hE := Lib.hid hE
        have m1 : ¬ (9223372036854775807 < S.size + A.size) := by omega
        have m2 : ¬ (9223372036854775807 < U.size + K.size) := by omega
        have m3 : ¬ (9223372036854775807 < U.size + K.size + A.size) := by omega
        have m4 : ¬ (9223372036854775807 < U.size + K.size + A.size + E.size) := by omega
        generalize hD : g i = D at *
        replace hD := Lib.hid hD
        go_wp2_with fail
        refine CK.out.mono ?_
        rintro e w8 ⟨rfl, b8⟩
        have B8 := Lib.hid (B7.out.trans (b8.mono B7.out.size))
        have CE := Lib.hid (FK.out w8 ⟨#[]⟩ (TT.out _ B8.out) (by decide))
        rw [← hE.out] at CE
        clear b8 B7 CK
        go_wp2_with fail
        refine CE.out.mono ?_
        rintro e w9 ⟨rfl, b9⟩
        have N2 := Lib.hid (NX.out w9 A K E (B8.out.trans (b9.mono B8.out.size)) HA.out hK.out hE.out)
        clear b9 B8 CE NX KC FK TT
        go_wp2_with fail
        go_roundg (12 - (i + 1))
        case measure => omega
        case rel => exact ⟨i + 1, _, _, by omega, rfl, rfl, by simp, N2⟩
      · have q3 : decide ((500 : Int) < ((g i).size : Int)) = true := decide_eq_true (by omega)
        have ZZ := Lib.hid X.out.r.below
        clear X SS QS QT F0 FK KC
        go_wp2_with fail
        go_ret
        exact ⟨rfl, ZZ.out⟩
    · have NO : Hid (¬ i < n ∨ (i < n ∧ ¬ i < 12)) := by
        unfold Hid
        omega
      clear h2 SS F0 FK
      go_upto_region 10 with fail
      go_cut [43] (fun s wc => s = .bool false ∧ wr = wc)
      case first =>
        rcases NO.out with y1 | ⟨y1, y2⟩
        · go_wp2_with fail
          go_meet
          exact ⟨rfl, rfl⟩
        · go_wp2_with fail
          go_meet
          exact ⟨by rw [decide_eq_false (by omega)], rfl⟩
      case rest =>
        obtain ⟨rfl, rfl⟩ := hcut
        clear NO
        have hlim : ∀ d ∈ lsN g i, Lim d.length := fun d hd => by
          have := lsN_bd X.out.le d hd
          unfold Lim
          omega
        obtain ⟨p1, FS⟩ := QS.out (lsN g i) hlim
        obtain ⟨p2, FT⟩ := QT.out (lsN g i) hlim
        rw [← X.out.s] at FS
        rw [← X.out.u] at FT
        have hev := evS_len true (lsN g i)
        rw [lsN_len] at hev
        obtain ⟨ES, hES⟩ : ∃ ES, ES = evS true (lsN g i) := ⟨_, rfl⟩
        rw [← hES] at FS FT hev
        clear hES hlim
        have e0 : fed true [] = Hr.new true := rfl
        have eF1 : fed true ([] ++ [toL S]) = Hr.mk true [] true true 0 p1 0 := by rw [fed_snoc, e0, FS]
        have eF2 : fed true ([] ++ [toL U]) = Hr.mk true [] true true 0 p2 0 := by rw [fed_snoc, e0, FT]
        have FA : Hid (∀ wz Y, R2 T PR w wz (.pointer (some pa)) true [] (.pointer (some pb)) true [] Y → _) := fun wz Y h => r2_feed f h S (by show 0 + S.size < 1000000; omega)
        have FB : Hid (∀ wz Y ts, R2 T PR w wz (.pointer (some pb)) true [] (.pointer (some pa)) true ts Y → _) := fun wz Y ts h => r2_feed f h U (by show 0 + U.size < 1000000; omega)
        rw [e0, FS] at FA
        rw [e0, FT] at FB
        simp only at FA FB
        have FN1 : Hid (∀ wz Y ts, R2 T PR w wz (.pointer (some pa)) true ([] ++ [toL S]) (.pointer (some pb)) true ts Y → _) := fun wz Y ts h => r2_fin f h
        have FN2 : Hid (∀ wz Y ts, R2 T PR w wz (.pointer (some pb)) true ([] ++ [toL U]) (.pointer (some pa)) true ts Y → _) := fun wz Y ts h => r2_fin f h
        rw [eF1] at FN1
        rw [eF2] at FN2
        have g1 : (Hr.mk true [] true true 0 p1 0).fin = 0 := rfl
        have g2 : (Hr.mk true [] true true 0 p2 0).fin = 0 := rfl
        rw [g1] at FN1
        rw [g2] at FN2
        have A0 := Lib.hid (FA.out wr _ X.out.r)
        clear QS QT T0 FS FT eF1 eF2 e0 g1 g2 X FA
        go_wp2_with fail
        refine A0.out.mono ?_
        rintro e w4 ⟨ex, rfl, r4, v4, -, -⟩
        have B4 := Lib.hid (FB.out w4 _ _ r4.swap)
        replace v4 := Lib.hid v4
        clear r4 A0 FB
        go_wp2_with fail
        refine B4.out.mono ?_
        rintro e w5 ⟨ey, rfl, r5, v5, s5, -⟩
        have x5 := v4.out.of fun k hk => s5 k (.inr hk)
        have M5 := Lib.hid (FN1.out w5 _ _ r5.swap)
        obtain ⟨ax, cx, hex⟩ := x5.slice
        obtain ⟨ay, cy, hey⟩ := v5.slice
        subst hex hey
        replace x5 := Lib.hid x5
        replace v5 := Lib.hid v5
        clear r5 s5 B4 FN1 v4
        go_wp2_with fail
        refine M5.out.mono ?_
        rintro e w6 ⟨rfl, r6, s6⟩
        have x6 := Lib.hid (x5.out.of fun k hk => s6 k (.inl (.inr hk)))
        have y6 := Lib.hid (v5.out.of fun k hk => s6 k (.inr hk))
        have M6 := Lib.hid (FN2.out w6 _ _ r6.swap)
        clear r6 s6 x5 v5 M5 FN2
        go_wp2_with fail
        refine M6.out.mono ?_
        rintro e w7 ⟨rfl, r7, s7⟩
        have x7 := Lib.hid (x6.out.of fun k hk => s7 k (.inl (.inr hk)))
        have y7 := Lib.hid (y6.out.of fun k hk => s7 k (.inr hk))
        have ZZ := Lib.hid r7.below
        clear r7 s7 x6 y6 M6
        have hN1 := hev.1
        have hN2 := hev.2
        clear hev
        obtain ⟨N, hN⟩ : ∃ N, N = ES.length := ⟨_, rfl⟩
        have HX : Hid (∀ j, j < N → ∃ gx ox gy oy, ax = some ⟨gx, ox, none⟩ ∧ ay = some ⟨gy, oy, none⟩ ∧ w7.cell? ⟨gx, ox + 2 * j, none⟩ = some (.int .i64 ((ES.getD j (0, [])).1 : Int)) ∧ w7.cell? ⟨gx, ox + 2 * j + 1, none⟩ = some (.string (strL (ES.getD j (0, [])).2)) ∧ w7.cell? ⟨gy, oy + 2 * j, none⟩ = some (.int .i64 ((ES.getD j (0, [])).1 : Int)) ∧ w7.cell? ⟨gy, oy + 2 * j + 1, none⟩ = some (.string (strL (ES.getD j (0, [])).2))) := fun j hj => by
          obtain ⟨a1, c1, e1, h1⟩ := x7.out
          obtain ⟨a2, c2, e2, h2⟩ := y7.out
          injection e1 with e1 _ _
          injection e2 with e2 _ _
          subst e1 e2
          rcases h1 with h1 | ⟨gx, ox, rfl, h1⟩
          · rw [h1] at hN
            rw [hN] at hj
            exact absurd hj (Nat.not_lt_zero _)
          · rcases h2 with h2 | ⟨gy, oy, rfl, h2⟩
            · rw [h2] at hN
              rw [hN] at hj
              exact absurd hj (Nat.not_lt_zero _)
            · have hj' : j < ES.length := by omega
              exact ⟨gx, ox, gy, oy, rfl, rfl, (h1 j hj').1, (h1 j hj').2, (h2 j hj').1, (h2 j hj').2⟩
        rw [← hN] at hN1 hN2 ⊢
        clear x7 y7
        replace hN := Lib.hid hN
        go_wp2_with fail
        go_loopg [18] N (fun g2 iv wx => ∃ j : Nat, j + g2 = N ∧ iv = .int .i64 (j : Int) ∧ Hid (w7.drew.heap = wx.heap ∨ w7.heap = wx.heap) ∧ Hid (Below w.heap.size w wx))
        case atStart => exact ⟨0, by omega, rfl, .inr rfl, ZZ⟩
        case round =>
          obtain ⟨j, hj, rfl, hw, zz⟩ := hrel
          by_cases hjn : j < N
          · obtain ⟨gx, ox, gy, oy, rfl, rfl, d0, d1, d2, d3⟩ := HX.out j hjn
            have hh : wr.heap = w7.heap := by
              rcases hw.out with q | q
              · exact q.symm
              · exact q.symm
            have tr : ∀ (a : Addr) (v : Value), w7.cell? a = some v → wr.cell? a = some v := fun a v hv => by
              unfold World.cell? at hv ⊢
              rw [hh]
              exact hv
            replace d0 := tr _ _ d0
            replace d1 := tr _ _ d1
            replace d2 := tr _ _ d2
            replace d3 := tr _ _ d3
            have ix := fun w' => at_ev gx ox N cx j w' hjn (j : Int) rfl (ox + 2 * j) rfl
            have iy := fun w' => at_ev gy oy N cy j w' hjn (j : Int) rfl (oy + 2 * j) rfl
            have NW : Hid ((w7.drew.heap = wr.drew.heap ∨ w7.heap = wr.drew.heap) ∧ Below w.heap.size w wr.drew) := ⟨.inr hh.symm, zz.out.trans (drewB _ _)⟩
            generalize (ES.getD j (0, [])).1 = kk at *
            generalize strL (ES.getD j (0, [])).2 = DD at *
            clear HX hw tr ZZ zz
            go_wp2_with fail
            go_region
            all_goals
              go_wp2_with fail
              go_roundg (N - (j + 1))
              case measure => omega
              case rel => exact ⟨j + 1, by omega, by simp, NW.out.1, NW.out.2⟩
          · clear HX hw
            go_wp2_with fail
            go_ret
            exact ⟨rfl, zz.out⟩
theorem strange15_ok (f : H3Face T PR) (c : Bool) (a : Option Addr) (n cap : Nat) (g : Nat → ByteArray) (z : Int) (w : World) (t : T w) (hS : ∀ i, i < n → ∃ b off, a = some ⟨b, off, none⟩ ∧ w.cell? ⟨b, off + i, none⟩ = some (.string (g i))) :
    Calls Tryd.prog 7 #[.bool c, .slice a n cap, .int .i64 z] w fun e w' => e = .returned (.bool true) ∧ Below w.heap.size w w' := by
  cases c
  · exact strange_req f a n cap g z w t hS
  · exact strange_ctl f a n cap g z w t hS
end
end Go.Proofs.YtnngdlleicjegaaDoor
