/-
  What the program's own Put of a stream does. Texts of at most 2^47 bytes; no other condition but what always holds of a stream.
-/
import Derived.Test.YtdmoaeegjjenmaaInPgA
namespace Go.Proofs.Ytdmoaeegjjenmaa.ib
set_option maxRecDepth 100000
open Go.RowKit Go.Sort

theorem bytes_len (a : ByteArray) : a.toList.length = a.size := by rw [ByteArray.toList_eq]; simp
theorem bytes_some (a : ByteArray) (h : 0 < a.size) : a.toList.isEmpty = false := by
  cases e : a.toList with
  | nil => have := bytes_len a; rw [e] at this; simp at this; omega
  | cons x l => rfl
theorem bytes_none (a : ByteArray) (h : ¬ 0 < a.size) : a.toList.isEmpty = true := by
  rw [List.eq_nil_of_length_eq_zero (l := a.toList) (by rw [bytes_len]; omega)]
  rfl
/-- While a piece is laid: what its bytes up to the k-th have made of the map; k0: where the laying began. -/
structure PL (w wr : World) (R m : Nat) (d : Bx) (off : Int) (s : ByteArray) (k0 k : Nat) : Prop where
  led : Lies wr R (pxc m d)
  map : ∃ n S, n ≤ d.cnt + (k - k0) ∧ MapY wr m n S ∧ ∀ x, d.rd ≤ x → S x = lay d off (bt s) k x
  kp : Kept (fun k => k = m) w wr
  ne : m ≠ R
theorem PL.skip {w wr w' : World} {R m : Nat} {d : Bx} {off : Int} {s : ByteArray} {k0 k : Nat} (h : PL w wr R m d off s k0 k) (b : Below wr.heap.size wr w') (hn : ¬ (d.rd ≤ off + k ∧ d.got (off + k) = none)) : PL w w' R m d off s k0 (k + 1) := by
  obtain ⟨n, S, h1, h2, h3⟩ := h.map
  exact ⟨h.led.keep (by show 0 < 5; decide) b, ⟨n, S, by omega, h2.of_block (b.block _ h2.lt), fun x hx => by rw [lay_skip d off _ k hn x]; exact h3 x hx⟩, h.kp.add b, h.ne⟩
/-- Ahead of what is still of interest nothing is laid. -/
theorem lay_low (d : Bx) (off : Int) (f : Nat → Int) (k : Nat) (x : Int) (h : off + k ≤ max off d.rd) : d.rd ≤ x → lay d off f k x = d.got x := fun hx => by
  unfold lay
  rw [if_neg (by omega)]
theorem PL.whole {w wr : World} {R m : Nat} {d : Bx} {off : Int} {s : ByteArray} {k0 k : Nat} (h : PL w wr R m d off s k0 k) (h0 : off + k0 = max off d.rd) (hk : k = max k0 s.size) : ∃ n S, n ≤ d.cnt + s.size ∧ MapY wr m n S ∧ ∀ x, d.rd ≤ x → S x = lay d off (bt s) s.size x := by
  obtain ⟨n, S, h1, h2, h3⟩ := h.map
  refine ⟨n, S, by omega, h2, fun x hx => ?_⟩
  rw [h3 x hx]
  by_cases q : k0 ≤ s.size
  · have e : k = s.size := by omega
    rw [e]
  · rw [lay_low d off _ k x (by omega) hx, lay_low d off _ s.size x (by omega) hx]
set_option maxHeartbeats 2000000 in
theorem pput_no (R m : Nat) (d : Bx) (off : Int) (s : ByteArray) (fin : Bool) (w : World) (h : PX w R m d) (hd : Bw d) (hs : s.size ≤ 140737488355328) (he : putE d off s.size fin ≠ 0) :
    Calls Try.prog 24 #[ptr R, .int .i64 off, .string s, .bool fin] w fun e w' => e = .returned (.int .i64 (putE d off s.size fin)) ∧ PX w' R m (putB d off s fin) ∧ Kept (fun k => k = R ∨ k = m) w w' := by
  have stay : putB d off s fin = d := by unfold putB; rw [if_neg (fun e => he e.1)]
  rw [stay]
  by_cases p1 : 0 ≤ off ∧ off ≤ 4611686018427387903
  · have CC : Hid (∀ _ : Unit, _) := fun _ => pcheck_ok R m d (off + s.size) fin w h hd
    rw [← putE_chk hd.k off s.size fin p1] at CC
    have g1 : decide (off < 0) = false := decide_eq_false (by omega)
    have g2 : decide (4611686018427387903 < off) = false := decide_eq_false (by omega)
    obtain ⟨E, hE⟩ : ∃ E, E = off + (s.size : Int) := ⟨_, rfl⟩
    have ew : wrap64 (off + (s.size : Int)) = E := by rw [hE]; unfold wrap64; omega
    rw [← hE] at CC
    generalize putE d off s.size fin = Z at *
    have gz : (Z != 0) = true := by simpa using he
    replace h : Hid (PX w R m d) := h
    replace he := Lib.hid he
    clear stay hd hE p1 hs
    go_enter Try.func24, Try.ntmps24
    go_wp2_with fail
    refine (CC.out ()).mono ?_
    rintro e w1 ⟨rfl, rfl⟩
    go_wp2_with fail
    go_ret
    exact ⟨rfl, h.out, Kept.refl _ _⟩
  · have e : putE d off s.size fin = 2 := by unfold putE; rw [if_pos (by omega)]
    rw [e]
    replace h : Hid (PX w R m d) := h
    clear e he stay hd hs
    by_cases q : off < 0
    · have g1 : decide (off < 0) = true := decide_eq_true q
      clear p1 q
      go_enter Try.func24, Try.ntmps24
      go_wp2_with fail
      go_ret
      exact ⟨rfl, h.out, Kept.refl _ _⟩
    · have g1 : decide (off < 0) = false := decide_eq_false q
      have g2 : decide (4611686018427387903 < off) = true := decide_eq_true (by omega)
      clear p1 q
      go_enter Try.func24, Try.ntmps24
      go_wp2_with fail
      go_ret
      exact ⟨rfl, h.out, Kept.refl _ _⟩
theorem pput_t {w wr : World} {R m : Nat} {d d' : Bx} {off : Int} {s : ByteArray} {k0 k : Nat} (N : PL w wr R m d off s k0 k) (h0 : off + k0 = max off d.rd) (hk : k = max k0 s.size) (hr : d.rst = false) (e : d' = { d with got := lay d off (bt s) s.size, most := if 0 < s.size then max d.most (off + s.size) else d.most, size := if true = true then off + s.size else d.size, cnt := d.cnt + s.size }) :
    if 0 < s.size then PX ((wr.setCell ⟨R, 1, none⟩ (.int .i64 (max d.most (off + s.size)))).setCell ⟨R, 3, none⟩ (.int .i64 (off + s.size))) R m d' ∧ Kept (fun k => k = R ∨ k = m) w ((wr.setCell ⟨R, 1, none⟩ (.int .i64 (max d.most (off + s.size)))).setCell ⟨R, 3, none⟩ (.int .i64 (off + s.size)))
    else PX (wr.setCell ⟨R, 3, none⟩ (.int .i64 (off + s.size))) R m d' ∧ Kept (fun k => k = R ∨ k = m) w (wr.setCell ⟨R, 3, none⟩ (.int .i64 (off + s.size))) := by
  obtain ⟨n, S, h1, h2, h3⟩ := N.whole h0 hk
  have K : Kept (fun k => k = R ∨ k = m) w wr := N.kp.mono fun k _ e => .inr e
  have h4 : ∀ x, d.rd ≤ x → S x = gotP d' x := fun x hx => by rw [h3 x hx, e]; unfold gotP; simp [hr]
  subst e
  split
  · rename_i hp
    refine ⟨⟨?_, ⟨n, S, h1, h2.of_block ((Below.heap_setCell _ _ _ _ N.ne).trans (Below.heap_setCell _ _ _ _ N.ne)), h4⟩, N.ne⟩, Kept.set (F := fun k => k = R ∨ k = m) (Kept.set (F := fun k => k = R ∨ k = m) K ⟨R, 1, none⟩ (.inl rfl) _) ⟨R, 3, none⟩ (.inl rfl) _⟩
    have := (N.led.put 1 (by show 1 < 5; decide) (.int .i64 (max d.most (off + s.size)))).put 3 (by show 3 < 5; decide) (.int .i64 (off + s.size))
    unfold pxc
    simp only
    exact this
  · rename_i hp
    refine ⟨⟨?_, ⟨n, S, h1, h2.of_block (Below.heap_setCell _ _ _ _ N.ne), h4⟩, N.ne⟩, Kept.set (F := fun k => k = R ∨ k = m) K ⟨R, 3, none⟩ (.inl rfl) _⟩
    have := N.led.put 3 (by show 3 < 5; decide) (.int .i64 (off + s.size))
    unfold pxc
    simp only
    exact this
theorem pput_f {w wr : World} {R m : Nat} {d d' : Bx} {off : Int} {s : ByteArray} {k0 k : Nat} (N : PL w wr R m d off s k0 k) (h0 : off + k0 = max off d.rd) (hk : k = max k0 s.size) (hr : d.rst = false) (e : d' = { d with got := lay d off (bt s) s.size, most := if 0 < s.size then max d.most (off + s.size) else d.most, size := if false = true then off + s.size else d.size, cnt := d.cnt + s.size }) :
    if 0 < s.size then PX (wr.setCell ⟨R, 1, none⟩ (.int .i64 (max d.most (off + s.size)))) R m d' ∧ Kept (fun k => k = R ∨ k = m) w (wr.setCell ⟨R, 1, none⟩ (.int .i64 (max d.most (off + s.size))))
    else PX wr R m d' ∧ Kept (fun k => k = R ∨ k = m) w wr := by
  obtain ⟨n, S, h1, h2, h3⟩ := N.whole h0 hk
  have K : Kept (fun k => k = R ∨ k = m) w wr := N.kp.mono fun k _ e => .inr e
  have h4 : ∀ x, d.rd ≤ x → S x = gotP d' x := fun x hx => by rw [h3 x hx, e]; unfold gotP; simp [hr]
  subst e
  split
  · rename_i hp
    refine ⟨⟨?_, ⟨n, S, h1, h2.of_block (Below.heap_setCell _ _ _ _ N.ne), h4⟩, N.ne⟩, Kept.set (F := fun k => k = R ∨ k = m) K ⟨R, 1, none⟩ (.inl rfl) _⟩
    have := N.led.put 1 (by show 1 < 5; decide) (.int .i64 (max d.most (off + s.size)))
    unfold pxc
    simp only
    exact this
  · rename_i hp
    refine ⟨⟨?_, ⟨n, S, h1, h2, h4⟩, N.ne⟩, K⟩
    have := N.led
    unfold pxc
    simp only
    exact this
set_option maxHeartbeats 4000000 in
theorem pput_ok_t (R m : Nat) (d : Bx) (off : Int) (s : ByteArray) (w : World) (h : PX w R m d) (hd : Bw d) (hs : s.size ≤ 140737488355328) (he : putE d off s.size true = 0) :
    Calls Try.prog 24 #[ptr R, .int .i64 off, .string s, .bool true] w fun e w' => e = .returned (.int .i64 0) ∧ PX w' R m (putB d off s true) ∧ Kept (fun k => k = R ∨ k = m) w w' := by
  obtain ⟨p1, p2, p3, p4⟩ := putE_zero he
  have CC : Hid (∀ _ : Unit, _) := fun _ => pcheck_ok R m d (off + s.size) true w h hd
  rw [← putE_chk hd.k off s.size true p1, he] at CC
  have g1 : decide (off < 0) = false := decide_eq_false (by omega)
  have g2 : decide (4611686018427387903 < off) = false := decide_eq_false (by omega)
  have c1 := h.led.cell 2 (v := .int .i64 d.rd) rfl
  have c2 := h.led.cell 3 (v := .int .i64 d.size) rfl
  have c3 := h.led.cell 1 (v := .int .i64 d.most) rfl
  have c4 := h.led.cell 4 (v := .bool d.rst) rfl
  obtain ⟨E, hE⟩ : ∃ E, E = off + (s.size : Int) := ⟨_, rfl⟩
  have ew : wrap64 (off + (s.size : Int)) = E := by rw [hE]; unfold wrap64; omega
  rw [← hE] at CC
  have ee : off + (s.size : Int) = E := hE.symm
  have hcnt := hd.cnt
  have hrd := hd.k.rd.1
  have hrd2 := hd.rd
  replace ee : Hid _ := ee
  replace h : Hid (PX w R m d) := h
  replace p1 := Lib.hid p1
  replace hs := Lib.hid hs
  clear hd hE p2 p3 p4
  cases hr : d.rst
  · rw [hr] at c4
    have eB : putB d off s true = { d with got := lay d off (bt s) s.size, most := if 0 < s.size then max d.most (off + s.size) else d.most, size := if true = true then off + s.size else d.size, cnt := d.cnt + s.size } := by unfold putB; rw [if_pos ⟨he, hr⟩]
    obtain ⟨k0, hk0⟩ : ∃ k0 : Nat, off + k0 = max off d.rd := ⟨(max off d.rd - off).toNat, by omega⟩
    obtain ⟨T, hTe⟩ : ∃ T, T = max k0 s.size := ⟨_, rfl⟩
    have fin_ok := fun {wr : World} {k : Nat} (N : PL w wr R m d off s k0 k) (hk : k = T) => pput_t N hk0 (hk.trans hTe) hr eB
    rw [ee.out] at fin_ok
    obtain ⟨A0, hA0⟩ : ∃ A0, A0 = off + (k0 : Int) := ⟨_, rfl⟩
    have hb0 : Hid ((A0 = off ∨ A0 = d.rd) ∧ off ≤ A0 ∧ d.rd ≤ A0 ∧ 0 ≤ d.rd ∧ d.rd < 1152921504606846976) := by unfold Hid; omega
    have hT : Hid (k0 ≤ T ∧ s.size ≤ T ∧ (T = k0 ∨ T = s.size) ∧ d.cnt < 1099511627776) := by unfold Hid; omega
    have R0 : Hid (PL w w R m d off s k0 k0) := by
      obtain ⟨n, S, h1, h2, h3⟩ := h.out.map
      exact ⟨h.out.led, ⟨n, S, by omega, h2, fun x hx => by rw [lay_low d off _ k0 x (by omega) hx, h3 x hx]; unfold gotP; simp [hr]⟩, Kept.refl _ _, h.out.ne⟩
    have mxA : (if off < d.rd then d.rd else off) = A0 := by split <;> omega
    replace hA0 : Hid _ := hA0
    replace hr : Hid _ := hr
    clear eB hk0 hTe hcnt hrd hrd2
    go_enter Try.func24, Try.ntmps24
    go_wp2_with fail
    refine (CC.out ()).mono ?_
    rintro e w1 ⟨rfl, rfl⟩
    go_wp2_with fail
    go_loopg [11] (T - k0) (fun g' iv wr => ∃ k : Nat, ∃ A : Int, Hid (A = off + k) ∧ Hid (k0 ≤ k ∧ k + g' = T) ∧ iv = .int .i64 A ∧ Hid (PL w wr R m d off s k0 k))
    case atStart => exact ⟨k0, A0, hA0.out, ⟨Nat.le_refl _, by have := hT.out; omega⟩, by go_num, R0⟩
    case round =>
      clear R0 c1 c2 c3 c4 CC mxA
      obtain ⟨k, A, hA, hkk, rfl, NQ⟩ := hrel
      have hAb : 0 ≤ A ∧ A < 5000000000000000000 := by
        have := p1.out; have := hs.out; have := hA.out; have := hkk.out; have := hT.out; have := hA0.out; have := hb0.out
        omega
      obtain ⟨hAb0, hAb1⟩ := hAb
      by_cases hlt : k < s.size
      · have z1 : decide (A < E) = true := decide_eq_true (by have := hA.out; have := ee.out; omega)
        have e0 := NQ.out.led.cell 0 (v := .map (some m)) rfl
        obtain ⟨n, S, hn, hM, hS⟩ := NQ.out.map
        have hA64 : In64 A := by unfold In64; omega
        have lk := hM.look hA64
        have q1 : d.rd ≤ A := by have := hA.out; have := hkk.out; have := hA0.out; have := hb0.out; omega
        rw [hS A q1, hA.out, lay_at, ← hA.out] at lk
        have SK : Hid (∀ w', Below wr.heap.size wr w' → ¬ (d.rd ≤ A ∧ d.got A = none) → PL w w' R m d off s k0 (k + 1)) := fun w' b q => NQ.out.skip b (by rw [← hA.out]; exact q)
        have hA1 : Hid (A + 1 = off + ((k + 1 : Nat) : Int)) := by have := hA.out; unfold Hid; omega
        have hk1 : Hid (k0 ≤ k + 1 ∧ k + 1 + (T - (k + 1)) = T) := by have := hkk.out; have := hT.out; unfold Hid; omega
        have hms : Hid (T - (k + 1) < gk) := by have := hkk.out; have := hT.out; unfold Hid; omega
        cases hg : d.got A with
        | some c =>
          rw [hg] at lk
          have N2 := Lib.hid (SK.out wr (Below.refl _ _) (fun q => by rw [hg] at q; cases q.2))
          clear NQ hM hS SK hA64 q1 hn
          replace hg : Hid _ := hg
          go_wp2_with fail
          go_roundg (T - (k + 1))
          case measure => exact hms.out
          case rel => exact ⟨k + 1, A + 1, hA1, hk1, by go_num, N2⟩
        | none =>
          rw [hg] at lk
          have MD : MapY wr.drew m n S := hM.of_block rfl
          obtain ⟨w5, hup, M5, gr⟩ := MD.put (by have := hs.out; have := hkk.out; have := hT.out; unfold maxLen; omega) hA64 (bt_bd s k)
          have N2 : Hid (PL w w5 R m d off s k0 (k + 1)) := by
            refine ⟨?_, ⟨n + 1, _, by have := hkk.out; omega, M5, fun x hx => ?_⟩, ?_, NQ.out.ne⟩
            · exact (NQ.out.led.of_block (w' := wr.drew) rfl).of_block (gr.block R (NQ.out.led.lt (by show 0 < 5; decide)) (fun e => NQ.out.ne (Option.some.inj e).symm))
            · rw [lay_set d off (bt s) k (by rw [← hA.out]; exact q1) (by rw [← hA.out]; exact hg), ← hA.out]
              by_cases e : x = A
              · rw [if_pos e, if_pos e]
              · rw [if_neg e, if_neg e]
                exact hS x hx
            · exact NQ.out.kp.drew.grown gr (fun k hk _ => (Option.some.inj hk).symm)
          have ia := fun w' => at_str s k w' hlt (A - off) (by have := hA.out; omega)
          have sw : wrap64 (A - off) = A - off := by have := p1.out; unfold wrap64; omega
          have f0 := e0
          clear NQ hM hS SK q1 hA64 MD M5 gr hn
          replace hg : Hid _ := hg
          go_wp2_with fail
          go_region
          go_wp2_with fail
          go_roundg (T - (k + 1))
          case measure => exact hms.out
          case rel => exact ⟨k + 1, A + 1, hA1, hk1, by go_num, N2⟩
      · have z1 : decide (A < E) = false := decide_eq_false (by have := hA.out; have := ee.out; omega)
        have d2 := NQ.out.led.cell 3 (v := .int .i64 d.size) rfl
        have f2 := NQ.out.led.free 3 (by show 3 < 5; decide)
        have d3 := NQ.out.led.cell 1 (v := .int .i64 d.most) rfl
        have f3 := NQ.out.led.free 1 (by show 1 < 5; decide)
        have hkT : k = T := by have := hkk.out; have := hT.out; omega
        have FF := fin_ok NQ.out hkT
        clear hkT
        by_cases hp : 0 < s.size
        · have z3 := bytes_some s hp
          rw [if_pos hp] at FF
          have F1 := Lib.hid FF
          by_cases hmx : d.most < E
          · have mx : max d.most E = E := by omega
            have mx1 : decide (d.most < E) = true := decide_eq_true hmx
            have mx2 : decide (E ≤ d.most) = false := decide_eq_false (by omega)
            have mx3 : ¬ E ≤ d.most := by omega
            rw [mx] at F1
            clear FF NQ mx hmx hp hlt
            go_wp2_with fail
            go_ret
            exact ⟨rfl, F1.out⟩
          · have mx : max d.most E = d.most := by omega
            have mx1 : decide (d.most < E) = false := decide_eq_false hmx
            have mx2 : decide (E ≤ d.most) = true := decide_eq_true (by omega)
            have mx3 : E ≤ d.most := by omega
            rw [mx] at F1
            clear FF NQ mx hmx hp hlt
            go_wp2_with fail
            go_ret
            exact ⟨rfl, F1.out⟩
        · have z3 := bytes_none s hp
          rw [if_neg hp] at FF
          have F1 := Lib.hid FF
          clear FF NQ hp hlt
          go_wp2_with fail
          go_ret
          exact ⟨rfl, F1.out⟩
  · rw [hr] at c4
    have eB : putB d off s true = d := by unfold putB; rw [if_neg (fun e => by rw [hr] at e; cases e.2)]
    rw [eB]
    replace hr : Hid _ := hr
    clear eB
    go_enter Try.func24, Try.ntmps24
    go_wp2_with fail
    refine (CC.out ()).mono ?_
    rintro e w1 ⟨rfl, rfl⟩
    go_wp2_with fail
    go_ret
    exact ⟨rfl, h.out, Kept.refl _ _⟩
set_option maxHeartbeats 4000000 in
theorem pput_ok_f (R m : Nat) (d : Bx) (off : Int) (s : ByteArray) (w : World) (h : PX w R m d) (hd : Bw d) (hs : s.size ≤ 140737488355328) (he : putE d off s.size false = 0) :
    Calls Try.prog 24 #[ptr R, .int .i64 off, .string s, .bool false] w fun e w' => e = .returned (.int .i64 0) ∧ PX w' R m (putB d off s false) ∧ Kept (fun k => k = R ∨ k = m) w w' := by
  obtain ⟨p1, p2, p3, p4⟩ := putE_zero he
  have CC : Hid (∀ _ : Unit, _) := fun _ => pcheck_ok R m d (off + s.size) false w h hd
  rw [← putE_chk hd.k off s.size false p1, he] at CC
  have g1 : decide (off < 0) = false := decide_eq_false (by omega)
  have g2 : decide (4611686018427387903 < off) = false := decide_eq_false (by omega)
  have c1 := h.led.cell 2 (v := .int .i64 d.rd) rfl
  have c2 := h.led.cell 3 (v := .int .i64 d.size) rfl
  have c3 := h.led.cell 1 (v := .int .i64 d.most) rfl
  have c4 := h.led.cell 4 (v := .bool d.rst) rfl
  obtain ⟨E, hE⟩ : ∃ E, E = off + (s.size : Int) := ⟨_, rfl⟩
  have ew : wrap64 (off + (s.size : Int)) = E := by rw [hE]; unfold wrap64; omega
  rw [← hE] at CC
  have ee : off + (s.size : Int) = E := hE.symm
  have hcnt := hd.cnt
  have hrd := hd.k.rd.1
  have hrd2 := hd.rd
  replace ee : Hid _ := ee
  replace h : Hid (PX w R m d) := h
  replace p1 := Lib.hid p1
  replace hs := Lib.hid hs
  clear hd hE p2 p3 p4
  cases hr : d.rst
  · rw [hr] at c4
    have eB : putB d off s false = { d with got := lay d off (bt s) s.size, most := if 0 < s.size then max d.most (off + s.size) else d.most, size := if false = true then off + s.size else d.size, cnt := d.cnt + s.size } := by unfold putB; rw [if_pos ⟨he, hr⟩]
    obtain ⟨k0, hk0⟩ : ∃ k0 : Nat, off + k0 = max off d.rd := ⟨(max off d.rd - off).toNat, by omega⟩
    obtain ⟨T, hTe⟩ : ∃ T, T = max k0 s.size := ⟨_, rfl⟩
    have fin_ok := fun {wr : World} {k : Nat} (N : PL w wr R m d off s k0 k) (hk : k = T) => pput_f N hk0 (hk.trans hTe) hr eB
    rw [ee.out] at fin_ok
    obtain ⟨A0, hA0⟩ : ∃ A0, A0 = off + (k0 : Int) := ⟨_, rfl⟩
    have hb0 : Hid ((A0 = off ∨ A0 = d.rd) ∧ off ≤ A0 ∧ d.rd ≤ A0 ∧ 0 ≤ d.rd ∧ d.rd < 1152921504606846976) := by unfold Hid; omega
    have hT : Hid (k0 ≤ T ∧ s.size ≤ T ∧ (T = k0 ∨ T = s.size) ∧ d.cnt < 1099511627776) := by unfold Hid; omega
    have R0 : Hid (PL w w R m d off s k0 k0) := by
      obtain ⟨n, S, h1, h2, h3⟩ := h.out.map
      exact ⟨h.out.led, ⟨n, S, by omega, h2, fun x hx => by rw [lay_low d off _ k0 x (by omega) hx, h3 x hx]; unfold gotP; simp [hr]⟩, Kept.refl _ _, h.out.ne⟩
    have mxA : (if off < d.rd then d.rd else off) = A0 := by split <;> omega
    replace hA0 : Hid _ := hA0
    replace hr : Hid _ := hr
    clear eB hk0 hTe hcnt hrd hrd2
    go_enter Try.func24, Try.ntmps24
    go_wp2_with fail
    refine (CC.out ()).mono ?_
    rintro e w1 ⟨rfl, rfl⟩
    go_wp2_with fail
    go_loopg [11] (T - k0) (fun g' iv wr => ∃ k : Nat, ∃ A : Int, Hid (A = off + k) ∧ Hid (k0 ≤ k ∧ k + g' = T) ∧ iv = .int .i64 A ∧ Hid (PL w wr R m d off s k0 k))
    case atStart => exact ⟨k0, A0, hA0.out, ⟨Nat.le_refl _, by have := hT.out; omega⟩, by go_num, R0⟩
    case round =>
      clear R0 c1 c2 c3 c4 CC mxA
      obtain ⟨k, A, hA, hkk, rfl, NQ⟩ := hrel
      have hAb : 0 ≤ A ∧ A < 5000000000000000000 := by
        have := p1.out; have := hs.out; have := hA.out; have := hkk.out; have := hT.out; have := hA0.out; have := hb0.out
        omega
      obtain ⟨hAb0, hAb1⟩ := hAb
      by_cases hlt : k < s.size
      · have z1 : decide (A < E) = true := decide_eq_true (by have := hA.out; have := ee.out; omega)
        have e0 := NQ.out.led.cell 0 (v := .map (some m)) rfl
        obtain ⟨n, S, hn, hM, hS⟩ := NQ.out.map
        have hA64 : In64 A := by unfold In64; omega
        have lk := hM.look hA64
        have q1 : d.rd ≤ A := by have := hA.out; have := hkk.out; have := hA0.out; have := hb0.out; omega
        rw [hS A q1, hA.out, lay_at, ← hA.out] at lk
        have SK : Hid (∀ w', Below wr.heap.size wr w' → ¬ (d.rd ≤ A ∧ d.got A = none) → PL w w' R m d off s k0 (k + 1)) := fun w' b q => NQ.out.skip b (by rw [← hA.out]; exact q)
        have hA1 : Hid (A + 1 = off + ((k + 1 : Nat) : Int)) := by have := hA.out; unfold Hid; omega
        have hk1 : Hid (k0 ≤ k + 1 ∧ k + 1 + (T - (k + 1)) = T) := by have := hkk.out; have := hT.out; unfold Hid; omega
        have hms : Hid (T - (k + 1) < gk) := by have := hkk.out; have := hT.out; unfold Hid; omega
        cases hg : d.got A with
        | some c =>
          rw [hg] at lk
          have N2 := Lib.hid (SK.out wr (Below.refl _ _) (fun q => by rw [hg] at q; cases q.2))
          clear NQ hM hS SK hA64 q1 hn
          replace hg : Hid _ := hg
          go_wp2_with fail
          go_roundg (T - (k + 1))
          case measure => exact hms.out
          case rel => exact ⟨k + 1, A + 1, hA1, hk1, by go_num, N2⟩
        | none =>
          rw [hg] at lk
          have MD : MapY wr.drew m n S := hM.of_block rfl
          obtain ⟨w5, hup, M5, gr⟩ := MD.put (by have := hs.out; have := hkk.out; have := hT.out; unfold maxLen; omega) hA64 (bt_bd s k)
          have N2 : Hid (PL w w5 R m d off s k0 (k + 1)) := by
            refine ⟨?_, ⟨n + 1, _, by have := hkk.out; omega, M5, fun x hx => ?_⟩, ?_, NQ.out.ne⟩
            · exact (NQ.out.led.of_block (w' := wr.drew) rfl).of_block (gr.block R (NQ.out.led.lt (by show 0 < 5; decide)) (fun e => NQ.out.ne (Option.some.inj e).symm))
            · rw [lay_set d off (bt s) k (by rw [← hA.out]; exact q1) (by rw [← hA.out]; exact hg), ← hA.out]
              by_cases e : x = A
              · rw [if_pos e, if_pos e]
              · rw [if_neg e, if_neg e]
                exact hS x hx
            · exact NQ.out.kp.drew.grown gr (fun k hk _ => (Option.some.inj hk).symm)
          have ia := fun w' => at_str s k w' hlt (A - off) (by have := hA.out; omega)
          have sw : wrap64 (A - off) = A - off := by have := p1.out; unfold wrap64; omega
          have f0 := e0
          clear NQ hM hS SK q1 hA64 MD M5 gr hn
          replace hg : Hid _ := hg
          go_wp2_with fail
          go_region
          go_wp2_with fail
          go_roundg (T - (k + 1))
          case measure => exact hms.out
          case rel => exact ⟨k + 1, A + 1, hA1, hk1, by go_num, N2⟩
      · have z1 : decide (A < E) = false := decide_eq_false (by have := hA.out; have := ee.out; omega)
        have d2 := NQ.out.led.cell 3 (v := .int .i64 d.size) rfl
        have f2 := NQ.out.led.free 3 (by show 3 < 5; decide)
        have d3 := NQ.out.led.cell 1 (v := .int .i64 d.most) rfl
        have f3 := NQ.out.led.free 1 (by show 1 < 5; decide)
        have hkT : k = T := by have := hkk.out; have := hT.out; omega
        have FF := fin_ok NQ.out hkT
        clear hkT
        by_cases hp : 0 < s.size
        · have z3 := bytes_some s hp
          rw [if_pos hp] at FF
          have F1 := Lib.hid FF
          by_cases hmx : d.most < E
          · have mx : max d.most E = E := by omega
            have mx1 : decide (d.most < E) = true := decide_eq_true hmx
            have mx2 : decide (E ≤ d.most) = false := decide_eq_false (by omega)
            have mx3 : ¬ E ≤ d.most := by omega
            rw [mx] at F1
            clear FF NQ mx hmx hp hlt
            go_wp2_with fail
            go_ret
            exact ⟨rfl, F1.out⟩
          · have mx : max d.most E = d.most := by omega
            have mx1 : decide (d.most < E) = false := decide_eq_false hmx
            have mx2 : decide (E ≤ d.most) = true := decide_eq_true (by omega)
            have mx3 : E ≤ d.most := by omega
            rw [mx] at F1
            clear FF NQ mx hmx hp hlt
            go_wp2_with fail
            go_ret
            exact ⟨rfl, F1.out⟩
        · have z3 := bytes_none s hp
          rw [if_neg hp] at FF
          have F1 := Lib.hid FF
          clear FF NQ hp hlt
          go_wp2_with fail
          go_ret
          exact ⟨rfl, F1.out⟩
  · rw [hr] at c4
    have eB : putB d off s false = d := by unfold putB; rw [if_neg (fun e => by rw [hr] at e; cases e.2)]
    rw [eB]
    replace hr : Hid _ := hr
    clear eB
    go_enter Try.func24, Try.ntmps24
    go_wp2_with fail
    refine (CC.out ()).mono ?_
    rintro e w1 ⟨rfl, rfl⟩
    go_wp2_with fail
    go_ret
    exact ⟨rfl, h.out, Kept.refl _ _⟩
theorem pput_ok (R m : Nat) (d : Bx) (off : Int) (s : ByteArray) (fin : Bool) (w : World) (h : PX w R m d) (hd : Bw d) (hs : s.size ≤ 140737488355328) :
    Calls Try.prog 24 #[ptr R, .int .i64 off, .string s, .bool fin] w fun e w' => e = .returned (.int .i64 (putE d off s.size fin)) ∧ PX w' R m (putB d off s fin) ∧ Kept (fun k => k = R ∨ k = m) w w' := by
  by_cases he : putE d off s.size fin = 0
  · rw [he]
    cases fin
    · exact pput_ok_f R m d off s w h hd hs he
    · exact pput_ok_t R m d off s w h hd hs he
  · exact pput_no R m d off s fin w h hd hs he
end Go.Proofs.Ytdmoaeegjjenmaa.ib
