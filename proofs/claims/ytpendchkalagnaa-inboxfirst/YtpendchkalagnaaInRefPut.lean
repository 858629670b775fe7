/-
  What the document's own Put of a stream does. Texts of at most 2^47 bytes; no other condition but what always holds of a stream.
-/
import Derived.Test.YtpendchkalagnaaInRefEnd
namespace Go.Proofs.Ytpendchkalagnaa
set_option maxRecDepth 100000
open Go.RowKit Go.Sort

theorem at_str (s : ByteArray) (i : Nat) (w : World) (h : i < s.size) (z : Int) (hz : z = i) :
    (Instr.index 9 (.string s) (.int .i64 z)).run Try.prog w = .ok (.int .u8 (bt s i)) w := by
  subst hz
  rw [run_index_string (P := Try.prog) w 9 s .i64 i Try.underlying9]
  have h1 : (i : Int) < s.size := by omega
  have hx := bt_eq s i h
  simp [h1, hx]
/-- While a piece is laid: what its first k bytes have made of the map. -/
structure RL (w wr : World) (R m : Nat) (d : Bx) (off : Int) (s : ByteArray) (k : Nat) : Prop where
  led : Lies wr R (bxc m d)
  map : ∃ n S, n ≤ d.cnt + k ∧ MapY wr m n S ∧ ∀ x, d.rd ≤ x → S x = lay d off (bt s) k x
  kp : Kept (fun k => k = m) w wr
  ne : m ≠ R
theorem lay_zero (d : Bx) (off : Int) (f : Nat → Int) (x : Int) : lay d off f 0 x = d.got x := by
  unfold lay
  rw [if_neg (by omega)]
/-- The place of the next byte. -/
theorem lay_at (d : Bx) (off : Int) (f : Nat → Int) (k : Nat) : lay d off f k (off + k) = d.got (off + k) := by
  unfold lay
  rw [if_neg (by omega)]
theorem lay_skip (d : Bx) (off : Int) (f : Nat → Int) (k : Nat) (h : ¬ (d.rd ≤ off + k ∧ d.got (off + k) = none)) (x : Int) : lay d off f (k + 1) x = lay d off f k x := by
  by_cases e : x = off + k
  · subst e
    unfold lay
    rw [if_neg (fun q => h ⟨q.1, q.2.2.2⟩), if_neg (fun q => h ⟨q.1, q.2.2.2⟩)]
  · unfold lay
    have q : (d.rd ≤ x ∧ off ≤ x ∧ x < off + ((k + 1 : Nat) : Int) ∧ d.got x = none) ↔ (d.rd ≤ x ∧ off ≤ x ∧ x < off + (k : Int) ∧ d.got x = none) := ⟨fun a => ⟨a.1, a.2.1, by omega, a.2.2.2⟩, fun a => ⟨a.1, a.2.1, by omega, a.2.2.2⟩⟩
    simp only [q]
theorem lay_set (d : Bx) (off : Int) (f : Nat → Int) (k : Nat) (h1 : d.rd ≤ off + k) (h2 : d.got (off + k) = none) (x : Int) : lay d off f (k + 1) x = if x = off + k then some (f k) else lay d off f k x := by
  by_cases e : x = off + k
  · subst e
    rw [if_pos rfl]
    unfold lay
    rw [if_pos ⟨h1, by omega, by omega, h2⟩]
    congr 2
    omega
  · rw [if_neg e]
    unfold lay
    have q : (d.rd ≤ x ∧ off ≤ x ∧ x < off + ((k + 1 : Nat) : Int) ∧ d.got x = none) ↔ (d.rd ≤ x ∧ off ≤ x ∧ x < off + (k : Int) ∧ d.got x = none) := ⟨fun a => ⟨a.1, a.2.1, by omega, a.2.2.2⟩, fun a => ⟨a.1, a.2.1, by omega, a.2.2.2⟩⟩
    simp only [q]
theorem RL.skip {w wr w' : World} {R m : Nat} {d : Bx} {off : Int} {s : ByteArray} {k : Nat} (h : RL w wr R m d off s k) (b : Below wr.heap.size wr w') (hn : ¬ (d.rd ≤ off + k ∧ d.got (off + k) = none)) : RL w w' R m d off s (k + 1) := by
  obtain ⟨n, S, h1, h2, h3⟩ := h.map
  exact ⟨h.led.keep (by show 0 < 5; decide) b, ⟨n, S, by omega, h2.of_block (b.block _ h2.lt), fun x hx => by rw [lay_skip d off _ k hn x]; exact h3 x hx⟩, h.kp.add b, h.ne⟩
set_option maxHeartbeats 2000000 in
theorem rput_no (R m : Nat) (d : Bx) (off : Int) (s : ByteArray) (fin : Bool) (w : World) (h : RX w R m d) (hd : Bw d) (hs : s.size ≤ 140737488355328) (he : putE d off s.size fin ≠ 0) :
    Calls Try.prog 10 #[ptr R, .int .i64 off, .string s, .bool fin] w fun e w' => e = .returned (.int .i64 (putE d off s.size fin)) ∧ RX w' R m (putB d off s fin) ∧ Kept (fun k => k = R ∨ k = m) w w' := by
  have stay : putB d off s fin = d := by unfold putB; rw [if_neg (fun e => he e.1)]
  rw [stay]
  have CP : Hid (∀ w, _) := fun w => rplace_ok off w
  have CL : Hid (∀ _ : Unit, _) := fun _ => rlimit_ok R m d w h hd
  have c2 := h.led.cell 2 (v := .int .i64 d.size) rfl
  have c3 := h.led.cell 3 (v := .int .i64 d.most) rfl
  replace h : Hid (RX w R m d) := h
  clear stay hd
  by_cases p1 : 0 ≤ off ∧ off ≤ 4611686018427387903
  · rw [decide_eq_true p1] at CP
    obtain ⟨E, hE⟩ : ∃ E, E = off + (s.size : Int) := ⟨_, rfl⟩
    have ew : wrap64 (off + (s.size : Int)) = E := by rw [hE]; unfold wrap64; omega
    unfold putE at he ⊢
    rw [if_neg (by omega), ← hE] at he ⊢
    have ee : off + (s.size : Int) = E := hE.symm
    replace ee : Hid _ := ee
    clear hE p1 hs
    generalize lim d = L at *
    by_cases p2 : L < E
    · have g2 : decide (L < E) = true := decide_eq_true p2
      rw [if_pos p2]
      clear he c2 c3 p2
      go_enter Try.func10, Try.ntmps10
      go_wp2_with fail
      refine (CP.out _).mono ?_
      rintro e w1 ⟨rfl, rfl⟩
      go_wp2_with fail
      refine (CL.out ()).mono ?_
      rintro e w1 ⟨rfl, rfl⟩
      go_wp2_with fail
      go_ret
      exact ⟨rfl, h.out, Kept.refl _ _⟩
    · have g2 : decide (L < E) = false := decide_eq_false p2
      rw [if_neg p2] at he ⊢
      clear p2
      by_cases p3 : 0 ≤ d.size ∧ (d.size < E ∨ (fin = true ∧ E ≠ d.size))
      · rw [if_pos p3]
        clear he c3
        obtain ⟨q1, q2⟩ := p3
        have g3 : decide (0 ≤ d.size) = true := decide_eq_true q1
        by_cases q3 : d.size < E
        · have g4 : decide (d.size < E) = true := decide_eq_true q3
          clear q1 q2 q3
          go_enter Try.func10, Try.ntmps10
          go_wp2_with fail
          refine (CP.out _).mono ?_
          rintro e w1 ⟨rfl, rfl⟩
          go_wp2_with fail
          refine (CL.out ()).mono ?_
          rintro e w1 ⟨rfl, rfl⟩
          go_wp2_with fail
          go_ret
          exact ⟨rfl, h.out, Kept.refl _ _⟩
        · have g4 : decide (d.size < E) = false := decide_eq_false q3
          obtain ⟨rfl, q5⟩ : fin = true ∧ E ≠ d.size := by
            rcases q2 with q | q
            · exact absurd q q3
            · exact q
          have g5 : (E != d.size) = true := by simpa using q5
          clear q1 q2 q3
          replace q5 : Hid _ := q5
          go_enter Try.func10, Try.ntmps10
          go_wp2_with fail
          refine (CP.out _).mono ?_
          rintro e w1 ⟨rfl, rfl⟩
          go_wp2_with fail
          refine (CL.out ()).mono ?_
          rintro e w1 ⟨rfl, rfl⟩
          go_wp2_with fail
          go_ret
          exact ⟨rfl, h.out, Kept.refl _ _⟩
      · rw [if_neg p3] at he ⊢
        by_cases p4 : fin = true ∧ E < d.most
        · rw [if_pos p4]
          obtain ⟨rfl, q⟩ := p4
          have g6 : decide (E < d.most) = true := decide_eq_true q
          clear he q
          by_cases q1 : 0 ≤ d.size
          · have g3 : decide (0 ≤ d.size) = true := decide_eq_true q1
            have g4 : decide (d.size < E) = false := decide_eq_false fun q => p3 ⟨q1, .inl q⟩
            have g5 : (E != d.size) = false := by
              simp only [bne_eq_false_iff_eq]
              exact Classical.byContradiction fun c => p3 ⟨q1, .inr ⟨rfl, c⟩⟩
            clear p3 q1
            go_enter Try.func10, Try.ntmps10
            go_wp2_with fail
            refine (CP.out _).mono ?_
            rintro e w1 ⟨rfl, rfl⟩
            go_wp2_with fail
            refine (CL.out ()).mono ?_
            rintro e w1 ⟨rfl, rfl⟩
            go_wp2_with fail
            go_ret
            exact ⟨rfl, h.out, Kept.refl _ _⟩
          · have g3 : decide (0 ≤ d.size) = false := decide_eq_false q1
            clear p3
            replace q1 : Hid _ := q1
            go_enter Try.func10, Try.ntmps10
            go_wp2_with fail
            refine (CP.out _).mono ?_
            rintro e w1 ⟨rfl, rfl⟩
            go_wp2_with fail
            refine (CL.out ()).mono ?_
            rintro e w1 ⟨rfl, rfl⟩
            go_wp2_with fail
            go_ret
            exact ⟨rfl, h.out, Kept.refl _ _⟩
        · rw [if_neg p4] at he
          exact absurd rfl he
  · rw [decide_eq_false p1] at CP
    have e : putE d off s.size fin = 2 := by unfold putE; rw [if_pos (by omega)]
    rw [e]
    clear e he p1 c2 c3 CL
    go_enter Try.func10, Try.ntmps10
    go_wp2_with fail
    refine (CP.out _).mono ?_
    rintro e w1 ⟨rfl, rfl⟩
    go_wp2_with fail
    go_ret
    exact ⟨rfl, h.out, Kept.refl _ _⟩
theorem put_t {w wr : World} {R m : Nat} {d d' : Bx} {off : Int} {s : ByteArray} (N : RL w wr R m d off s s.size) (_ : d.rst = false) (e : d' = { d with got := lay d off (bt s) s.size, most := if 0 < s.size then max d.most (off + s.size) else d.most, size := if true = true then off + s.size else d.size, cnt := d.cnt + s.size }) :
    if 0 < s.size then RX ((wr.setCell ⟨R, 3, none⟩ (.int .i64 (max d.most (off + s.size)))).setCell ⟨R, 2, none⟩ (.int .i64 (off + s.size))) R m d' ∧ Kept (fun k => k = R ∨ k = m) w ((wr.setCell ⟨R, 3, none⟩ (.int .i64 (max d.most (off + s.size)))).setCell ⟨R, 2, none⟩ (.int .i64 (off + s.size)))
    else RX (wr.setCell ⟨R, 2, none⟩ (.int .i64 (off + s.size))) R m d' ∧ Kept (fun k => k = R ∨ k = m) w (wr.setCell ⟨R, 2, none⟩ (.int .i64 (off + s.size))) := by
  obtain ⟨n, S, h1, h2, h3⟩ := N.map
  have K : Kept (fun k => k = R ∨ k = m) w wr := N.kp.mono fun k _ e => .inr e
  subst e
  split
  · rename_i hp
    refine ⟨⟨?_, ⟨n, S, h1, h2.of_block ((Below.heap_setCell _ _ _ _ N.ne).trans (Below.heap_setCell _ _ _ _ N.ne)), h3⟩, N.ne⟩, Kept.set (F := fun k => k = R ∨ k = m) (Kept.set (F := fun k => k = R ∨ k = m) K ⟨R, 3, none⟩ (.inl rfl) _) ⟨R, 2, none⟩ (.inl rfl) _⟩
    exact (N.led.put 3 (by show 3 < 5; decide) (.int .i64 (max d.most (off + s.size)))).put 2 (by show 2 < 5; decide) (.int .i64 (off + s.size))
  · rename_i hp
    refine ⟨⟨?_, ⟨n, S, h1, h2.of_block (Below.heap_setCell _ _ _ _ N.ne), h3⟩, N.ne⟩, Kept.set (F := fun k => k = R ∨ k = m) K ⟨R, 2, none⟩ (.inl rfl) _⟩
    exact N.led.put 2 (by show 2 < 5; decide) (.int .i64 (off + s.size))
theorem put_f {w wr : World} {R m : Nat} {d d' : Bx} {off : Int} {s : ByteArray} (N : RL w wr R m d off s s.size) (_ : d.rst = false) (e : d' = { d with got := lay d off (bt s) s.size, most := if 0 < s.size then max d.most (off + s.size) else d.most, size := if false = true then off + s.size else d.size, cnt := d.cnt + s.size }) :
    if 0 < s.size then RX (wr.setCell ⟨R, 3, none⟩ (.int .i64 (max d.most (off + s.size)))) R m d' ∧ Kept (fun k => k = R ∨ k = m) w (wr.setCell ⟨R, 3, none⟩ (.int .i64 (max d.most (off + s.size))))
    else RX wr R m d' ∧ Kept (fun k => k = R ∨ k = m) w wr := by
  obtain ⟨n, S, h1, h2, h3⟩ := N.map
  have K : Kept (fun k => k = R ∨ k = m) w wr := N.kp.mono fun k _ e => .inr e
  subst e
  split
  · rename_i hp
    refine ⟨⟨?_, ⟨n, S, h1, h2.of_block (Below.heap_setCell _ _ _ _ N.ne), h3⟩, N.ne⟩, Kept.set (F := fun k => k = R ∨ k = m) K ⟨R, 3, none⟩ (.inl rfl) _⟩
    exact N.led.put 3 (by show 3 < 5; decide) (.int .i64 (max d.most (off + s.size)))
  · exact ⟨⟨N.led, ⟨n, S, h1, h2, h3⟩, N.ne⟩, K⟩
set_option maxHeartbeats 4000000 in
theorem rput_tn (R m : Nat) (d : Bx) (off : Int) (s : ByteArray) (w : World) (h : RX w R m d) (hd : Bw d) (hs : s.size ≤ 140737488355328) (he : putE d off s.size true = 0) (hz : ¬ 0 ≤ d.size) :
    Calls Try.prog 10 #[ptr R, .int .i64 off, .string s, .bool true] w fun e w' => e = .returned (.int .i64 0) ∧ RX w' R m (putB d off s true) ∧ Kept (fun k => k = R ∨ k = m) w w' := by
  obtain ⟨p1, p2, p3, p4⟩ := putE_zero he
  have CP : Hid (∀ w, _) := fun w => rplace_ok off w
  rw [decide_eq_true p1] at CP
  have CL : Hid (∀ _ : Unit, _) := fun _ => rlimit_ok R m d w h hd
  have c2 := h.led.cell 2 (v := .int .i64 d.size) rfl
  have c3 := h.led.cell 3 (v := .int .i64 d.most) rfl
  have c4 := h.led.cell 4 (v := .bool d.rst) rfl
  obtain ⟨E, hE⟩ : ∃ E, E = off + (s.size : Int) := ⟨_, rfl⟩
  have ew : wrap64 (off + (s.size : Int)) = E := by rw [hE]; unfold wrap64; omega
  have g2 : decide (lim d < E) = false := decide_eq_false (by unfold lim; omega)
  have g3 : decide (0 ≤ d.size) = false := decide_eq_false hz
  have g6 : decide (E < d.most) = false := decide_eq_false (by have := p4 rfl; omega)
  have ee : off + (s.size : Int) = E := hE.symm
  have R0 : Hid (RL w w R m d off s 0) := by
    obtain ⟨n, S, h1, h2, h3⟩ := h.map
    exact ⟨h.led, ⟨n, S, by omega, h2, fun x hx => by rw [lay_zero]; exact h3 x hx⟩, Kept.refl _ _, h.ne⟩
  have hcnt := hd.cnt
  have hrd := hd.k.rd.1
  have hrd2 := hd.rd
  replace ee : Hid _ := ee
  replace h : Hid (RX w R m d) := h
  replace p1 := Lib.hid p1
  replace hs := Lib.hid hs
  clear hd hE p2 p3 p4 hz
  generalize lim d = L at *
  cases hr : d.rst
  · rw [hr] at c4
    have eB : putB d off s true = { d with got := lay d off (bt s) s.size, most := if 0 < s.size then max d.most (off + s.size) else d.most, size := if true = true then off + s.size else d.size, cnt := d.cnt + s.size } := by unfold putB; rw [if_pos ⟨he, hr⟩]
    have fin_ok := fun {wr : World} (N : RL w wr R m d off s s.size) (_ : Bool) => put_t N hr eB
    rw [ee.out] at fin_ok
    replace hr : Hid _ := hr
    clear eB
    go_enter Try.func10, Try.ntmps10
    go_wp2_with fail
    refine (CP.out _).mono ?_
    rintro e w1 ⟨rfl, rfl⟩
    go_wp2_with fail
    refine (CL.out ()).mono ?_
    rintro e w1 ⟨rfl, rfl⟩
    go_wp2_with fail
    go_loopg [10] s.size (fun g' iv wr => ∃ k : Nat, k + g' = s.size ∧ iv = .int .i64 k ∧ Hid (RL w wr R m d off s k))
    case atStart => exact ⟨0, by omega, rfl, R0⟩
    case round =>
      clear R0 c2 c3 c4 CP CL
      have hsv := hs.out
      obtain ⟨k, hkk, rfl, NQ⟩ := hrel
      by_cases hlt : k < s.size
      · have z1 : decide ((k : Int) < (s.size : Int)) = true := decide_eq_true (by omega)
        have e0 := NQ.out.led.cell 0 (v := .map (some m)) rfl
        have e1 := NQ.out.led.cell 1 (v := .int .i64 d.rd) rfl
        obtain ⟨n, S, hn, hM, hS⟩ := NQ.out.map
        obtain ⟨A, hA⟩ : ∃ A, A = off + (k : Int) := ⟨_, rfl⟩
        have hAw : wrap64 (off + (k : Int)) = A := by have := p1.out; have := hs.out; rw [hA]; unfold wrap64; omega
        have hA64 : In64 A := by have := p1.out; have := hs.out; unfold In64; omega
        have lk := hM.look hA64
        have hSA : d.rd ≤ A → S A = d.got A := fun q => by rw [hS A q, hA, lay_at]
        have SK : Hid (∀ w', Below wr.heap.size wr w' → ¬ (d.rd ≤ A ∧ d.got A = none) → RL w w' R m d off s (k + 1)) := fun w' b q => NQ.out.skip b (by rw [← hA]; exact q)
        by_cases q1 : d.rd ≤ A
        · have z2 : decide (d.rd ≤ A) = true := decide_eq_true q1
          rw [hSA q1] at lk
          cases hg : d.got A with
          | some c =>
            rw [hg] at lk
            have N2 := Lib.hid (SK.out wr (Below.refl _ _) (fun q => by rw [hg] at q; cases q.2))
            clear NQ hM hS SK hSA q1 hA hA64
            replace hg : Hid _ := hg
            go_wp2_with fail
            go_roundg (s.size - (k + 1))
            case measure => omega
            case rel => exact ⟨k + 1, by omega, by go_num, N2⟩
          | none =>
            rw [hg] at lk
            have MD : MapY wr.drew m n S := hM.of_block rfl
            obtain ⟨w5, hup, M5, gr⟩ := MD.put (by have := hs.out; unfold maxLen; omega) hA64 (bt_bd s k)
            have N2 : Hid (RL w w5 R m d off s (k + 1)) := by
              refine ⟨?_, ⟨n + 1, _, by omega, M5, fun x hx => ?_⟩, ?_, NQ.out.ne⟩
              · exact (NQ.out.led.of_block (w' := wr.drew) rfl).of_block (gr.block R (NQ.out.led.lt (by show 0 < 5; decide)) (fun e => NQ.out.ne (Option.some.inj e).symm))
              · rw [lay_set d off (bt s) k (by rw [← hA]; exact q1) (by rw [← hA]; exact hg), ← hA]
                by_cases e : x = A
                · rw [if_pos e, if_pos e]
                · rw [if_neg e, if_neg e]
                  exact hS x hx
              · exact NQ.out.kp.drew.grown gr (fun k hk _ => (Option.some.inj hk).symm)
            have ia := fun w' => at_str s k w' hlt (k : Int) rfl
            have f0 := e0
            clear NQ hM hS SK hSA q1 hA hA64 MD M5 gr
            replace hg : Hid _ := hg
            go_wp2_with fail
            go_region
            go_wp2_with fail
            go_roundg (s.size - (k + 1))
            case measure => omega
            case rel => exact ⟨k + 1, by omega, by go_num, N2⟩
        · have z2 : decide (d.rd ≤ A) = false := decide_eq_false q1
          have N2 := Lib.hid (SK.out wr (Below.refl _ _) (fun q => q1 q.1))
          clear NQ hM hS SK hSA q1 hA hA64
          go_wp2_with fail
          go_roundg (s.size - (k + 1))
          case measure => omega
          case rel => exact ⟨k + 1, by omega, by go_num, N2⟩
      · have z1 : decide ((k : Int) < (s.size : Int)) = false := decide_eq_false (by omega)
        obtain rfl : k = s.size := by omega
        have d2 := NQ.out.led.cell 2 (v := .int .i64 d.size) rfl
        have f2 := NQ.out.led.free 2 (by show 2 < 5; decide)
        have d3 := NQ.out.led.cell 3 (v := .int .i64 d.most) rfl
        have f3 := NQ.out.led.free 3 (by show 3 < 5; decide)
        have FF := fin_ok NQ.out true
        clear hkk hlt
        by_cases hp : 0 < s.size
        · have z3 : decide ((0 : Int) < (s.size : Int)) = true := decide_eq_true (by omega)
          have z4 : decide (0 < s.size) = true := decide_eq_true hp
          rw [if_pos hp] at FF
          have F1 := Lib.hid FF
          by_cases hmx : d.most < E
          · have mx : max d.most E = E := by omega
            have mx1 : decide (d.most < E) = true := decide_eq_true hmx
            have mx2 : decide (E ≤ d.most) = false := decide_eq_false (by omega)
            have mx3 : ¬ E ≤ d.most := by omega
            rw [mx] at F1
            clear FF NQ mx hmx
            go_wp2_with fail
            go_ret
            exact ⟨rfl, F1.out⟩
          · have mx : max d.most E = d.most := by omega
            have mx1 : decide (d.most < E) = false := decide_eq_false hmx
            have mx2 : decide (E ≤ d.most) = true := decide_eq_true (by omega)
            have mx3 : E ≤ d.most := by omega
            rw [mx] at F1
            clear FF NQ mx hmx
            go_wp2_with fail
            go_ret
            exact ⟨rfl, F1.out⟩
        · have z3 : decide ((0 : Int) < (s.size : Int)) = false := decide_eq_false (by omega)
          have z4 : decide (0 < s.size) = false := decide_eq_false hp
          rw [if_neg hp] at FF
          have F1 := Lib.hid FF
          clear FF NQ
          go_wp2_with fail
          go_ret
          exact ⟨rfl, F1.out⟩
  · rw [hr] at c4
    have eB : putB d off s true = d := by unfold putB; rw [if_neg (fun e => by rw [hr] at e; cases e.2)]
    rw [eB]
    replace hr : Hid _ := hr
    clear eB
    go_enter Try.func10, Try.ntmps10
    go_wp2_with fail
    refine (CP.out _).mono ?_
    rintro e w1 ⟨rfl, rfl⟩
    go_wp2_with fail
    refine (CL.out ()).mono ?_
    rintro e w1 ⟨rfl, rfl⟩
    go_wp2_with fail
    go_ret
    exact ⟨rfl, h.out, Kept.refl _ _⟩
set_option maxHeartbeats 4000000 in
theorem rput_tp (R m : Nat) (d : Bx) (off : Int) (s : ByteArray) (w : World) (h : RX w R m d) (hd : Bw d) (hs : s.size ≤ 140737488355328) (he : putE d off s.size true = 0) (hz : 0 ≤ d.size) :
    Calls Try.prog 10 #[ptr R, .int .i64 off, .string s, .bool true] w fun e w' => e = .returned (.int .i64 0) ∧ RX w' R m (putB d off s true) ∧ Kept (fun k => k = R ∨ k = m) w w' := by
  obtain ⟨p1, p2, p3, p4⟩ := putE_zero he
  have CP : Hid (∀ w, _) := fun w => rplace_ok off w
  rw [decide_eq_true p1] at CP
  have CL : Hid (∀ _ : Unit, _) := fun _ => rlimit_ok R m d w h hd
  have c2 := h.led.cell 2 (v := .int .i64 d.size) rfl
  have c3 := h.led.cell 3 (v := .int .i64 d.most) rfl
  have c4 := h.led.cell 4 (v := .bool d.rst) rfl
  obtain ⟨E, hE⟩ : ∃ E, E = off + (s.size : Int) := ⟨_, rfl⟩
  have ew : wrap64 (off + (s.size : Int)) = E := by rw [hE]; unfold wrap64; omega
  have g2 : decide (lim d < E) = false := decide_eq_false (by unfold lim; omega)
  have g3 : decide (0 ≤ d.size) = true := decide_eq_true hz
  have g4 : decide (d.size < E) = false := decide_eq_false (by have := (p3 hz).1; omega)
  have g5 : (E != d.size) = false := by
    have := (p3 hz).2 rfl
    simp only [bne_eq_false_iff_eq]
    omega
  have g6 : decide (E < d.most) = false := decide_eq_false (by have := p4 rfl; omega)
  have ee : off + (s.size : Int) = E := hE.symm
  have R0 : Hid (RL w w R m d off s 0) := by
    obtain ⟨n, S, h1, h2, h3⟩ := h.map
    exact ⟨h.led, ⟨n, S, by omega, h2, fun x hx => by rw [lay_zero]; exact h3 x hx⟩, Kept.refl _ _, h.ne⟩
  have hcnt := hd.cnt
  have hrd := hd.k.rd.1
  have hrd2 := hd.rd
  replace ee : Hid _ := ee
  replace h : Hid (RX w R m d) := h
  replace p1 := Lib.hid p1
  replace hs := Lib.hid hs
  clear hd hE p2 p3 p4 hz
  generalize lim d = L at *
  cases hr : d.rst
  · rw [hr] at c4
    have eB : putB d off s true = { d with got := lay d off (bt s) s.size, most := if 0 < s.size then max d.most (off + s.size) else d.most, size := if true = true then off + s.size else d.size, cnt := d.cnt + s.size } := by unfold putB; rw [if_pos ⟨he, hr⟩]
    have fin_ok := fun {wr : World} (N : RL w wr R m d off s s.size) (_ : Bool) => put_t N hr eB
    rw [ee.out] at fin_ok
    replace hr : Hid _ := hr
    clear eB
    go_enter Try.func10, Try.ntmps10
    go_wp2_with fail
    refine (CP.out _).mono ?_
    rintro e w1 ⟨rfl, rfl⟩
    go_wp2_with fail
    refine (CL.out ()).mono ?_
    rintro e w1 ⟨rfl, rfl⟩
    go_wp2_with fail
    go_loopg [10] s.size (fun g' iv wr => ∃ k : Nat, k + g' = s.size ∧ iv = .int .i64 k ∧ Hid (RL w wr R m d off s k))
    case atStart => exact ⟨0, by omega, rfl, R0⟩
    case round =>
      clear R0 c2 c3 c4 CP CL
      have hsv := hs.out
      obtain ⟨k, hkk, rfl, NQ⟩ := hrel
      by_cases hlt : k < s.size
      · have z1 : decide ((k : Int) < (s.size : Int)) = true := decide_eq_true (by omega)
        have e0 := NQ.out.led.cell 0 (v := .map (some m)) rfl
        have e1 := NQ.out.led.cell 1 (v := .int .i64 d.rd) rfl
        obtain ⟨n, S, hn, hM, hS⟩ := NQ.out.map
        obtain ⟨A, hA⟩ : ∃ A, A = off + (k : Int) := ⟨_, rfl⟩
        have hAw : wrap64 (off + (k : Int)) = A := by have := p1.out; have := hs.out; rw [hA]; unfold wrap64; omega
        have hA64 : In64 A := by have := p1.out; have := hs.out; unfold In64; omega
        have lk := hM.look hA64
        have hSA : d.rd ≤ A → S A = d.got A := fun q => by rw [hS A q, hA, lay_at]
        have SK : Hid (∀ w', Below wr.heap.size wr w' → ¬ (d.rd ≤ A ∧ d.got A = none) → RL w w' R m d off s (k + 1)) := fun w' b q => NQ.out.skip b (by rw [← hA]; exact q)
        by_cases q1 : d.rd ≤ A
        · have z2 : decide (d.rd ≤ A) = true := decide_eq_true q1
          rw [hSA q1] at lk
          cases hg : d.got A with
          | some c =>
            rw [hg] at lk
            have N2 := Lib.hid (SK.out wr (Below.refl _ _) (fun q => by rw [hg] at q; cases q.2))
            clear NQ hM hS SK hSA q1 hA hA64
            replace hg : Hid _ := hg
            go_wp2_with fail
            go_roundg (s.size - (k + 1))
            case measure => omega
            case rel => exact ⟨k + 1, by omega, by go_num, N2⟩
          | none =>
            rw [hg] at lk
            have MD : MapY wr.drew m n S := hM.of_block rfl
            obtain ⟨w5, hup, M5, gr⟩ := MD.put (by have := hs.out; unfold maxLen; omega) hA64 (bt_bd s k)
            have N2 : Hid (RL w w5 R m d off s (k + 1)) := by
              refine ⟨?_, ⟨n + 1, _, by omega, M5, fun x hx => ?_⟩, ?_, NQ.out.ne⟩
              · exact (NQ.out.led.of_block (w' := wr.drew) rfl).of_block (gr.block R (NQ.out.led.lt (by show 0 < 5; decide)) (fun e => NQ.out.ne (Option.some.inj e).symm))
              · rw [lay_set d off (bt s) k (by rw [← hA]; exact q1) (by rw [← hA]; exact hg), ← hA]
                by_cases e : x = A
                · rw [if_pos e, if_pos e]
                · rw [if_neg e, if_neg e]
                  exact hS x hx
              · exact NQ.out.kp.drew.grown gr (fun k hk _ => (Option.some.inj hk).symm)
            have ia := fun w' => at_str s k w' hlt (k : Int) rfl
            have f0 := e0
            clear NQ hM hS SK hSA q1 hA hA64 MD M5 gr
            replace hg : Hid _ := hg
            go_wp2_with fail
            go_region
            go_wp2_with fail
            go_roundg (s.size - (k + 1))
            case measure => omega
            case rel => exact ⟨k + 1, by omega, by go_num, N2⟩
        · have z2 : decide (d.rd ≤ A) = false := decide_eq_false q1
          have N2 := Lib.hid (SK.out wr (Below.refl _ _) (fun q => q1 q.1))
          clear NQ hM hS SK hSA q1 hA hA64
          go_wp2_with fail
          go_roundg (s.size - (k + 1))
          case measure => omega
          case rel => exact ⟨k + 1, by omega, by go_num, N2⟩
      · have z1 : decide ((k : Int) < (s.size : Int)) = false := decide_eq_false (by omega)
        obtain rfl : k = s.size := by omega
        have d2 := NQ.out.led.cell 2 (v := .int .i64 d.size) rfl
        have f2 := NQ.out.led.free 2 (by show 2 < 5; decide)
        have d3 := NQ.out.led.cell 3 (v := .int .i64 d.most) rfl
        have f3 := NQ.out.led.free 3 (by show 3 < 5; decide)
        have FF := fin_ok NQ.out true
        clear hkk hlt
        by_cases hp : 0 < s.size
        · have z3 : decide ((0 : Int) < (s.size : Int)) = true := decide_eq_true (by omega)
          have z4 : decide (0 < s.size) = true := decide_eq_true hp
          rw [if_pos hp] at FF
          have F1 := Lib.hid FF
          by_cases hmx : d.most < E
          · have mx : max d.most E = E := by omega
            have mx1 : decide (d.most < E) = true := decide_eq_true hmx
            have mx2 : decide (E ≤ d.most) = false := decide_eq_false (by omega)
            have mx3 : ¬ E ≤ d.most := by omega
            rw [mx] at F1
            clear FF NQ mx hmx
            go_wp2_with fail
            go_ret
            exact ⟨rfl, F1.out⟩
          · have mx : max d.most E = d.most := by omega
            have mx1 : decide (d.most < E) = false := decide_eq_false hmx
            have mx2 : decide (E ≤ d.most) = true := decide_eq_true (by omega)
            have mx3 : E ≤ d.most := by omega
            rw [mx] at F1
            clear FF NQ mx hmx
            go_wp2_with fail
            go_ret
            exact ⟨rfl, F1.out⟩
        · have z3 : decide ((0 : Int) < (s.size : Int)) = false := decide_eq_false (by omega)
          have z4 : decide (0 < s.size) = false := decide_eq_false hp
          rw [if_neg hp] at FF
          have F1 := Lib.hid FF
          clear FF NQ
          go_wp2_with fail
          go_ret
          exact ⟨rfl, F1.out⟩
  · rw [hr] at c4
    have eB : putB d off s true = d := by unfold putB; rw [if_neg (fun e => by rw [hr] at e; cases e.2)]
    rw [eB]
    replace hr : Hid _ := hr
    clear eB
    go_enter Try.func10, Try.ntmps10
    go_wp2_with fail
    refine (CP.out _).mono ?_
    rintro e w1 ⟨rfl, rfl⟩
    go_wp2_with fail
    refine (CL.out ()).mono ?_
    rintro e w1 ⟨rfl, rfl⟩
    go_wp2_with fail
    go_ret
    exact ⟨rfl, h.out, Kept.refl _ _⟩
set_option maxHeartbeats 4000000 in
theorem rput_fn (R m : Nat) (d : Bx) (off : Int) (s : ByteArray) (w : World) (h : RX w R m d) (hd : Bw d) (hs : s.size ≤ 140737488355328) (he : putE d off s.size false = 0) (hz : ¬ 0 ≤ d.size) :
    Calls Try.prog 10 #[ptr R, .int .i64 off, .string s, .bool false] w fun e w' => e = .returned (.int .i64 0) ∧ RX w' R m (putB d off s false) ∧ Kept (fun k => k = R ∨ k = m) w w' := by
  obtain ⟨p1, p2, p3, p4⟩ := putE_zero he
  have CP : Hid (∀ w, _) := fun w => rplace_ok off w
  rw [decide_eq_true p1] at CP
  have CL : Hid (∀ _ : Unit, _) := fun _ => rlimit_ok R m d w h hd
  have c2 := h.led.cell 2 (v := .int .i64 d.size) rfl
  have c3 := h.led.cell 3 (v := .int .i64 d.most) rfl
  have c4 := h.led.cell 4 (v := .bool d.rst) rfl
  obtain ⟨E, hE⟩ : ∃ E, E = off + (s.size : Int) := ⟨_, rfl⟩
  have ew : wrap64 (off + (s.size : Int)) = E := by rw [hE]; unfold wrap64; omega
  have g2 : decide (lim d < E) = false := decide_eq_false (by unfold lim; omega)
  have g3 : decide (0 ≤ d.size) = false := decide_eq_false hz
  have ee : off + (s.size : Int) = E := hE.symm
  have R0 : Hid (RL w w R m d off s 0) := by
    obtain ⟨n, S, h1, h2, h3⟩ := h.map
    exact ⟨h.led, ⟨n, S, by omega, h2, fun x hx => by rw [lay_zero]; exact h3 x hx⟩, Kept.refl _ _, h.ne⟩
  have hcnt := hd.cnt
  have hrd := hd.k.rd.1
  have hrd2 := hd.rd
  replace ee : Hid _ := ee
  replace h : Hid (RX w R m d) := h
  replace p1 := Lib.hid p1
  replace hs := Lib.hid hs
  clear hd hE p2 p3 p4 hz
  generalize lim d = L at *
  cases hr : d.rst
  · rw [hr] at c4
    have eB : putB d off s false = { d with got := lay d off (bt s) s.size, most := if 0 < s.size then max d.most (off + s.size) else d.most, size := if false = true then off + s.size else d.size, cnt := d.cnt + s.size } := by unfold putB; rw [if_pos ⟨he, hr⟩]
    have fin_ok := fun {wr : World} (N : RL w wr R m d off s s.size) (_ : Bool) => put_f N hr eB
    rw [ee.out] at fin_ok
    replace hr : Hid _ := hr
    clear eB
    go_enter Try.func10, Try.ntmps10
    go_wp2_with fail
    refine (CP.out _).mono ?_
    rintro e w1 ⟨rfl, rfl⟩
    go_wp2_with fail
    refine (CL.out ()).mono ?_
    rintro e w1 ⟨rfl, rfl⟩
    go_wp2_with fail
    go_loopg [10] s.size (fun g' iv wr => ∃ k : Nat, k + g' = s.size ∧ iv = .int .i64 k ∧ Hid (RL w wr R m d off s k))
    case atStart => exact ⟨0, by omega, rfl, R0⟩
    case round =>
      clear R0 c2 c3 c4 CP CL
      have hsv := hs.out
      obtain ⟨k, hkk, rfl, NQ⟩ := hrel
      by_cases hlt : k < s.size
      · have z1 : decide ((k : Int) < (s.size : Int)) = true := decide_eq_true (by omega)
        have e0 := NQ.out.led.cell 0 (v := .map (some m)) rfl
        have e1 := NQ.out.led.cell 1 (v := .int .i64 d.rd) rfl
        obtain ⟨n, S, hn, hM, hS⟩ := NQ.out.map
        obtain ⟨A, hA⟩ : ∃ A, A = off + (k : Int) := ⟨_, rfl⟩
        have hAw : wrap64 (off + (k : Int)) = A := by have := p1.out; have := hs.out; rw [hA]; unfold wrap64; omega
        have hA64 : In64 A := by have := p1.out; have := hs.out; unfold In64; omega
        have lk := hM.look hA64
        have hSA : d.rd ≤ A → S A = d.got A := fun q => by rw [hS A q, hA, lay_at]
        have SK : Hid (∀ w', Below wr.heap.size wr w' → ¬ (d.rd ≤ A ∧ d.got A = none) → RL w w' R m d off s (k + 1)) := fun w' b q => NQ.out.skip b (by rw [← hA]; exact q)
        by_cases q1 : d.rd ≤ A
        · have z2 : decide (d.rd ≤ A) = true := decide_eq_true q1
          rw [hSA q1] at lk
          cases hg : d.got A with
          | some c =>
            rw [hg] at lk
            have N2 := Lib.hid (SK.out wr (Below.refl _ _) (fun q => by rw [hg] at q; cases q.2))
            clear NQ hM hS SK hSA q1 hA hA64
            replace hg : Hid _ := hg
            go_wp2_with fail
            go_roundg (s.size - (k + 1))
            case measure => omega
            case rel => exact ⟨k + 1, by omega, by go_num, N2⟩
          | none =>
            rw [hg] at lk
            have MD : MapY wr.drew m n S := hM.of_block rfl
            obtain ⟨w5, hup, M5, gr⟩ := MD.put (by have := hs.out; unfold maxLen; omega) hA64 (bt_bd s k)
            have N2 : Hid (RL w w5 R m d off s (k + 1)) := by
              refine ⟨?_, ⟨n + 1, _, by omega, M5, fun x hx => ?_⟩, ?_, NQ.out.ne⟩
              · exact (NQ.out.led.of_block (w' := wr.drew) rfl).of_block (gr.block R (NQ.out.led.lt (by show 0 < 5; decide)) (fun e => NQ.out.ne (Option.some.inj e).symm))
              · rw [lay_set d off (bt s) k (by rw [← hA]; exact q1) (by rw [← hA]; exact hg), ← hA]
                by_cases e : x = A
                · rw [if_pos e, if_pos e]
                · rw [if_neg e, if_neg e]
                  exact hS x hx
              · exact NQ.out.kp.drew.grown gr (fun k hk _ => (Option.some.inj hk).symm)
            have ia := fun w' => at_str s k w' hlt (k : Int) rfl
            have f0 := e0
            clear NQ hM hS SK hSA q1 hA hA64 MD M5 gr
            replace hg : Hid _ := hg
            go_wp2_with fail
            go_region
            go_wp2_with fail
            go_roundg (s.size - (k + 1))
            case measure => omega
            case rel => exact ⟨k + 1, by omega, by go_num, N2⟩
        · have z2 : decide (d.rd ≤ A) = false := decide_eq_false q1
          have N2 := Lib.hid (SK.out wr (Below.refl _ _) (fun q => q1 q.1))
          clear NQ hM hS SK hSA q1 hA hA64
          go_wp2_with fail
          go_roundg (s.size - (k + 1))
          case measure => omega
          case rel => exact ⟨k + 1, by omega, by go_num, N2⟩
      · have z1 : decide ((k : Int) < (s.size : Int)) = false := decide_eq_false (by omega)
        obtain rfl : k = s.size := by omega
        have d2 := NQ.out.led.cell 2 (v := .int .i64 d.size) rfl
        have f2 := NQ.out.led.free 2 (by show 2 < 5; decide)
        have d3 := NQ.out.led.cell 3 (v := .int .i64 d.most) rfl
        have f3 := NQ.out.led.free 3 (by show 3 < 5; decide)
        have FF := fin_ok NQ.out false
        clear hkk hlt
        by_cases hp : 0 < s.size
        · have z3 : decide ((0 : Int) < (s.size : Int)) = true := decide_eq_true (by omega)
          have z4 : decide (0 < s.size) = true := decide_eq_true hp
          rw [if_pos hp] at FF
          have F1 := Lib.hid FF
          by_cases hmx : d.most < E
          · have mx : max d.most E = E := by omega
            have mx1 : decide (d.most < E) = true := decide_eq_true hmx
            have mx2 : decide (E ≤ d.most) = false := decide_eq_false (by omega)
            have mx3 : ¬ E ≤ d.most := by omega
            rw [mx] at F1
            clear FF NQ mx hmx
            go_wp2_with fail
            go_ret
            exact ⟨rfl, F1.out⟩
          · have mx : max d.most E = d.most := by omega
            have mx1 : decide (d.most < E) = false := decide_eq_false hmx
            have mx2 : decide (E ≤ d.most) = true := decide_eq_true (by omega)
            have mx3 : E ≤ d.most := by omega
            rw [mx] at F1
            clear FF NQ mx hmx
            go_wp2_with fail
            go_ret
            exact ⟨rfl, F1.out⟩
        · have z3 : decide ((0 : Int) < (s.size : Int)) = false := decide_eq_false (by omega)
          have z4 : decide (0 < s.size) = false := decide_eq_false hp
          rw [if_neg hp] at FF
          have F1 := Lib.hid FF
          clear FF NQ
          go_wp2_with fail
          go_ret
          exact ⟨rfl, F1.out⟩
  · rw [hr] at c4
    have eB : putB d off s false = d := by unfold putB; rw [if_neg (fun e => by rw [hr] at e; cases e.2)]
    rw [eB]
    replace hr : Hid _ := hr
    clear eB
    go_enter Try.func10, Try.ntmps10
    go_wp2_with fail
    refine (CP.out _).mono ?_
    rintro e w1 ⟨rfl, rfl⟩
    go_wp2_with fail
    refine (CL.out ()).mono ?_
    rintro e w1 ⟨rfl, rfl⟩
    go_wp2_with fail
    go_ret
    exact ⟨rfl, h.out, Kept.refl _ _⟩
set_option maxHeartbeats 4000000 in
theorem rput_fp (R m : Nat) (d : Bx) (off : Int) (s : ByteArray) (w : World) (h : RX w R m d) (hd : Bw d) (hs : s.size ≤ 140737488355328) (he : putE d off s.size false = 0) (hz : 0 ≤ d.size) :
    Calls Try.prog 10 #[ptr R, .int .i64 off, .string s, .bool false] w fun e w' => e = .returned (.int .i64 0) ∧ RX w' R m (putB d off s false) ∧ Kept (fun k => k = R ∨ k = m) w w' := by
  obtain ⟨p1, p2, p3, p4⟩ := putE_zero he
  have CP : Hid (∀ w, _) := fun w => rplace_ok off w
  rw [decide_eq_true p1] at CP
  have CL : Hid (∀ _ : Unit, _) := fun _ => rlimit_ok R m d w h hd
  have c2 := h.led.cell 2 (v := .int .i64 d.size) rfl
  have c3 := h.led.cell 3 (v := .int .i64 d.most) rfl
  have c4 := h.led.cell 4 (v := .bool d.rst) rfl
  obtain ⟨E, hE⟩ : ∃ E, E = off + (s.size : Int) := ⟨_, rfl⟩
  have ew : wrap64 (off + (s.size : Int)) = E := by rw [hE]; unfold wrap64; omega
  have g2 : decide (lim d < E) = false := decide_eq_false (by unfold lim; omega)
  have g3 : decide (0 ≤ d.size) = true := decide_eq_true hz
  have g4 : decide (d.size < E) = false := decide_eq_false (by have := (p3 hz).1; omega)
  have ee : off + (s.size : Int) = E := hE.symm
  have R0 : Hid (RL w w R m d off s 0) := by
    obtain ⟨n, S, h1, h2, h3⟩ := h.map
    exact ⟨h.led, ⟨n, S, by omega, h2, fun x hx => by rw [lay_zero]; exact h3 x hx⟩, Kept.refl _ _, h.ne⟩
  have hcnt := hd.cnt
  have hrd := hd.k.rd.1
  have hrd2 := hd.rd
  replace ee : Hid _ := ee
  replace h : Hid (RX w R m d) := h
  replace p1 := Lib.hid p1
  replace hs := Lib.hid hs
  clear hd hE p2 p3 p4 hz
  generalize lim d = L at *
  cases hr : d.rst
  · rw [hr] at c4
    have eB : putB d off s false = { d with got := lay d off (bt s) s.size, most := if 0 < s.size then max d.most (off + s.size) else d.most, size := if false = true then off + s.size else d.size, cnt := d.cnt + s.size } := by unfold putB; rw [if_pos ⟨he, hr⟩]
    have fin_ok := fun {wr : World} (N : RL w wr R m d off s s.size) (_ : Bool) => put_f N hr eB
    rw [ee.out] at fin_ok
    replace hr : Hid _ := hr
    clear eB
    go_enter Try.func10, Try.ntmps10
    go_wp2_with fail
    refine (CP.out _).mono ?_
    rintro e w1 ⟨rfl, rfl⟩
    go_wp2_with fail
    refine (CL.out ()).mono ?_
    rintro e w1 ⟨rfl, rfl⟩
    go_wp2_with fail
    go_loopg [10] s.size (fun g' iv wr => ∃ k : Nat, k + g' = s.size ∧ iv = .int .i64 k ∧ Hid (RL w wr R m d off s k))
    case atStart => exact ⟨0, by omega, rfl, R0⟩
    case round =>
      clear R0 c2 c3 c4 CP CL
      have hsv := hs.out
      obtain ⟨k, hkk, rfl, NQ⟩ := hrel
      by_cases hlt : k < s.size
      · have z1 : decide ((k : Int) < (s.size : Int)) = true := decide_eq_true (by omega)
        have e0 := NQ.out.led.cell 0 (v := .map (some m)) rfl
        have e1 := NQ.out.led.cell 1 (v := .int .i64 d.rd) rfl
        obtain ⟨n, S, hn, hM, hS⟩ := NQ.out.map
        obtain ⟨A, hA⟩ : ∃ A, A = off + (k : Int) := ⟨_, rfl⟩
        have hAw : wrap64 (off + (k : Int)) = A := by have := p1.out; have := hs.out; rw [hA]; unfold wrap64; omega
        have hA64 : In64 A := by have := p1.out; have := hs.out; unfold In64; omega
        have lk := hM.look hA64
        have hSA : d.rd ≤ A → S A = d.got A := fun q => by rw [hS A q, hA, lay_at]
        have SK : Hid (∀ w', Below wr.heap.size wr w' → ¬ (d.rd ≤ A ∧ d.got A = none) → RL w w' R m d off s (k + 1)) := fun w' b q => NQ.out.skip b (by rw [← hA]; exact q)
        by_cases q1 : d.rd ≤ A
        · have z2 : decide (d.rd ≤ A) = true := decide_eq_true q1
          rw [hSA q1] at lk
          cases hg : d.got A with
          | some c =>
            rw [hg] at lk
            have N2 := Lib.hid (SK.out wr (Below.refl _ _) (fun q => by rw [hg] at q; cases q.2))
            clear NQ hM hS SK hSA q1 hA hA64
            replace hg : Hid _ := hg
            go_wp2_with fail
            go_roundg (s.size - (k + 1))
            case measure => omega
            case rel => exact ⟨k + 1, by omega, by go_num, N2⟩
          | none =>
            rw [hg] at lk
            have MD : MapY wr.drew m n S := hM.of_block rfl
            obtain ⟨w5, hup, M5, gr⟩ := MD.put (by have := hs.out; unfold maxLen; omega) hA64 (bt_bd s k)
            have N2 : Hid (RL w w5 R m d off s (k + 1)) := by
              refine ⟨?_, ⟨n + 1, _, by omega, M5, fun x hx => ?_⟩, ?_, NQ.out.ne⟩
              · exact (NQ.out.led.of_block (w' := wr.drew) rfl).of_block (gr.block R (NQ.out.led.lt (by show 0 < 5; decide)) (fun e => NQ.out.ne (Option.some.inj e).symm))
              · rw [lay_set d off (bt s) k (by rw [← hA]; exact q1) (by rw [← hA]; exact hg), ← hA]
                by_cases e : x = A
                · rw [if_pos e, if_pos e]
                · rw [if_neg e, if_neg e]
                  exact hS x hx
              · exact NQ.out.kp.drew.grown gr (fun k hk _ => (Option.some.inj hk).symm)
            have ia := fun w' => at_str s k w' hlt (k : Int) rfl
            have f0 := e0
            clear NQ hM hS SK hSA q1 hA hA64 MD M5 gr
            replace hg : Hid _ := hg
            go_wp2_with fail
            go_region
            go_wp2_with fail
            go_roundg (s.size - (k + 1))
            case measure => omega
            case rel => exact ⟨k + 1, by omega, by go_num, N2⟩
        · have z2 : decide (d.rd ≤ A) = false := decide_eq_false q1
          have N2 := Lib.hid (SK.out wr (Below.refl _ _) (fun q => q1 q.1))
          clear NQ hM hS SK hSA q1 hA hA64
          go_wp2_with fail
          go_roundg (s.size - (k + 1))
          case measure => omega
          case rel => exact ⟨k + 1, by omega, by go_num, N2⟩
      · have z1 : decide ((k : Int) < (s.size : Int)) = false := decide_eq_false (by omega)
        obtain rfl : k = s.size := by omega
        have d2 := NQ.out.led.cell 2 (v := .int .i64 d.size) rfl
        have f2 := NQ.out.led.free 2 (by show 2 < 5; decide)
        have d3 := NQ.out.led.cell 3 (v := .int .i64 d.most) rfl
        have f3 := NQ.out.led.free 3 (by show 3 < 5; decide)
        have FF := fin_ok NQ.out false
        clear hkk hlt
        by_cases hp : 0 < s.size
        · have z3 : decide ((0 : Int) < (s.size : Int)) = true := decide_eq_true (by omega)
          have z4 : decide (0 < s.size) = true := decide_eq_true hp
          rw [if_pos hp] at FF
          have F1 := Lib.hid FF
          by_cases hmx : d.most < E
          · have mx : max d.most E = E := by omega
            have mx1 : decide (d.most < E) = true := decide_eq_true hmx
            have mx2 : decide (E ≤ d.most) = false := decide_eq_false (by omega)
            have mx3 : ¬ E ≤ d.most := by omega
            rw [mx] at F1
            clear FF NQ mx hmx
            go_wp2_with fail
            go_ret
            exact ⟨rfl, F1.out⟩
          · have mx : max d.most E = d.most := by omega
            have mx1 : decide (d.most < E) = false := decide_eq_false hmx
            have mx2 : decide (E ≤ d.most) = true := decide_eq_true (by omega)
            have mx3 : E ≤ d.most := by omega
            rw [mx] at F1
            clear FF NQ mx hmx
            go_wp2_with fail
            go_ret
            exact ⟨rfl, F1.out⟩
        · have z3 : decide ((0 : Int) < (s.size : Int)) = false := decide_eq_false (by omega)
          have z4 : decide (0 < s.size) = false := decide_eq_false hp
          rw [if_neg hp] at FF
          have F1 := Lib.hid FF
          clear FF NQ
          go_wp2_with fail
          go_ret
          exact ⟨rfl, F1.out⟩
  · rw [hr] at c4
    have eB : putB d off s false = d := by unfold putB; rw [if_neg (fun e => by rw [hr] at e; cases e.2)]
    rw [eB]
    replace hr : Hid _ := hr
    clear eB
    go_enter Try.func10, Try.ntmps10
    go_wp2_with fail
    refine (CP.out _).mono ?_
    rintro e w1 ⟨rfl, rfl⟩
    go_wp2_with fail
    refine (CL.out ()).mono ?_
    rintro e w1 ⟨rfl, rfl⟩
    go_wp2_with fail
    go_ret
    exact ⟨rfl, h.out, Kept.refl _ _⟩
theorem rput_ok (R m : Nat) (d : Bx) (off : Int) (s : ByteArray) (fin : Bool) (w : World) (h : RX w R m d) (hd : Bw d) (hs : s.size ≤ 140737488355328) :
    Calls Try.prog 10 #[ptr R, .int .i64 off, .string s, .bool fin] w fun e w' => e = .returned (.int .i64 (putE d off s.size fin)) ∧ RX w' R m (putB d off s fin) ∧ Kept (fun k => k = R ∨ k = m) w w' := by
  by_cases he : putE d off s.size fin = 0
  · rw [he]
    by_cases hz : 0 ≤ d.size
    · cases fin
      · exact rput_fp R m d off s w h hd hs he hz
      · exact rput_tp R m d off s w h hd hs he hz
    · cases fin
      · exact rput_fn R m d off s w h hd hs he hz
      · exact rput_tn R m d off s w h hd hs he hz
  · exact rput_no R m d off s fin w h hd hs he
end Go.Proofs.Ytpendchkalagnaa
