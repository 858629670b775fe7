/-
  The law FieldsBack returns true for all fields and bytes, by what is asked of the program's calls (FiFace). No other condition.
-/
import Derived.Test.YtphmoieaddjanaaDoorFiFace
namespace Go.Proofs.YtphmoieaddjanaaDoor
set_option maxRecDepth 100000
open Go.RowKit Go.Sort

theorem write_len : ∀ l : List Fd, fstE l = 0 → (writeL l).length ≤ 600 * l.length
  | [], _ => by simp [writeL]
  | f :: l, h => by
    unfold fstE at h
    by_cases q : rtE f = 0
    · rw [if_pos q] at h
      have i := write_len l h
      have j := line_len q
      show (lineL f ++ writeL l).length ≤ _
      rw [List.length_append, List.length_cons]
      omega
    · rw [if_neg q] at h
      exact absurd h q
theorem chk_len {l : List Fd} (h : chkS l = 0) : l.length ≤ 16 ∧ (writeL l).length ≤ 9600 := by
  unfold chkS at h
  split at h
  · cases h
  · have := write_len l h
    exact ⟨by omega, by omega⟩
/-- What Read answers is right, or nothing. -/
theorem RdA.ok {s : ByteArray} {w' : World} {e : Ending} (h : RdA s w' e) : (∃ v d, readS (toL s) = .ok d ∧ e = .returned (.tuple #[v, .int .i64 0]) ∧ FdsAt w' v d) ∨ (∃ v x, readS (toL s) = .error x ∧ e = .returned (.tuple #[v, .int .i64 x]) ∧ FdsAt w' v []) := by
  obtain ⟨v, rfl, hf⟩ := h
  cases q : readS (toL s) with
  | ok d => rw [q] at hf; exact .inl ⟨v, d, rfl, rfl, hf⟩
  | error x => rw [q] at hf; exact .inr ⟨v, x, rfl, rfl, hf⟩
theorem readN_err : ∀ (k n : Nat) (s : L) (x : Int), s.length < k → readN k n s = .error x → x ≠ 0
  | 0, n, s, x, h, _ => by omega
  | k + 1, n, s, x, hk, h => by
    rw [readN_succ] at h
    split at h
    · cases h
    · rename_i hs
      split at h
      · rename_i e he
        injection h with h
        subst h
        cases s with
        | nil => exact absurd rfl hs
        | cons c t =>
          unfold rLine at he
          simp only at he
          have txe : ∀ (u : L) (y : Int), rText u = .error y → y = 1 := fun u y hy => by
            unfold rText Rd.bind rNum at hy
            split at hy
            · unfold rTake at hy
              split at hy
              · injection hy with hy; exact hy.symm
              · cases hy
            · rename_i e2 he2
              split at he2
              · cases he2
              · injection he2 with he2
                injection hy with hy
                rw [← hy, ← he2]
          split at he
          · cases he
          · split at he
            · unfold Rd.bind at he
              split at he
              · cases he
              · rename_i y hy
                injection he with he
                rw [← he, txe _ _ hy]
                decide
            · split at he
              · unfold Rd.bind at he
                split at he
                · simp only at he
                  split at he
                  · cases he
                  · rename_i y hy
                    injection he with he
                    rw [← he, txe _ _ hy]
                    decide
                · rename_i y hy
                  injection he with he
                  rw [← he, txe _ _ hy]
                  decide
              · injection he with he
                rw [← he]
                decide
      · rename_i f r he
        split at h
        · injection h with h
          rw [← h]
          decide
        · split at h
          · split at h
            · cases h
            · rename_i y hy
              injection h with h
              rw [← h]
              have := line_short he
              have := List.length_pos_iff.2 (line_pos f)
              exact readN_err k (n + 1) r y (by omega) hy
          · rename_i q
            injection h with h
            rw [← h]
            exact q
theorem read_err {s : L} {x : Int} (h : readS s = .error x) : x ≠ 0 := readN_err _ _ _ _ (by omega) h
theorem wrV_ok {l : List Fd} (h : chkS l = 0) : wrV l = .tuple #[.string (strL (writeL l)), .int .i64 0] := by
  unfold wrV
  rw [if_pos h, h]
theorem wrV_no {l : List Fd} (h : chkS l ≠ 0) : wrV l = .tuple #[.string ⟨#[]⟩, .int .i64 (chkS l)] := by
  unfold wrV
  rw [if_neg h]
set_option maxHeartbeats 8000000 in
theorem back_walk {T : World → Prop} (fc : FiFace T) (l : List Fd) (v : Value) (s : ByteArray) (w : World) (t : T w) (h : FdsAt w v l) (hl : l.length ≤ maxLen) (hs : s.size ≤ maxLen) :
    Calls Tryd.prog 5 #[v, .string s] w fun e w' => e = .returned (.bool true) ∧ Below w.heap.size w w' := by
  have WK := Lib.hid (works_ok fc w t)
  have H := Lib.hid h
  obtain ⟨va, vc, rfl⟩ := h.slice
  have TT := Lib.hid t
  have WR : Hid (∀ w', Below w.heap.size w w' → _) := fun w' b => fc.write w' _ l (fc.keep t b) (h.keep b) hl
  have WX : Hid (∀ w' x d, Below w.heap.size w w' → FdsAt w' x d → d.length ≤ 16 → _) := fun w' x d b (hx : FdsAt w' x d) (hd : d.length ≤ 16) => fc.write w' x d (fc.keep t b) hx (by unfold maxLen; omega)
  have RD : Hid (∀ w' (u : ByteArray), Below w.heap.size w w' → u.size ≤ 100000 → _) := fun w' u b (hu : u.size ≤ 100000) => fc.read w' u (fc.keep t b) hu
  have SM : Hid (∀ w' x, Below w.heap.size w w' → FdsAt w' x l → _) := fun w' x b (hx : FdsAt w' x l) => rsame14_ok l l x _ w' hx (h.keep b) hl hl
  have hs2 : s.size ≤ 9223372036854775807 := by unfold maxLen at hs; omega
  clear h t hs
  by_cases q : 20000 < s.size
  · have z : decide ((20000 : Int) < (s.size : Int)) = true := decide_eq_true (by omega)
    have z' : decide (20000 < s.size) = true := decide_eq_true q
    go_enter Tryd.func5, Tryd.ntmps5
    go_wp2_with fail
    refine WK.out.mono ?_
    rintro e w1 ⟨rfl, b1⟩
    have B1 := Lib.hid b1
    clear b1 WK
    go_wp2_with fail
    go_ret
    exact ⟨rfl, B1.out⟩
  · have z : decide ((20000 : Int) < (s.size : Int)) = false := decide_eq_false (by omega)
    have z' : decide (20000 < s.size) = false := decide_eq_false q
    go_enter Tryd.func5, Tryd.ntmps5
    go_wp2_with fail
    refine WK.out.mono ?_
    rintro e w1 ⟨rfl, b1⟩
    have B1 := Lib.hid b1
    clear b1 WK
    go_wp2_with fail
    refine (WR.out _ B1.out).mono ?_
    rintro e w2 ⟨rfl, b2⟩
    have B2 := Lib.hid (B1.out.trans (b2.mono B1.out.size))
    clear b2 WR B1
    by_cases c : chkS l = 0
    · rw [wrV_ok c]
      have C := chk_len c
      have rw0 := read_write c
      have y2 : (strL (writeL l)).size = (writeL l).length := strL_size _
      go_wp2_with fail
      refine (RD.out _ (strL (writeL l)) B2.out (by omega)).mono ?_
      rintro e w3 ⟨hr, b3⟩
      have B3 := Lib.hid (B2.out.trans (b3.mono B2.out.size))
      clear b3 B2
      rcases hr.ok with ⟨v3, d, hd, rfl, hf⟩ | ⟨v3, x, hx, rfl, hf⟩
      · rw [toL_strL, rw0] at hd
        injection hd with hd
        subst hd
        have S3 := Lib.hid (SM.out w3 v3 B3.out hf)
        simp only [decide_true] at S3
        obtain ⟨va3, vc3, rfl⟩ := hf.slice
        clear hr hf SM
        go_wp2_with fail
        refine S3.out.mono ?_
        rintro e w4 ⟨rfl, b4⟩
        have B4 := Lib.hid (B3.out.trans (b4.mono B3.out.size))
        clear b4 S3 B3
        go_wp2_with fail
        refine (RD.out _ s B4.out (by omega)).mono ?_
        rintro e w5 ⟨hr, b5⟩
        have B5 := Lib.hid (B4.out.trans (b5.mono B4.out.size))
        clear b5
        rcases hr.ok with ⟨v5, d, hd, rfl, hf⟩ | ⟨v5, x, hx, rfl, hf⟩
        · obtain ⟨c5, n5⟩ := read_back hd
          have C5 := chk_len c5
          have W5 := Lib.hid (WX.out w5 v5 d B5.out hf C5.1)
          obtain ⟨va5, vc5, rfl⟩ := hf.slice
          rw [wrV_ok c5] at W5
          have z5 : decide (((writeL d).length : Int) ≤ (s.size : Int)) = true := decide_eq_true (by rw [toL_len] at n5; omega)
          have z5' : decide ((writeL d).length ≤ s.size) = true := decide_eq_true (by rw [toL_len] at n5; omega)
          have y5 : (strL (writeL d)).size = (writeL d).length := strL_size _
          have m5 : (writeL d).length ≤ 9223372036854775807 := by omega
          clear hd hf c5 n5 C5 hr WX RD
          go_wp2_with fail
          refine W5.out.mono ?_
          rintro e w6 ⟨rfl, b6⟩
          have B6 := Lib.hid (B5.out.trans (b6.mono B5.out.size))
          clear b6 W5 B5
          go_wp2_with fail
          go_ret
          exact ⟨rfl, B6.out⟩
        · have hx0 := read_err hx
          have zx : decide (x = 0) = false := decide_eq_false hx0
          obtain ⟨va5, vc5, rfl⟩ := hf.slice
          clear hr hx hf WX RD
          go_wp2_with fail
          go_ret
          exact ⟨rfl, B5.out⟩
      · rw [toL_strL, rw0] at hx
        cases hx
    · rw [wrV_no c]
      have zc : decide (chkS l = 0) = false := decide_eq_false c
      go_wp2_with fail
      refine (RD.out _ s B2.out (by omega)).mono ?_
      rintro e w5 ⟨hr, b5⟩
      have B5 := Lib.hid (B2.out.trans (b5.mono B2.out.size))
      clear b5
      rcases hr.ok with ⟨v5, d, hd, rfl, hf⟩ | ⟨v5, x, hx, rfl, hf⟩
      · obtain ⟨c5, n5⟩ := read_back hd
        have C5 := chk_len c5
        have W5 := Lib.hid (WX.out w5 v5 d B5.out hf C5.1)
        obtain ⟨va5, vc5, rfl⟩ := hf.slice
        rw [wrV_ok c5] at W5
        have z5 : decide (((writeL d).length : Int) ≤ (s.size : Int)) = true := decide_eq_true (by rw [toL_len] at n5; omega)
        have z5' : decide ((writeL d).length ≤ s.size) = true := decide_eq_true (by rw [toL_len] at n5; omega)
        have y5 : (strL (writeL d)).size = (writeL d).length := strL_size _
        have m5 : (writeL d).length ≤ 9223372036854775807 := by omega
        clear hd hf c5 n5 C5 hr WX RD
        go_wp2_with fail
        refine W5.out.mono ?_
        rintro e w6 ⟨rfl, b6⟩
        have B6 := Lib.hid (B5.out.trans (b6.mono B5.out.size))
        clear b6 W5 B5
        go_wp2_with fail
        go_ret
        exact ⟨rfl, B6.out⟩
      · have hx0 := read_err hx
        have zx : decide (x = 0) = false := decide_eq_false hx0
        obtain ⟨va5, vc5, rfl⟩ := hf.slice
        clear hr hx hf WX RD
        go_wp2_with fail
        go_ret
        exact ⟨rfl, B5.out⟩
end Go.Proofs.YtphmoieaddjanaaDoor
