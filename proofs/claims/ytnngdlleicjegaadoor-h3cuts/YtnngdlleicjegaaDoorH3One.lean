/-
  One reader: what each call leaves of it. It leans on what the laws ask of the program's calls (H3Face). No other condition.
-/
import Derived.Test.YtnngdlleicjegaaDoorH3Works
namespace Go.Proofs.YtnngdlleicjegaaDoor
set_option maxRecDepth 100000
open Go.RowKit

section
variable {T : World → Prop} {PR : (Nat → Prop) → World → Value → Bool → List L → Prop}
/-- One reader, made after the world w0. -/
structure H1 (T : World → Prop) (PR : (Nat → Prop) → World → Value → Bool → List L → Prop) (w0 w : World) (v : Value) (c : Bool) (ts : List L) : Prop where
  ex : ∃ F : Nat → Prop, PR F w v c ts ∧ (∀ k, F k → w0.heap.size ≤ k) ∧ Below w0.heap.size w0 w ∧ T w
theorem H1.below {w0 w : World} {v : Value} {c : Bool} {ts : List L} (h : H1 T PR w0 w v c ts) : Below w0.heap.size w0 w := by
  obtain ⟨_, _, _, h, _⟩ := h.ex; exact h
theorem H1.tab {w0 w : World} {v : Value} {c : Bool} {ts : List L} (h : H1 T PR w0 w v c ts) : T w := by
  obtain ⟨_, _, _, _, h⟩ := h.ex; exact h
theorem h1_new (f : H3Face T PR) (c : Bool) (w0 w : World) (b : Below w0.heap.size w0 w) (t : T w) :
    Calls Tryd.prog 9 #[.bool c] w fun e w' => ∃ a : Addr, e = .returned (.pointer (some a)) ∧ H1 T PR w0 w' (.pointer (some a)) c [] := by
  refine (f.new c w t).mono ?_
  rintro e w' ⟨a, F, rfl, h, hF, b'⟩
  exact ⟨a, rfl, F, h, fun k hk => Nat.le_trans b.size (hF k hk), b.trans (b'.mono b.size), f.keep t b'⟩
theorem H1.keep (f : H3Face T PR) {w0 w w' : World} {v : Value} {c : Bool} {ts : List L} (h : H1 T PR w0 w v c ts) (b : Below w.heap.size w w') : H1 T PR w0 w' v c ts := by
  obtain ⟨F, h, hF, b0, t⟩ := h.ex
  exact ⟨F, f.of h fun k hk => b.block k (f.lt h k hk), hF, b0.trans (b.mono b0.size), f.keep t b⟩
theorem h1_feed (f : H3Face T PR) {w0 w : World} {v : Value} {c : Bool} {ts : List L} (h : H1 T PR w0 w v c ts) (t : ByteArray) (hz : bytesL ts + t.size < 1000000) :
    Calls Tryd.prog 10 #[v, .string t] w fun e w' => ∃ ev : Value, e = .returned (.tuple #[ev, .int .i64 ((fed c ts).feed (toL t)).1.code]) ∧ H1 T PR w0 w' v c (ts ++ [toL t]) ∧ EvAt w' ev ((fed c ts).feed (toL t)).2 := by
  obtain ⟨F, h, hF, b0, tw⟩ := h.ex
  refine (f.feed t tw h hz).mono ?_
  rintro e w' ⟨F', ev, rfl, h', hF', k', v', o'⟩
  refine ⟨ev, rfl, ⟨F', h', fun k hk => ?_, b0.trans (k'.below b0.size hF), f.still tw h k'⟩, v'⟩
  rcases hF' k hk with q | q
  · exact hF k q
  · exact Nat.le_trans b0.size q
theorem h1_fin (f : H3Face T PR) {w0 w : World} {v : Value} {c : Bool} {ts : List L} (h : H1 T PR w0 w v c ts) :
    Calls Tryd.prog 13 #[v] w fun e w' => e = .returned (.int .i64 (fed c ts).fin) ∧ H1 T PR w0 w' v c ts := by
  obtain ⟨F, h, hF, b0, tw⟩ := h.ex
  refine (f.fin tw h).mono ?_
  rintro e w' ⟨F', rfl, h', hF', k'⟩
  refine ⟨rfl, ⟨F', h', fun k hk => ?_, b0.trans (k'.below b0.size hF), f.still tw h k'⟩⟩
  rcases hF' k hk with q | q
  · exact hF k q
  · exact Nat.le_trans b0.size q
theorem EvAt.nil {w : World} {v : Value} {l : List Ev} (h : EvAt w v l) (e : l = []) : ∃ a c, v = .slice a 0 c := by
  obtain ⟨a, cap, rfl, -⟩ := h
  exact ⟨a, cap, by rw [e]; rfl⟩
theorem EvAt.slice {w : World} {v : Value} {l : List Ev} (h : EvAt w v l) : ∃ a c, v = .slice a l.length c := by
  obtain ⟨a, cap, rfl, -⟩ := h
  exact ⟨a, cap, rfl⟩
set_option maxHeartbeats 4000000 in
theorem faults_ok (f : H3Face T PR) (c : Bool) (s m : ByteArray) (w : World) (t : T w) :
    Calls Tryd.prog 8 #[.bool c, .string s, .string m] w fun e w' => e = .returned (.bool true) ∧ Below w.heap.size w w' := by
  have WO : Hid (∀ _ : Unit, _) := fun _ => works15_ok f w t
  by_cases h1 : s.size ≤ 3000
  · have q1 : decide ((3000 : Int) < (s.size : Int)) = false := decide_eq_false (by omega)
    by_cases h2 : m.size ≤ 3000
    · have q2 : decide ((3000 : Int) < (m.size : Int)) = false := decide_eq_false (by omega)
      have NW : Hid (∀ w', Below w.heap.size w w' → _) := fun w' b => h1_new f c w w' b (f.keep t b)
      have FD : Hid (∀ w' v, H1 T PR w w' v c [] → _) := fun w' v h => h1_feed f h s (by show 0 + s.size < _; omega)
      have FN : Hid (∀ w' v ts, H1 T PR w w' v c ts → _) := fun w' v ts h => h1_fin f h
      have FM : Hid (∀ w' v, H1 T PR w w' v c [toL s] → _) := fun w' v h => h1_feed f h m (by show [toL s].flatten.length + m.size < _; simp [toL_len]; omega)
      have EF : fed c ([] ++ [toL s]) = ((fed c []).feed (toL s)).1 := fed_snoc c [] (toL s)
      obtain ⟨r, hr⟩ : ∃ r, r = ((fed c []).feed (toL s)).1 := ⟨_, rfl⟩
      rw [← hr] at FD EF
      rw [List.nil_append] at EF FD
      rw [EF] at FM
      by_cases hc : r.code = 0
      · rw [hc] at FD
        have hf := fin_ok hc
        unfold hFrame hMessage at hf
        have FN1 : Hid (∀ w' v, H1 T PR w w' v c [toL s] → _) := fun w' v h => FN.out w' v [toL s] h
        rw [EF] at FN1
        clear FM FN EF hr hc
        generalize r.fin = fv at *
        have go : ∀ fv' : Int, fv = fv' → (fv' = 0 ∨ fv' = 262 ∨ fv' = 270) → Calls Tryd.prog 8 #[.bool c, .string s, .string m] w fun e w' => e = .returned (.bool true) ∧ Below w.heap.size w w' := by
          intro fv' e' h'
          subst e'
          rcases h' with rfl | rfl | rfl
          · go_enter Tryd.func8, Tryd.ntmps8
            go_wp2_with fail
            refine (WO.out ()).mono ?_
            rintro e w1 ⟨rfl, b1⟩
            have Z1 := Lib.hid b1
            clear b1 WO
            go_wp2_with fail
            refine (NW.out _ Z1.out).mono ?_
            rintro e w2 ⟨a, rfl, n2⟩
            have N2 := Lib.hid n2
            clear n2 NW Z1
            go_wp2_with fail
            refine (FD.out _ _ N2.out).mono ?_
            rintro e w3 ⟨ev, rfl, n3, -⟩
            have N3 := Lib.hid n3
            clear n3 FD N2
            go_wp2_with fail
            refine (FN1.out _ _ N3.out).mono ?_
            rintro e w4 ⟨rfl, n4⟩
            have Z4 := Lib.hid n4.below
            clear n4 FN1 N3
            go_wp2_with fail
            go_ret
            exact ⟨rfl, Z4.out⟩
          · go_enter Tryd.func8, Tryd.ntmps8
            go_wp2_with fail
            refine (WO.out ()).mono ?_
            rintro e w1 ⟨rfl, b1⟩
            have Z1 := Lib.hid b1
            clear b1 WO
            go_wp2_with fail
            refine (NW.out _ Z1.out).mono ?_
            rintro e w2 ⟨a, rfl, n2⟩
            have N2 := Lib.hid n2
            clear n2 NW Z1
            go_wp2_with fail
            refine (FD.out _ _ N2.out).mono ?_
            rintro e w3 ⟨ev, rfl, n3, -⟩
            have N3 := Lib.hid n3
            clear n3 FD N2
            go_wp2_with fail
            refine (FN1.out _ _ N3.out).mono ?_
            rintro e w4 ⟨rfl, n4⟩
            have N4 := Lib.hid n4
            clear n4 N3
            go_wp2_with fail
            refine (FN1.out _ _ N4.out).mono ?_
            rintro e w5 ⟨rfl, n5⟩
            have Z5 := Lib.hid n5.below
            clear n5 FN1 N4
            go_wp2_with fail
            go_ret
            exact ⟨rfl, Z5.out⟩
          · go_enter Tryd.func8, Tryd.ntmps8
            go_wp2_with fail
            refine (WO.out ()).mono ?_
            rintro e w1 ⟨rfl, b1⟩
            have Z1 := Lib.hid b1
            clear b1 WO
            go_wp2_with fail
            refine (NW.out _ Z1.out).mono ?_
            rintro e w2 ⟨a, rfl, n2⟩
            have N2 := Lib.hid n2
            clear n2 NW Z1
            go_wp2_with fail
            refine (FD.out _ _ N2.out).mono ?_
            rintro e w3 ⟨ev, rfl, n3, -⟩
            have N3 := Lib.hid n3
            clear n3 FD N2
            go_wp2_with fail
            refine (FN1.out _ _ N3.out).mono ?_
            rintro e w4 ⟨rfl, n4⟩
            have N4 := Lib.hid n4
            clear n4 N3
            go_wp2_with fail
            refine (FN1.out _ _ N4.out).mono ?_
            rintro e w5 ⟨rfl, n5⟩
            have N5 := Lib.hid n5
            clear n5 N4
            go_wp2_with fail
            refine (FN1.out _ _ N5.out).mono ?_
            rintro e w6 ⟨rfl, n6⟩
            have Z6 := Lib.hid n6.below
            clear n6 FN1 N5
            go_wp2_with fail
            go_ret
            exact ⟨rfl, Z6.out⟩
        exact go fv rfl hf
      · have eF : r.feed (toL m) = (r, []) := by
          unfold Hr.feed
          rw [if_pos hc]
        rw [eF] at FM
        have EF2 : fed c ([toL s] ++ [toL m]) = r := by
          rw [fed_snoc, EF, eF]
        have FN2 : Hid (∀ w' v, H1 T PR w w' v c ([toL s] ++ [toL m]) → _) := fun w' v h => FN.out w' v _ h
        rw [EF2, fin_code hc] at FN2
        have qc : (r.code == 0) = false := by simpa using hc
        clear FN EF EF2 eF hr
        generalize r.code = C at *
        replace hc : Hid _ := hc
        go_enter Tryd.func8, Tryd.ntmps8
        go_wp2_with fail
        refine (WO.out ()).mono ?_
        rintro e w1 ⟨rfl, b1⟩
        have Z1 := Lib.hid b1
        clear b1 WO
        go_wp2_with fail
        refine (NW.out _ Z1.out).mono ?_
        rintro e w2 ⟨a, rfl, n2⟩
        have N2 := Lib.hid n2
        clear n2 NW Z1
        go_wp2_with fail
        refine (FD.out _ _ N2.out).mono ?_
        rintro e w3 ⟨ev, rfl, n3, -⟩
        have N3 := Lib.hid n3
        clear n3 FD N2
        go_wp2_with fail
        refine (FM.out _ _ N3.out).mono ?_
        rintro e w4 ⟨ev4, rfl, n4, v4⟩
        obtain ⟨a4, c4, rfl⟩ := v4.nil rfl
        have N4 := Lib.hid n4
        clear n4 FM N3 v4
        go_wp2_with fail
        refine (FN2.out _ _ N4.out).mono ?_
        rintro e w5 ⟨rfl, n5⟩
        have Z5 := Lib.hid n5.below
        clear n5 FN2 N4
        go_wp2_with fail
        go_ret
        exact ⟨rfl, Z5.out⟩
    · have q2 : decide ((3000 : Int) < (m.size : Int)) = true := decide_eq_true (by omega)
      go_enter Tryd.func8, Tryd.ntmps8
      go_wp2_with fail
      refine (WO.out ()).mono ?_
      rintro e w1 ⟨rfl, b1⟩
      have Z1 := Lib.hid b1
      clear b1 WO
      go_wp2_with fail
      go_ret
      exact ⟨rfl, Z1.out⟩
  · have q1 : decide ((3000 : Int) < (s.size : Int)) = true := decide_eq_true (by omega)
    go_enter Tryd.func8, Tryd.ntmps8
    go_wp2_with fail
    refine (WO.out ()).mono ?_
    rintro e w1 ⟨rfl, b1⟩
    have Z1 := Lib.hid b1
    clear b1 WO
    go_wp2_with fail
    go_ret
    exact ⟨rfl, Z1.out⟩
end
end Go.Proofs.YtnngdlleicjegaaDoor
