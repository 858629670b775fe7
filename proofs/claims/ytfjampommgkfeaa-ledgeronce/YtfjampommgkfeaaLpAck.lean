/-
  What Acked of the program's ledger does. No condition but what always holds of a ledger; ranges are an int64's, at most 2^43 of them.
-/
import Derived.Test.YtfjampommgkfeaaLpExp
import Derived.Test.YtfjampommgkfeaaAkPChk
namespace Go.Proofs.Ytfjampommgkfeaa
set_option maxRecDepth 100000
open Go.RowKit Go.Sort

theorem ack_none (d : Ld) (h0 : ackE d [] = 0) : acked d [] = d ∧ toldN d [] = [] ∧ lostN d [] = [] := by
  have e1 : toldP d [] = [] := List.filter_eq_nil_iff.2 fun _ _ => (by simp [hasR])
  have e2 : restP d [] = d.l := List.filter_eq_self.2 fun _ _ => (by simp [hasR])
  have e3 : lostP d [] = [] := List.filter_eq_nil_iff.2 fun _ _ => (by simp [lateB])
  have e4 : leftP d [] = d.l := by
    unfold leftP
    rw [e2]
    exact List.filter_eq_self.2 fun _ _ => (by simp [lateB])
  unfold acked toldN lostN
  rw [if_pos h0, if_pos h0, if_pos h0, e1, e3]
  refine ⟨?_, rfl, rfl⟩
  unfold ack
  rw [e1, e3, e4, if_pos rfl]
  rfl
theorem ack_no (d : Ld) (r : List Rg) (h0 : ackE d r ≠ 0) : acked d r = d ∧ toldN d r = [] ∧ lostN d r = [] := by
  unfold acked toldN lostN
  rw [if_neg h0, if_neg h0, if_neg h0]
  exact ⟨rfl, rfl, rfl⟩
/-- Refused, or nothing to do: the ledger stays. -/
theorem ack_stay {w w' : World} {B : Nat} {F : Nat → Prop} {d : Ld} {r : List Rg} (h : LS w B F d) (b : Below w.heap.size w w') (e : acked d r = d ∧ toldN d r = [] ∧ lostN d r = []) :
    ∃ F', N64 w' (Free w F') (.slice none 0 0) (toldN d r) ∧ N64 w' (Free w F') (.slice none 0 0) (lostN d r) ∧ LS w' B F' (acked d r) ∧ (∀ k, F' k → F k ∨ w.heap.size ≤ k) ∧ Kept F w w' := by
  obtain ⟨e1, e2, e3⟩ := e
  rw [e1, e2, e3]
  exact ⟨F, n64_nil _ _, n64_nil _ _, h.keep fun k hk => b.block k (h.lt k hk), fun k hk => .inl hk, Kept.of _ b⟩
set_option maxHeartbeats 4000000 in
theorem packed_easy (w : World) (B : Nat) (F : Nat → Prop) (d : Ld) (r : List Rg) (rv : Value) (h : LS w B F d) (hr : RgAt w rv r) (hl : r.length < 9223372036854775807) (hb : ∀ x ∈ r, In64 x.1 ∧ In64 x.2) (hx : chkR r ≠ 0 ∨ r = [] ∨ d.top < hiR r) :
    Calls Try.prog 12 #[ptr B, rv] w fun e w' => ∃ u v, e = .returned (.tuple #[u, v, .int .i64 (ackE d r)]) ∧ ∃ F', N64 w' (Free w F') u (toldN d r) ∧ N64 w' (Free w F') v (lostN d r) ∧ LS w' B F' (acked d r) ∧ (∀ k, F' k → F k ∨ w.heap.size ≤ k) ∧ Kept F w w' := by
  have b1 := (Below.refl w.heap.size w).alloc (Nat.le_refl _) (.cells #[rv] 27)
  have CK : Hid (Calls Try.prog 23 #[rv] (w.alloc (.cells #[rv] 27)) _) := pchk_ok rv r (w.alloc (.cells #[rv] 27)) (hr.keep b1) hl hb
  have hK : Hid (∀ w', Below (w.alloc (.cells #[rv] 27)).heap.size (w.alloc (.cells #[rv] 27)) w' → w'.cell? ⟨w.heap.size, 0, none⟩ = some rv ∧ Below w.heap.size w w') := fun w' b => ⟨(b.cell (by simp)).trans (by simp), b1.trans (b.mono b1.size)⟩
  obtain ⟨o, ⟨sv, L, ho, hob⟩, hoB, hF⟩ := id h
  obtain ⟨a, cap, rfl, hc⟩ := hr
  replace h : Hid (LS w B F d) := h
  clear b1 ho
  by_cases h0 : chkR r = 0
  · rcases hx with hx | rfl | hx
    · exact absurd h0 hx
    · have hE : ackE d [] = 0 := by unfold ackE; rw [if_neg (by simp [h0])]
      have fin : Hid (∀ w', Below w.heap.size w w' → _) := fun w' b => ack_stay h.out b (ack_none d hE)
      rw [hE]
      rw [h0] at CK
      clear hc L
      go_enter Try.func12, Try.ntmps12
      go_wp2_with fail
      refine Calls.mono CK.out ?_
      rintro e w1 ⟨rfl, b⟩
      obtain ⟨c1, b1⟩ := hK.out w1 b
      have FF : Hid _ := fin.out w1 b1
      clear b b1 CK fin hK
      go_wp2_with fail
      exact bodyPost_ret (v := .tuple #[.slice none 0 0, .slice none 0 0, .int .i64 0]) (by simp [results, Try.results12, go_sem]) rfl ⟨_, _, rfl, FF.out⟩
    · rcases hc with rfl | ⟨g, p, rfl, hc⟩
      · have hE : ackE d [] = 0 := by unfold ackE; rw [if_neg (by simp [h0])]
        have fin : Hid (∀ w', Below w.heap.size w w' → _) := fun w' b => ack_stay h.out b (ack_none d hE)
        rw [hE]
        rw [h0] at CK
        clear L
        go_enter Try.func12, Try.ntmps12
        go_wp2_with fail
        refine Calls.mono CK.out ?_
        rintro e w1 ⟨rfl, b⟩
        obtain ⟨c1, b1⟩ := hK.out w1 b
        have FF : Hid _ := fin.out w1 b1
        clear b b1 CK fin hK
        go_wp2_with fail
        exact bodyPost_ret (v := .tuple #[.slice none 0 0, .slice none 0 0, .int .i64 0]) (by simp [results, Try.results12, go_sem]) rfl ⟨_, _, rfl, FF.out⟩
      · by_cases hn : r = []
        · subst hn
          have hE : ackE d [] = 0 := by unfold ackE; rw [if_neg (by simp [h0])]
          have fin : Hid (∀ w', Below w.heap.size w w' → _) := fun w' b => ack_stay h.out b (ack_none d hE)
          rw [hE]
          rw [h0] at CK
          clear hc L
          go_enter Try.func12, Try.ntmps12
          go_wp2_with fail
          refine Calls.mono CK.out ?_
          rintro e w1 ⟨rfl, b⟩
          obtain ⟨c1, b1⟩ := hK.out w1 b
          have FF : Hid _ := fin.out w1 b1
          clear b b1 CK fin hK
          go_wp2_with fail
          exact bodyPost_ret (v := .tuple #[.slice none 0 0, .slice none 0 0, .int .i64 0]) (by simp [results, Try.results12, go_sem]) rfl ⟨_, _, rfl, FF.out⟩
        · have hE : ackE d r = 2 := by unfold ackE; rw [if_pos (.inr ⟨hn, hx⟩)]
          have hp := List.length_pos_iff.2 hn
          have c2 := (hc 0 hp).2
          have e : (r.getD 0 (0, 0)).2 = hiR r := rfl
          rw [e, show p + 2 * 0 + 1 = p + 1 from rfl] at c2
          have ct := L.cell 1 (v := .int .i64 d.top) rfl
          have g1 : ((r.length : Int) == 0) = false := by rw [beq_eq_false_iff_ne]; omega
          have g2 : decide (d.top < hiR r) = true := decide_eq_true hx
          have ia := fun w' => at_rg0 g p r.length cap w' hp
          have fin : Hid (∀ w' n, Below w.heap.size w w' → ∃ F', N64 ((w'.alloc (.cells #[.int .i64 (hiR r)] 2)).drewN n) (Free w F') (.slice none 0 0) (toldN d r) ∧ N64 ((w'.alloc (.cells #[.int .i64 (hiR r)] 2)).drewN n) (Free w F') (.slice none 0 0) (lostN d r) ∧ LS ((w'.alloc (.cells #[.int .i64 (hiR r)] 2)).drewN n) B F' (acked d r) ∧ (∀ k, F' k → F k ∨ w.heap.size ≤ k) ∧ Kept F w ((w'.alloc (.cells #[.int .i64 (hiR r)] 2)).drewN n)) := fun w' n b =>
            ack_stay h.out ((b.alloc b.size (.cells #[.int .i64 (hiR r)] 2)).trans ⟨rfl, rfl, rfl, Nat.le_refl _, fun _ _ => rfl⟩) (ack_no d r (by rw [hE]; decide))
          have hcs : Hid (∀ w', Below w.heap.size w w' → w'.cell? ⟨g, p + 1, none⟩ = some (.int .i64 (hiR r)) ∧ (w'.alloc (.cells #[.int .i64 (hiR r)] 2)).cell? ⟨B, 1, none⟩ = some (.int .i64 d.top)) := fun w' b => ⟨(b.cell (World.block_lt_of_cell? w _ c2)).trans c2, ((b.alloc b.size (.cells #[.int .i64 (hiR r)] 2)).cell (World.block_lt_of_cell? w _ ct)).trans ct⟩
          rw [hE]
          rw [h0] at CK
          clear hc L hx h0 hn c2 ct e hE
          generalize hiR r = hi at *
          generalize r.length = M at *
          go_enter Try.func12, Try.ntmps12
          go_wp2_with fail
          refine Calls.mono CK.out ?_
          rintro e w1 ⟨rfl, b⟩
          obtain ⟨c1, b1⟩ := hK.out w1 b
          obtain ⟨c2, c3⟩ := hcs.out w1 b1
          have FF : Hid (∀ n, _) := fun n => fin.out w1 n b1
          clear b b1 CK fin hK hcs
          go_wp2_with fail
          go_quiet (fail)
          go_wp2
          exact bodyPost_ret (v := .tuple #[.slice none 0 0, .slice none 0 0, .int .i64 2]) (by simp [results, Try.results12, go_sem]) rfl ⟨_, _, rfl, FF.out _⟩
  · have hE : ackE d r = 2 := by unfold ackE; rw [if_pos (.inl h0)]
    have fin : Hid (∀ w', Below w.heap.size w w' → _) := fun w' b => ack_stay (r := r) h.out b (ack_no d r (by rw [hE]; decide))
    have g0 : (chkR r != 0) = true := by simp [h0]
    rw [hE]
    clear hc L hx hE
    generalize chkR r = x at *
    replace h0 : Hid _ := h0
    go_enter Try.func12, Try.ntmps12
    go_wp2_with fail
    refine Calls.mono CK.out ?_
    rintro e w1 ⟨rfl, b⟩
    obtain ⟨c1, b1⟩ := hK.out w1 b
    have FF : Hid _ := fin.out w1 b1
    clear b b1 CK fin hK
    go_wp2_with fail
    exact bodyPost_ret (v := .tuple #[.slice none 0 0, .slice none 0 0, .int .i64 2]) (by simp [results, Try.results12, go_sem]) rfl ⟨_, _, rfl, FF.out⟩
end Go.Proofs.Ytfjampommgkfeaa
