/-
  The closures that Acked and Expire hand on: what each answers of a packet. No condition.
-/
import Derived.Test.YtfjampommgkfeaaLpTake
import Derived.Test.YtfjampommgkfeaaAkHas
namespace Go.Proofs.Ytfjampommgkfeaa
set_option maxRecDepth 100000
open Go.RowKit Go.Sort

def inR (n : Int) (x : Rg) : Bool := decide (x.1 ≤ n) && decide (n ≤ x.2)
set_option maxHeartbeats 1000000 in
theorem within1_ok (n : Int) (K : Nat) : TstR 40 #[.pointer (some ⟨K, 0, none⟩)] (inR n) fun w => w.cell? ⟨K, 0, none⟩ = some (.int .i64 n) := by
  refine ⟨by intro x w; simp [go_sem], fun p w hK => ?_⟩
  obtain ⟨x, y⟩ := p
  rw [show (#[.agg #[.int .i64 (x, y).1, .int .i64 (x, y).2]] ++ #[.pointer (some ⟨K, 0, none⟩)] : Array Value) = #[.agg #[.int .i64 x, .int .i64 y], .pointer (some ⟨K, 0, none⟩)] from rfl]
  have hlt := World.block_lt_of_cell? w _ hK
  have b := (Below.refl w.heap.size w).alloc (Nat.le_refl _) (.cells #[.int .i64 x, .int .i64 y] 50)
  have cK := (b.cell hlt).trans hK
  unfold inR
  by_cases h1 : x ≤ n
  · have g1 : decide (x ≤ n) = true := decide_eq_true h1
    rw [show decide ((x, y).1 ≤ n) = true from g1, Bool.true_and]
    go_enter Try.func40, Try.ntmps40
    go_wp2
    go_ret
    exact ⟨rfl, b⟩
  · have g1 : decide (x ≤ n) = false := decide_eq_false h1
    rw [show decide ((x, y).1 ≤ n) = false from g1, Bool.false_and]
    go_enter Try.func40, Try.ntmps40
    go_wp2
    go_ret
    exact ⟨rfl, b⟩
set_option maxHeartbeats 1000000 in
theorem within_ok (rv : Value) (r : List Rg) (n : Int) (w : World) (hr : RgAt w rv r) (hl : r.length < 9223372036854775807) :
    Calls Try.prog 26 #[rv, .int .i64 n] w fun e w' => e = .returned (.bool (hasR r n)) ∧ Below w.heap.size w w' := by
  have b := (Below.refl w.heap.size w).alloc (Nat.le_refl _) (.cells #[.int .i64 n] 2)
  have C : Hid (Calls Try.prog 39 #[rv, .func (.func 40) #[] #[.pointer (some ⟨w.heap.size, 0, none⟩)]] (w.alloc (.cells #[.int .i64 n] 2)) _) := conR_ok rv r 40 #[.pointer (some ⟨w.heap.size, 0, none⟩)] (inR n) _ (w.alloc (.cells #[.int .i64 n] 2)) (hr.keep b) hl (fun w' b' => (b'.cell (by simp)).trans (by simp)) (within1_ok n w.heap.size)
  replace b : Hid _ := b
  obtain ⟨a, cap, rfl, -⟩ := hr
  go_enter Try.func26, Try.ntmps26
  go_wp2_with fail
  refine Calls.mono C.out ?_
  rintro e w1 ⟨rfl, b1⟩
  have b2 : Hid (Below w.heap.size w w1) := b.out.trans (b1.mono b.out.size)
  clear b1 C b
  have e : Hid (r.any (inR n) = hasR r n) := rfl
  generalize r.any (inR n) = z at *
  go_wp2_with fail
  go_ret
  exact ⟨by rw [← e.out]; rfl, b2.out⟩
set_option maxHeartbeats 1000000 in
theorem acked1_ok (rv : Value) (r : List Rg) (K : Nat) (hl : r.length < 9223372036854775807) : TstP 25 #[.pointer (some ⟨K, 0, none⟩)] (fun p => hasR r p.1) fun w => w.cell? ⟨K, 0, none⟩ = some rv ∧ RgAt w rv r := by
  refine ⟨by intro x w; simp [go_sem], fun p w hK => ?_⟩
  obtain ⟨x, y, z⟩ := p
  obtain ⟨hK, hr⟩ := hK
  rw [show (#[.agg #[.int .i64 (x, y, z).1, .int .i64 (x, y, z).2.1, .int .i64 (x, y, z).2.2]] ++ #[.pointer (some ⟨K, 0, none⟩)] : Array Value) = #[.agg #[.int .i64 x, .int .i64 y, .int .i64 z], .pointer (some ⟨K, 0, none⟩)] from rfl]
  have hlt := World.block_lt_of_cell? w _ hK
  have b := (Below.refl w.heap.size w).alloc (Nat.le_refl _) (.cells #[.int .i64 x, .int .i64 y, .int .i64 z] 58)
  have cK := (b.cell hlt).trans hK
  have C : Hid (Calls Try.prog 26 #[rv, .int .i64 x] (w.alloc (.cells #[.int .i64 x, .int .i64 y, .int .i64 z] 58)) _) := within_ok rv r x _ (hr.keep b) hl
  obtain ⟨a, cap, rfl, -⟩ := hr
  replace b : Hid _ := b
  go_enter Try.func25, Try.ntmps25
  go_wp2_with fail
  refine Calls.mono C.out ?_
  rintro e w1 ⟨rfl, b1⟩
  have b2 : Hid (Below w.heap.size w w1) := b.out.trans (b1.mono b.out.size)
  clear b1 C b cK
  go_wp2_with fail
  go_ret
  exact ⟨rfl, b2.out⟩
set_option maxHeartbeats 1000000 in
theorem acked2_ok (hi : Int) (K : Nat) (h0 : 0 ≤ hi ∧ hi ≤ 4611686018427387903) : TstP 28 #[.pointer (some ⟨K, 0, none⟩)] (fun p => decide (p.1 ≤ hi - 3)) fun w => w.cell? ⟨K, 0, none⟩ = some (.int .i64 hi) := by
  refine ⟨by intro x w; simp [go_sem], fun p w hK => ?_⟩
  obtain ⟨x, y, z⟩ := p
  rw [show (#[.agg #[.int .i64 (x, y, z).1, .int .i64 (x, y, z).2.1, .int .i64 (x, y, z).2.2]] ++ #[.pointer (some ⟨K, 0, none⟩)] : Array Value) = #[.agg #[.int .i64 x, .int .i64 y, .int .i64 z], .pointer (some ⟨K, 0, none⟩)] from rfl]
  have hlt := World.block_lt_of_cell? w _ hK
  have b := (Below.refl w.heap.size w).alloc (Nat.le_refl _) (.cells #[.int .i64 x, .int .i64 y, .int .i64 z] 58)
  have cK := (b.cell hlt).trans hK
  go_enter Try.func28, Try.ntmps28
  go_wp2
  go_ret
  exact ⟨rfl, b⟩
set_option maxHeartbeats 1000000 in
theorem expire2_ok : TstP 37 #[] (fun _ => true) fun _ => True := by
  refine ⟨by intro x w; simp [go_sem], fun p w _ => ?_⟩
  obtain ⟨x, y, z⟩ := p
  rw [show (#[.agg #[.int .i64 (x, y, z).1, .int .i64 (x, y, z).2.1, .int .i64 (x, y, z).2.2]] ++ #[] : Array Value) = #[.agg #[.int .i64 x, .int .i64 y, .int .i64 z]] from rfl]
  have b := (Below.refl w.heap.size w).alloc (Nat.le_refl _) (.cells #[.int .i64 x, .int .i64 y, .int .i64 z] 58)
  go_enter Try.func37, Try.ntmps37
  go_wp2
  go_ret
  exact ⟨rfl, b⟩
/-- How many ticks ago, as the program counts. -/
def ageN (now tick : Int) : Int := if now < tick then 0 else IntKind.u64.wrap (IntKind.u64.wrap now - IntKind.u64.wrap tick)
set_option maxHeartbeats 1000000 in
theorem age_ok (x y z now : Int) (w : World) : Calls Try.prog 36 #[.agg #[.int .i64 x, .int .i64 y, .int .i64 z], .int .i64 now] w fun e w' => e = .returned (.int .u64 (ageN now y)) ∧ Below w.heap.size w w' := by
  have b := (Below.refl w.heap.size w).alloc (Nat.le_refl _) (.cells #[.int .i64 x, .int .i64 y, .int .i64 z] 58)
  unfold ageN
  by_cases h : now < y
  · rw [if_pos h]
    have g : decide (now < y) = true := decide_eq_true h
    go_enter Try.func36, Try.ntmps36
    go_wp2
    go_ret
    exact ⟨rfl, b⟩
  · rw [if_neg h]
    have g : decide (now < y) = false := decide_eq_false h
    go_enter Try.func36, Try.ntmps36
    go_wp2
    go_ret
    exact ⟨rfl, b⟩
def dueT (now wt : Int) (p : Pk) : Bool := decide (IntKind.u64.wrap wt ≤ ageN now p.2.1)
set_option maxHeartbeats 1000000 in
theorem expire1_ok (now wt : Int) (K1 K2 : Nat) : TstP 35 #[.pointer (some ⟨K1, 0, none⟩), .pointer (some ⟨K2, 0, none⟩)] (dueT now wt) fun w => w.cell? ⟨K1, 0, none⟩ = some (.int .i64 now) ∧ w.cell? ⟨K2, 0, none⟩ = some (.int .i64 wt) := by
  refine ⟨by intro x w; simp [go_sem], fun p w hK => ?_⟩
  obtain ⟨x, y, z⟩ := p
  obtain ⟨h1, h2⟩ := hK
  rw [show (#[.agg #[.int .i64 (x, y, z).1, .int .i64 (x, y, z).2.1, .int .i64 (x, y, z).2.2]] ++ #[.pointer (some ⟨K1, 0, none⟩), .pointer (some ⟨K2, 0, none⟩)] : Array Value) = #[.agg #[.int .i64 x, .int .i64 y, .int .i64 z], .pointer (some ⟨K1, 0, none⟩), .pointer (some ⟨K2, 0, none⟩)] from rfl]
  have b := (Below.refl w.heap.size w).alloc (Nat.le_refl _) (.cells #[.int .i64 x, .int .i64 y, .int .i64 z] 58)
  have N0 := Lies.new w [.int .i64 x, .int .i64 y, .int .i64 z] 58
  obtain ⟨b3, hb3⟩ : ∃ b3, b3 = w.heap.size := ⟨_, rfl⟩
  obtain ⟨w0, hw0⟩ : ∃ w0, w0 = w.alloc (.cells #[.int .i64 x, .int .i64 y, .int .i64 z] 58) := ⟨_, rfl⟩
  have keep : Hid (∀ w'', Below w0.heap.size w0 w'' → (fun w' => w'.cell? ⟨b3, 0, none⟩ = some (.int .i64 x) ∧ w'.cell? ⟨b3, 1, none⟩ = some (.int .i64 y) ∧ w'.cell? ⟨b3, 2, none⟩ = some (.int .i64 z) ∧ w'.cell? ⟨K1, 0, none⟩ = some (.int .i64 now) ∧ w'.cell? ⟨K2, 0, none⟩ = some (.int .i64 wt)) w'') := fun w'' b' => by
    subst hw0 hb3
    have N1 := N0.keep (by show 0 < 3; decide) b'
    have l1 := World.block_lt_of_cell? w _ h1
    have l2 := World.block_lt_of_cell? w _ h2
    have bb := b.trans (b'.mono b.size)
    exact ⟨N1.cell 0 rfl, N1.cell 1 rfl, N1.cell 2 rfl, (bb.cell l1).trans h1, (bb.cell l2).trans h2⟩
  have b0 : Hid (Below w.heap.size w w0) := by rw [Hid, hw0]; exact b
  have C : Hid (Calls Try.prog 36 #[.agg #[.int .i64 x, .int .i64 y, .int .i64 z], .int .i64 now] w0.drew fun e w' => e = .returned (.int .u64 (ageN now y)) ∧ Below w0.heap.size w0 w') := (age_ok x y z now w0.drew).mono fun e w' h => ⟨h.1, (drewB _ w0).trans h.2⟩
  clear b N0 h1 h2
  unfold dueT
  show Calls _ _ _ _ fun e w' => e = .returned (.bool (decide (IntKind.u64.wrap wt ≤ ageN now y))) ∧ _
  generalize ageN now y = A at *
  go_enter Try.func35, Try.ntmps35
  go_wp2_with fail
  rw [← hw0, ← hb3]
  clear hw0 hb3
  refine wp_region_held (S := fun w' => w'.cell? ⟨b3, 0, none⟩ = some (.int .i64 x) ∧ w'.cell? ⟨b3, 1, none⟩ = some (.int .i64 y) ∧ w'.cell? ⟨b3, 2, none⟩ = some (.int .i64 z) ∧ w'.cell? ⟨K1, 0, none⟩ = some (.int .i64 now) ∧ w'.cell? ⟨K2, 0, none⟩ = some (.int .i64 wt)) (by kernel_rfl) ?_
  change wpAnyH _ .any _ _ _ 7 (Array.replicate 7 false) _ w0.drew
  have hS := keep.out w0.drew (drewB _ _)
  refine obTakeH (i := 0) (d := 5) (v := .agg #[.int .i64 x, .int .i64 y, .int .i64 z]) rfl rfl (by kernel_rfl) (by kernel_rfl) (by kernel_rfl) (fun _ _ _ h => h) rfl (fun w hS => by obtain ⟨s1, s2, s3, s4, s5⟩ := hS; go_simp) hS ?_
  refine obTakeH (i := 1) (d := 6) (v := .int .i64 now) rfl rfl (by kernel_rfl) (by kernel_rfl) (by kernel_rfl) (fun _ _ _ h => h) rfl (fun w hS => by obtain ⟨s1, s2, s3, s4, s5⟩ := hS; go_simp) hS ?_
  refine obTakeH (i := 3) (d := 8) (v := .int .i64 wt) rfl rfl (by kernel_rfl) (by kernel_rfl) (by kernel_rfl) (fun _ _ _ h => h) rfl (fun w hS => by obtain ⟨s1, s2, s3, s4, s5⟩ := hS; go_simp) hS ?_
  refine obTakeH (i := 4) (d := 9) (v := .int .u64 (IntKind.u64.wrap wt)) rfl rfl (by kernel_rfl) (by kernel_rfl) (by kernel_rfl) (fun _ _ _ h => h) rfl (fun w hS => by obtain ⟨s1, s2, s3, s4, s5⟩ := hS; go_simp) hS ?_
  simp only [Act.put, List.setIfInBounds_toArray, List.set_cons_succ, List.set_cons_zero]
  refine wpAnyH_all (rs := [2]) (by kernel_rfl) (by simp) (fun i hi => ?_)
  obtain rfl : i = 2 := by simpa using hi
  refine wpOp_step rfl (fun K' hK => ?_)
  clear hi
  simp only [Region.wanted]
  refine obCall2 36 _ (k1 := 5) (k2 := 6) (d := 7) rfl rfl _ _ _ _ (fun w => by simp [go_sem]) rfl rfl C.out ?_
  rintro e w1 ⟨rfl, b1⟩
  refine ⟨_, rfl, hK _ _ ⟨keep.out w1 b1, ?_⟩⟩
  clear hK K'
  have b2 : Hid (Below w.heap.size w w1) := b0.out.trans (b1.mono b0.out.size)
  replace b1 : Hid _ := b1
  refine wpAnyH_all (rs := [5]) (by kernel_rfl) (by simp) (fun i hi => ?_)
  obtain rfl : i = 5 := by simpa using hi
  refine wpOp_step rfl (fun K' hK => ?_)
  clear hi
  go_simp
  refine hK _ _ ⟨keep.out w1 b1.out, ?_⟩
  clear hK K'
  refine wpAnyH_all (rs := [6]) (by kernel_rfl) (by simp) (fun i hi => ?_)
  obtain rfl : i = 6 := by simpa using hi
  refine wpOp_step rfl (fun K' hK => ?_)
  clear hi
  go_simp
  refine hK _ _ ⟨keep.out w1 b1.out, ?_⟩
  clear hK K' keep hS
  refine wpAnyH_done (by kernel_rfl) ?_ 0
  go_wp2
  go_ret
  exact ⟨rfl, b2.out⟩
theorem due_is (d : Ld) (now : Int) (p : Pk) (hn : In64 now) (hp : In64 p.2.1) (hb : d.bo ≤ 6) : dueT now (wait d) p = dueB d now p := by
  unfold dueT dueB ageN
  have hw := wait_in d hb
  unfold In64 at hn hp
  have e : IntKind.u64.wrap (wait d) = wait d := by rw [IntKind.wrap_u64]; omega
  rw [e]
  by_cases h : now < p.2.1
  · rw [if_pos h, decide_eq_false (by omega), decide_eq_false (by omega)]
    rfl
  · rw [if_neg h]
    have e2 : IntKind.u64.wrap (IntKind.u64.wrap now - IntKind.u64.wrap p.2.1) = now - p.2.1 := by simp only [IntKind.wrap_u64]; omega
    rw [e2]
    by_cases q : p.2.1 < now
    · rw [decide_eq_true q, Bool.true_and]
    · rw [decide_eq_false q, Bool.false_and, decide_eq_false (by omega)]
end Go.Proofs.Ytfjampommgkfeaa
