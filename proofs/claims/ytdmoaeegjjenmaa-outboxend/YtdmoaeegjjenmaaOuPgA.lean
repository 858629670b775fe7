/-
  The program's own stream as it lies in memory; what its written, missing, index, part, New, Allow and State do. Fewer than 10^8 bytes; no other condition but what always holds of a stream.
-/
import Derived.Test.YtdmoaeegjjenmaaOuFace
import Derived.Test.YtdmoaeegjjenmaaLibBytes
import Derived.Test.YtdmoaeegjjenmaaObDraw
namespace Go.Proofs.Ytdmoaeegjjenmaa
set_option maxRecDepth 100000
open Go.RowKit Go.Sort

/-- The program's stream: the bytes that are kept, what became of each (1: new, 2: on its way, 3: there), the place of the first, the limit, the end (0: it was not written). -/
structure Mb where
  ts : List Int
  fs : List Int
  front : Nat
  lim : Int
  fin : Int
def mbc (tv fv : Value) (m : Mb) : List Value := [tv, fv, .int .i64 (m.front : Int), .int .i64 m.lim, .int .u8 m.fin]
structure MM (w : World) (B : Nat) (tv fv : Value) (m : Mb) : Prop where
  led : Lies w B (mbc tv fv m)
  txt : RowY w tv m.ts
  fat : RowY w fv m.fs
  nB : tv.ownBlock ≠ some B ∧ fv.ownBlock ≠ some B
  ap : ∀ k, tv.ownBlock = some k → fv.ownBlock ≠ some k
structure MOk (m : Mb) : Prop where
  len : m.ts.length = m.fs.length
  fs : ∀ x ∈ m.fs, 1 ≤ x ∧ x ≤ 3
  fin : 0 ≤ m.fin ∧ m.fin ≤ 3
  lim : 4096 ≤ m.lim ∧ m.lim ≤ 9223372036854775807
  small : m.front + m.fs.length < 100000000
theorem MOk.byte {m : Mb} (h : MOk m) : Byte m.fs := fun x hx => by have := h.fs x hx; omega
theorem MM.lt {w : World} {B : Nat} {tv fv : Value} {m : Mb} (h : MM w B tv fv m) : B < w.heap.size := h.led.lt (by show 0 < 5; decide)
theorem MM.of {w w' : World} {B : Nat} {tv fv : Value} {m : Mb} (h : MM w B tv fv m) (e : ∀ k, k = B ∨ tv.ownBlock = some k ∨ fv.ownBlock = some k → w'.heap[k]? = w.heap[k]?) : MM w' B tv fv m :=
  ⟨h.led.of_block (e B (.inl rfl)), h.txt.of fun k q => e k (.inr (.inl q)), h.fat.of fun k q => e k (.inr (.inr q)), h.nB, h.ap⟩
theorem MM.keep {w w' : World} {B : Nat} {tv fv : Value} {m : Mb} (h : MM w B tv fv m) (b : Below w.heap.size w w') : MM w' B tv fv m := h.of fun k q => b.block k (by
  rcases q with rfl | q | q
  · exact h.lt
  · exact h.txt.lt k q
  · exact h.fat.lt k q)
/-- The blocks of a stream. -/
def Fm (B : Nat) (tv fv : Value) (k : Nat) : Prop := k = B ∨ tv.ownBlock = some k ∨ fv.ownBlock = some k
theorem lastB (w w' : World) (h : w' = w.drew) : Below w.heap.size w w' := by subst h; exact drewB _ _
set_option maxHeartbeats 1000000 in
theorem written_ok (w : World) (B : Nat) (tv fv : Value) (m : Mb) (h : MM w B tv fv m) (ok : MOk m) :
    Calls Try.prog 34 #[ptr B] w fun e w' => e = .returned (.int .i64 ((m.front + m.fs.length : Nat) : Int)) ∧ Below w.heap.size w w' := by
  have c1 := h.led.cell 1 (v := fv) rfl
  have c2 := h.led.cell 2 (v := .int .i64 (m.front : Int)) rfl
  obtain ⟨a, c, rfl, -, -⟩ := h.fat.slice
  have hs := ok.small
  clear h ok
  generalize m.fs.length = n at *
  generalize m.front = f at *
  have hw : IntKind.i64.wrap ((f : Int) + (n : Int)) = ((f + n : Nat) : Int) := by rw [IntKind.wrap_i64]; omega
  go_enter Try.func34, Try.ntmps34
  go_wp2_with fail
  go_quiet (fail)
  go_wp2_with fail
  go_ret
  exact ⟨by rw [Int.natCast_add]; rfl, ⟨rfl, rfl, rfl, Nat.le_refl _, fun _ _ => rfl⟩⟩
theorem enter_count (x y : Value) (w : World) : (callFunc 38 #[x, y]).run Try.prog w = .ok (.enter 38 #[x, y]) w := by simp [go_sem]
set_option maxHeartbeats 2000000 in
theorem missing_ok (w : World) (B : Nat) (tv fv : Value) (m : Mb) (h : MM w B tv fv m) (ok : MOk m) :
    Calls Try.prog 27 #[ptr B] w fun e w' => e = .returned (.int .i64 ((m.fs.length - cntY 3 m.fs : Nat) : Int)) ∧ Below w.heap.size w w' := by
  have c1 := h.led.cell 1 (v := fv) rfl
  obtain ⟨a, c, e, -, -⟩ := h.fat.slice
  subst e
  have hs := ok.small
  have hcn : cntY 3 m.fs ≤ m.fs.length := List.length_filter_le ..
  have bA : Below w.heap.size w (w.drew.alloc (.cells #[.int .u8 3] 5)) := (drewB _ _).alloc (Nat.le_refl _) _
  have rA : RowY (w.drew.alloc (.cells #[.int .u8 3] 5)) (.slice (some ⟨w.heap.size, 0, none⟩) 1 1) [3] := RowY.mk (xs := [3]) (cur := #[.int .u8 3]) (by show (w.heap.push _)[w.heap.size]? = _; simp) (Nat.le_refl _) (by decide) (Nat.le_refl _) fun k hk => by
    obtain rfl : k = 0 := by simpa using hk
    rfl
  have CT : Hid (∀ _ : Unit, _) := fun _ => count_ok _ _ m.fs w.heap.size 3 (h.fat.keep bA) rA ok.byte ⟨by decide, by decide⟩
  have BA := Lib.hid bA
  have cA := Lib.hid ((bA.cell (World.block_lt_of_cell? _ _ c1)).trans c1)
  clear h ok bA rA
  generalize cntY 3 m.fs = K at *
  generalize m.fs.length = n at *
  have hw : wrap64 ((n : Int) - (K : Int)) = ((n - K : Nat) : Int) := by unfold wrap64; omega
  have hw2 : IntKind.i64.wrap ((n : Int) - (K : Int)) = ((n - K : Nat) : Int) := by rw [IntKind.wrap_i64]; omega
  go_enter Try.func27, Try.ntmps27
  go_wp2_with fail
  refine wp_region_held (S := fun w' => w'.cell? ⟨B, 1, none⟩ = some (.slice a n c)) (by kernel_rfl) ?_
  change wpAnyH _ .any _ _ _ 13 (Array.replicate 13 false) _ w.drew
  have hS : w.drew.cell? ⟨B, 1, none⟩ = some (.slice a n c) := c1
  refine obTakeH (i := 0) (d := 3) (v := .pointer (some ⟨B, 0, none⟩)) rfl rfl (by kernel_rfl) (by kernel_rfl) (by kernel_rfl) (fun _ _ _ h => h) rfl (fun w hS => by obtain s1 := hS; go_simp) hS ?_
  refine obTakeH (i := 1) (d := 4) (v := .pointer (some ⟨B, 0, none⟩)) rfl rfl (by kernel_rfl) (by kernel_rfl) (by kernel_rfl) (fun _ _ _ h => h) rfl (fun w hS => by obtain s1 := hS; go_simp) hS ?_
  refine obTakeH (i := 2) (d := 5) (v := .pointer (some ⟨B, 1, none⟩)) rfl rfl (by kernel_rfl) (by kernel_rfl) (by kernel_rfl) (fun _ _ _ h => h) rfl (fun w hS => by obtain s1 := hS; go_simp) hS ?_
  refine obTakeH (i := 3) (d := 6) (v := .slice a n c) rfl rfl (by kernel_rfl) (by kernel_rfl) (by kernel_rfl) (fun _ _ _ h => h) rfl (fun w hS => by obtain s1 := hS; go_simp) hS ?_
  refine obTakeH (i := 4) (d := 7) (v := .int .i64 (n : Int)) rfl rfl (by kernel_rfl) (by kernel_rfl) (by kernel_rfl) (fun _ _ _ h => h) rfl (fun w hS => by obtain s1 := hS; go_simp) hS ?_
  refine obTakeH (i := 5) (d := 8) (v := .pointer (some ⟨B, 0, none⟩)) rfl rfl (by kernel_rfl) (by kernel_rfl) (by kernel_rfl) (fun _ _ _ h => h) rfl (fun w hS => by obtain s1 := hS; go_simp) hS ?_
  refine obTakeH (i := 6) (d := 9) (v := .pointer (some ⟨B, 0, none⟩)) rfl rfl (by kernel_rfl) (by kernel_rfl) (by kernel_rfl) (fun _ _ _ h => h) rfl (fun w hS => by obtain s1 := hS; go_simp) hS ?_
  refine obTakeH (i := 7) (d := 10) (v := .pointer (some ⟨B, 1, none⟩)) rfl rfl (by kernel_rfl) (by kernel_rfl) (by kernel_rfl) (fun _ _ _ h => h) rfl (fun w hS => by obtain s1 := hS; go_simp) hS ?_
  refine obTakeH (i := 8) (d := 11) (v := .slice a n c) rfl rfl (by kernel_rfl) (by kernel_rfl) (by kernel_rfl) (fun _ _ _ h => h) rfl (fun w hS => by obtain s1 := hS; go_simp) hS ?_
  try simp only [Act.put, List.setIfInBounds_toArray, List.set_cons_succ, List.set_cons_zero]
  refine wpAnyH_all (rs := [9]) (by kernel_rfl) (by simp) (fun j hj => ?_)
  obtain rfl : j = 9 := by simpa using hj
  refine wpOp_step rfl (fun K' hK => ?_)
  clear hj
  go_simp
  refine hK _ _ ⟨cA.out, ?_⟩
  clear hK K'
  have hS := cA.out
  try simp only [Act.put, List.setIfInBounds_toArray, List.set_cons_succ, List.set_cons_zero]
  refine wpAnyH_all (rs := [10]) (by kernel_rfl) (by simp) (fun j hj => ?_)
  obtain rfl : j = 10 := by simpa using hj
  refine wpOp_step rfl (fun K' hK => ?_)
  clear hj
  refine obCall2 (k1 := 11) (k2 := 12) (d := 13) (x1 := .slice a n c) (x2 := .slice (some ⟨w.heap.size, 0, none⟩) 1 1) 38 _ rfl rfl _ _ _ _ (enter_count _ _) rfl rfl (CT.out ()) (fun e w2 hR => ?_)
  obtain ⟨rfl, rfl⟩ := hR
  refine ⟨_, rfl, hK _ _ ⟨cA.out, ?_⟩⟩
  clear hK K' CT
  try simp only [Act.put, List.setIfInBounds_toArray, List.set_cons_succ, List.set_cons_zero]
  refine obTakeH (i := 11) (d := 14) (v := .int .i64 ((n - K : Nat) : Int)) rfl rfl (by kernel_rfl) (by kernel_rfl) (by kernel_rfl) (fun _ _ _ h => h) rfl (fun w hS => by obtain s1 := hS; go_simp) hS ?_
  refine obTakeH (i := 12) (d := 2) (v := .int .i64 ((n - K : Nat) : Int)) rfl rfl (by kernel_rfl) (by kernel_rfl) (by kernel_rfl) (fun _ _ _ h => h) rfl (fun w hS => by obtain s1 := hS; go_simp) hS ?_
  try simp only [Act.put, List.setIfInBounds_toArray, List.set_cons_succ, List.set_cons_zero]
  refine wpAnyH_done (by kernel_rfl) ?_ 0
  go_wp2_with fail
  go_ret
  exact ⟨rfl, BA.out⟩
def ixM (m : Mb) (p : Int) : Nat := (min (max p m.front) (m.front + m.fs.length : Nat) - m.front).toNat
theorem ixM_le (m : Mb) (p : Int) : ixM m p ≤ m.fs.length := by unfold ixM; omega
set_option maxHeartbeats 2000000 in
theorem ix_ok (w : World) (B : Nat) (tv fv : Value) (m : Mb) (p : Int) (h : MM w B tv fv m) (ok : MOk m) (hp : In64 p) :
    Calls Try.prog 29 #[ptr B, .int .i64 p] w fun e w' => e = .returned (.int .i64 (ixM m p : Nat)) ∧ Below w.heap.size w w' := by
  have c2 := h.led.cell 2 (v := .int .i64 (m.front : Int)) rfl
  have hs := ok.small
  have WR : Hid (∀ d os, _) := fun d os => Calls.regrown_of (written_ok (grow (redrawn w d) os) B tv fv m (h.keep (below_regrown w d os)) ok)
  have hx : (ixM m p : Int) = min (max p m.front) (m.front + m.fs.length : Nat) - m.front := by unfold ixM; omega
  have cq := fun d os => cell_regrown c2 d os
  clear h ok
  generalize ixM m p = I at *
  generalize m.fs.length = n at *
  generalize m.front = f at *
  have hI : (I : Int) ≤ n := by omega
  obtain ⟨M1, hM1⟩ : ∃ M1 : Int, M1 = max p (f : Int) := ⟨_, rfl⟩
  obtain ⟨M2, hM2⟩ : ∃ M2 : Int, M2 = min M1 ((f + n : Nat) : Int) := ⟨_, rfl⟩
  have y1 : max p (f : Int) = M1 := hM1.symm
  have y2 : min M1 ((f : Int) + (n : Int)) = M2 := by rw [hM2, Int.natCast_add]
  have y3 : M2 - (f : Int) = (I : Int) := by omega
  have y4 : In64 M1 := by unfold In64 at *; omega
  have y5 : 0 ≤ M2 ∧ M2 ≤ 100000000 := by omega
  clear hM1 hM2 hx hp
  go_enter Try.func29, Try.ntmps29
  go_wp2_with fail
  refine wp_region_quiet_below (by kernel_rfl) (by kernel_rfl) ?_
  repeat (go_big_quiet_step (first | (go_at_call 34; exact WR.out _ _)))
  refine wpQuiet_nil ?_
  intro _ hw'
  obtain ⟨⟨dq, osq⟩, hw''⟩ := hw'
  subst hw''
  have Bl := Lib.hid (below_regrown w dq osq)
  simp only
  generalize Go.Sort.grow (redrawn w dq) osq = w6 at *
  go_wp2_with fail
  go_ret
  exact ⟨rfl, Bl.out⟩
set_option maxHeartbeats 2000000 in
theorem part_ok (w : World) (B : Nat) (tv fv : Value) (m : Mb) (off : Int) (data : ByteArray) (fin : Bool) (h : MM w B tv fv m) (ok : MOk m) (h1 : In64 off) (h2 : In64 (off + data.size)) :
    Calls Try.prog 32 #[ptr B, .agg #[.int .i64 off, .string data, .bool fin]] w fun e w' => e = .returned (.tuple #[.int .i64 (ixM m off : Nat), .int .i64 (ixM m (off + data.size) : Nat)]) ∧ Below w.heap.size w w' := by
  obtain ⟨E, hE⟩ : ∃ E : Int, E = off + data.size := ⟨_, rfl⟩
  rw [← hE] at h2 ⊢
  obtain ⟨wa, hwa⟩ : ∃ wa, wa = w.alloc (.cells #[.int .i64 off, .string data, .bool fin] 33) := ⟨_, rfl⟩
  have bA : Below w.heap.size w wa := by rw [hwa]; exact (Below.refl _ _).alloc (Nat.le_refl _) _
  have lA : Lies wa w.heap.size [.int .i64 off, .string data, .bool fin] := by rw [hwa]; exact Lies.new w _ _
  have I1 : Hid (∀ d os, _) := fun d os => Calls.regrown_of (ix_ok (grow (redrawn wa d) os) B tv fv m off ((h.keep bA).keep (below_regrown wa d os)) ok h1)
  have I2 : Hid (∀ d os, _) := fun d os => Calls.regrown_of (ix_ok (grow (redrawn wa d) os) B tv fv m E ((h.keep bA).keep (below_regrown wa d os)) ok h2)
  have c0 := lA.cell 0 (v := .int .i64 off) rfl
  have c1 := lA.cell 1 (v := .string data) rfl
  have q0 := fun d os => cell_regrown c0 d os
  have q1 := fun d os => cell_regrown c1 d os
  have hw : IntKind.i64.wrap (off + (data.size : Int)) = E := by rw [IntKind.wrap_i64]; unfold In64 at h2; omega
  have hw2 : wrap64 (off + (data.size : Int)) = E := by unfold wrap64; unfold In64 at h2; omega
  have hw3 : off + (data.size : Int) = E := hE.symm
  replace bA := Lib.hid bA
  clear h ok lA hE
  generalize ixM m off = X at *
  generalize ixM m E = Y at *
  go_enter Try.func32, Try.ntmps32
  go_wp2_with fail
  rw [← hwa]
  clear hwa
  refine wp_region_quiet_below (by kernel_rfl) (by kernel_rfl) ?_
  repeat (go_big_quiet_step (first | (go_at_call_of 29 off; exact I1.out _ _) | (go_at_call_of 29 E; exact I2.out _ _)))
  refine wpQuiet_nil ?_
  intro _ hw'
  obtain ⟨⟨dq, osq⟩, hw''⟩ := hw'
  subst hw''
  have Bl := Lib.hid (bA.out.trans ((below_regrown wa dq osq).mono bA.out.size))
  simp only
  generalize Go.Sort.grow (redrawn wa dq) osq = w6 at *
  go_wp2_with fail
  go_ret2
  exact ⟨rfl, Bl.out⟩
def allM (m : Mb) : Bool := (m.fin == 3) && decide (m.fs.length = 0)
set_option maxHeartbeats 2000000 in
theorem state_ok (w : World) (B : Nat) (tv fv : Value) (m : Mb) (h : MM w B tv fv m) (ok : MOk m) :
    Calls Try.prog 20 #[ptr B] w fun e w' => e = .returned (.tuple #[.int .i64 ((m.front + m.fs.length : Nat) : Int), .int .i64 (m.front : Int), .bool (allM m)]) ∧ Below w.heap.size w w' := by
  have c1 := h.led.cell 1 (v := fv) rfl
  have c2 := h.led.cell 2 (v := .int .i64 (m.front : Int)) rfl
  have c4 := h.led.cell 4 (v := .int .u8 m.fin) rfl
  have WR : Hid (∀ d os, _) := fun d os => Calls.regrown_of (written_ok (grow (redrawn w d) os) B tv fv m (h.keep (below_regrown w d os)) ok)
  obtain ⟨a, c, rfl, -, -⟩ := h.fat.slice
  have q1 := fun d os => cell_regrown c1 d os
  have q2 := fun d os => cell_regrown c2 d os
  have q4 := fun d os => cell_regrown c4 d os
  have hf := ok.fin
  clear h ok
  unfold allM
  generalize m.fs.length = n at *
  generalize m.front = f at *
  generalize m.fin = x at *
  by_cases e3 : x = 3
  · subst e3
    have z3 : ((3 : Int) == 3) = true := by decide
    by_cases e0 : n = 0
    · subst e0
      have hall : (((3 : Int) == 3) && decide ((0 : Nat) = 0)) = true := by decide
      go_enter Try.func20, Try.ntmps20
      go_wp2_with fail
      refine wp_region_quiet_below (by kernel_rfl) (by kernel_rfl) ?_
      repeat (go_big_quiet_step (first | (go_at_call 34; exact WR.out _ _)))
      refine wpQuiet_nil ?_
      intro _ hw'
      obtain ⟨⟨dq, osq⟩, hw''⟩ := hw'
      subst hw''
      have Bl := Lib.hid (below_regrown w dq osq)
      simp only
      generalize Go.Sort.grow (redrawn w dq) osq = w6 at *
      go_wp2_with fail
      go_ret3
      exact ⟨by rw [hall]; rfl, Bl.out⟩
    · have z0 : ((n : Int) == 0) = false := by rw [beq_eq_false_iff_ne]; omega
      have hall : (((3 : Int) == 3) && decide (n = 0)) = false := by rw [decide_eq_false e0]; rfl
      go_enter Try.func20, Try.ntmps20
      go_wp2_with fail
      refine wp_region_quiet_below (by kernel_rfl) (by kernel_rfl) ?_
      repeat (go_big_quiet_step (first | (go_at_call 34; exact WR.out _ _)))
      refine wpQuiet_nil ?_
      intro _ hw'
      obtain ⟨⟨dq, osq⟩, hw''⟩ := hw'
      subst hw''
      have Bl := Lib.hid (below_regrown w dq osq)
      simp only
      generalize Go.Sort.grow (redrawn w dq) osq = w6 at *
      go_wp2_with fail
      go_ret3
      exact ⟨by rw [hall]; rfl, Bl.out⟩
  · have z3 : (x == 3) = false := by rw [beq_eq_false_iff_ne]; exact e3
    have hall : ((x == 3) && decide (n = 0)) = false := by rw [z3]; rfl
    replace hall := Lib.hid hall
    go_enter Try.func20, Try.ntmps20
    go_wp2_with fail
    refine wp_region_quiet_below (by kernel_rfl) (by kernel_rfl) ?_
    repeat (go_big_quiet_step (first | (go_at_call 34; exact WR.out _ _)))
    refine wpQuiet_nil ?_
    intro _ hw'
    obtain ⟨⟨dq, osq⟩, hw''⟩ := hw'
    subst hw''
    have Bl := Lib.hid (below_regrown w dq osq)
    simp only
    generalize Go.Sort.grow (redrawn w dq) osq = w6 at *
    go_wp2_with fail
    go_ret3
    exact ⟨by rw [hall.out]; rfl, Bl.out⟩
def mb0 : Mb := ⟨[], [], 0, 4096, 0⟩
theorem new_ok (w : World) :
    Calls Try.prog 7 #[] w fun e w' => e = .returned (ptr w.heap.size) ∧ MM w' w.heap.size (.slice none 0 0) (.slice none 0 0) mb0 ∧ Below w.heap.size w w' := by
  have L0 : Hid (MM (w.alloc (.cells #[.slice none 0 0, .slice none 0 0, .int .i64 0, .int .i64 4096, .int .u8 0] 61)) w.heap.size (.slice none 0 0) (.slice none 0 0) mb0) := ⟨Lies.new w _ _, RowY.nil _, RowY.nil _, ⟨fun h => (by cases h), fun h => (by cases h)⟩, fun k h => (by cases h)⟩
  have B0 : Hid (Below w.heap.size w (w.alloc (.cells #[.slice none 0 0, .slice none 0 0, .int .i64 0, .int .i64 4096, .int .u8 0] 61))) := (Below.refl _ _).alloc (Nat.le_refl _) _
  go_enter Try.func7, Try.ntmps7
  go_wp2
  go_ret
  exact ⟨rfl, L0.out, B0.out⟩
/-- A store into a field. -/
theorem MM.put {w : World} {B : Nat} {tv fv : Value} {m m' : Mb} (h : MM w B tv fv m) (j : Nat) (x : Value) (hj : j < 5) (e : (mbc tv fv m).set j x = mbc tv fv m') (e1 : m'.ts = m.ts) (e2 : m'.fs = m.fs) : MM (w.setCell ⟨B, j, none⟩ x) B tv fv m' := by
  refine ⟨by rw [← e]; exact h.led.put j hj x, ?_, ?_, h.nB, h.ap⟩
  · rw [e1]; exact h.txt.of fun k q => Below.heap_setCell _ _ _ _ (fun e => h.nB.1 (by rw [q, e]))
  · rw [e2]; exact h.fat.of fun k q => Below.heap_setCell _ _ _ _ (fun e => h.nB.2 (by rw [q, e]))
theorem keptM (w : World) (B j : Nat) (tv fv v : Value) {w0 : World} (h : Kept (Fm B tv fv) w0 w) : Kept (Fm B tv fv) w0 (w.setCell ⟨B, j, none⟩ v) := Kept.set (F := Fm B tv fv) h ⟨B, j, none⟩ (.inl rfl) v
set_option maxHeartbeats 1000000 in
theorem allow_ok (w : World) (B : Nat) (tv fv : Value) (m : Mb) (l : Int) (h : MM w B tv fv m) :
    Calls Try.prog 18 #[ptr B, .int .i64 l] w fun e w' => e = .returned (.tuple #[]) ∧ MM w' B tv fv { m with lim := max m.lim l } ∧ Kept (Fm B tv fv) w w' := by
  have c3 := h.led.cell 3 (v := .int .i64 m.lim) rfl
  have f3 := h.led.free 3 (by show 3 < 5; decide)
  have F : Hid (MM (w.setCell ⟨B, 3, none⟩ (.int .i64 (max m.lim l))) B tv fv { m with lim := max m.lim l } ∧ Kept (Fm B tv fv) w (w.setCell ⟨B, 3, none⟩ (.int .i64 (max m.lim l)))) := ⟨h.put 3 _ (by decide) rfl rfl rfl, keptM _ B 3 tv fv _ (Kept.refl _ _)⟩
  clear h
  obtain ⟨X, hX⟩ : ∃ X, max m.lim l = X := ⟨_, rfl⟩
  rw [hX] at F ⊢
  go_enter Try.func18, Try.ntmps18
  go_wp2
  go_end0
  exact ⟨rfl, F.out⟩
end Go.Proofs.Ytdmoaeegjjenmaa
