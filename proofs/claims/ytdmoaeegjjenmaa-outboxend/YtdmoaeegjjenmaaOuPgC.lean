/-
  What the program's own Write does. Fewer than 10^8 bytes; no other condition but what always holds of a stream.
-/
import Derived.Test.YtdmoaeegjjenmaaOuPgB
namespace Go.Proofs.Ytdmoaeegjjenmaa
set_option maxRecDepth 100000
open Go.RowKit Go.Sort

theorem Kept.step {F G : Nat → Prop} {a b c : World} (h : Kept F a b) (g : Kept G b c) (q : ∀ k, G k → F k ∨ a.heap.size ≤ k) : Kept F a c :=
  ⟨g.os.trans h.os, g.tape.trans h.tape, g.output.trans h.output, Nat.le_trans h.size g.size, fun k hk hf => (g.block k (Nat.lt_of_lt_of_le hk h.size) (fun c => (q k c).elim hf (by omega))).trans (h.block k hk hf)⟩
theorem RowY.form {w : World} {v : Value} {xs : List Int} (h : RowY w v xs) : ∃ a n c, v = .slice a n c := by
  obtain ⟨a, c, e, -, -⟩ := h.slice
  exact ⟨_, _, _, e⟩
section
variable {w w' : World} {B : Nat} {tv fv v' : Value} {m : Mb} {xs : List Int}
/-- Another row of bytes, in its field. -/
theorem MM.text (h : MM w B tv fv m) (g : w.grownBy w' tv.ownBlock) (r : RowY w' v' xs) (o : v'.ownBlock = tv.ownBlock ∨ v'.ownBlock = some w.heap.size) :
    MM (w'.setCell ⟨B, 0, none⟩ v') B v' fv { m with ts := xs } ∧ Kept (Fm B tv fv) w (w'.setCell ⟨B, 0, none⟩ v') ∧ ∀ k, Fm B v' fv k → Fm B tv fv k ∨ w.heap.size ≤ k := by
  have hB := h.lt
  have nb : v'.ownBlock ≠ some B := fun c => by
    rcases o with o | o
    · exact h.nB.1 (by rw [← o]; exact c)
    · rw [o] at c; injection c with c; omega
  refine ⟨⟨?_, r.of fun k q => Below.heap_setCell _ _ _ _ (fun e => nb (by rw [q, e])), h.fat.of fun k q => (Below.heap_setCell _ _ _ _ (fun e => h.nB.2 (by rw [q, e]))).trans (g.block k (h.fat.lt k q) (fun c => h.ap k c.symm q)), ⟨nb, h.nB.2⟩, fun k q c => ?_⟩, ?_, fun k q => ?_⟩
  · exact (h.led.of_block (g.block B hB (fun c => h.nB.1 c.symm))).put 0 (by show 0 < 5; decide) v'
  · rcases o with o | o
    · exact h.ap k (by rw [← o]; exact q) c
    · rw [o] at q
      injection q with q
      have := h.fat.lt k c
      omega
  · refine ⟨g.os, g.tape, g.output, by simpa using g.size, fun k hk hf => (Below.heap_setCell _ _ _ _ (fun e => hf (.inl e))).trans (g.block k hk (fun c => hf (.inr (.inl c.symm))))⟩
  · rcases q with q | q | q
    · exact .inl (.inl q)
    · rcases o with o | o
      · exact .inl (.inr (.inl (by rw [← o]; exact q)))
      · rw [o] at q; injection q with q; exact .inr (by omega)
    · exact .inl (.inr (.inr q))
/-- Another row of what became of them. -/
theorem MM.fate (h : MM w B tv fv m) (g : w.grownBy w' fv.ownBlock) (r : RowY w' v' xs) (o : v'.ownBlock = fv.ownBlock ∨ v'.ownBlock = some w.heap.size) :
    MM (w'.setCell ⟨B, 1, none⟩ v') B tv v' { m with fs := xs } ∧ Kept (Fm B tv fv) w (w'.setCell ⟨B, 1, none⟩ v') ∧ ∀ k, Fm B tv v' k → Fm B tv fv k ∨ w.heap.size ≤ k := by
  have hB := h.lt
  have nb : v'.ownBlock ≠ some B := fun c => by
    rcases o with o | o
    · exact h.nB.2 (by rw [← o]; exact c)
    · rw [o] at c; injection c with c; omega
  refine ⟨⟨?_, h.txt.of fun k q => (Below.heap_setCell _ _ _ _ (fun e => h.nB.1 (by rw [q, e]))).trans (g.block k (h.txt.lt k q) (fun c => h.ap k q c.symm)), r.of fun k q => Below.heap_setCell _ _ _ _ (fun e => nb (by rw [q, e])), ⟨h.nB.1, nb⟩, fun k q c => ?_⟩, ?_, fun k q => ?_⟩
  · exact (h.led.of_block (g.block B hB (fun c => h.nB.2 c.symm))).put 1 (by show 1 < 5; decide) v'
  · rcases o with o | o
    · exact h.ap k q (by rw [← o]; exact c)
    · rw [o] at c
      injection c with c
      have := h.txt.lt k q
      omega
  · refine ⟨g.os, g.tape, g.output, by simpa using g.size, fun k hk hf => (Below.heap_setCell _ _ _ _ (fun e => hf (.inl e))).trans (g.block k hk (fun c => hf (.inr (.inr c.symm))))⟩
  · rcases q with q | q | q
    · exact .inl (.inl q)
    · exact .inl (.inr (.inl q))
    · rcases o with o | o
      · exact .inl (.inr (.inr (by rw [← o]; exact q)))
      · rw [o] at q; injection q with q; exact .inr (by omega)
end
def msM (m : Mb) : Nat := m.fs.length - cntY 3 m.fs
def wrEM (m : Mb) (n : Nat) : Int := if m.fin ≠ 0 then 7 else if 16384 < n + msM m then 4 else 0
def wrM (m : Mb) (s : ByteArray) (f : Bool) : Mb := if wrEM m s.size = 0 then { m with ts := m.ts ++ ofB s, fs := m.fs ++ List.replicate s.size 1, fin := if f = true then 1 else m.fin } else m
theorem enter_rep (x y : Value) (w : World) : (callFunc 28 #[x, y]).run Try.prog w = .ok (.enter 28 #[x, y]) w := by simp [go_sem]
/-- What is asked of a world behind Write. -/
def WrD (w : World) (B : Nat) (tv fv : Value) (m : Mb) (w' : World) : Prop := ∃ tv' fv', MM w' B tv' fv' m ∧ Kept (Fm B tv fv) w w' ∧ ∀ k, Fm B tv' fv' k → Fm B tv fv k ∨ w.heap.size ≤ k
set_option maxHeartbeats 8000000 in
theorem write_ok (w : World) (B : Nat) (tv fv : Value) (m : Mb) (s : ByteArray) (f : Bool) (h : MM w B tv fv m) (ok : MOk m) (hs : s.size < 50000000) :
    Calls Try.prog 9 #[ptr B, .string s, .bool f] w fun e w' => e = .returned (.int .i64 (wrEM m s.size)) ∧ WrD w B tv fv (wrM m s f) w' := by
  have c4 := h.led.cell 4 (v := .int .u8 m.fin) rfl
  have MS := Lib.hid (missing_ok w B tv fv m h ok)
  have hsm := ok.small
  by_cases e1 : m.fin = 0
  · have z1 : (m.fin != 0) = false := by simpa using e1
    by_cases e2 : 16384 < s.size + msM m
    · have z2 : decide ((16384 : Int) - (msM m : Int) < (s.size : Int)) = true := decide_eq_true (by omega)
      have eE : wrEM m s.size = 4 := by unfold wrEM; rw [if_neg (by simpa using e1), if_pos e2]
      have eM : wrM m s f = m := by unfold wrM; rw [eE, if_neg (by decide)]
      rw [eE, eM]
      have H := Lib.hid h
      have hms : (msM m : Int) ≤ 100000000 := by unfold msM; omega
      change Hid (Calls Try.prog 27 #[ptr B] w fun e w' => e = .returned (.int .i64 (msM m : Nat)) ∧ Below w.heap.size w w') at MS
      clear h ok e1 eE eM e2
      generalize m.fin = x at *
      generalize msM m = M at *
      go_enter Try.func9, Try.ntmps9
      go_wp2_with fail
      refine MS.out.mono ?_
      rintro e w1 ⟨rfl, b1⟩
      have FI : Hid (WrD w B tv fv m w1) := ⟨tv, fv, H.out.keep b1, Kept.of _ b1, fun k q => .inl q⟩
      clear MS b1 H
      go_wp2_with fail
      go_ret
      exact ⟨rfl, FI.out⟩
    · have z2 : decide ((16384 : Int) - (msM m : Int) < (s.size : Int)) = false := decide_eq_false (by omega)
      have eE : wrEM m s.size = 0 := by unfold wrEM; rw [if_neg (by simpa using e1), if_neg e2]
      have eM : wrM m s f = { m with ts := m.ts ++ ofB s, fs := m.fs ++ List.replicate s.size 1, fin := if f = true then 1 else m.fin } := by unfold wrM; rw [eE, if_pos rfl]
      have hsz : s.size ≤ 16384 := by omega
      have hlen := ok.len
      have hlt : m.ts.length + (ofB s).length < 1000000000 := by rw [ofB_len]; omega
      have hlf : m.fs.length + (List.replicate s.size (1 : Int)).length < 1000000000 := by rw [List.length_replicate]; omega
      have hms : (msM m : Int) ≤ 100000000 := by unfold msM; omega
      change Hid (Calls Try.prog 27 #[ptr B] w fun e w' => e = .returned (.int .i64 (msM m : Nat)) ∧ Below w.heap.size w w') at MS
      have H := Lib.hid h
      rw [eE, eM]
      replace hlen := Lib.hid hlen
      clear h ok eE eM e2
      rw [e1] at c4 z1
      replace e1 := Lib.hid e1
      generalize msM m = M at *
      go_enter Try.func9, Try.ntmps9
      go_wp2_with fail
      refine MS.out.mono ?_
      rintro e w1 ⟨rfl, b1⟩
      have M1 := H.out.keep b1
      have K1 := Lib.hid (Kept.of (Fm B tv fv) b1)
      obtain ⟨v2, w2, hap, r2, g2, o2⟩ := M1.txt.app 9 59 (.string s) (ofB s) (srcB w1 s) hlt
      obtain ⟨a2, n2, q2, ev2⟩ := r2.form
      obtain ⟨m2, k2, f2⟩ := M1.text g2 r2 o2
      subst ev2
      have l2 : Lies w2 B (mbc tv fv m) := M1.led.of_block (g2.block B M1.lt (fun c => M1.nB.1 c.symm))
      have d0 := M1.led.cell 0 (v := tv) rfl
      have e0 := l2.cell 0 (v := tv) rfl
      have ef0 := l2.free 0 (by show 0 < 5; decide)
      replace hap := Lib.hid hap
      have M3 := Lib.hid m2
      have K3 := Lib.hid k2
      have F3 := Lib.hid f2
      clear m2 k2 f2 r2 g2 o2 l2 M1 H MS
      go_wp2_with (refine obB2L _ rfl .append _ _ 59 9 rfl tv (.string s) rfl rfl hap.out ?_)
      generalize w2.setCell ⟨B, 0, none⟩ (.slice a2 n2 q2) = w3 at *
      clear hap d0 e0 ef0
      have c1 := M3.out.led.cell 1 (v := fv) rfl
      have bA : Below w3.heap.size w3 (w3.drew.alloc (.cells #[.int .u8 1] 5)) := (drewB _ _).alloc (Nat.le_refl _) _
      have rA : RowY (w3.drew.alloc (.cells #[.int .u8 1] 5)) (.slice (some ⟨w3.heap.size, 0, none⟩) 1 1) [1] := RowY.mk (xs := [1]) (cur := #[.int .u8 1]) (by show (w3.heap.push _)[w3.heap.size]? = _; simp) (Nat.le_refl _) (by decide) (Nat.le_refl _) fun k hk => by
        obtain rfl : k = 0 := by simpa using hk
        rfl
      have RP := Lib.hid (repeat_ok _ w3.heap.size 1 1 s.size rA (by omega))
      have cA := (bA.cell (World.block_lt_of_cell? _ _ c1)).trans c1
      have cA2 : (w3.alloc (.cells #[.int .u8 1] 5)).cell? ⟨B, 1, none⟩ = some fv := cA
      have MA := Lib.hid (M3.out.keep bA)
      have KA := Lib.hid (Kept.of (Fm B (.slice a2 n2 q2) fv) bA)
      clear rA
      refine wp_region_any (by kernel_rfl) ?_
      change wpAny _ .any _ _ 13 (Array.replicate 13 false) _ w3.drew
      refine obTake (i := 0) (d := 27) (v := .pointer (some ⟨B, 0, none⟩)) rfl rfl (by kernel_rfl) (by kernel_rfl) (by kernel_rfl) (fun _ _ _ h => h) rfl (fun w => by go_simp) ?_
      refine obTake (i := 1) (d := 28) (v := .pointer (some ⟨B, 0, none⟩)) rfl rfl (by kernel_rfl) (by kernel_rfl) (by kernel_rfl) (fun _ _ _ h => h) rfl (fun w => by go_simp) ?_
      refine obTake (i := 2) (d := 29) (v := .pointer (some ⟨B, 0, none⟩)) rfl rfl (by kernel_rfl) (by kernel_rfl) (by kernel_rfl) (fun _ _ _ h => h) rfl (fun w => by go_simp) ?_
      refine obTake (i := 3) (d := 30) (v := .pointer (some ⟨B, 1, none⟩)) rfl rfl (by kernel_rfl) (by kernel_rfl) (by kernel_rfl) (fun _ _ _ h => h) rfl (fun w => by go_simp) ?_
      refine obTake (i := 6) (d := 33) (v := .string s) rfl rfl (by kernel_rfl) (by kernel_rfl) (by kernel_rfl) (fun _ _ _ h => h) rfl (fun w => by go_simp) ?_
      refine obTake (i := 7) (d := 34) (v := .int .i64 (s.size : Int)) rfl rfl (by kernel_rfl) (by kernel_rfl) (by kernel_rfl) (fun _ _ _ h => h) rfl (fun w => by go_simp) ?_
      try simp only [Act.put, List.setIfInBounds_toArray, List.set_cons_succ, List.set_cons_zero]
      refine wpAny_all (rs := [4, 5]) (by kernel_rfl) (by simp) (fun j hj => ?_)
      have hj2 : j = 4 ∨ j = 5 := by simpa using hj
      clear hj
      rcases hj2 with rfl | rfl
      · refine wpOp_step rfl (fun K' hK => ?_)
        go_simp
        refine hK _ _ ?_
        clear hK K'
        refine wpAny_all (rs := [5]) (by kernel_rfl) (by simp) (fun j hj => ?_)
        obtain rfl : j = 5 := by simpa using hj
        refine wpOp_step rfl (fun K' hK => ?_)
        clear hj
        go_simp
        refine hK _ _ ?_
        clear hK K'
        try simp only [Act.put, List.setIfInBounds_toArray, List.set_cons_succ, List.set_cons_zero]
        refine wpAny_all (rs := [8]) (by kernel_rfl) (by simp) (fun j hj => ?_)
        obtain rfl : j = 8 := by simpa using hj
        refine wpOp_step rfl (fun K' hK => ?_)
        clear hj
        refine obCall2 (k1 := 32) (k2 := 34) (d := 35) (x1 := .slice (some ⟨w3.heap.size, 0, none⟩) 1 1) (x2 := .int .i64 (s.size : Int)) 28 _ rfl rfl _ _ _ _ (enter_rep _ _) rfl rfl RP.out (fun e w4 hR => ?_)
        obtain ⟨v4, rfl, r4, b4, -⟩ := hR
        refine ⟨_, rfl, hK _ _ ?_⟩
        clear hK K' RP
        try simp only [Act.put, List.setIfInBounds_toArray, List.set_cons_succ, List.set_cons_zero]
        have M4 := MA.out.keep b4
        have K4 := KA.out.add b4
        have S4 : w3.heap.size ≤ w4.heap.size := K4.size
        have r4' : RowY w4 v4 (List.replicate s.size 1) := r4
        obtain ⟨v5, w5, hap5, r5, g5, o5⟩ := M4.fat.app 59 59 v4 (List.replicate s.size 1) r4'.src hlf
        obtain ⟨a5, n5, q5, ev5⟩ := r5.form
        obtain ⟨m5, k5, f5⟩ := M4.fate g5 r5 o5
        subst ev5
        have l5 : Lies w5 B (mbc (.slice a2 n2 q2) fv { m with ts := m.ts ++ ofB s }) := M4.led.of_block (g5.block B M4.lt (fun c => M4.nB.2 c.symm))
        have e1 := l5.cell 1 (v := fv) rfl
        have ef1 := l5.free 1 (by show 1 < 5; decide)
        have c4w := M4.led.cell 1 (v := fv) rfl
        have M5 := Lib.hid m5
        have K5 := Lib.hid (K4.trans k5)
        have F5 := Lib.hid f5
        replace hap5 := Lib.hid hap5
        clear m5 k5 f5 r5 g5 o5 l5 M4 K4 r4' r4
        refine wpAny_all (rs := [9]) (by kernel_rfl) (by simp) (fun j hj => ?_)
        obtain rfl : j = 9 := by simpa using hj
        refine wpOp_step rfl (fun K' hK => ?_)
        clear hj
        refine obB2 w4 .append _ _ 59 59 rfl fv v4 rfl rfl hap5.out (hK _ _ ?_)
        clear hK K'
        refine obTake (i := 10) (d := 37) (v := .pointer (some ⟨B, 0, none⟩)) rfl rfl (by kernel_rfl) (by kernel_rfl) (by kernel_rfl) (fun _ _ _ h => h) rfl (fun w => by go_simp) ?_
        refine obTake (i := 11) (d := 38) (v := .pointer (some ⟨B, 1, none⟩)) rfl rfl (by kernel_rfl) (by kernel_rfl) (by kernel_rfl) (fun _ _ _ h => h) rfl (fun w => by go_simp) ?_
        refine wpAny_all (rs := [12]) (by kernel_rfl) (by simp) (fun j hj => ?_)
        obtain rfl : j = 12 := by simpa using hj
        refine wpOp_step rfl (fun K' hK => ?_)
        clear hj
        go_simp
        refine hK _ _ ?_
        clear hK K'
        refine wpAny_done (by kernel_rfl) ?_ 0
        have KZ : Kept (Fm B tv fv) w (w5.setCell ⟨B, 1, none⟩ (.slice a5 n5 q5)) := (K1.out.trans K3.out).step K5.out fun k q => (F3.out k q).elim .inl fun c => .inr (Nat.le_trans K1.out.size c)
        have FZ : ∀ k, Fm B (.slice a2 n2 q2) (.slice a5 n5 q5) k → Fm B tv fv k ∨ w.heap.size ≤ k := fun k q => (F5.out k q).elim (fun q => (F3.out k q).elim .inl fun c => .inr (Nat.le_trans K1.out.size c)) fun c => .inr (Nat.le_trans (Nat.le_trans K1.out.size (Nat.le_trans K3.out.size S4)) c)
        generalize w5.setCell ⟨B, 1, none⟩ (.slice a5 n5 q5) = w6 at *
        have d4 := M5.out.led.cell 4 (v := .int .u8 m.fin) rfl
        have f4 := M5.out.led.free 4 (by show 4 < 5; decide)
        have FI : Hid (WrD w B tv fv { m with ts := m.ts ++ ofB s, fs := m.fs ++ List.replicate s.size 1, fin := if f = true then 1 else m.fin } (if f = true then w6.setCell ⟨B, 4, none⟩ (.int .u8 1) else w6)) := by
          cases f with
          | true => exact ⟨_, _, M5.out.put 4 (.int .u8 1) (by decide) rfl rfl rfl, Kept.set (F := Fm B tv fv) KZ ⟨B, 4, none⟩ (.inl rfl) _, FZ⟩
          | false => exact ⟨_, _, M5.out, KZ, FZ⟩
        clear KZ FZ M5 K5 F5 F3 K3 K1 M3 MA KA bA c1 cA cA2 hap5
        cases f with
        | true =>
          go_wp2_with fail
          go_ret
          exact ⟨rfl, FI.out⟩
        | false =>
          go_wp2_with fail
          go_ret
          exact ⟨rfl, FI.out⟩
      · refine wpOp_step rfl (fun K' hK => ?_)
        go_simp
        refine hK _ _ ?_
        clear hK K'
        refine wpAny_all (rs := [4, 8]) (by kernel_rfl) (by simp) (fun j hj => ?_)
        have hj2 : j = 4 ∨ j = 8 := by simpa using hj
        clear hj
        rcases hj2 with rfl | rfl
        · refine wpOp_step rfl (fun K' hK => ?_)
          go_simp
          refine hK _ _ ?_
          clear hK K'
          try simp only [Act.put, List.setIfInBounds_toArray, List.set_cons_succ, List.set_cons_zero]
          refine wpAny_all (rs := [8]) (by kernel_rfl) (by simp) (fun j hj => ?_)
          obtain rfl : j = 8 := by simpa using hj
          refine wpOp_step rfl (fun K' hK => ?_)
          clear hj
          refine obCall2 (k1 := 32) (k2 := 34) (d := 35) (x1 := .slice (some ⟨w3.heap.size, 0, none⟩) 1 1) (x2 := .int .i64 (s.size : Int)) 28 _ rfl rfl _ _ _ _ (enter_rep _ _) rfl rfl RP.out (fun e w4 hR => ?_)
          obtain ⟨v4, rfl, r4, b4, -⟩ := hR
          refine ⟨_, rfl, hK _ _ ?_⟩
          clear hK K' RP
          try simp only [Act.put, List.setIfInBounds_toArray, List.set_cons_succ, List.set_cons_zero]
          have M4 := MA.out.keep b4
          have K4 := KA.out.add b4
          have S4 : w3.heap.size ≤ w4.heap.size := K4.size
          have r4' : RowY w4 v4 (List.replicate s.size 1) := r4
          obtain ⟨v5, w5, hap5, r5, g5, o5⟩ := M4.fat.app 59 59 v4 (List.replicate s.size 1) r4'.src hlf
          obtain ⟨a5, n5, q5, ev5⟩ := r5.form
          obtain ⟨m5, k5, f5⟩ := M4.fate g5 r5 o5
          subst ev5
          have l5 : Lies w5 B (mbc (.slice a2 n2 q2) fv { m with ts := m.ts ++ ofB s }) := M4.led.of_block (g5.block B M4.lt (fun c => M4.nB.2 c.symm))
          have e1 := l5.cell 1 (v := fv) rfl
          have ef1 := l5.free 1 (by show 1 < 5; decide)
          have c4w := M4.led.cell 1 (v := fv) rfl
          have M5 := Lib.hid m5
          have K5 := Lib.hid (K4.trans k5)
          have F5 := Lib.hid f5
          replace hap5 := Lib.hid hap5
          clear m5 k5 f5 r5 g5 o5 l5 M4 K4 r4' r4
          refine wpAny_all (rs := [9]) (by kernel_rfl) (by simp) (fun j hj => ?_)
          obtain rfl : j = 9 := by simpa using hj
          refine wpOp_step rfl (fun K' hK => ?_)
          clear hj
          refine obB2 w4 .append _ _ 59 59 rfl fv v4 rfl rfl hap5.out (hK _ _ ?_)
          clear hK K'
          refine obTake (i := 10) (d := 37) (v := .pointer (some ⟨B, 0, none⟩)) rfl rfl (by kernel_rfl) (by kernel_rfl) (by kernel_rfl) (fun _ _ _ h => h) rfl (fun w => by go_simp) ?_
          refine obTake (i := 11) (d := 38) (v := .pointer (some ⟨B, 1, none⟩)) rfl rfl (by kernel_rfl) (by kernel_rfl) (by kernel_rfl) (fun _ _ _ h => h) rfl (fun w => by go_simp) ?_
          refine wpAny_all (rs := [12]) (by kernel_rfl) (by simp) (fun j hj => ?_)
          obtain rfl : j = 12 := by simpa using hj
          refine wpOp_step rfl (fun K' hK => ?_)
          clear hj
          go_simp
          refine hK _ _ ?_
          clear hK K'
          refine wpAny_done (by kernel_rfl) ?_ 0
          have KZ : Kept (Fm B tv fv) w (w5.setCell ⟨B, 1, none⟩ (.slice a5 n5 q5)) := (K1.out.trans K3.out).step K5.out fun k q => (F3.out k q).elim .inl fun c => .inr (Nat.le_trans K1.out.size c)
          have FZ : ∀ k, Fm B (.slice a2 n2 q2) (.slice a5 n5 q5) k → Fm B tv fv k ∨ w.heap.size ≤ k := fun k q => (F5.out k q).elim (fun q => (F3.out k q).elim .inl fun c => .inr (Nat.le_trans K1.out.size c)) fun c => .inr (Nat.le_trans (Nat.le_trans K1.out.size (Nat.le_trans K3.out.size S4)) c)
          generalize w5.setCell ⟨B, 1, none⟩ (.slice a5 n5 q5) = w6 at *
          have d4 := M5.out.led.cell 4 (v := .int .u8 m.fin) rfl
          have f4 := M5.out.led.free 4 (by show 4 < 5; decide)
          have FI : Hid (WrD w B tv fv { m with ts := m.ts ++ ofB s, fs := m.fs ++ List.replicate s.size 1, fin := if f = true then 1 else m.fin } (if f = true then w6.setCell ⟨B, 4, none⟩ (.int .u8 1) else w6)) := by
            cases f with
            | true => exact ⟨_, _, M5.out.put 4 (.int .u8 1) (by decide) rfl rfl rfl, Kept.set (F := Fm B tv fv) KZ ⟨B, 4, none⟩ (.inl rfl) _, FZ⟩
            | false => exact ⟨_, _, M5.out, KZ, FZ⟩
          clear KZ FZ M5 K5 F5 F3 K3 K1 M3 MA KA bA c1 cA cA2 hap5
          cases f with
          | true =>
            go_wp2_with fail
            go_ret
            exact ⟨rfl, FI.out⟩
          | false =>
            go_wp2_with fail
            go_ret
            exact ⟨rfl, FI.out⟩
        · try simp only [Act.put, List.setIfInBounds_toArray, List.set_cons_succ, List.set_cons_zero]
          refine wpOp_step rfl (fun K' hK => ?_)
          refine obCall2 (k1 := 32) (k2 := 34) (d := 35) (x1 := .slice (some ⟨w3.heap.size, 0, none⟩) 1 1) (x2 := .int .i64 (s.size : Int)) 28 _ rfl rfl _ _ _ _ (enter_rep _ _) rfl rfl RP.out (fun e w4 hR => ?_)
          obtain ⟨v4, rfl, r4, b4, -⟩ := hR
          refine ⟨_, rfl, hK _ _ ?_⟩
          clear hK K' RP
          try simp only [Act.put, List.setIfInBounds_toArray, List.set_cons_succ, List.set_cons_zero]
          have M4 := MA.out.keep b4
          have K4 := KA.out.add b4
          have S4 : w3.heap.size ≤ w4.heap.size := K4.size
          have r4' : RowY w4 v4 (List.replicate s.size 1) := r4
          obtain ⟨v5, w5, hap5, r5, g5, o5⟩ := M4.fat.app 59 59 v4 (List.replicate s.size 1) r4'.src hlf
          obtain ⟨a5, n5, q5, ev5⟩ := r5.form
          obtain ⟨m5, k5, f5⟩ := M4.fate g5 r5 o5
          subst ev5
          have l5 : Lies w5 B (mbc (.slice a2 n2 q2) fv { m with ts := m.ts ++ ofB s }) := M4.led.of_block (g5.block B M4.lt (fun c => M4.nB.2 c.symm))
          have e1 := l5.cell 1 (v := fv) rfl
          have ef1 := l5.free 1 (by show 1 < 5; decide)
          have c4w := M4.led.cell 1 (v := fv) rfl
          have M5 := Lib.hid m5
          have K5 := Lib.hid (K4.trans k5)
          have F5 := Lib.hid f5
          replace hap5 := Lib.hid hap5
          clear m5 k5 f5 r5 g5 o5 l5 M4 K4 r4' r4
          refine wpAny_all (rs := [4]) (by kernel_rfl) (by simp) (fun j hj => ?_)
          obtain rfl : j = 4 := by simpa using hj
          refine wpOp_step rfl (fun K' hK => ?_)
          clear hj
          go_simp
          refine hK _ _ ?_
          clear hK K'
          try simp only [Act.put, List.setIfInBounds_toArray, List.set_cons_succ, List.set_cons_zero]
          refine wpAny_all (rs := [9]) (by kernel_rfl) (by simp) (fun j hj => ?_)
          obtain rfl : j = 9 := by simpa using hj
          refine wpOp_step rfl (fun K' hK => ?_)
          clear hj
          refine obB2 w4 .append _ _ 59 59 rfl fv v4 rfl rfl hap5.out (hK _ _ ?_)
          clear hK K'
          refine obTake (i := 10) (d := 37) (v := .pointer (some ⟨B, 0, none⟩)) rfl rfl (by kernel_rfl) (by kernel_rfl) (by kernel_rfl) (fun _ _ _ h => h) rfl (fun w => by go_simp) ?_
          refine obTake (i := 11) (d := 38) (v := .pointer (some ⟨B, 1, none⟩)) rfl rfl (by kernel_rfl) (by kernel_rfl) (by kernel_rfl) (fun _ _ _ h => h) rfl (fun w => by go_simp) ?_
          refine wpAny_all (rs := [12]) (by kernel_rfl) (by simp) (fun j hj => ?_)
          obtain rfl : j = 12 := by simpa using hj
          refine wpOp_step rfl (fun K' hK => ?_)
          clear hj
          go_simp
          refine hK _ _ ?_
          clear hK K'
          refine wpAny_done (by kernel_rfl) ?_ 0
          have KZ : Kept (Fm B tv fv) w (w5.setCell ⟨B, 1, none⟩ (.slice a5 n5 q5)) := (K1.out.trans K3.out).step K5.out fun k q => (F3.out k q).elim .inl fun c => .inr (Nat.le_trans K1.out.size c)
          have FZ : ∀ k, Fm B (.slice a2 n2 q2) (.slice a5 n5 q5) k → Fm B tv fv k ∨ w.heap.size ≤ k := fun k q => (F5.out k q).elim (fun q => (F3.out k q).elim .inl fun c => .inr (Nat.le_trans K1.out.size c)) fun c => .inr (Nat.le_trans (Nat.le_trans K1.out.size (Nat.le_trans K3.out.size S4)) c)
          generalize w5.setCell ⟨B, 1, none⟩ (.slice a5 n5 q5) = w6 at *
          have d4 := M5.out.led.cell 4 (v := .int .u8 m.fin) rfl
          have f4 := M5.out.led.free 4 (by show 4 < 5; decide)
          have FI : Hid (WrD w B tv fv { m with ts := m.ts ++ ofB s, fs := m.fs ++ List.replicate s.size 1, fin := if f = true then 1 else m.fin } (if f = true then w6.setCell ⟨B, 4, none⟩ (.int .u8 1) else w6)) := by
            cases f with
            | true => exact ⟨_, _, M5.out.put 4 (.int .u8 1) (by decide) rfl rfl rfl, Kept.set (F := Fm B tv fv) KZ ⟨B, 4, none⟩ (.inl rfl) _, FZ⟩
            | false => exact ⟨_, _, M5.out, KZ, FZ⟩
          clear KZ FZ M5 K5 F5 F3 K3 K1 M3 MA KA bA c1 cA cA2 hap5
          cases f with
          | true =>
            go_wp2_with fail
            go_ret
            exact ⟨rfl, FI.out⟩
          | false =>
            go_wp2_with fail
            go_ret
            exact ⟨rfl, FI.out⟩
  · have z1 : (m.fin != 0) = true := by simpa using e1
    have eE : wrEM m s.size = 7 := by unfold wrEM; rw [if_pos e1]
    have eM : wrM m s f = m := by unfold wrM; rw [eE, if_neg (by decide)]
    rw [eE, eM]
    have FI : Hid (WrD w B tv fv m w) := ⟨tv, fv, h, Kept.refl _ _, fun k q => .inl q⟩
    clear h ok MS e1 eE eM
    generalize m.fin = x at *
    go_enter Try.func9, Try.ntmps9
    go_wp2_with fail
    go_ret
    exact ⟨rfl, FI.out⟩
end Go.Proofs.Ytdmoaeegjjenmaa
