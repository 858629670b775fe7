/-
  What the program's own nextEnd and forget do. Fewer than 10^8 bytes; no other condition but what always holds of a stream.
-/
import Derived.Test.YtdmoaeegjjenmaaOuPgA
import Derived.BigRegion
namespace Go.Proofs.Ytdmoaeegjjenmaa
set_option maxRecDepth 100000
open Go.RowKit Go.Sort

/-- A stream, and a new box for an answer. -/
structure NX (w wr : World) (B K : Nat) (tv fv : Value) (m : Mb) (bx : List Value) : Prop where
  mm : MM wr B tv fv m
  kp : Kept (Fm B tv fv) w wr
  box : Lies wr K bx
  ge : w.heap.size ≤ K
  old : ∀ k, Fm B tv fv k → k < w.heap.size
  bl : bx.length = 3
section
variable {w wr w' : World} {B K : Nat} {tv fv : Value} {m m' : Mb} {bx : List Value}
theorem NX.lt (h : NX w wr B K tv fv m bx) : K < wr.heap.size := h.box.lt (by rw [h.bl]; decide)
theorem NX.nK (h : NX w wr B K tv fv m bx) : ∀ k, Fm B tv fv k → K ≠ k := fun k q => by have := h.old k q; have := h.ge; omega
theorem NX.keep (h : NX w wr B K tv fv m bx) (b : Below wr.heap.size wr w') : NX w w' B K tv fv m bx := ⟨h.mm.keep b, h.kp.add b, h.box.of_block (b.block K h.lt), h.ge, h.old, h.bl⟩
theorem NX.bput (h : NX w wr B K tv fv m bx) (j : Nat) (x : Value) (hj : j < 3) : NX w (wr.setCell ⟨K, j, none⟩ x) B K tv fv m (bx.set j x) := by
  have e : ∀ k, K ≠ k → (wr.setCell ⟨K, j, none⟩ x).heap[k]? = wr.heap[k]? := fun k q => Below.heap_setCell _ _ _ _ (fun c => q c.symm)
  refine ⟨h.mm.of fun k q => e k (h.nK k q), ⟨h.kp.os, h.kp.tape, h.kp.output, by simpa using h.kp.size, fun k hk hf => (e k (by have := h.ge; omega)).trans (h.kp.block k hk hf)⟩, h.box.put j (by rw [h.bl]; exact hj) x, h.ge, h.old, by rw [List.length_set]; exact h.bl⟩
theorem NX.put (h : NX w wr B K tv fv m bx) (j : Nat) (x : Value) (hj : j < 5) (e : (mbc tv fv m).set j x = mbc tv fv m') (e1 : m'.ts = m.ts) (e2 : m'.fs = m.fs) : NX w (wr.setCell ⟨B, j, none⟩ x) B K tv fv m' bx :=
  ⟨h.mm.put j x hj e e1 e2, keptM _ B j tv fv x h.kp, h.box.of_block (Below.heap_setCell _ _ _ _ (fun c => h.nK B (.inl rfl) c)), h.ge, h.old, h.bl⟩
theorem MM.old (h : MM w B tv fv m) : ∀ k, Fm B tv fv k → k < w.heap.size := fun k q => by
  rcases q with rfl | q | q
  · exact h.lt
  · exact h.txt.lt k q
  · exact h.fat.lt k q
end
abbrev bxE : List Value := [.int .i64 0, .string ⟨#[]⟩, .bool false]
theorem NX.new {w : World} {B : Nat} {tv fv : Value} {m : Mb} (h : MM w B tv fv m) (t : TypeId) : NX w (w.alloc (.cells #[.int .i64 0, .string ⟨#[]⟩, .bool false] t)) B w.heap.size tv fv m bxE := by
  have b : Below w.heap.size w (w.alloc (.cells #[.int .i64 0, .string ⟨#[]⟩, .bool false] t)) := (Below.refl _ _).alloc (Nat.le_refl _) _
  exact ⟨h.keep b, Kept.of _ b, Lies.new w _ _, Nat.le_refl _, h.old, rfl⟩
/-- What nextEnd answers. -/
def neM (m : Mb) : Bool := (m.fin == 1) && decide (((m.front + m.fs.length : Nat) : Int) ≤ m.lim)
def neV (m : Mb) : Value := if neM m = true then .tuple #[.agg #[.int .i64 ((m.front + m.fs.length : Nat) : Int), .string ⟨#[]⟩, .bool true], .bool true] else .tuple #[noPc, .bool false]
def neB (m : Mb) : Mb := { m with fin := if neM m = true then 2 else m.fin }
set_option maxHeartbeats 4000000 in
theorem nend_ok (w : World) (B : Nat) (tv fv : Value) (m : Mb) (h : MM w B tv fv m) (ok : MOk m) :
    Calls Try.prog 31 #[ptr B] w fun e w' => e = .returned (neV m) ∧ MM w' B tv fv (neB m) ∧ Kept (Fm B tv fv) w w' := by
  obtain ⟨wa, hwa⟩ : ∃ wa, wa = w.alloc (.cells #[.int .i64 0, .string ⟨#[]⟩, .bool false] 33) := ⟨_, rfl⟩
  have N0 : Hid (NX w wa B w.heap.size tv fv m bxE) := by rw [hwa]; exact NX.new h _
  obtain ⟨K, hK⟩ : ∃ K, K = w.heap.size := ⟨_, rfl⟩
  rw [← hK] at N0
  have c3 := N0.out.mm.led.cell 3 (v := .int .i64 m.lim) rfl
  have c4 := N0.out.mm.led.cell 4 (v := .int .u8 m.fin) rfl
  have q3 := fun d os => cell_regrown c3 d os
  have q4 := fun d os => cell_regrown c4 d os
  have WR : Hid (∀ d os, _) := fun d os => Calls.regrown_of (written_ok (grow (redrawn wa d) os) B tv fv m (N0.out.mm.keep (below_regrown wa d os)) ok)
  have WS : Hid (∀ w', MM w' B tv fv (neB m) → _) := fun w' h' => written_ok w' B tv fv (neB m) h' ⟨ok.len, ok.fs, by
    have := ok.fin
    show 0 ≤ (if neM m = true then 2 else m.fin) ∧ (if neM m = true then 2 else m.fin) ≤ 3
    split <;> omega, ok.lim, ok.small⟩
  have hm : Hid (∀ x : Int, x = (if neM m = true then 2 else m.fin) → (mbc tv fv m).set 4 (.int .u8 x) = mbc tv fv (neB m)) := fun x e => by rw [e]; rfl
  have eW : ((neB m).front + (neB m).fs.length : Nat) = m.front + m.fs.length := rfl
  rw [eW] at WS
  clear h eW
  have hsm := ok.small
  clear ok
  obtain ⟨Z, hZ⟩ : ∃ Z : Nat, Z = m.front + m.fs.length := ⟨_, rfl⟩
  have hn : neM m = ((m.fin == 1) && decide ((Z : Int) ≤ m.lim)) := by rw [hZ]; rfl
  have hv : neV m = if neM m = true then .tuple #[.agg #[.int .i64 (Z : Int), .string ⟨#[]⟩, .bool true], .bool true] else .tuple #[noPc, .bool false] := by rw [hZ]; rfl
  rw [← hZ] at WR WS hsm
  replace hv := Lib.hid hv
  clear hZ
  generalize hX : m.fin = x at *
  generalize hL : m.lim = L at *
  replace hX := Lib.hid hX
  replace hL := Lib.hid hL
  by_cases e1 : x = 1
  · have z1 : (x != 1) = false := by simpa using e1
    by_cases e2 : (Z : Int) ≤ L
    · have z2 : decide (L < (Z : Int)) = false := decide_eq_false (by omega)
      have hne : neM m = true := by rw [hn, e1, decide_eq_true e2]; rfl
      have F0 : Hid (Ending.returned (.tuple #[.agg #[.int .i64 (Z : Int), .string ⟨#[]⟩, .bool true], .bool true]) = .returned (neV m)) := by
        unfold Hid
        rw [hv.out, hne, if_pos rfl]
      have hm2 := Lib.hid (hm.out 2 (by rw [hne, if_pos rfl]))
      replace hne := Lib.hid hne
      replace e1 := Lib.hid e1
      clear hv hm hX hL hn
      go_enter Try.func31, Try.ntmps31
      go_wp2_with fail
      rw [← hwa, ← hK]
      clear hwa
      replace hK := Lib.hid hK
      refine wp_region_quiet_below (by kernel_rfl) (by kernel_rfl) ?_
      repeat (go_big_quiet_step (first | (go_at_call 34; exact WR.out _ _)))
      refine wpQuiet_nil ?_
      intro _ hw'
      obtain ⟨⟨dq, osq⟩, hw''⟩ := hw'
      subst hw''
      have N6 := Lib.hid (N0.out.keep (below_regrown wa dq osq))
      clear c3 c4 q3 q4 N0 WR
      simp only
      generalize Go.Sort.grow (redrawn wa dq) osq = w6 at *
      have f4 := N6.out.mm.led.free 4 (by show 4 < 5; decide)
      have d4 := N6.out.mm.led.cell 4 (v := .int .u8 m.fin) rfl
      have N7 : Hid (NX w (w6.setCell ⟨B, 4, none⟩ (.int .u8 2)) B K tv fv (neB m) bxE) := N6.out.put 4 _ (by decide) hm2.out rfl rfl
      clear N6 hm2
      go_wp2_with fail
      refine (WS.out _ N7.out.mm).mono ?_
      rintro e w8 ⟨rfl, b8⟩
      have N8 := Lib.hid (N7.out.keep b8)
      clear N7 b8 WS f4 d4
      have b0 := N8.out.box.cell 0 (v := .int .i64 0) rfl
      have b1 := N8.out.box.cell 1 (v := .string ⟨#[]⟩) rfl
      have b2 := N8.out.box.cell 2 (v := .bool false) rfl
      have bf0 := N8.out.box.free 0 (by show 0 < 3; decide)
      have bf1 := N8.out.box.free 1 (by show 1 < 3; decide)
      have bf2 := N8.out.box.free 2 (by show 2 < 3; decide)
      have NZ : Hid (NX w ((((w8).setCell ⟨K, 0, none⟩ (.int .i64 (Z : Int))).setCell ⟨K, 1, none⟩ (.string ⟨#[]⟩)).setCell ⟨K, 2, none⟩ (.bool true)) B K tv fv (neB m) [.int .i64 (Z : Int), .string ⟨#[]⟩, .bool true]) := ((N8.out.bput 0 (.int .i64 (Z : Int)) (by decide)).bput 1 (.string ⟨#[]⟩) (by decide)).bput 2 (.bool true) (by decide)
      clear N8
      go_wp2_with fail
      generalize (((w8).setCell ⟨K, 0, none⟩ (.int .i64 (Z : Int))).setCell ⟨K, 1, none⟩ (.string ⟨#[]⟩)).setCell ⟨K, 2, none⟩ (.bool true) = wf at *
      have q0 := NZ.out.box.cell 0 (v := .int .i64 (Z : Int)) rfl
      have q1 := NZ.out.box.cell 1 (v := .string ⟨#[]⟩) rfl
      have q2 := NZ.out.box.cell 2 (v := .bool true) rfl
      exact bodyPost_ret (v := .tuple #[.agg #[.int .i64 (Z : Int), .string ⟨#[]⟩, .bool true], .bool true]) (by simp [results, Try.results31, go_sem, q0, q1, q2]) rfl ⟨F0.out, NZ.out.mm, NZ.out.kp⟩
    · have z2 : decide (L < (Z : Int)) = true := decide_eq_true (by omega)
      have hne : neM m = false := by rw [hn, decide_eq_false e2, Bool.and_false]
      have F0 : Hid (Ending.returned (.tuple #[.agg #[.int .i64 0, .string ⟨#[]⟩, .bool false], .bool false]) = .returned (neV m)) := by
        unfold Hid
        rw [hv.out, hne, if_neg (by decide)]
        rfl
      have eB : Hid (neB m = m) := by
        unfold Hid neB
        rw [if_neg (by rw [hne]; decide)]
      replace hne := Lib.hid hne
      clear hv hm WS hX hL hn
      go_enter Try.func31, Try.ntmps31
      go_wp2_with fail
      rw [← hwa, ← hK]
      clear hwa
      replace hK := Lib.hid hK
      refine wp_region_quiet_below (by kernel_rfl) (by kernel_rfl) ?_
      repeat (go_big_quiet_step (first | (go_at_call 34; exact WR.out _ _)))
      refine wpQuiet_nil ?_
      intro _ hw'
      obtain ⟨⟨dq, osq⟩, hw''⟩ := hw'
      subst hw''
      have N6 := Lib.hid (N0.out.keep (below_regrown wa dq osq))
      clear c3 c4 q3 q4 N0 WR
      simp only
      generalize Go.Sort.grow (redrawn wa dq) osq = w6 at *
      rw [← eB.out] at N6
      clear eB
      have b0 := N6.out.box.cell 0 (v := .int .i64 0) rfl
      have b1 := N6.out.box.cell 1 (v := .string ⟨#[]⟩) rfl
      have b2 := N6.out.box.cell 2 (v := .bool false) rfl
      have bf0 := N6.out.box.free 0 (by show 0 < 3; decide)
      have bf1 := N6.out.box.free 1 (by show 1 < 3; decide)
      have bf2 := N6.out.box.free 2 (by show 2 < 3; decide)
      have NZ : Hid (NX w ((((w6).setCell ⟨K, 0, none⟩ (.int .i64 0)).setCell ⟨K, 1, none⟩ (.string ⟨#[]⟩)).setCell ⟨K, 2, none⟩ (.bool false)) B K tv fv (neB m) [.int .i64 0, .string ⟨#[]⟩, .bool false]) := ((N6.out.bput 0 (.int .i64 0) (by decide)).bput 1 (.string ⟨#[]⟩) (by decide)).bput 2 (.bool false) (by decide)
      clear N6
      go_wp2_with fail
      generalize (((w6).setCell ⟨K, 0, none⟩ (.int .i64 0)).setCell ⟨K, 1, none⟩ (.string ⟨#[]⟩)).setCell ⟨K, 2, none⟩ (.bool false) = wf at *
      have q0 := NZ.out.box.cell 0 (v := .int .i64 0) rfl
      have q1 := NZ.out.box.cell 1 (v := .string ⟨#[]⟩) rfl
      have q2 := NZ.out.box.cell 2 (v := .bool false) rfl
      exact bodyPost_ret (v := .tuple #[.agg #[.int .i64 0, .string ⟨#[]⟩, .bool false], .bool false]) (by simp [results, Try.results31, go_sem, q0, q1, q2]) rfl ⟨F0.out, NZ.out.mm, NZ.out.kp⟩
  · have z1 : (x != 1) = true := by simpa using e1
    have hne : neM m = false := by rw [hn, show (x == 1) = false by simpa using e1, Bool.false_and]
    have F0 : Hid (Ending.returned (.tuple #[.agg #[.int .i64 0, .string ⟨#[]⟩, .bool false], .bool false]) = .returned (neV m)) := by
      unfold Hid
      rw [hv.out, hne, if_neg (by decide)]
      rfl
    have eB : Hid (neB m = m) := by
      unfold Hid neB
      rw [if_neg (by rw [hne]; decide)]
    replace hne := Lib.hid hne
    clear hv hm WS hX hL hn
    go_enter Try.func31, Try.ntmps31
    go_wp2_with fail
    rw [← hwa, ← hK]
    clear hwa
    replace hK := Lib.hid hK
    refine wp_region_quiet_below (by kernel_rfl) (by kernel_rfl) ?_
    repeat (go_big_quiet_step (fail))
    refine wpQuiet_nil ?_
    intro _ hw'
    obtain ⟨⟨dq, osq⟩, hw''⟩ := hw'
    subst hw''
    have N6 := Lib.hid (N0.out.keep (below_regrown wa dq osq))
    clear c3 c4 q3 q4 N0 WR
    simp only
    generalize Go.Sort.grow (redrawn wa dq) osq = w6 at *
    rw [← eB.out] at N6
    clear eB
    have b0 := N6.out.box.cell 0 (v := .int .i64 0) rfl
    have b1 := N6.out.box.cell 1 (v := .string ⟨#[]⟩) rfl
    have b2 := N6.out.box.cell 2 (v := .bool false) rfl
    have bf0 := N6.out.box.free 0 (by show 0 < 3; decide)
    have bf1 := N6.out.box.free 1 (by show 1 < 3; decide)
    have bf2 := N6.out.box.free 2 (by show 2 < 3; decide)
    have NZ : Hid (NX w ((((w6).setCell ⟨K, 0, none⟩ (.int .i64 0)).setCell ⟨K, 1, none⟩ (.string ⟨#[]⟩)).setCell ⟨K, 2, none⟩ (.bool false)) B K tv fv (neB m) [.int .i64 0, .string ⟨#[]⟩, .bool false]) := ((N6.out.bput 0 (.int .i64 0) (by decide)).bput 1 (.string ⟨#[]⟩) (by decide)).bput 2 (.bool false) (by decide)
    clear N6
    go_wp2_with fail
    generalize (((w6).setCell ⟨K, 0, none⟩ (.int .i64 0)).setCell ⟨K, 1, none⟩ (.string ⟨#[]⟩)).setCell ⟨K, 2, none⟩ (.bool false) = wf at *
    have q0 := NZ.out.box.cell 0 (v := .int .i64 0) rfl
    have q1 := NZ.out.box.cell 1 (v := .string ⟨#[]⟩) rfl
    have q2 := NZ.out.box.cell 2 (v := .bool false) rfl
    exact bodyPost_ret (v := .tuple #[.agg #[.int .i64 0, .string ⟨#[]⟩, .bool false], .bool false]) (by simp [results, Try.results31, go_sem, q0, q1, q2]) rfl ⟨F0.out, NZ.out.mm, NZ.out.kp⟩
def not3 (x : Int) : Bool := x != 3
def fgN (m : Mb) : Nat := fstP not3 m.fs
def fgB (m : Mb) : Mb := ⟨m.ts.drop (fgN m), m.fs.drop (fgN m), m.front + fgN m, m.lim, m.fin⟩
set_option maxHeartbeats 4000000 in
theorem forget_ok (w : World) (B : Nat) (tv fv : Value) (m : Mb) (h : MM w B tv fv m) (ok : MOk m) :
    Calls Try.prog 33 #[ptr B] w fun e w' => e = .returned (.tuple #[]) ∧ ∃ tv' fv', MM w' B tv' fv' (fgB m) ∧ tv'.ownBlock = tv.ownBlock ∧ fv'.ownBlock = fv.ownBlock ∧ Kept (Fm B tv fv) w w' := by
  have c0 := h.led.cell 0 (v := tv) rfl
  have c1 := h.led.cell 1 (v := fv) rfl
  have c2 := h.led.cell 2 (v := .int .i64 (m.front : Int)) rfl
  have f0 := h.led.free 0 (by show 0 < 5; decide)
  have f1 := h.led.free 1 (by show 1 < 5; decide)
  have f2 := h.led.free 2 (by show 2 < 5; decide)
  obtain ⟨ta, tc, e1, hc1, -⟩ := h.txt.slice
  obtain ⟨fa, fc, e2, hc2, -⟩ := h.fat.slice
  subst e1 e2
  have hT := fstP_le not3 m.fs
  have hT1 := Lib.hid (fstP_no not3 m.fs)
  have hT2 := Lib.hid (fstP_yes not3 m.fs)
  have hsm := ok.small
  have hlen := ok.len
  obtain ⟨T, hTT⟩ : ∃ T, T = fgN m := ⟨_, rfl⟩
  have hTT2 : fstP not3 m.fs = T := hTT.symm
  rw [hTT2] at hT hT1 hT2
  have R1 := h.txt.cut T (by omega)
  have R2 := h.fat.cut T hT
  have FIN : Hid (∀ w', w' = ((w.setCell ⟨B, 0, none⟩ (.slice (dropA ta tc T) (m.ts.length - T) (tc - T))).setCell ⟨B, 1, none⟩ (.slice (dropA fa fc T) (m.fs.length - T) (fc - T))).drew.setCell ⟨B, 2, none⟩ (.int .i64 ((m.front + T : Nat) : Int)) → ∃ tv' fv', MM w' B tv' fv' (fgB m) ∧ tv'.ownBlock = (Value.slice ta m.ts.length tc).ownBlock ∧ fv'.ownBlock = (Value.slice fa m.fs.length fc).ownBlock ∧ Kept (Fm B (.slice ta m.ts.length tc) (.slice fa m.fs.length fc)) w w') := fun w' ew => by
    have o1 := dropA_block ta (m.ts.length - T) m.ts.length tc (tc - T) T
    have o2 := dropA_block fa (m.fs.length - T) m.fs.length fc (fc - T) T
    have hb : ∀ k, k ≠ B → w'.heap[k]? = w.heap[k]? := fun k hk => by
      rw [ew, Below.heap_setCell _ _ _ _ hk]
      show ((w.setCell _ _).setCell _ _).heap[k]? = _
      rw [Below.heap_setCell _ _ _ _ hk, Below.heap_setCell _ _ _ _ hk]
    refine ⟨_, _, ⟨?_, ?_, ?_, ⟨by rw [o1]; exact h.nB.1, by rw [o2]; exact h.nB.2⟩, fun k hk => ?_⟩, o1, o2, ?_⟩
    · rw [ew]
      have := (((h.led.put 0 (by show 0 < 5; decide) (.slice (dropA ta tc T) (m.ts.length - T) (tc - T))).put 1 (by show 1 < 5; decide) (.slice (dropA fa fc T) (m.fs.length - T) (fc - T))).of_block (w' := ((w.setCell ⟨B, 0, none⟩ (.slice (dropA ta tc T) (m.ts.length - T) (tc - T))).setCell ⟨B, 1, none⟩ (.slice (dropA fa fc T) (m.fs.length - T) (fc - T))).drew) rfl).put 2 (by show 2 < 5; decide) (.int .i64 ((m.front + T : Nat) : Int))
      have em : mbc (.slice (dropA ta tc T) (m.ts.length - T) (tc - T)) (.slice (dropA fa fc T) (m.fs.length - T) (fc - T)) (fgB m) = [.slice (dropA ta tc T) (m.ts.length - T) (tc - T), .slice (dropA fa fc T) (m.fs.length - T) (fc - T), .int .i64 ((m.front + T : Nat) : Int), .int .i64 m.lim, .int .u8 m.fin] := by rw [hTT]; rfl
      rw [em]
      exact this
    · have e : (fgB m).ts = m.ts.drop T := by rw [hTT]; rfl
      rw [e]
      exact R1.of fun k hk => hb k fun c => h.nB.1 (by rw [← o1, hk, c])
    · have e : (fgB m).fs = m.fs.drop T := by rw [hTT]; rfl
      rw [e]
      exact R2.of fun k hk => hb k fun c => h.nB.2 (by rw [← o2, hk, c])
    · rw [o2]
      exact h.ap k (by rw [← o1]; exact hk)
    · refine ⟨by rw [ew]; rfl, by rw [ew]; rfl, by rw [ew]; rfl, by rw [ew]; simp, fun k hk hf => hb k fun c => hf (.inl c)⟩
  have hF := Lib.hid h.fat
  clear h ok R1 R2 hTT hTT2
  generalize hfs : m.fs = fs at *
  generalize m.ts.length = tn at *
  generalize m.front = f at *
  generalize hfn : fs.length = n at *
  replace hfs := Lib.hid hfs
  replace hfn := Lib.hid hfn
  replace hlen := Lib.hid hlen
  have hTt : T ≤ tn := by have := hlen.out; omega
  go_enter Try.func33, Try.ntmps33
  go_wp2_with fail
  go_loopg [2] T (fun g' iv wr => ∃ k : Nat, k + g' = T ∧ iv = .int .i64 k ∧ w = wr)
  case atStart => exact ⟨0, by omega, rfl, rfl⟩
  case round =>
    obtain ⟨k, hk, rfl, rfl⟩ := hrel
    by_cases hlt : k < T
    · have g1 : decide ((k : Int) < (n : Int)) = true := decide_eq_true (by omega)
      have g1' : decide (k < n) = true := decide_eq_true (by omega)
      obtain ⟨g, o, rfl⟩ := hF.out.at (by have := hfn.out; omega)
      have ia := fun w' => at_u8 g o n fc k w' (by omega) (k : Int) rfl (o + k) rfl
      have cc := (hF.out.cell k (by have := hfn.out; omega)).1
      have hv := hT1.out k hlt
      have hv2 : fs.getD k 0 = 3 := by simpa [not3] using hv
      rw [hv2] at cc
      clear hv hv2
      go_wp2_with fail
      go_roundg (T - (k + 1))
      case measure => omega
      case rel => exact ⟨k + 1, by omega, by go_num, rfl⟩
    · obtain rfl : k = T := by omega
      have s1 := fun w' => run_cut w' ta tn tc k (k : Int) rfl hTt
      have s2 := fun w' => run_cut w' fa n fc k (k : Int) rfl hT
      have hw : IntKind.i64.wrap ((f : Int) + (k : Int)) = ((f + k : Nat) : Int) := by rw [IntKind.wrap_i64]; omega
      have hw2 : wrap64 ((f : Int) + (k : Int)) = ((f + k : Nat) : Int) := by unfold wrap64; omega
      by_cases hin : k < n
      · have g1 : decide ((k : Int) < (n : Int)) = true := decide_eq_true (by omega)
        have g1' : decide (k < n) = true := decide_eq_true (by omega)
        obtain ⟨g, o, e⟩ := hF.out.at (by have := hfn.out; omega)
        subst e
        have ia := fun w' => at_u8 g o n fc k w' (by omega) (k : Int) rfl (o + k) rfl
        have cc := (hF.out.cell k (by have := hfn.out; omega)).1
        have hv := hT2.out (by have := hfn.out; omega)
        have hv2 : (fs.getD k 0 == 3) = false := by simpa [not3] using hv
        generalize fs.getD k 0 = y at *
        clear hv hT1 hT2
        clear hF
        go_wp2_with fail
        go_region
        go_wp2_with fail
        go_end0
        exact ⟨rfl, FIN.out _ rfl⟩
      · have g1 : decide ((k : Int) < (n : Int)) = false := decide_eq_false (by omega)
        have g1' : decide (k < n) = false := decide_eq_false hin
        clear hT1 hT2 hF
        go_wp2_with fail
        go_region
        go_wp2_with fail
        go_end0
        exact ⟨rfl, FIN.out _ rfl⟩
end Go.Proofs.Ytdmoaeegjjenmaa
