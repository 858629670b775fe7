/-
  What the program's own Next does. Fewer than 10^8 bytes; no other condition but what always holds of a stream.
-/
import Derived.Test.YtdmoaeegjjenmaaOuPgD
namespace Go.Proofs.Ytdmoaeegjjenmaa
set_option maxRecDepth 100000
open Go.RowKit Go.Sort

theorem ofB_ext (t : ByteArray) (i j : Nat) : ofB (t.extract i j) = ((ofB t).drop i).take (j - i) := by
  unfold ofB
  rw [ByteArray.data_extract, Array.toList_extract, List.extract_eq_take_drop, List.map_take, List.map_drop]
/-- A row of bytes as a text. -/
theorem RowY.str {w : World} {a : Option Addr} {l c : Nat} {u : ByteArray} (h : RowY w (.slice a l c) (ofB u)) (hu : 0 < u.size) : (convert 59 9 (.slice a l c)).run Try.prog w = .ok (.string u) w := by
  obtain ⟨g, o, rfl⟩ := h.at (by rw [ofB_len]; exact hu)
  obtain ⟨hl, cur, hg, -, -, -, hc⟩ := h.get
  have hlen : u.data.toList.length = u.size := by rw [Array.length_toList]; rfl
  have := run_convert_bytes_back (P := Try.prog) w 59 9 5 ⟨g, o, none⟩ c u.data.toList Try.underlying59 Try.underlying5 Try.underlying9 (fun j hj => by
    rw [Addr.add_mid]
    have := hc j (by rw [ofB_len]; omega)
    have e : (ofB u).getD j 0 = (u.data.toList[j].toNat : Int) := by
      unfold ofB
      rw [List.getD, List.getElem?_map, List.getElem?_eq_getElem hj]
      rfl
    rw [e] at this
    rw [← this]
    simp [World.cell?, hg])
  rw [hlen] at this
  rw [hl, ofB_len, this]
theorem NX.call {w wr w' : World} {B K : Nat} {tv fv : Value} {m m' : Mb} {bx : List Value} (h : NX w wr B K tv fv m bx) (q : MM w' B tv fv m') (k : Kept (Fm B tv fv) wr w') : NX w w' B K tv fv m' bx :=
  ⟨q, h.kp.trans k, h.box.of_block (k.block K h.lt fun c => h.nK K c rfl), h.ge, h.old, h.bl⟩
/-- How many new ones stand from a place on, ahead of another, at most so many. -/
def runM (fs : List Int) (X p : Nat) : Nat → Nat
  | 0 => 0
  | k + 1 => if p < X ∧ fs.getD p 0 = 1 then runM fs X (p + 1) k + 1 else 0
theorem runM_le (fs : List Int) (X : Nat) : ∀ (k p : Nat), runM fs X p k ≤ k ∧ (p ≤ X → p + runM fs X p k ≤ X)
  | 0, p => ⟨Nat.le_refl _, fun h => h⟩
  | k + 1, p => by
    unfold runM
    split
    · rename_i q
      obtain ⟨a, b⟩ := runM_le fs X k (p + 1)
      have b' := b (by omega)
      exact ⟨by omega, fun _ => by omega⟩
    · exact ⟨by omega, fun h => h⟩
theorem runM_all (fs : List Int) (X : Nat) : ∀ (k p i : Nat), i < runM fs X p k → fs.getD (p + i) 0 = 1
  | 0, p, i, h => by simp [runM] at h
  | k + 1, p, i, h => by
    unfold runM at h
    split at h
    · rename_i q
      cases i with
      | zero => exact q.2
      | succ i =>
        have := runM_all fs X k (p + 1) i (by omega)
        rwa [show p + (i + 1) = p + 1 + i by omega]
    · omega
theorem runM_stop (fs : List Int) (X : Nat) : ∀ (k p : Nat), runM fs X p k = k ∨ ¬ (p + runM fs X p k < X ∧ fs.getD (p + runM fs X p k) 0 = 1)
  | 0, p => .inl rfl
  | k + 1, p => by
    unfold runM
    split
    · rcases runM_stop fs X k (p + 1) with q | q
      · left; omega
      · right
        rwa [show p + (runM fs X (p + 1) k + 1) = p + 1 + runM fs X (p + 1) k by omega]
    · rename_i q
      right
      exact q
theorem fstY_no (c : Int) : ∀ (l : List Int) (i : Nat), i < fstY c l → l.getD i 0 ≠ c
  | [], i, h => by simp [fstY] at h
  | x :: l, i, h => by
    unfold fstY at h
    split at h
    · omega
    · rename_i q
      cases i with
      | zero => simpa using q
      | succ i => simpa using fstY_no c l i (by omega)
theorem fstY_yes (c : Int) : ∀ l : List Int, fstY c l < l.length → l.getD (fstY c l) 0 = c
  | [], h => by simp at h
  | x :: l, h => by
    unfold fstY at h ⊢
    split
    · rename_i q
      simpa using q
    · rename_i q
      rw [if_neg q] at h
      simpa using fstY_yes c l (by simpa using h)
theorem runM_pos (fs : List Int) (X p k : Nat) (hk : 1 ≤ k) (hp : p < X) (h : fs.getD p 0 = 1) : 1 ≤ runM fs X p k := by
  cases k with
  | zero => omega
  | succ k =>
    unfold runM
    rw [if_pos ⟨hp, h⟩]
    omega
def frM (m : Mb) : Nat := fstY 1 (m.fs.take (ixM m m.lim))
def nuM (m : Mb) (most : Int) : Nat := runM m.fs (ixM m m.lim) (frM m) most.toNat
def laM (m : Mb) (most : Int) : Bool := decide (frM m + nuM m most = m.fs.length) && (m.fin != 0)
def nxV (m : Mb) (t : ByteArray) (most : Int) : Value := if frM m < ixM m m.lim then (if most < 1 then .tuple #[noPc, .bool false] else .tuple #[.agg #[.int .i64 ((m.front + frM m : Nat) : Int), .string (t.extract (frM m) (frM m + nuM m most)), .bool (laM m most)], .bool true]) else neV m
def nxB (m : Mb) (most : Int) : Mb := if frM m < ixM m m.lim then (if most < 1 then m else { m with fs := setR m.fs (frM m) 2 (nuM m most), fin := if laM m most = true then 2 else m.fin }) else neB m
set_option maxHeartbeats 16000000 in
theorem next_ok (w : World) (B : Nat) (tv fv : Value) (m : Mb) (t : ByteArray) (most : Int) (h : MM w B tv fv m) (ok : MOk m) (ht : m.ts = ofB t) (hm : In64 most) :
    Calls Try.prog 11 #[ptr B, .int .i64 most] w fun e w' => e = .returned (nxV m t most) ∧ MM w' B tv fv (nxB m most) ∧ Kept (Fm B tv fv) w w' := by
  obtain ⟨wa, hwa⟩ : ∃ wa, wa = w.alloc (.cells #[.int .i64 0, .string ⟨#[]⟩, .bool false] 33) := ⟨_, rfl⟩
  have N0 : Hid (NX w wa B w.heap.size tv fv m bxE) := by rw [hwa]; exact NX.new h _
  obtain ⟨K, hK⟩ : ∃ K, K = w.heap.size := ⟨_, rfl⟩
  rw [← hK] at N0
  obtain ⟨fa, fc, efv, hfc, -⟩ := h.fat.slice
  subst efv
  have c1 := N0.out.mm.led.cell 1 (v := .slice fa m.fs.length fc) rfl
  have c3 := N0.out.mm.led.cell 3 (v := .int .i64 m.lim) rfl
  have q1 := fun d os => cell_regrown c1 d os
  have q3 := fun d os => cell_regrown c3 d os
  have hlim := ok.lim
  have IX : Hid (∀ d os, _) := fun d os => Calls.regrown_of (ix_ok (grow (redrawn wa d) os) B tv (.slice fa m.fs.length fc) m m.lim (N0.out.mm.keep (below_regrown wa d os)) ok ⟨by omega, by omega⟩)
  have hX := ixM_le m m.lim
  have hsm := ok.small
  have hlen := ok.len
  obtain ⟨X, hXX⟩ : ∃ X, X = ixM m m.lim := ⟨_, rfl⟩
  rw [← hXX] at IX hX
  have s1 := fun w' => run_upto w' fa m.fs.length fc X (X : Int) rfl (by omega)
  have htl : (m.fs.take X).length = X := by rw [List.length_take]; omega
  have IB : Hid (∀ w', MM w' B tv (.slice fa m.fs.length fc) m → _) := fun w' h' => index_ok w' (.slice fa X fc) (m.fs.take X) 1 (h'.fat.upto X hX) (fun y hy => ok.byte y (List.mem_of_mem_take hy)) ⟨by decide, by decide⟩
  have hA := fstY_le 1 (m.fs.take X)
  rw [htl] at IB hA
  obtain ⟨A, hAA⟩ : ∃ A, A = fstY 1 (m.fs.take X) := ⟨_, rfl⟩
  rw [← hAA] at IB hA
  have eF : frM m = A := by unfold frM; rw [hAA, hXX]
  have NE : Hid (∀ w', MM w' B tv (.slice fa m.fs.length fc) m → _) := fun w' h' => nend_ok w' B tv (.slice fa m.fs.length fc) m h' ok
  replace hlen := Lib.hid hlen
  have OKm := Lib.hid ok
  clear h ok
  go_enter Try.func11, Try.ntmps11
  go_wp2_with fail
  rw [← hwa, ← hK]
  clear hwa
  replace hK := Lib.hid hK
  replace hXX := Lib.hid hXX
  replace hAA := Lib.hid hAA
  replace eF := Lib.hid eF
  replace htl := Lib.hid htl
  replace ht := Lib.hid ht
  refine wp_region_quiet_below (by kernel_rfl) (by kernel_rfl) ?_
  repeat (go_big_quiet_step (first | (go_at_call 29; exact IX.out _ _)))
  refine wpQuiet_nil ?_
  intro _ hw'
  obtain ⟨⟨dq, osq⟩, hw''⟩ := hw'
  subst hw''
  have N6 := Lib.hid (N0.out.keep (below_regrown wa dq osq))
  clear c1 c3 q1 q3 N0 IX
  simp only
  generalize Go.Sort.grow (redrawn wa dq) osq = w6 at *
  by_cases hlt : A < X
  · rw [if_pos hlt] at IB
    by_cases hmo : most < 1
    · have z1 : decide (most < 1) = true := decide_eq_true hmo
      have F0 : Hid (Ending.returned (.tuple #[.agg #[.int .i64 0, .string ⟨#[]⟩, .bool false], .bool false]) = .returned (nxV m t most)) := by
        unfold Hid nxV
        rw [eF.out, ← hXX.out, if_pos hlt, if_pos hmo]
        rfl
      have FB : Hid (nxB m most = m) := by
        unfold Hid nxB
        rw [eF.out, ← hXX.out, if_pos hlt, if_pos hmo]
      clear NE
      go_wp2_with fail
      refine (IB.out _ N6.out.mm).mono ?_
      rintro e w7 ⟨rfl, rfl⟩
      clear IB
      have b0 := N6.out.box.cell 0 (v := .int .i64 0) rfl
      have b1 := N6.out.box.cell 1 (v := .string ⟨#[]⟩) rfl
      have b2 := N6.out.box.cell 2 (v := .bool false) rfl
      have bf0 := N6.out.box.free 0 (by show 0 < 3; decide)
      have bf1 := N6.out.box.free 1 (by show 1 < 3; decide)
      have bf2 := N6.out.box.free 2 (by show 2 < 3; decide)
      have NZ : Hid (NX w ((((w6).setCell ⟨K, 0, none⟩ (.int .i64 0)).setCell ⟨K, 1, none⟩ (.string ⟨#[]⟩)).setCell ⟨K, 2, none⟩ (.bool false)) B K tv (.slice fa m.fs.length fc) m [.int .i64 0, .string ⟨#[]⟩, .bool false]) := ((N6.out.bput 0 (.int .i64 0) (by decide)).bput 1 (.string ⟨#[]⟩) (by decide)).bput 2 (.bool false) (by decide)
      clear N6
      go_wp2_with fail
      generalize (((w6).setCell ⟨K, 0, none⟩ (.int .i64 0)).setCell ⟨K, 1, none⟩ (.string ⟨#[]⟩)).setCell ⟨K, 2, none⟩ (.bool false) = wf at *
      have q0 := NZ.out.box.cell 0 (v := .int .i64 0) rfl
      have q1 := NZ.out.box.cell 1 (v := .string ⟨#[]⟩) rfl
      have q2 := NZ.out.box.cell 2 (v := .bool false) rfl
      exact bodyPost_ret (v := .tuple #[.agg #[.int .i64 0, .string ⟨#[]⟩, .bool false], .bool false]) (by simp [results, Try.results11, go_sem, q0, q1, q2]) rfl ⟨F0.out, by rw [FB.out]; exact NZ.out.mm, NZ.out.kp⟩
    · have z1 : decide (most < 1) = false := decide_eq_false hmo
      clear NE
      obtain ⟨N, hN⟩ : ∃ N, N = runM m.fs X A most.toNat := ⟨_, rfl⟩
      have eN : Hid (nuM m most = N) := by unfold Hid nuM; rw [eF.out, ← hXX.out, hN]
      have hN1 := runM_le m.fs X most.toNat A
      have hN2 := Lib.hid (runM_all m.fs X most.toNat A)
      have hN3 := Lib.hid (runM_stop m.fs X most.toNat A)
      rw [← hN] at hN1 hN2 hN3
      replace hN := Lib.hid hN
      obtain ⟨hN4, hN5⟩ := hN1
      have hN6 := hN5 (by omega)
      have hmt : (most.toNat : Int) = most := by omega
      replace hmt := Lib.hid hmt
      have hN7 : (N : Int) ≤ most := by have := hmt.out; omega
      clear hN4 hN5
      have hA8 : A < 100000000 := by omega
      have hFA : m.fs.getD A 0 = 1 := by
        have := fstY_yes 1 (m.fs.take X) (by rw [← hAA.out, htl.out]; exact hlt)
        rwa [← hAA.out, getD_take _ _ _ hlt] at this
      have hN0 : 1 ≤ N := by rw [hN.out]; exact runM_pos m.fs X A most.toNat (by have := hmt.out; omega) hlt hFA
      clear hFA
      go_wp2_with fail
      refine (IB.out _ N6.out.mm).mono ?_
      rintro e w7 ⟨rfl, rfl⟩
      clear IB
      go_wp2_with fail
      go_loopg [8] N (fun g' uv wr => ∃ k i : Nat, Hid (k + g' = N ∧ i = A + k) ∧ uv = .int .i64 (i : Int) ∧ Hid (NX w wr B K tv (.slice fa m.fs.length fc) { m with fs := setR m.fs A 2 k } bxE))
      case atStart => exact ⟨0, A, ⟨by omega, by omega⟩, rfl, N6⟩
      case round =>
        clear N6
        obtain ⟨k, i, hk, rfl, NN⟩ := hrel
        obtain ⟨hk1, hk2⟩ := hk.out
        have hl : (setR m.fs A 2 k).length = m.fs.length := setR_len _ _ _ _
        by_cases hkN : k < N
        · have g1 : decide ((i : Int) < (X : Int)) = true := decide_eq_true (by omega)
          have g1' : decide (i < X) = true := decide_eq_true (by omega)
          have g2 : decide ((i : Int) - (A : Int) < most) = true := decide_eq_true (by omega)
          obtain ⟨g, o, rfl⟩ := NN.out.mm.fat.at (by show 0 < (setR ..).length; omega)
          have ia := fun w' => at_u8 g o X fc i w' (by omega) (i : Int) rfl (o + i) rfl
          obtain ⟨cc, cf⟩ := NN.out.mm.fat.cell i (by show i < (setR ..).length; omega)
          have ev : (setR m.fs A 2 k).getD i 0 = 1 := by
            rw [setR_get _ _ _ _ (by omega), if_neg (by omega), hk2]
            exact hN2.out k hkN
          change wr.cell? _ = some (.int .u8 ((setR m.fs A 2 k).getD i 0)) at cc
          rw [ev] at cc
          have N2 := NN.out.fset i (by show i < (setR ..).length; omega) 2
          have e2 : (setR m.fs A 2 k).set i 2 = setR m.fs A 2 (k + 1) := by rw [hk2]; rfl
          change NX _ _ _ _ _ _ { m with fs := (setR m.fs A 2 k).set i 2 } _ at N2
          rw [e2] at N2
          replace N2 := Lib.hid N2
          have hms : Hid (N - (k + 1) < gk) := by unfold Hid; omega
          have hk4 : Hid (k + 1 + (N - (k + 1)) = N ∧ i + 1 = A + (k + 1)) := by unfold Hid; omega
          have hib : i < 100000000 := by omega
          clear NN hl e2 ev hk hk1 hk2
          go_wp2_with fail
          go_roundg (N - (k + 1))
          case measure => exact hms.out
          case rel => exact ⟨k + 1, i + 1, hk4, by go_num, N2⟩
        · obtain rfl : k = N := by omega
          have hst := hN3.out
          have c0 := NN.out.mm.led.cell 0 (v := tv) rfl
          have c1 := NN.out.mm.led.cell 1 (v := .slice fa m.fs.length fc) rfl
          have c2 := NN.out.mm.led.cell 2 (v := .int .i64 (m.front : Int)) rfl
          have c4 := NN.out.mm.led.cell 4 (v := .int .u8 m.fin) rfl
          have f4 := NN.out.mm.led.free 4 (by show 4 < 5; decide)
          obtain ⟨ta, tc, etv, htc, -⟩ := NN.out.mm.txt.slice
          change tv = .slice ta m.ts.length tc at etv
          change m.ts.length ≤ tc at htc
          subst etv
          have htn := hlen.out
          obtain ⟨u, hu⟩ : ∃ u, u = t.extract A i := ⟨_, rfl⟩
          have hts : t.size = m.ts.length := by rw [ht.out, ofB_len]
          have husz : 0 < u.size := by rw [hu, ByteArray.size_extract]; omega
          have ROWU : Hid (∀ w', RowY w' (.slice ta m.ts.length tc) m.ts → RowY w' (.slice (dropA ta tc A) (i - A) (tc - A)) (ofB u)) := fun w' r => by
            have := (r.cut A (by omega)).upto (i - A) (by rw [List.length_drop]; omega)
            rw [hu, ofB_ext, ← ht.out]
            exact this
          have sm := fun w' => run_mid w' ta m.ts.length tc A i (A : Int) (i : Int) rfl rfl (by omega) (by omega)
          have hwf : IntKind.i64.wrap ((m.front : Int) + (A : Int)) = ((m.front + A : Nat) : Int) := by rw [IntKind.wrap_i64]; omega
          have hwf2 : wrap64 ((m.front : Int) + (A : Int)) = ((m.front + A : Nat) : Int) := by unfold wrap64; omega
          have FV : Hid (∀ b, b = laM m most → Ending.returned (.tuple #[.agg #[.int .i64 ((m.front + A : Nat) : Int), .string u, .bool b], .bool true]) = .returned (nxV m t most)) := fun b e => by
            unfold nxV
            rw [eF.out, ← hXX.out, if_pos hlt, if_neg (by omega), eN.out, e, hu, hk2]
          have FC : Hid (∀ x, x = (if laM m most = true then 2 else m.fin) → nxB m most = Mb.mk m.ts (setR m.fs A 2 k) m.front m.lim x) := fun x e => by
            unfold nxB
            rw [eF.out, ← hXX.out, if_pos hlt, if_neg (by omega), eN.out, e]
          have eL : Hid (laM m most = (decide (i = m.fs.length) && (m.fin != 0))) := by
            unfold Hid laM
            rw [eF.out, eN.out, hk2]
          by_cases x1 : i < X
          · have g1 : decide ((i : Int) < (X : Int)) = true := decide_eq_true (by omega)
            have g1' : decide (i < X) = true := decide_eq_true x1
            by_cases x2 : (i : Int) - (A : Int) < most
            · have g2 : decide ((i : Int) - (A : Int) < most) = true := decide_eq_true x2
              obtain ⟨g, o, efa⟩ := NN.out.mm.fat.at (by show 0 < (setR ..).length; omega)
              subst efa
              have ia := fun w' => at_u8 g o X fc i w' (by omega) (i : Int) rfl (o + i) rfl
              have cc := (NN.out.mm.fat.cell i (by show i < (setR ..).length; omega)).1
              change wr.cell? _ = some (.int .u8 ((setR m.fs A 2 k).getD i 0)) at cc
              have zy : ((setR m.fs A 2 k).getD i 0 == 1) = false := by
                rw [beq_eq_false_iff_ne]
                rcases hst with q | q
                · have := hmt.out; omega
                · intro c
                  rw [setR_get _ _ _ _ (by omega), if_neg (by omega)] at c
                  exact q ⟨by omega, by rw [← hk2]; exact c⟩
              generalize (setR m.fs A 2 k).getD i 0 = y at *
              have zl : ((i : Int) == (m.fs.length : Int)) = false := by rw [beq_eq_false_iff_ne]; omega
              have zl' : decide (i = m.fs.length) = false := decide_eq_false (by omega)
              have eL2 : false = laM m most := by rw [eL.out, zl']; rfl
              have F0 := Lib.hid (FV.out false eL2)
              have FB := Lib.hid (FC.out m.fin (by rw [← eL2]; rfl))
              have N7 : Hid (NX w (wr) B K (.slice ta m.ts.length tc) (.slice (some ⟨g, o, none⟩) m.fs.length fc) (Mb.mk m.ts (setR m.fs A 2 k) m.front m.lim m.fin) bxE) := NN.out
              have cv : (convert 59 9 (.slice (dropA ta tc A) (i - A) (tc - A))).run Try.prog (wr).drew = .ok (.string u) (wr).drew := (ROWU.out (wr).drew (N7.out.mm.txt.of (w' := (wr).drew) fun _ _ => rfl)).str husz
              have b0 := N7.out.box.cell 0 (v := .int .i64 0) rfl
              have b1 := N7.out.box.cell 1 (v := .string ⟨#[]⟩) rfl
              have b2 := N7.out.box.cell 2 (v := .bool false) rfl
              have bf0 := N7.out.box.free 0 (by show 0 < 3; decide)
              have bf1 := N7.out.box.free 1 (by show 1 < 3; decide)
              have bf2 := N7.out.box.free 2 (by show 2 < 3; decide)
              have d0 := N7.out.mm.led.cell 0 (v := .slice ta m.ts.length tc) rfl
              have d2 := N7.out.mm.led.cell 2 (v := .int .i64 (m.front : Int)) rfl
              have NZ : Hid (NX w (((((wr).setCell ⟨K, 0, none⟩ (.int .i64 ((m.front + A : Nat) : Int))).setCell ⟨K, 1, none⟩ (.string u)).setCell ⟨K, 2, none⟩ (.bool false)).drew) B K (.slice ta m.ts.length tc) (.slice (some ⟨g, o, none⟩) m.fs.length fc) (Mb.mk m.ts (setR m.fs A 2 k) m.front m.lim m.fin) [.int .i64 ((m.front + A : Nat) : Int), .string u, .bool false]) := (((N7.out.bput 0 (.int .i64 ((m.front + A : Nat) : Int)) (by decide)).bput 1 (.string u) (by decide)).bput 2 (.bool false) (by decide)).keep (drewB _ _)
              have hAi : (A : Int) ≤ (i : Int) := by omega
              have hit : (i : Int) ≤ (tc : Int) := by omega
              clear NN hl hk hk1 hk2 hst hkN hN6 hN7 hN0 htn hts husz ROWU FV FC eL
              clear N7 eL2
              replace hu := Lib.hid hu
              obtain ⟨Z, hZ⟩ : ∃ Z : Nat, m.front + A = Z := ⟨_, rfl⟩
              rw [hZ] at hwf hwf2 NZ F0
              replace hZ := Lib.hid hZ
              generalize m.fin = xf at *
              go_wp2_with fail
              go_region
              go_wp2_with fail
              generalize ((((wr).setCell ⟨K, 0, none⟩ (.int .i64 (Z : Int))).setCell ⟨K, 1, none⟩ (.string u)).setCell ⟨K, 2, none⟩ (.bool false)).drew = wf at *
              have q0 := NZ.out.box.cell 0 (v := .int .i64 (Z : Int)) rfl
              have q1 := NZ.out.box.cell 1 (v := .string u) rfl
              have q2 := NZ.out.box.cell 2 (v := .bool false) rfl
              exact bodyPost_ret (v := .tuple #[.agg #[.int .i64 (Z : Int), .string u, .bool false], .bool true]) (by simp [results, Try.results11, go_sem, q0, q1, q2]) rfl ⟨F0.out, by rw [FB.out]; exact NZ.out.mm, NZ.out.kp⟩
            · have g2 : decide ((i : Int) - (A : Int) < most) = false := decide_eq_false x2
              have zl : ((i : Int) == (m.fs.length : Int)) = false := by rw [beq_eq_false_iff_ne]; omega
              have zl' : decide (i = m.fs.length) = false := decide_eq_false (by omega)
              have eL2 : false = laM m most := by rw [eL.out, zl']; rfl
              have F0 := Lib.hid (FV.out false eL2)
              have FB := Lib.hid (FC.out m.fin (by rw [← eL2]; rfl))
              have N7 : Hid (NX w (wr) B K (.slice ta m.ts.length tc) (.slice fa m.fs.length fc) (Mb.mk m.ts (setR m.fs A 2 k) m.front m.lim m.fin) bxE) := NN.out
              have cv : (convert 59 9 (.slice (dropA ta tc A) (i - A) (tc - A))).run Try.prog (wr).drew = .ok (.string u) (wr).drew := (ROWU.out (wr).drew (N7.out.mm.txt.of (w' := (wr).drew) fun _ _ => rfl)).str husz
              have b0 := N7.out.box.cell 0 (v := .int .i64 0) rfl
              have b1 := N7.out.box.cell 1 (v := .string ⟨#[]⟩) rfl
              have b2 := N7.out.box.cell 2 (v := .bool false) rfl
              have bf0 := N7.out.box.free 0 (by show 0 < 3; decide)
              have bf1 := N7.out.box.free 1 (by show 1 < 3; decide)
              have bf2 := N7.out.box.free 2 (by show 2 < 3; decide)
              have d0 := N7.out.mm.led.cell 0 (v := .slice ta m.ts.length tc) rfl
              have d2 := N7.out.mm.led.cell 2 (v := .int .i64 (m.front : Int)) rfl
              have NZ : Hid (NX w (((((wr).setCell ⟨K, 0, none⟩ (.int .i64 ((m.front + A : Nat) : Int))).setCell ⟨K, 1, none⟩ (.string u)).setCell ⟨K, 2, none⟩ (.bool false)).drew) B K (.slice ta m.ts.length tc) (.slice fa m.fs.length fc) (Mb.mk m.ts (setR m.fs A 2 k) m.front m.lim m.fin) [.int .i64 ((m.front + A : Nat) : Int), .string u, .bool false]) := (((N7.out.bput 0 (.int .i64 ((m.front + A : Nat) : Int)) (by decide)).bput 1 (.string u) (by decide)).bput 2 (.bool false) (by decide)).keep (drewB _ _)
              have hAi : (A : Int) ≤ (i : Int) := by omega
              have hit : (i : Int) ≤ (tc : Int) := by omega
              clear NN hl hk hk1 hk2 hst hkN hN6 hN7 hN0 htn hts husz ROWU FV FC eL
              clear N7 eL2
              replace hu := Lib.hid hu
              obtain ⟨Z, hZ⟩ : ∃ Z : Nat, m.front + A = Z := ⟨_, rfl⟩
              rw [hZ] at hwf hwf2 NZ F0
              replace hZ := Lib.hid hZ
              generalize m.fin = xf at *
              go_wp2_with fail
              go_region
              go_wp2_with fail
              generalize ((((wr).setCell ⟨K, 0, none⟩ (.int .i64 (Z : Int))).setCell ⟨K, 1, none⟩ (.string u)).setCell ⟨K, 2, none⟩ (.bool false)).drew = wf at *
              have q0 := NZ.out.box.cell 0 (v := .int .i64 (Z : Int)) rfl
              have q1 := NZ.out.box.cell 1 (v := .string u) rfl
              have q2 := NZ.out.box.cell 2 (v := .bool false) rfl
              exact bodyPost_ret (v := .tuple #[.agg #[.int .i64 (Z : Int), .string u, .bool false], .bool true]) (by simp [results, Try.results11, go_sem, q0, q1, q2]) rfl ⟨F0.out, by rw [FB.out]; exact NZ.out.mm, NZ.out.kp⟩
          · have g1 : decide ((i : Int) < (X : Int)) = false := decide_eq_false (by omega)
            have g1' : decide (i < X) = false := decide_eq_false x1
            by_cases he : i = m.fs.length
            · have zl : ((i : Int) == (m.fs.length : Int)) = true := by rw [beq_iff_eq]; omega
              have zl' : decide (i = m.fs.length) = true := decide_eq_true he
              replace he := Lib.hid he
              by_cases hf0 : m.fin = 0
              · have zf : (m.fin != 0) = false := by simpa using hf0
                have eL2 : false = laM m most := by rw [eL.out, zf, Bool.and_false]
                replace hf0 := Lib.hid hf0
                have F0 := Lib.hid (FV.out false eL2)
                have FB := Lib.hid (FC.out m.fin (by rw [← eL2]; rfl))
                have N7 : Hid (NX w (wr) B K (.slice ta m.ts.length tc) (.slice fa m.fs.length fc) (Mb.mk m.ts (setR m.fs A 2 k) m.front m.lim m.fin) bxE) := NN.out
                have cv : (convert 59 9 (.slice (dropA ta tc A) (i - A) (tc - A))).run Try.prog (wr).drew = .ok (.string u) (wr).drew := (ROWU.out (wr).drew (N7.out.mm.txt.of (w' := (wr).drew) fun _ _ => rfl)).str husz
                have b0 := N7.out.box.cell 0 (v := .int .i64 0) rfl
                have b1 := N7.out.box.cell 1 (v := .string ⟨#[]⟩) rfl
                have b2 := N7.out.box.cell 2 (v := .bool false) rfl
                have bf0 := N7.out.box.free 0 (by show 0 < 3; decide)
                have bf1 := N7.out.box.free 1 (by show 1 < 3; decide)
                have bf2 := N7.out.box.free 2 (by show 2 < 3; decide)
                have d0 := N7.out.mm.led.cell 0 (v := .slice ta m.ts.length tc) rfl
                have d2 := N7.out.mm.led.cell 2 (v := .int .i64 (m.front : Int)) rfl
                have NZ : Hid (NX w (((((wr).setCell ⟨K, 0, none⟩ (.int .i64 ((m.front + A : Nat) : Int))).setCell ⟨K, 1, none⟩ (.string u)).setCell ⟨K, 2, none⟩ (.bool false)).drew) B K (.slice ta m.ts.length tc) (.slice fa m.fs.length fc) (Mb.mk m.ts (setR m.fs A 2 k) m.front m.lim m.fin) [.int .i64 ((m.front + A : Nat) : Int), .string u, .bool false]) := (((N7.out.bput 0 (.int .i64 ((m.front + A : Nat) : Int)) (by decide)).bput 1 (.string u) (by decide)).bput 2 (.bool false) (by decide)).keep (drewB _ _)
                have hAi : (A : Int) ≤ (i : Int) := by omega
                have hit : (i : Int) ≤ (tc : Int) := by omega
                clear NN hl hk hk1 hk2 hst hkN hN6 hN7 hN0 htn hts husz ROWU FV FC eL
                clear N7 eL2
                replace hu := Lib.hid hu
                obtain ⟨Z, hZ⟩ : ∃ Z : Nat, m.front + A = Z := ⟨_, rfl⟩
                rw [hZ] at hwf hwf2 NZ F0
                replace hZ := Lib.hid hZ
                generalize m.fin = xf at *
                go_wp2_with fail
                go_region
                go_wp2_with fail
                generalize ((((wr).setCell ⟨K, 0, none⟩ (.int .i64 (Z : Int))).setCell ⟨K, 1, none⟩ (.string u)).setCell ⟨K, 2, none⟩ (.bool false)).drew = wf at *
                have q0 := NZ.out.box.cell 0 (v := .int .i64 (Z : Int)) rfl
                have q1 := NZ.out.box.cell 1 (v := .string u) rfl
                have q2 := NZ.out.box.cell 2 (v := .bool false) rfl
                exact bodyPost_ret (v := .tuple #[.agg #[.int .i64 (Z : Int), .string u, .bool false], .bool true]) (by simp [results, Try.results11, go_sem, q0, q1, q2]) rfl ⟨F0.out, by rw [FB.out]; exact NZ.out.mm, NZ.out.kp⟩
              · have zf : (m.fin != 0) = true := by simpa using hf0
                have eL2 : true = laM m most := by rw [eL.out, zf, zl']; rfl
                replace hf0 := Lib.hid hf0
                have F0 := Lib.hid (FV.out true eL2)
                have FB := Lib.hid (FC.out 2 (by rw [← eL2]; rfl))
                have N7 : Hid (NX w (wr.setCell ⟨B, 4, none⟩ (.int .u8 2)) B K (.slice ta m.ts.length tc) (.slice fa m.fs.length fc) (Mb.mk m.ts (setR m.fs A 2 k) m.front m.lim 2) bxE) := NN.out.put 4 (.int .u8 2) (by decide) rfl rfl rfl
                have cv : (convert 59 9 (.slice (dropA ta tc A) (i - A) (tc - A))).run Try.prog (wr.setCell ⟨B, 4, none⟩ (.int .u8 2)).drew = .ok (.string u) (wr.setCell ⟨B, 4, none⟩ (.int .u8 2)).drew := (ROWU.out (wr.setCell ⟨B, 4, none⟩ (.int .u8 2)).drew (N7.out.mm.txt.of (w' := (wr.setCell ⟨B, 4, none⟩ (.int .u8 2)).drew) fun _ _ => rfl)).str husz
                have b0 := N7.out.box.cell 0 (v := .int .i64 0) rfl
                have b1 := N7.out.box.cell 1 (v := .string ⟨#[]⟩) rfl
                have b2 := N7.out.box.cell 2 (v := .bool false) rfl
                have bf0 := N7.out.box.free 0 (by show 0 < 3; decide)
                have bf1 := N7.out.box.free 1 (by show 1 < 3; decide)
                have bf2 := N7.out.box.free 2 (by show 2 < 3; decide)
                have d0 := N7.out.mm.led.cell 0 (v := .slice ta m.ts.length tc) rfl
                have d2 := N7.out.mm.led.cell 2 (v := .int .i64 (m.front : Int)) rfl
                have NZ : Hid (NX w (((((wr.setCell ⟨B, 4, none⟩ (.int .u8 2)).setCell ⟨K, 0, none⟩ (.int .i64 ((m.front + A : Nat) : Int))).setCell ⟨K, 1, none⟩ (.string u)).setCell ⟨K, 2, none⟩ (.bool true)).drew) B K (.slice ta m.ts.length tc) (.slice fa m.fs.length fc) (Mb.mk m.ts (setR m.fs A 2 k) m.front m.lim 2) [.int .i64 ((m.front + A : Nat) : Int), .string u, .bool true]) := (((N7.out.bput 0 (.int .i64 ((m.front + A : Nat) : Int)) (by decide)).bput 1 (.string u) (by decide)).bput 2 (.bool true) (by decide)).keep (drewB _ _)
                have hAi : (A : Int) ≤ (i : Int) := by omega
                have hit : (i : Int) ≤ (tc : Int) := by omega
                clear NN hl hk hk1 hk2 hst hkN hN6 hN7 hN0 htn hts husz ROWU FV FC eL
                clear N7 eL2
                replace hu := Lib.hid hu
                obtain ⟨Z, hZ⟩ : ∃ Z : Nat, m.front + A = Z := ⟨_, rfl⟩
                rw [hZ] at hwf hwf2 NZ F0
                replace hZ := Lib.hid hZ
                generalize m.fin = xf at *
                go_wp2_with fail
                go_region
                go_wp2_with fail
                generalize ((((wr.setCell ⟨B, 4, none⟩ (.int .u8 2)).setCell ⟨K, 0, none⟩ (.int .i64 (Z : Int))).setCell ⟨K, 1, none⟩ (.string u)).setCell ⟨K, 2, none⟩ (.bool true)).drew = wf at *
                have q0 := NZ.out.box.cell 0 (v := .int .i64 (Z : Int)) rfl
                have q1 := NZ.out.box.cell 1 (v := .string u) rfl
                have q2 := NZ.out.box.cell 2 (v := .bool true) rfl
                exact bodyPost_ret (v := .tuple #[.agg #[.int .i64 (Z : Int), .string u, .bool true], .bool true]) (by simp [results, Try.results11, go_sem, q0, q1, q2]) rfl ⟨F0.out, by rw [FB.out]; exact NZ.out.mm, NZ.out.kp⟩
            · have zl : ((i : Int) == (m.fs.length : Int)) = false := by rw [beq_eq_false_iff_ne]; omega
              have zl' : decide (i = m.fs.length) = false := decide_eq_false (by omega)
              have eL2 : false = laM m most := by rw [eL.out, zl']; rfl
              have F0 := Lib.hid (FV.out false eL2)
              have FB := Lib.hid (FC.out m.fin (by rw [← eL2]; rfl))
              have N7 : Hid (NX w (wr) B K (.slice ta m.ts.length tc) (.slice fa m.fs.length fc) (Mb.mk m.ts (setR m.fs A 2 k) m.front m.lim m.fin) bxE) := NN.out
              have cv : (convert 59 9 (.slice (dropA ta tc A) (i - A) (tc - A))).run Try.prog (wr).drew = .ok (.string u) (wr).drew := (ROWU.out (wr).drew (N7.out.mm.txt.of (w' := (wr).drew) fun _ _ => rfl)).str husz
              have b0 := N7.out.box.cell 0 (v := .int .i64 0) rfl
              have b1 := N7.out.box.cell 1 (v := .string ⟨#[]⟩) rfl
              have b2 := N7.out.box.cell 2 (v := .bool false) rfl
              have bf0 := N7.out.box.free 0 (by show 0 < 3; decide)
              have bf1 := N7.out.box.free 1 (by show 1 < 3; decide)
              have bf2 := N7.out.box.free 2 (by show 2 < 3; decide)
              have d0 := N7.out.mm.led.cell 0 (v := .slice ta m.ts.length tc) rfl
              have d2 := N7.out.mm.led.cell 2 (v := .int .i64 (m.front : Int)) rfl
              have NZ : Hid (NX w (((((wr).setCell ⟨K, 0, none⟩ (.int .i64 ((m.front + A : Nat) : Int))).setCell ⟨K, 1, none⟩ (.string u)).setCell ⟨K, 2, none⟩ (.bool false)).drew) B K (.slice ta m.ts.length tc) (.slice fa m.fs.length fc) (Mb.mk m.ts (setR m.fs A 2 k) m.front m.lim m.fin) [.int .i64 ((m.front + A : Nat) : Int), .string u, .bool false]) := (((N7.out.bput 0 (.int .i64 ((m.front + A : Nat) : Int)) (by decide)).bput 1 (.string u) (by decide)).bput 2 (.bool false) (by decide)).keep (drewB _ _)
              have hAi : (A : Int) ≤ (i : Int) := by omega
              have hit : (i : Int) ≤ (tc : Int) := by omega
              clear NN hl hk hk1 hk2 hst hkN hN6 hN7 hN0 htn hts husz ROWU FV FC eL
              clear N7 eL2
              replace hu := Lib.hid hu
              obtain ⟨Z, hZ⟩ : ∃ Z : Nat, m.front + A = Z := ⟨_, rfl⟩
              rw [hZ] at hwf hwf2 NZ F0
              replace hZ := Lib.hid hZ
              generalize m.fin = xf at *
              go_wp2_with fail
              go_region
              go_wp2_with fail
              generalize ((((wr).setCell ⟨K, 0, none⟩ (.int .i64 (Z : Int))).setCell ⟨K, 1, none⟩ (.string u)).setCell ⟨K, 2, none⟩ (.bool false)).drew = wf at *
              have q0 := NZ.out.box.cell 0 (v := .int .i64 (Z : Int)) rfl
              have q1 := NZ.out.box.cell 1 (v := .string u) rfl
              have q2 := NZ.out.box.cell 2 (v := .bool false) rfl
              exact bodyPost_ret (v := .tuple #[.agg #[.int .i64 (Z : Int), .string u, .bool false], .bool true]) (by simp [results, Try.results11, go_sem, q0, q1, q2]) rfl ⟨F0.out, by rw [FB.out]; exact NZ.out.mm, NZ.out.kp⟩
  · rw [if_neg hlt] at IB
    obtain ⟨Z, hZ⟩ : ∃ Z : Nat, Z = m.front + m.fs.length := ⟨_, rfl⟩
    by_cases en : neM m = true
    · have ev : neV m = .tuple #[.agg #[.int .i64 (Z : Int), .string ⟨#[]⟩, .bool true], .bool true] := by unfold neV; rw [if_pos en, hZ]
      have F0 : Hid (Ending.returned (.tuple #[.agg #[.int .i64 (Z : Int), .string ⟨#[]⟩, .bool true], .bool true]) = .returned (nxV m t most)) := by
        unfold Hid nxV
        rw [eF.out, ← hXX.out, if_neg hlt, ev]
      have FB : Hid (nxB m most = neB m) := by
        unfold Hid nxB
        rw [eF.out, ← hXX.out, if_neg hlt]
      rw [ev] at NE
      clear ev
      replace en := Lib.hid en
      replace hZ := Lib.hid hZ
      go_wp2_with fail
      refine (IB.out _ N6.out.mm).mono ?_
      rintro e w7 ⟨rfl, rfl⟩
      clear IB
      go_wp2_with fail
      refine (NE.out _ N6.out.mm).mono ?_
      rintro e w8 ⟨rfl, m8, k8⟩
      have N8 := Lib.hid (N6.out.call m8 k8)
      clear m8 k8 NE N6
      have b0 := N8.out.box.cell 0 (v := .int .i64 0) rfl
      have b1 := N8.out.box.cell 1 (v := .string ⟨#[]⟩) rfl
      have b2 := N8.out.box.cell 2 (v := .bool false) rfl
      have bf0 := N8.out.box.free 0 (by show 0 < 3; decide)
      have bf1 := N8.out.box.free 1 (by show 1 < 3; decide)
      have bf2 := N8.out.box.free 2 (by show 2 < 3; decide)
      have NZ : Hid (NX w ((((w8).setCell ⟨K, 0, none⟩ (.int .i64 (Z : Int))).setCell ⟨K, 1, none⟩ (.string ⟨#[]⟩)).setCell ⟨K, 2, none⟩ (.bool true)) B K tv (.slice fa m.fs.length fc) (neB m) [.int .i64 (Z : Int), .string ⟨#[]⟩, .bool true]) := ((N8.out.bput 0 (.int .i64 (Z : Int)) (by decide)).bput 1 (.string ⟨#[]⟩) (by decide)).bput 2 (.bool true) (by decide)
      clear N8
      go_wp2_with fail
      generalize (((w8).setCell ⟨K, 0, none⟩ (.int .i64 (Z : Int))).setCell ⟨K, 1, none⟩ (.string ⟨#[]⟩)).setCell ⟨K, 2, none⟩ (.bool true) = wf at *
      have q0 := NZ.out.box.cell 0 (v := .int .i64 (Z : Int)) rfl
      have q1 := NZ.out.box.cell 1 (v := .string ⟨#[]⟩) rfl
      have q2 := NZ.out.box.cell 2 (v := .bool true) rfl
      exact bodyPost_ret (v := .tuple #[.agg #[.int .i64 (Z : Int), .string ⟨#[]⟩, .bool true], .bool true]) (by simp [results, Try.results11, go_sem, q0, q1, q2]) rfl ⟨F0.out, by rw [FB.out]; exact NZ.out.mm, NZ.out.kp⟩
    · have ev : neV m = .tuple #[.agg #[.int .i64 0, .string ⟨#[]⟩, .bool false], .bool false] := by unfold neV; rw [if_neg en]; rfl
      have F0 : Hid (Ending.returned (.tuple #[.agg #[.int .i64 0, .string ⟨#[]⟩, .bool false], .bool false]) = .returned (nxV m t most)) := by
        unfold Hid nxV
        rw [eF.out, ← hXX.out, if_neg hlt, ev]
      have FB : Hid (nxB m most = neB m) := by
        unfold Hid nxB
        rw [eF.out, ← hXX.out, if_neg hlt]
      rw [ev] at NE
      clear ev
      replace en := Lib.hid en
      replace hZ := Lib.hid hZ
      go_wp2_with fail
      refine (IB.out _ N6.out.mm).mono ?_
      rintro e w7 ⟨rfl, rfl⟩
      clear IB
      go_wp2_with fail
      refine (NE.out _ N6.out.mm).mono ?_
      rintro e w8 ⟨rfl, m8, k8⟩
      have N8 := Lib.hid (N6.out.call m8 k8)
      clear m8 k8 NE N6
      have b0 := N8.out.box.cell 0 (v := .int .i64 0) rfl
      have b1 := N8.out.box.cell 1 (v := .string ⟨#[]⟩) rfl
      have b2 := N8.out.box.cell 2 (v := .bool false) rfl
      have bf0 := N8.out.box.free 0 (by show 0 < 3; decide)
      have bf1 := N8.out.box.free 1 (by show 1 < 3; decide)
      have bf2 := N8.out.box.free 2 (by show 2 < 3; decide)
      have NZ : Hid (NX w ((((w8).setCell ⟨K, 0, none⟩ (.int .i64 0)).setCell ⟨K, 1, none⟩ (.string ⟨#[]⟩)).setCell ⟨K, 2, none⟩ (.bool false)) B K tv (.slice fa m.fs.length fc) (neB m) [.int .i64 0, .string ⟨#[]⟩, .bool false]) := ((N8.out.bput 0 (.int .i64 0) (by decide)).bput 1 (.string ⟨#[]⟩) (by decide)).bput 2 (.bool false) (by decide)
      clear N8
      go_wp2_with fail
      generalize (((w8).setCell ⟨K, 0, none⟩ (.int .i64 0)).setCell ⟨K, 1, none⟩ (.string ⟨#[]⟩)).setCell ⟨K, 2, none⟩ (.bool false) = wf at *
      have q0 := NZ.out.box.cell 0 (v := .int .i64 0) rfl
      have q1 := NZ.out.box.cell 1 (v := .string ⟨#[]⟩) rfl
      have q2 := NZ.out.box.cell 2 (v := .bool false) rfl
      exact bodyPost_ret (v := .tuple #[.agg #[.int .i64 0, .string ⟨#[]⟩, .bool false], .bool false]) (by simp [results, Try.results11, go_sem, q0, q1, q2]) rfl ⟨F0.out, by rw [FB.out]; exact NZ.out.mm, NZ.out.kp⟩
end Go.Proofs.Ytdmoaeegjjenmaa
