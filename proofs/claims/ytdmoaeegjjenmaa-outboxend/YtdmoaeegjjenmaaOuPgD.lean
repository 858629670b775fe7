/-
  What the program's own Acked and Lost do. Fewer than 10^8 bytes; no other condition but what always holds of a stream.
-/
import Derived.Test.YtdmoaeegjjenmaaOuPgC
namespace Go.Proofs.Ytdmoaeegjjenmaa
set_option maxRecDepth 100000
open Go.RowKit Go.Sort

section
variable {w wr : World} {B K g o n c : Nat} {tv : Value} {m : Mb} {bx : List Value}
/-- A store into the row of what became of them. -/
theorem NX.fset (h : NX w wr B K tv (.slice (some ⟨g, o, none⟩) n c) m bx) (i : Nat) (hi : i < m.fs.length) (x : Int) : NX w (wr.setCell ⟨g, o + i, none⟩ (.int .u8 x)) B K tv (.slice (some ⟨g, o, none⟩) n c) { m with fs := m.fs.set i x } bx := by
  have e : ∀ k, k ≠ g → (wr.setCell ⟨g, o + i, none⟩ (.int .u8 x)).heap[k]? = wr.heap[k]? := fun k q => Below.heap_setCell _ _ _ _ q
  have nB : B ≠ g := fun c => h.mm.nB.2 (by rw [c]; rfl)
  refine ⟨⟨h.mm.led.of_block (e B nB), h.mm.txt.of fun k q => e k (fun c => h.mm.ap k q (by rw [c]; rfl)), h.mm.fat.set i hi x, h.mm.nB, h.mm.ap⟩, Kept.set (F := Fm B tv (.slice (some ⟨g, o, none⟩) n c)) h.kp ⟨g, o + i, none⟩ (.inr (.inr rfl)) _, h.box.of_block (e K (h.nK g (.inr (.inr rfl)))), h.ge, h.old, h.bl⟩
end
theorem NX.newB {w : World} {B : Nat} {tv fv : Value} {m : Mb} (h : MM w B tv fv m) (x y z : Value) (t : TypeId) : NX w (w.alloc (.cells #[x, y, z] t)) B w.heap.size tv fv m [x, y, z] := by
  have b : Below w.heap.size w (w.alloc (.cells #[x, y, z] t)) := (Below.refl _ _).alloc (Nat.le_refl _) _
  exact ⟨h.keep b, Kept.of _ b, Lies.new w _ _, Nat.le_refl _, h.old, rfl⟩
theorem ixM_mono (m : Mb) (p q : Int) (h : p ≤ q) : ixM m p ≤ ixM m q := by unfold ixM; omega
def ackM (m : Mb) (off : Int) (n : Nat) (f : Bool) : Mb := { m with fs := setR m.fs (ixM m off) 3 (ixM m (off + n) - ixM m off), fin := if f = true ∧ m.fin ≠ 0 then 3 else m.fin }
theorem setR_mem3 (l : List Int) (off : Nat) (x : Int) (n : Nat) (h : ∀ y ∈ l, 1 ≤ y ∧ y ≤ 3) (hx : 1 ≤ x ∧ x ≤ 3) : ∀ y ∈ setR l off x n, 1 ≤ y ∧ y ≤ 3 := fun y hy => by
  rcases setR_mem l off x n y hy with q | q
  · exact h y q
  · rw [q]; exact hx
theorem MOk.ack {m : Mb} (h : MOk m) (off : Int) (n : Nat) (f : Bool) : MOk (ackM m off n f) := ⟨by show m.ts.length = (setR ..).length; rw [setR_len]; exact h.len, setR_mem3 _ _ _ _ h.fs ⟨by decide, by decide⟩, by
  have := h.fin
  show 0 ≤ (if f = true ∧ m.fin ≠ 0 then 3 else m.fin) ∧ (if f = true ∧ m.fin ≠ 0 then 3 else m.fin) ≤ 3
  split <;> omega, h.lim, by show m.front + (setR ..).length < _; rw [setR_len]; exact h.small⟩
set_option maxHeartbeats 8000000 in
theorem acked_ok (w : World) (B : Nat) (tv fv : Value) (m : Mb) (off : Int) (data : ByteArray) (f : Bool) (h : MM w B tv fv m) (ok : MOk m) (h1 : In64 off) (h2 : In64 (off + data.size)) :
    Calls Try.prog 14 #[ptr B, .agg #[.int .i64 off, .string data, .bool f]] w fun e w' => e = .returned (.tuple #[]) ∧ ∃ tv' fv', MM w' B tv' fv' (fgB (ackM m off data.size f)) ∧ tv'.ownBlock = tv.ownBlock ∧ fv'.ownBlock = fv.ownBlock ∧ Kept (Fm B tv fv) w w' := by
  obtain ⟨wa, hwa⟩ : ∃ wa, wa = w.alloc (.cells #[.int .i64 off, .string data, .bool f] 33) := ⟨_, rfl⟩
  have N0 : Hid (NX w wa B w.heap.size tv fv m [.int .i64 off, .string data, .bool f]) := by rw [hwa]; exact NX.newB h _ _ _ _
  have PT := Lib.hid (part_ok wa B tv fv m off data f N0.out.mm ok h1 h2)
  have FG : Hid (∀ w', MM w' B tv fv (ackM m off data.size f) → _) := fun w' h' => forget_ok w' B tv fv (ackM m off data.size f) h' (ok.ack off data.size f)
  have hXY := ixM_mono m off (off + data.size) (by omega)
  have hY := ixM_le m (off + data.size)
  have hsm := ok.small
  have eA : Hid (∀ fs x, fs = setR m.fs (ixM m off) 3 (ixM m (off + data.size) - ixM m off) → x = (if f = true ∧ m.fin ≠ 0 then 3 else m.fin) → Mb.mk m.ts fs m.front m.lim x = ackM m off data.size f) := fun fs x e1 e2 => by rw [e1, e2]; rfl
  obtain ⟨K, hK⟩ : ∃ K, K = w.heap.size := ⟨_, rfl⟩
  rw [← hK] at N0
  have b0 := N0.out.box.cell 0 (v := .int .i64 off) rfl
  have b1 := N0.out.box.cell 1 (v := .string data) rfl
  have b2 := N0.out.box.cell 2 (v := .bool f) rfl
  clear h ok h1 h2
  generalize ixM m off = X at *
  generalize ixM m (off + data.size) = Y at *
  go_enter Try.func14, Try.ntmps14
  go_wp2_with fail
  rw [← hwa, ← hK]
  clear hwa
  replace hK := Lib.hid hK
  refine PT.out.mono ?_
  rintro e w1 ⟨rfl, bb1⟩
  have N1 := Lib.hid (N0.out.keep bb1)
  clear PT N0 bb1 b0 b1 b2
  go_wp2_with fail
  go_loopg [6] (Y - X) (fun g' iv wr => ∃ k i : Nat, Hid (k + g' = Y - X ∧ i = X + k ∧ i ≤ Y) ∧ iv = .int .i64 (i : Int) ∧ Hid (NX w wr B K tv fv { m with fs := setR m.fs X 3 k } [.int .i64 off, .string data, .bool f]))
  case atStart => exact ⟨0, X, ⟨by omega, by omega, by omega⟩, rfl, N1⟩
  case round =>
    clear N1
    obtain ⟨k, i, hk, rfl, N⟩ := hrel
    obtain ⟨hk1, hk2, hk3⟩ := hk.out
    by_cases hlt : i < Y
    · have g1 : decide ((i : Int) < (Y : Int)) = true := decide_eq_true (by omega)
      have g1' : decide (i < Y) = true := decide_eq_true hlt
      have hl : (setR m.fs X 3 k).length = m.fs.length := setR_len _ _ _ _
      obtain ⟨fa, fn, fc, rfl⟩ := N.out.mm.fat.form
      obtain ⟨g, o, rfl⟩ := N.out.mm.fat.at (by show 0 < (setR m.fs X 3 k).length; omega)
      have hfn : fn = (setR m.fs X 3 k).length := N.out.mm.fat.get.1
      have ia := fun w' => at_u8 g o fn fc i w' (by omega) (i : Int) rfl (o + i) rfl
      obtain ⟨cc, cf⟩ := N.out.mm.fat.cell i (by show i < (setR m.fs X 3 k).length; omega)
      have c1 := N.out.mm.led.cell 1 (v := .slice (some ⟨g, o, none⟩) fn fc) rfl
      have hms : Hid (Y - X - (k + 1) < gk) := by unfold Hid; omega
      have hk4 : Hid (k + 1 + (Y - X - (k + 1)) = Y - X ∧ i + 1 = X + (k + 1) ∧ i + 1 ≤ Y) := by unfold Hid; omega
      have hib : i < 100000000 := by omega
      have N2 := N.out.fset i (by show i < (setR m.fs X 3 k).length; omega) 3
      have e2 : (setR m.fs X 3 k).set i 3 = setR m.fs X 3 (k + 1) := by rw [hk2]; rfl
      change NX _ _ _ _ _ _ { m with fs := (setR m.fs X 3 k).set i 3 } _ at N2
      rw [e2] at N2
      clear e2
      generalize (setR m.fs X 3 k).getD i 0 = y at *
      replace N2 := Lib.hid N2
      clear N hl hfn hk hk1 hk2 hk3
      go_wp2_with fail
      go_roundg (Y - X - (k + 1))
      case measure => exact hms.out
      case rel => exact ⟨k + 1, i + 1, hk4, by go_num, N2⟩
    · have g1 : decide ((i : Int) < (Y : Int)) = false := decide_eq_false (by omega)
      have g1' : decide (i < Y) = false := decide_eq_false hlt
      obtain rfl : k = Y - X := by omega
      have b2 := N.out.box.cell 2 (v := .bool f) rfl
      have c4 := N.out.mm.led.cell 4 (v := .int .u8 m.fin) rfl
      have f4 := N.out.mm.led.free 4 (by show 4 < 5; decide)
      clear hk hk1 hk2 hk3
      cases hf : f with
      | false =>
        rw [hf] at b2
        have hfx : m.fin = if f = true ∧ m.fin ≠ 0 then 3 else m.fin := by rw [hf]; rfl
        replace hf := Lib.hid hf
        have M2 : Hid (MM wr B tv fv (ackM m off data.size f)) := by
          have := N.out.mm
          have e3 := eA.out (setR m.fs X 3 (Y - X)) m.fin rfl hfx
          change MM _ _ _ _ (Mb.mk m.ts (setR m.fs X 3 (Y - X)) m.front m.lim m.fin) at this
          rw [e3] at this
          exact this
        have K2 : Hid (Kept (Fm B tv fv) w wr) := N.out.kp
        replace hfx := Lib.hid hfx
        clear N eA
        generalize m.fin = x at *
        go_wp2_with fail
        refine (FG.out _ M2.out).mono ?_
        rintro e w3 ⟨rfl, tv3, fv3, q1, q2, q3, q4⟩
        have FI : Hid (∃ tv' fv', MM w3 B tv' fv' (fgB (ackM m off data.size f)) ∧ tv'.ownBlock = tv.ownBlock ∧ fv'.ownBlock = fv.ownBlock ∧ Kept (Fm B tv fv) w w3) := ⟨tv3, fv3, q1, q2, q3, K2.out.trans q4⟩
        clear q1 q2 q3 q4 M2 K2 FG
        go_wp2_with fail
        go_end0
        exact ⟨rfl, FI.out⟩
      | true =>
        rw [hf] at b2
        by_cases e4 : m.fin = 0
        · have z4 : (m.fin != 0) = false := by simpa using e4
          have hfx : m.fin = if f = true ∧ m.fin ≠ 0 then 3 else m.fin := by rw [if_neg (fun q => q.2 e4)]
          replace hf := Lib.hid hf
          replace e4 := Lib.hid e4
          have M2 : Hid (MM wr B tv fv (ackM m off data.size f)) := by
            have := N.out.mm
            have e3 := eA.out (setR m.fs X 3 (Y - X)) m.fin rfl hfx
            change MM _ _ _ _ (Mb.mk m.ts (setR m.fs X 3 (Y - X)) m.front m.lim m.fin) at this
            rw [e3] at this
            exact this
          have K2 : Hid (Kept (Fm B tv fv) w wr) := N.out.kp
          replace hfx := Lib.hid hfx
          clear N eA
          generalize m.fin = x at *
          go_wp2_with fail
          refine (FG.out _ M2.out).mono ?_
          rintro e w3 ⟨rfl, tv3, fv3, q1, q2, q3, q4⟩
          have FI : Hid (∃ tv' fv', MM w3 B tv' fv' (fgB (ackM m off data.size f)) ∧ tv'.ownBlock = tv.ownBlock ∧ fv'.ownBlock = fv.ownBlock ∧ Kept (Fm B tv fv) w w3) := ⟨tv3, fv3, q1, q2, q3, K2.out.trans q4⟩
          clear q1 q2 q3 q4 M2 K2 FG
          go_wp2_with fail
          go_end0
          exact ⟨rfl, FI.out⟩
        · have z4 : (m.fin != 0) = true := by simpa using e4
          have hfx : (3 : Int) = if f = true ∧ m.fin ≠ 0 then 3 else m.fin := by rw [if_pos ⟨hf, e4⟩]
          replace hf := Lib.hid hf
          replace e4 := Lib.hid e4
          have M2 : Hid (MM (wr.setCell ⟨B, 4, none⟩ (.int .u8 3)) B tv fv (ackM m off data.size f)) := by
            have := N.out.mm.put 4 (m' := Mb.mk m.ts (setR m.fs X 3 (Y - X)) m.front m.lim 3) (.int .u8 3) (by decide) rfl rfl rfl
            rw [eA.out _ 3 rfl hfx] at this
            exact this
          have K2 : Hid (Kept (Fm B tv fv) w (wr.setCell ⟨B, 4, none⟩ (.int .u8 3))) := keptM _ B 4 tv fv _ N.out.kp
          replace hfx := Lib.hid hfx
          clear N eA
          generalize m.fin = x at *
          go_wp2_with fail
          refine (FG.out _ M2.out).mono ?_
          rintro e w3 ⟨rfl, tv3, fv3, q1, q2, q3, q4⟩
          have FI : Hid (∃ tv' fv', MM w3 B tv' fv' (fgB (ackM m off data.size f)) ∧ tv'.ownBlock = tv.ownBlock ∧ fv'.ownBlock = fv.ownBlock ∧ Kept (Fm B tv fv) w w3) := ⟨tv3, fv3, q1, q2, q3, K2.out.trans q4⟩
          clear q1 q2 q3 q4 M2 K2 FG
          go_wp2_with fail
          go_end0
          exact ⟨rfl, FI.out⟩
def lostM (fs : List Int) (X : Nat) : Nat → List Int
  | 0 => fs
  | n + 1 => if (lostM fs X n).getD (X + n) 0 = 2 then (lostM fs X n).set (X + n) 1 else lostM fs X n
theorem lostM_len (fs : List Int) (X : Nat) : ∀ n, (lostM fs X n).length = fs.length
  | 0 => rfl
  | n + 1 => by
    unfold lostM
    split
    · rw [List.length_set, lostM_len fs X n]
    · exact lostM_len fs X n
theorem lostM_mem (fs : List Int) (X : Nat) : ∀ n y, y ∈ lostM fs X n → y ∈ fs ∨ y = 1
  | 0, y, h => .inl h
  | n + 1, y, h => by
    unfold lostM at h
    split at h
    · rcases set_mem h with q | q
      · exact lostM_mem fs X n y q
      · exact .inr q
    · exact lostM_mem fs X n y h
def lstM (m : Mb) (off : Int) (n : Nat) (f : Bool) : Mb := { m with fs := lostM m.fs (ixM m off) (ixM m (off + n) - ixM m off), fin := if f = true ∧ m.fin = 2 then 1 else m.fin }
set_option maxHeartbeats 8000000 in
theorem lost_ok (w : World) (B : Nat) (tv fv : Value) (m : Mb) (off : Int) (data : ByteArray) (f : Bool) (h : MM w B tv fv m) (ok : MOk m) (h1 : In64 off) (h2 : In64 (off + data.size)) :
    Calls Try.prog 16 #[ptr B, .agg #[.int .i64 off, .string data, .bool f]] w fun e w' => e = .returned (.tuple #[]) ∧ MM w' B tv fv (lstM m off data.size f) ∧ Kept (Fm B tv fv) w w' := by
  obtain ⟨wa, hwa⟩ : ∃ wa, wa = w.alloc (.cells #[.int .i64 off, .string data, .bool f] 33) := ⟨_, rfl⟩
  have N0 : Hid (NX w wa B w.heap.size tv fv m [.int .i64 off, .string data, .bool f]) := by rw [hwa]; exact NX.newB h _ _ _ _
  have PT := Lib.hid (part_ok wa B tv fv m off data f N0.out.mm ok h1 h2)
  have hXY := ixM_mono m off (off + data.size) (by omega)
  have hY := ixM_le m (off + data.size)
  have hsm := ok.small
  have eA : Hid (∀ fs x, fs = lostM m.fs (ixM m off) (ixM m (off + data.size) - ixM m off) → x = (if f = true ∧ m.fin = 2 then 1 else m.fin) → Mb.mk m.ts fs m.front m.lim x = lstM m off data.size f) := fun fs x e1 e2 => by rw [e1, e2]; rfl
  obtain ⟨K, hK⟩ : ∃ K, K = w.heap.size := ⟨_, rfl⟩
  rw [← hK] at N0
  have b0 := N0.out.box.cell 0 (v := .int .i64 off) rfl
  have b1 := N0.out.box.cell 1 (v := .string data) rfl
  have b2 := N0.out.box.cell 2 (v := .bool f) rfl
  clear h ok h1 h2
  generalize ixM m off = X at *
  generalize ixM m (off + data.size) = Y at *
  go_enter Try.func16, Try.ntmps16
  go_wp2_with fail
  rw [← hwa, ← hK]
  clear hwa
  replace hK := Lib.hid hK
  refine PT.out.mono ?_
  rintro e w1 ⟨rfl, bb1⟩
  have N1 := Lib.hid (N0.out.keep bb1)
  clear PT N0 bb1 b0 b1 b2
  go_wp2_with fail
  go_loopg [6] (Y - X) (fun g' iv wr => ∃ k i : Nat, Hid (k + g' = Y - X ∧ i = X + k ∧ i ≤ Y) ∧ iv = .int .i64 (i : Int) ∧ Hid (NX w wr B K tv fv { m with fs := lostM m.fs X k } [.int .i64 off, .string data, .bool f]))
  case atStart => exact ⟨0, X, ⟨by omega, by omega, by omega⟩, rfl, N1⟩
  case round =>
    clear N1
    obtain ⟨k, i, hk, rfl, N⟩ := hrel
    obtain ⟨hk1, hk2, hk3⟩ := hk.out
    by_cases hlt : i < Y
    · have g1 : decide ((i : Int) < (Y : Int)) = true := decide_eq_true (by omega)
      have g1' : decide (i < Y) = true := decide_eq_true hlt
      have hl : (lostM m.fs X k).length = m.fs.length := lostM_len _ _ _
      obtain ⟨fa, fn, fc, rfl⟩ := N.out.mm.fat.form
      obtain ⟨g, o, rfl⟩ := N.out.mm.fat.at (by show 0 < (lostM m.fs X k).length; omega)
      have hfn : fn = (lostM m.fs X k).length := N.out.mm.fat.get.1
      have ia := fun w' => at_u8 g o fn fc i w' (by omega) (i : Int) rfl (o + i) rfl
      obtain ⟨cc, cf⟩ := N.out.mm.fat.cell i (by show i < (lostM m.fs X k).length; omega)
      have c1 := N.out.mm.led.cell 1 (v := .slice (some ⟨g, o, none⟩) fn fc) rfl
      have hms : Hid (Y - X - (k + 1) < gk) := by unfold Hid; omega
      have hk4 : Hid (k + 1 + (Y - X - (k + 1)) = Y - X ∧ i + 1 = X + (k + 1) ∧ i + 1 ≤ Y) := by unfold Hid; omega
      have hib : i < 100000000 := by omega
      by_cases e5 : (lostM m.fs X k).getD i 0 = 2
      · have z5 : ((lostM m.fs X k).getD i 0 == 2) = true := by simpa using e5
        have N2 := N.out.fset i (by show i < (lostM m.fs X k).length; omega) 1
        have e2 : (lostM m.fs X k).set i 1 = lostM m.fs X (k + 1) := by
          rw [hk2] at e5 ⊢
          show _ = if (lostM m.fs X k).getD (X + k) 0 = 2 then (lostM m.fs X k).set (X + k) 1 else lostM m.fs X k
          rw [if_pos e5]
        change NX _ _ _ _ _ _ { m with fs := (lostM m.fs X k).set i 1 } _ at N2
        rw [e2] at N2
        clear e2
        generalize (lostM m.fs X k).getD i 0 = y at *
        replace e5 := Lib.hid e5
        replace N2 := Lib.hid N2
        clear N hl hfn hk hk1 hk2 hk3
        go_wp2_with fail
        go_roundg (Y - X - (k + 1))
        case measure => exact hms.out
        case rel => exact ⟨k + 1, i + 1, hk4, by go_num, N2⟩
      · have z5 : ((lostM m.fs X k).getD i 0 == 2) = false := by simpa using e5
        have N2 := N.out
        have e2 : lostM m.fs X k = lostM m.fs X (k + 1) := by
          rw [hk2] at e5
          show _ = if (lostM m.fs X k).getD (X + k) 0 = 2 then (lostM m.fs X k).set (X + k) 1 else lostM m.fs X k
          rw [if_neg e5]
        change NX _ _ _ _ _ _ { m with fs := lostM m.fs X k } _ at N2
        rw [e2] at N2
        clear e2
        generalize (lostM m.fs X k).getD i 0 = y at *
        replace e5 := Lib.hid e5
        replace N2 := Lib.hid N2
        clear N hl hfn hk hk1 hk2 hk3
        go_wp2_with fail
        go_roundg (Y - X - (k + 1))
        case measure => exact hms.out
        case rel => exact ⟨k + 1, i + 1, hk4, by go_num, N2⟩
    · have g1 : decide ((i : Int) < (Y : Int)) = false := decide_eq_false (by omega)
      have g1' : decide (i < Y) = false := decide_eq_false hlt
      obtain rfl : k = Y - X := by omega
      have b2 := N.out.box.cell 2 (v := .bool f) rfl
      have c4 := N.out.mm.led.cell 4 (v := .int .u8 m.fin) rfl
      have f4 := N.out.mm.led.free 4 (by show 4 < 5; decide)
      clear hk hk1 hk2 hk3
      cases hf : f with
      | false =>
        rw [hf] at b2
        have hfx : m.fin = if f = true ∧ m.fin = 2 then 1 else m.fin := by rw [hf]; rfl
        replace hf := Lib.hid hf
        have M2 : Hid (MM wr B tv fv (lstM m off data.size f)) := by
          have := N.out.mm
          have e3 := eA.out (lostM m.fs X (Y - X)) m.fin rfl hfx
          change MM _ _ _ _ (Mb.mk m.ts (lostM m.fs X (Y - X)) m.front m.lim m.fin) at this
          rw [e3] at this
          exact this
        have K2 : Hid (Kept (Fm B tv fv) w wr) := N.out.kp
        replace hfx := Lib.hid hfx
        clear N eA
        generalize m.fin = x at *
        go_wp2_with fail
        go_end0
        exact ⟨rfl, M2.out, K2.out⟩
      | true =>
        rw [hf] at b2
        by_cases e4 : m.fin = 2
        · have z4 : (m.fin == 2) = true := by simpa using e4
          have hfx : (1 : Int) = if f = true ∧ m.fin = 2 then 1 else m.fin := by rw [if_pos ⟨hf, e4⟩]
          replace hf := Lib.hid hf
          replace e4 := Lib.hid e4
          have M2 : Hid (MM (wr.setCell ⟨B, 4, none⟩ (.int .u8 1)) B tv fv (lstM m off data.size f)) := by
            have := N.out.mm.put 4 (m' := Mb.mk m.ts (lostM m.fs X (Y - X)) m.front m.lim 1) (.int .u8 1) (by decide) rfl rfl rfl
            rw [eA.out _ 1 rfl hfx] at this
            exact this
          have K2 : Hid (Kept (Fm B tv fv) w (wr.setCell ⟨B, 4, none⟩ (.int .u8 1))) := keptM _ B 4 tv fv _ N.out.kp
          replace hfx := Lib.hid hfx
          clear N eA
          generalize m.fin = x at *
          go_wp2_with fail
          go_end0
          exact ⟨rfl, M2.out, K2.out⟩
        · have z4 : (m.fin == 2) = false := by simpa using e4
          have hfx : m.fin = if f = true ∧ m.fin = 2 then 1 else m.fin := by rw [if_neg (fun q => e4 q.2)]
          replace hf := Lib.hid hf
          replace e4 := Lib.hid e4
          have M2 : Hid (MM wr B tv fv (lstM m off data.size f)) := by
            have := N.out.mm
            have e3 := eA.out (lostM m.fs X (Y - X)) m.fin rfl hfx
            change MM _ _ _ _ (Mb.mk m.ts (lostM m.fs X (Y - X)) m.front m.lim m.fin) at this
            rw [e3] at this
            exact this
          have K2 : Hid (Kept (Fm B tv fv) w wr) := N.out.kp
          replace hfx := Lib.hid hfx
          clear N eA
          generalize m.fin = x at *
          go_wp2_with fail
          go_end0
          exact ⟨rfl, M2.out, K2.out⟩
end Go.Proofs.Ytdmoaeegjjenmaa
