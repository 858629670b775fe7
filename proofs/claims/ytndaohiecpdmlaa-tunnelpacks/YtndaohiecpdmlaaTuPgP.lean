/-
  What the program's own Pack and Unpack answer of any emission and any bytes. No condition but what the form allows.
-/
import Derived.Test.YtndaohiecpdmlaaTuPgPa
namespace Go.Proofs.Ytndaohiecpdmlaa
set_option maxRecDepth 100000
open Go.RowKit Go.Sort

theorem isList {P : Program} {ops : Array Oper} {rest : List Oper} {o : Oper} {a : Act} {w : World} {Q : Exit → Act → World → Prop} (h : wpList P ops Q (o :: rest) a w) : wpList P ops Q (o :: rest) a w := h
set_option maxHeartbeats 4000000 in
theorem ppack_no1 (m : Em) (w : World) (h : isP m.port = false) : Calls Try.prog 6 #[emV m] w fun e w' => e = .returned (.string ⟨#[]⟩) ∧ Below w.heap.size w w' := by
  have P1 := Lib.hid fun w' => pport_ok m.port w'
  have P2 := Lib.hid fun w' => pport_ok m.to w'
  have b0 : Below w.heap.size w (w.alloc (.cells #[.bool m.ip, .int .i64 m.port, .int .u32 m.addr, .int .i64 m.to, .string m.data] 24)) := (Below.refl _ _).alloc (Nat.le_refl _) _
  have LE : Lies (w.alloc (.cells #[.bool m.ip, .int .i64 m.port, .int .u32 m.addr, .int .i64 m.to, .string m.data] 24)) w.heap.size [.bool m.ip, .int .i64 m.port, .int .u32 m.addr, .int .i64 m.to, .string m.data] := Lies.new w [.bool m.ip, .int .i64 m.port, .int .u32 m.addr, .int .i64 m.to, .string m.data] _
  obtain ⟨we, hwe⟩ : ∃ x, x = w.alloc (.cells #[.bool m.ip, .int .i64 m.port, .int .u32 m.addr, .int .i64 m.to, .string m.data] 24) := ⟨_, rfl⟩
  rw [← hwe] at b0 LE
  replace hwe := Lib.hid hwe
  replace b0 := Lib.hid b0
  clear P2
  rw [h] at P1
  obtain ⟨ip, port, addr, to, data⟩ := m
  unfold emV
  simp only at *
  go_enter Try.func6, Try.ntmps6
  go_upto_region 1 with fail
  rw [← hwe.out]
  clear hwe
  have e0 := LE.cell 0 rfl; have e1 := LE.cell 1 rfl; have e2 := LE.cell 2 rfl; have e3 := LE.cell 3 rfl; have e4 := LE.cell 4 rfl
  clear LE
  go_wp2_with (first
    | (go_at_call_of 17 port; refine (P1.out _).mono ?_; rintro e w' ⟨rfl, rfl⟩))
  go_ret
  exact ⟨rfl, b0.out⟩
set_option maxHeartbeats 4000000 in
theorem ppack_no2 (m : Em) (w : World) (h : isP m.port = true) (h2 : isP m.to = false) : Calls Try.prog 6 #[emV m] w fun e w' => e = .returned (.string ⟨#[]⟩) ∧ Below w.heap.size w w' := by
  have P1 := Lib.hid fun w' => pport_ok m.port w'
  have P2 := Lib.hid fun w' => pport_ok m.to w'
  have b0 : Below w.heap.size w (w.alloc (.cells #[.bool m.ip, .int .i64 m.port, .int .u32 m.addr, .int .i64 m.to, .string m.data] 24)) := (Below.refl _ _).alloc (Nat.le_refl _) _
  have LE : Lies (w.alloc (.cells #[.bool m.ip, .int .i64 m.port, .int .u32 m.addr, .int .i64 m.to, .string m.data] 24)) w.heap.size [.bool m.ip, .int .i64 m.port, .int .u32 m.addr, .int .i64 m.to, .string m.data] := Lies.new w [.bool m.ip, .int .i64 m.port, .int .u32 m.addr, .int .i64 m.to, .string m.data] _
  obtain ⟨we, hwe⟩ : ∃ x, x = w.alloc (.cells #[.bool m.ip, .int .i64 m.port, .int .u32 m.addr, .int .i64 m.to, .string m.data] 24) := ⟨_, rfl⟩
  rw [← hwe] at b0 LE
  replace hwe := Lib.hid hwe
  replace b0 := Lib.hid b0
  rw [h] at P1
  rw [h2] at P2
  obtain ⟨ip, port, addr, to, data⟩ := m
  unfold emV
  simp only at *
  go_enter Try.func6, Try.ntmps6
  go_upto_region 1 with fail
  rw [← hwe.out]
  clear hwe
  have e0 := LE.cell 0 rfl; have e1 := LE.cell 1 rfl; have e2 := LE.cell 2 rfl; have e3 := LE.cell 3 rfl; have e4 := LE.cell 4 rfl
  clear LE
  by_cases hpt : port = to
  · subst hpt
    rw [h] at h2
    exact absurd h2 (by decide)
  clear h h2
  go_wp2_with (first
    | (go_at_call_of 17 port; refine (P1.out _).mono ?_; rintro e w' ⟨rfl, rfl⟩)
    | (go_at_call_of 17 to; refine (P2.out _).mono ?_; rintro e w' ⟨rfl, rfl⟩))
  go_ret
  exact ⟨rfl, b0.out⟩
set_option maxHeartbeats 8000000 in
theorem ppack_true (m : Em) (w : World) (hi : m.ip = true) (h : isP m.port = true) (h2 : isP m.to = true) (a0 : 0 ≤ m.addr) (a1 : m.addr < 4294967296) (hd : m.data.size ≤ 140737488351232) : Calls Try.prog 6 #[emV m] w fun e w' => e = .returned (.string (pkS m)) ∧ Below w.heap.size w w' := by
  have hp := h
  have ht := h2
  unfold isP at hp ht
  simp only [Bool.and_eq_true, decide_eq_true_eq] at hp ht
  have eo : pkS m = strOfNums ([] ++ [1] ++ [m.port / 256 % 256, m.port % 256] ++ [m.to / 256 % 256, m.to % 256] ++ [m.addr / 16777216 % 256, m.addr / 65536 % 256, m.addr / 256 % 256, m.addr % 256] ++ ofY m.data) := by
    rw [← strOfNums_append, ofY_str]
    have x1 : m.port / 256 % 256 = m.port / 256 := by omega
    have x2 : m.to / 256 % 256 = m.to / 256 := by omega
    have x3 : m.addr / 16777216 % 256 = m.addr / 16777216 := by omega
    rw [x1, x2, x3]
    unfold pkS pkL
    rw [h, h2, hi]
    rfl
  generalize pkS m = out at eo ⊢
  replace eo := Lib.hid eo
  obtain ⟨c, hc⟩ : ∃ c : Nat, c = 9 + m.data.size := ⟨_, rfl⟩
  have hc1 : (9 : Int) + (m.data.size : Int) = (c : Int) := by omega
  have hc2 : wrap64 (c : Int) = (c : Int) := wrap_in rfl (by omega) (by omega)
  have hc3 : IntKind.i64.wrap (c : Int) = (c : Int) := by rw [IntKind.wrap_i64]; have := hc2; unfold wrap64 at this; exact this
  obtain ⟨cs, hcs, hmk⟩ := mk_room c (by omega)
  have HC : Hid (c = 9 + m.data.size) := hc
  have hcm : Hid (c ≤ maxLen) := by unfold Hid maxLen; omega
  clear hc
  have P1 := Lib.hid fun w' => pport_ok m.port w'
  have P2 := Lib.hid fun w' => pport_ok m.to w'
  have b0 : Below w.heap.size w (w.alloc (.cells #[.bool m.ip, .int .i64 m.port, .int .u32 m.addr, .int .i64 m.to, .string m.data] 24)) := (Below.refl _ _).alloc (Nat.le_refl _) _
  have LE : Lies (w.alloc (.cells #[.bool m.ip, .int .i64 m.port, .int .u32 m.addr, .int .i64 m.to, .string m.data] 24)) w.heap.size [.bool m.ip, .int .i64 m.port, .int .u32 m.addr, .int .i64 m.to, .string m.data] := Lies.new w [.bool m.ip, .int .i64 m.port, .int .u32 m.addr, .int .i64 m.to, .string m.data] _
  obtain ⟨we, hwe⟩ : ∃ x, x = w.alloc (.cells #[.bool m.ip, .int .i64 m.port, .int .u32 m.addr, .int .i64 m.to, .string m.data] 24) := ⟨_, rfl⟩
  rw [← hwe] at b0 LE
  replace hwe := Lib.hid hwe
  replace b0 := Lib.hid b0
  rw [h] at P1
  rw [h2] at P2
  clear h h2 hp ht a0 a1 hd
  replace hmk := hmk.out
  obtain ⟨ip, port, addr, to, data⟩ := m
  unfold emV
  simp only at *
  subst hi
  go_enter Try.func6, Try.ntmps6
  go_upto_region 1 with fail
  rw [← hwe.out]
  clear hwe
  have e0 := LE.cell 0 rfl; have e1 := LE.cell 1 rfl; have e2 := LE.cell 2 rfl; have e3 := LE.cell 3 rfl; have e4 := LE.cell 4 rfl
  go_upto_region 3 with (first
    | (go_at_call_of 17 port; refine (P1.out _).mono ?_; rintro e w' ⟨rfl, rfl⟩)
    | (go_at_call_of 17 to; refine (P2.out _).mono ?_; rintro e w' ⟨rfl, rfl⟩))
  clear P1 P2
  go_upto_region 4 with fail
  have P0 := PK.new (w0 := w) (cap := c) b0.out.size b0.out LE (by show 0 < 5; decide) cs hcs hcm.out
  clear hmk hcs hcm b0 e0 e1 e2 e3 e4 LE
  generalize we.alloc (.cells cs 5) = w0 at *
  generalize we.heap.size = g at *
  obtain ⟨w1, hap1, P1⟩ := P0.lit [1] 0 1 1 rfl rfl rfl (by have := HC.out; omega) #[.int .u8 1] rfl
  have x0 := P0.box.cell 0 rfl
  replace P1 := Lib.hid P1
  clear P0
  go_upto_region 7 with ((with_reducible refine isList ?_); refine obB2L _ rfl .append _ _ 49 49 rfl _ _ rfl rfl hap1.out ?_)
  clear hap1 x0
  replace P1 := P1.out
  obtain ⟨w2, hap2, P2⟩ := P1.lit [port / 256 % 256, port % 256] 1 3 2 rfl rfl rfl (by have := HC.out; omega) #[.int .u8 (port / 256 % 256), .int .u8 (port % 256)] rfl
  have x0 := P1.box.cell 1 rfl
  replace P2 := Lib.hid P2
  clear P1
  go_upto_region 8 with ((with_reducible refine isList ?_); refine obB2L _ rfl .append _ _ 49 49 rfl _ _ rfl rfl hap2.out ?_)
  clear hap2 x0
  replace P2 := P2.out
  obtain ⟨w3, hap3, P3⟩ := P2.lit [to / 256 % 256, to % 256] 3 5 2 rfl rfl rfl (by have := HC.out; omega) #[.int .u8 (to / 256 % 256), .int .u8 (to % 256)] rfl
  have x0 := P2.box.cell 3 rfl
  replace P3 := Lib.hid P3
  clear P2
  go_upto_region 9 with ((with_reducible refine isList ?_); refine obB2L _ rfl .append _ _ 49 49 rfl _ _ rfl rfl hap3.out ?_)
  clear hap3 x0
  replace P3 := P3.out
  obtain ⟨w4, hap4, P4⟩ := P3.lit [addr / 16777216 % 256, addr / 65536 % 256, addr / 256 % 256, addr % 256] 5 9 4 rfl rfl rfl (by have := HC.out; omega) #[.int .u8 (addr / 16777216 % 256), .int .u8 (addr / 65536 % 256), .int .u8 (addr / 256 % 256), .int .u8 (addr % 256)] rfl
  have x0 := P3.box.cell 2 rfl
  replace P4 := Lib.hid P4
  clear P3
  go_upto_region 10 with ((with_reducible refine isList ?_); refine obB2L _ rfl .append _ _ 49 49 rfl _ _ rfl rfl hap4.out ?_)
  clear hap4 x0
  replace P4 := P4.out
  obtain ⟨w5, hap5, P5⟩ := P4.text data 9 c rfl (by rw [HC.out]; rfl) (Nat.le_refl _)
  have hcv := P5.conv c (by rw [HC.out]; simp [ofY_len]; omega)
  rw [show strOfNums _ = out from eo.out.symm] at hcv
  have x0 := P4.box.cell 4 rfl
  have bF := Lib.hid P5.bel
  clear HC P4 P5 eo
  go_wp2_with ((with_reducible refine isList ?_); refine obB2L _ rfl .append _ _ 49 9 rfl _ _ rfl rfl hap5.out ?_)
  go_ret
  exact ⟨rfl, bF.out⟩
set_option maxHeartbeats 8000000 in
theorem ppack_false (m : Em) (w : World) (hi : m.ip = false) (h : isP m.port = true) (h2 : isP m.to = true) (a0 : 0 ≤ m.addr) (a1 : m.addr < 4294967296) (hd : m.data.size ≤ 140737488351232) : Calls Try.prog 6 #[emV m] w fun e w' => e = .returned (.string (pkS m)) ∧ Below w.heap.size w w' := by
  have hp := h
  have ht := h2
  unfold isP at hp ht
  simp only [Bool.and_eq_true, decide_eq_true_eq] at hp ht
  have eo : pkS m = strOfNums ([] ++ [0] ++ [m.port / 256 % 256, m.port % 256] ++ [m.to / 256 % 256, m.to % 256] ++ [m.addr / 16777216 % 256, m.addr / 65536 % 256, m.addr / 256 % 256, m.addr % 256] ++ ofY m.data) := by
    rw [← strOfNums_append, ofY_str]
    have x1 : m.port / 256 % 256 = m.port / 256 := by omega
    have x2 : m.to / 256 % 256 = m.to / 256 := by omega
    have x3 : m.addr / 16777216 % 256 = m.addr / 16777216 := by omega
    rw [x1, x2, x3]
    unfold pkS pkL
    rw [h, h2, hi]
    rfl
  generalize pkS m = out at eo ⊢
  replace eo := Lib.hid eo
  obtain ⟨c, hc⟩ : ∃ c : Nat, c = 9 + m.data.size := ⟨_, rfl⟩
  have hc1 : (9 : Int) + (m.data.size : Int) = (c : Int) := by omega
  have hc2 : wrap64 (c : Int) = (c : Int) := wrap_in rfl (by omega) (by omega)
  have hc3 : IntKind.i64.wrap (c : Int) = (c : Int) := by rw [IntKind.wrap_i64]; have := hc2; unfold wrap64 at this; exact this
  obtain ⟨cs, hcs, hmk⟩ := mk_room c (by omega)
  have HC : Hid (c = 9 + m.data.size) := hc
  have hcm : Hid (c ≤ maxLen) := by unfold Hid maxLen; omega
  clear hc
  have P1 := Lib.hid fun w' => pport_ok m.port w'
  have P2 := Lib.hid fun w' => pport_ok m.to w'
  have b0 : Below w.heap.size w (w.alloc (.cells #[.bool m.ip, .int .i64 m.port, .int .u32 m.addr, .int .i64 m.to, .string m.data] 24)) := (Below.refl _ _).alloc (Nat.le_refl _) _
  have LE : Lies (w.alloc (.cells #[.bool m.ip, .int .i64 m.port, .int .u32 m.addr, .int .i64 m.to, .string m.data] 24)) w.heap.size [.bool m.ip, .int .i64 m.port, .int .u32 m.addr, .int .i64 m.to, .string m.data] := Lies.new w [.bool m.ip, .int .i64 m.port, .int .u32 m.addr, .int .i64 m.to, .string m.data] _
  obtain ⟨we, hwe⟩ : ∃ x, x = w.alloc (.cells #[.bool m.ip, .int .i64 m.port, .int .u32 m.addr, .int .i64 m.to, .string m.data] 24) := ⟨_, rfl⟩
  rw [← hwe] at b0 LE
  replace hwe := Lib.hid hwe
  replace b0 := Lib.hid b0
  rw [h] at P1
  rw [h2] at P2
  clear h h2 hp ht a0 a1 hd
  replace hmk := hmk.out
  obtain ⟨ip, port, addr, to, data⟩ := m
  unfold emV
  simp only at *
  subst hi
  go_enter Try.func6, Try.ntmps6
  go_upto_region 1 with fail
  rw [← hwe.out]
  clear hwe
  have e0 := LE.cell 0 rfl; have e1 := LE.cell 1 rfl; have e2 := LE.cell 2 rfl; have e3 := LE.cell 3 rfl; have e4 := LE.cell 4 rfl
  go_upto_region 3 with (first
    | (go_at_call_of 17 port; refine (P1.out _).mono ?_; rintro e w' ⟨rfl, rfl⟩)
    | (go_at_call_of 17 to; refine (P2.out _).mono ?_; rintro e w' ⟨rfl, rfl⟩))
  clear P1 P2
  go_upto_region 4 with fail
  have P0 := PK.new (w0 := w) (cap := c) b0.out.size b0.out LE (by show 0 < 5; decide) cs hcs hcm.out
  clear hmk hcs hcm b0 e0 e1 e2 e3 e4 LE
  generalize we.alloc (.cells cs 5) = w0 at *
  generalize we.heap.size = g at *
  obtain ⟨w1, hap1, P1⟩ := P0.lit [0] 0 1 1 rfl rfl rfl (by have := HC.out; omega) #[.int .u8 0] rfl
  have x0 := P0.box.cell 0 rfl
  replace P1 := Lib.hid P1
  clear P0
  go_upto_region 7 with ((with_reducible refine isList ?_); refine obB2L _ rfl .append _ _ 49 49 rfl _ _ rfl rfl hap1.out ?_)
  clear hap1 x0
  replace P1 := P1.out
  obtain ⟨w2, hap2, P2⟩ := P1.lit [port / 256 % 256, port % 256] 1 3 2 rfl rfl rfl (by have := HC.out; omega) #[.int .u8 (port / 256 % 256), .int .u8 (port % 256)] rfl
  have x0 := P1.box.cell 1 rfl
  replace P2 := Lib.hid P2
  clear P1
  go_upto_region 8 with ((with_reducible refine isList ?_); refine obB2L _ rfl .append _ _ 49 49 rfl _ _ rfl rfl hap2.out ?_)
  clear hap2 x0
  replace P2 := P2.out
  obtain ⟨w3, hap3, P3⟩ := P2.lit [to / 256 % 256, to % 256] 3 5 2 rfl rfl rfl (by have := HC.out; omega) #[.int .u8 (to / 256 % 256), .int .u8 (to % 256)] rfl
  have x0 := P2.box.cell 3 rfl
  replace P3 := Lib.hid P3
  clear P2
  go_upto_region 9 with ((with_reducible refine isList ?_); refine obB2L _ rfl .append _ _ 49 49 rfl _ _ rfl rfl hap3.out ?_)
  clear hap3 x0
  replace P3 := P3.out
  obtain ⟨w4, hap4, P4⟩ := P3.lit [addr / 16777216 % 256, addr / 65536 % 256, addr / 256 % 256, addr % 256] 5 9 4 rfl rfl rfl (by have := HC.out; omega) #[.int .u8 (addr / 16777216 % 256), .int .u8 (addr / 65536 % 256), .int .u8 (addr / 256 % 256), .int .u8 (addr % 256)] rfl
  have x0 := P3.box.cell 2 rfl
  replace P4 := Lib.hid P4
  clear P3
  go_upto_region 10 with ((with_reducible refine isList ?_); refine obB2L _ rfl .append _ _ 49 49 rfl _ _ rfl rfl hap4.out ?_)
  clear hap4 x0
  replace P4 := P4.out
  obtain ⟨w5, hap5, P5⟩ := P4.text data 9 c rfl (by rw [HC.out]; rfl) (Nat.le_refl _)
  have hcv := P5.conv c (by rw [HC.out]; simp [ofY_len]; omega)
  rw [show strOfNums _ = out from eo.out.symm] at hcv
  have x0 := P4.box.cell 4 rfl
  have bF := Lib.hid P5.bel
  clear HC P4 P5 eo
  go_wp2_with ((with_reducible refine isList ?_); refine obB2L _ rfl .append _ _ 49 9 rfl _ _ rfl rfl hap5.out ?_)
  go_ret
  exact ⟨rfl, bF.out⟩
theorem ppack_ok (m : Em) (w : World) (hb : EmB m) : Calls Try.prog 6 #[emV m] w fun e w' => e = .returned (.string (pkS m)) ∧ Below w.heap.size w w' := by
  by_cases h : isP m.port = true
  · by_cases h2 : isP m.to = true
    · cases hi : m.ip with
      | true => exact ppack_true m w hi h h2 hb.a0 hb.a1 hb.d
      | false => exact ppack_false m w hi h h2 hb.a0 hb.a1 hb.d
    · have h2 : isP m.to = false := by simpa using h2
      rw [show pkS m = ⟨#[]⟩ by unfold pkS; rw [h2, Bool.and_false]; rfl]
      exact ppack_no2 m w h h2
  · have h : isP m.port = false := by simpa using h
    rw [show pkS m = ⟨#[]⟩ by unfold pkS; rw [h, Bool.false_and]; rfl]
    exact ppack_no1 m w h
set_option maxHeartbeats 4000000 in
theorem punpack_short (s : ByteArray) (w : World) (h : s.size < 9) : Calls Try.prog 7 #[.string s] w fun e w' => e = .returned (.tuple #[.agg #[.bool false, .int .i64 0, .int .u32 0, .int .i64 0, .string ⟨#[]⟩], .int .i64 1]) ∧ Below w.heap.size w w' := by
  have h2 : (s.size : Int) < 9 := by omega
  have b0 : Below w.heap.size w (w.alloc (.cells #[.bool false, .int .i64 0, .int .u32 0, .int .i64 0, .string ⟨#[]⟩] 24)) := (Below.refl _ _).alloc (Nat.le_refl _) _
  have LE : Lies (w.alloc (.cells #[.bool false, .int .i64 0, .int .u32 0, .int .i64 0, .string ⟨#[]⟩] 24)) w.heap.size [.bool false, .int .i64 0, .int .u32 0, .int .i64 0, .string ⟨#[]⟩] := Lies.new w [.bool false, .int .i64 0, .int .u32 0, .int .i64 0, .string ⟨#[]⟩] _
  obtain ⟨we, hwe⟩ : ∃ x, x = w.alloc (.cells #[.bool false, .int .i64 0, .int .u32 0, .int .i64 0, .string ⟨#[]⟩] 24) := ⟨_, rfl⟩
  rw [← hwe] at b0 LE
  replace hwe := Lib.hid hwe
  replace b0 := Lib.hid b0
  have hE : Hid (w.heap.size ≤ w.heap.size) := Nat.le_refl _
  go_enter Try.func7, Try.ntmps7
  go_upto_region 1 with fail
  rw [← hwe.out]
  clear hwe
  have e0 := LE.cell 0 rfl
  have f0 := LE.free 0 (by show 0 < 5; decide)
  have e1 := LE.cell 1 rfl
  have f1 := LE.free 1 (by show 1 < 5; decide)
  have e2 := LE.cell 2 rfl
  have f2 := LE.free 2 (by show 2 < 5; decide)
  have e3 := LE.cell 3 rfl
  have f3 := LE.free 3 (by show 3 < 5; decide)
  have e4 := LE.cell 4 rfl
  have f4 := LE.free 4 (by show 4 < 5; decide)
  clear LE
  go_wp2_with fail
  refine ⟨rfl, .tuple #[.agg #[.bool false, .int .i64 0, .int .u32 0, .int .i64 0, .string ⟨#[]⟩], .int .i64 1], ?_, rfl, em_belowP b0.out hE.out _ _ _ _ _⟩
  simp [results, Try.results7, go_sem, *]
set_option maxHeartbeats 4000000 in
theorem punpack_field (s : ByteArray) (w : World) (hs : s.size ≤ 9223372036854775807) (h : 9 ≤ s.size) (h1 : 1 < byt s 0) : Calls Try.prog 7 #[.string s] w fun e w' => e = .returned (.tuple #[.agg #[.bool false, .int .i64 0, .int .u32 0, .int .i64 0, .string ⟨#[]⟩], .int .i64 3]) ∧ Below w.heap.size w w' := by
  have h2 : ¬ (s.size : Int) < 9 := by omega
  have h3 : ¬ s.size < 9 := by omega
  have q0 : (0 : Int) < s.size := by omega
  have x0 := byt_eq s 0 (by omega)
  have n0 : (byt s 0 != 0) = true := by simp; omega
  have n1 : (byt s 0 != 1) = true := by simp; omega
  generalize byt s 0 = b at *
  have b0 : Below w.heap.size w (w.alloc (.cells #[.bool false, .int .i64 0, .int .u32 0, .int .i64 0, .string ⟨#[]⟩] 24)) := (Below.refl _ _).alloc (Nat.le_refl _) _
  have LE : Lies (w.alloc (.cells #[.bool false, .int .i64 0, .int .u32 0, .int .i64 0, .string ⟨#[]⟩] 24)) w.heap.size [.bool false, .int .i64 0, .int .u32 0, .int .i64 0, .string ⟨#[]⟩] := Lies.new w [.bool false, .int .i64 0, .int .u32 0, .int .i64 0, .string ⟨#[]⟩] _
  obtain ⟨we, hwe⟩ : ∃ x, x = w.alloc (.cells #[.bool false, .int .i64 0, .int .u32 0, .int .i64 0, .string ⟨#[]⟩] 24) := ⟨_, rfl⟩
  rw [← hwe] at b0 LE
  replace hwe := Lib.hid hwe
  replace b0 := Lib.hid b0
  have hE : Hid (w.heap.size ≤ w.heap.size) := Nat.le_refl _
  go_enter Try.func7, Try.ntmps7
  go_upto_region 1 with fail
  rw [← hwe.out]
  clear hwe
  have e0 := LE.cell 0 rfl
  have f0 := LE.free 0 (by show 0 < 5; decide)
  have e1 := LE.cell 1 rfl
  have f1 := LE.free 1 (by show 1 < 5; decide)
  have e2 := LE.cell 2 rfl
  have f2 := LE.free 2 (by show 2 < 5; decide)
  have e3 := LE.cell 3 rfl
  have f3 := LE.free 3 (by show 3 < 5; decide)
  have e4 := LE.cell 4 rfl
  have f4 := LE.free 4 (by show 4 < 5; decide)
  clear LE
  go_wp2_with fail
  refine ⟨rfl, .tuple #[.agg #[.bool false, .int .i64 0, .int .u32 0, .int .i64 0, .string ⟨#[]⟩], .int .i64 3], ?_, rfl, em_belowP b0.out hE.out _ _ _ _ _⟩
  simp [results, Try.results7, go_sem, *]
set_option linter.unusedSimpArgs false in
set_option maxHeartbeats 8000000 in
theorem punpack_zero (s : ByteArray) (w : World) (hs : s.size ≤ 9223372036854775807) (h : 9 ≤ s.size) (h1 : byt s 0 = 0) : Calls Try.prog 7 #[.string s] w fun e w' => e = .returned (.tuple #[emV (upkV s), .int .i64 0]) ∧ Below w.heap.size w w' := by
  have h2 : ¬ (s.size : Int) < 9 := by omega
  have h3 : ¬ s.size < 9 := by omega
  have q0 : (0 : Int) < s.size := by omega
  have q3 : (3 : Int) ≤ s.size := by omega
  have q5 : (5 : Int) ≤ s.size := by omega
  have q9 : (9 : Int) ≤ s.size := by omega
  have ne : ¬ s = ByteArray.empty := fun e => by rw [e] at h; exact absurd h (by decide)
  have x0 := byt_eq s 0 (by omega)
  have N1 : Hid (∀ w, _) := fun w => pnum2 s w 1 3 rfl (by omega)
  have N3 : Hid (∀ w, _) := fun w => pnum2 s w 3 5 rfl (by omega)
  have N5 : Hid (∀ w, _) := fun w => pnum4 s w 5 9 rfl (by omega)
  have c5 := num4_bd s 5
  have wa : IntKind.u32.wrap (num (byt s) 5 4) = num (byt s) 5 4 := by simp [IntKind.wrap, IntKind.bits, IntKind.signed]; omega
  unfold emV upkV
  simp only
  have bz : (byt s 0 != 0) = false := by rw [h1]; rfl
  have by' : (byt s 0 != 1) = true := by rw [h1]; rfl
  clear h1
  generalize byt s 0 = b at *
  generalize num (byt s) 1 2 = port at *
  generalize num (byt s) 3 2 = to at *
  generalize num (byt s) 5 4 = addr at *
  clear c5
  have b0 : Below w.heap.size w (w.alloc (.cells #[.bool false, .int .i64 0, .int .u32 0, .int .i64 0, .string ⟨#[]⟩] 24)) := (Below.refl _ _).alloc (Nat.le_refl _) _
  have LE : Lies (w.alloc (.cells #[.bool false, .int .i64 0, .int .u32 0, .int .i64 0, .string ⟨#[]⟩] 24)) w.heap.size [.bool false, .int .i64 0, .int .u32 0, .int .i64 0, .string ⟨#[]⟩] := Lies.new w [.bool false, .int .i64 0, .int .u32 0, .int .i64 0, .string ⟨#[]⟩] _
  obtain ⟨we, hwe⟩ : ∃ x, x = w.alloc (.cells #[.bool false, .int .i64 0, .int .u32 0, .int .i64 0, .string ⟨#[]⟩] 24) := ⟨_, rfl⟩
  rw [← hwe] at b0 LE
  replace hwe := Lib.hid hwe
  replace b0 := Lib.hid b0
  have hE : Hid (w.heap.size ≤ w.heap.size) := Nat.le_refl _
  go_enter Try.func7, Try.ntmps7
  go_upto_region 1 with fail
  rw [← hwe.out]
  clear hwe
  go_upto_region 5 with fail
  replace LE := LE.keep (by show 0 < 5; decide) (drewB _ we)
  replace b0 := Lib.hid (b0.out.trans ((drewB we.heap.size we).mono b0.out.size))
  clear h2 h3
  refine wp_region_any (by kernel_rfl) ?_
  change wpAny _ .any _ _ 18 (Array.replicate 18 false) _ we.drew
  generalize we.drew = wd at *
  refine take_slot (i := 0) (d := 17) (v := .string s) rfl rfl (by kernel_rfl) (by kernel_rfl) (by kernel_rfl) (fun _ _ _ h => h) rfl (fun w => by go_simp) ?_
  refine take_slot (i := 1) (d := 18) (v := .int .u8 b) rfl rfl (by kernel_rfl) (by kernel_rfl) (by kernel_rfl) (fun _ _ _ h => h) rfl (fun w => by go_simp) ?_
  refine take_slot (i := 2) (d := 19) (v := .bool (b == 1)) rfl rfl (by kernel_rfl) (by kernel_rfl) (by kernel_rfl) (fun _ _ _ h => h) rfl (fun w => by go_simp) ?_
  refine take_slot (i := 3) (d := 20) (v := .string s) rfl rfl (by kernel_rfl) (by kernel_rfl) (by kernel_rfl) (fun _ _ _ h => h) rfl (fun w => by go_simp) ?_
  refine take_slot (i := 4) (d := 21) (v := .string (s.extract 1 3)) rfl rfl (by kernel_rfl) (by kernel_rfl) (by kernel_rfl) (fun _ _ _ h => h) rfl (fun w => by go_simp) ?_
  refine call_slot (i := 5) (d := 22) (v := .int .i64 port) (x := .string (s.extract 1 3)) (k := 21) rfl rfl (by kernel_rfl) (by kernel_rfl) (by kernel_rfl) (fun _ _ _ h => h) rfl (fun a w K hx hK => pnumber_wp _ 21 rfl N1.out a w K _ hx hK) (by simp [Act.eval, Act.put]) ?_
  refine take_slot (i := 6) (d := 23) (v := .string s) rfl rfl (by kernel_rfl) (by kernel_rfl) (by kernel_rfl) (fun _ _ _ h => h) rfl (fun w => by go_simp) ?_
  refine take_slot (i := 7) (d := 24) (v := .string (s.extract 3 5)) rfl rfl (by kernel_rfl) (by kernel_rfl) (by kernel_rfl) (fun _ _ _ h => h) rfl (fun w => by go_simp) ?_
  refine call_slot (i := 8) (d := 25) (v := .int .i64 to) (x := .string (s.extract 3 5)) (k := 24) rfl rfl (by kernel_rfl) (by kernel_rfl) (by kernel_rfl) (fun _ _ _ h => h) rfl (fun a w K hx hK => pnumber_wp _ 24 rfl N3.out a w K _ hx hK) (by simp [Act.eval, Act.put]) ?_
  refine take_slot (i := 9) (d := 26) (v := .string s) rfl rfl (by kernel_rfl) (by kernel_rfl) (by kernel_rfl) (fun _ _ _ h => h) rfl (fun w => by go_simp) ?_
  refine take_slot (i := 10) (d := 27) (v := .string (s.extract 5 9)) rfl rfl (by kernel_rfl) (by kernel_rfl) (by kernel_rfl) (fun _ _ _ h => h) rfl (fun w => by go_simp) ?_
  refine call_slot (i := 11) (d := 28) (v := .int .i64 addr) (x := .string (s.extract 5 9)) (k := 27) rfl rfl (by kernel_rfl) (by kernel_rfl) (by kernel_rfl) (fun _ _ _ h => h) rfl (fun a w K hx hK => pnumber_wp _ 27 rfl N5.out a w K _ hx hK) (by simp [Act.eval, Act.put]) ?_
  refine take_slot (i := 12) (d := 29) (v := .int .u32 addr) rfl rfl (by kernel_rfl) (by kernel_rfl) (by kernel_rfl) (fun _ _ _ h => h) rfl (fun w => by go_simp) ?_
  refine take_slot (i := 13) (d := 30) (v := .string s) rfl rfl (by kernel_rfl) (by kernel_rfl) (by kernel_rfl) (fun _ _ _ h => h) rfl (fun w => by go_simp) ?_
  refine take_slot (i := 14) (d := 31) (v := .string (s.extract 9 s.size)) rfl rfl (by kernel_rfl) (by kernel_rfl) (by kernel_rfl) (fun _ _ _ h => h) rfl (fun w => by go_simp) ?_
  refine take_slot (i := 15) (d := 32) (v := .agg #[.bool (b == 1), .int .i64 port, .int .u32 addr, .int .i64 to, .string (s.extract 9 s.size)]) rfl rfl (by kernel_rfl) (by kernel_rfl) (by kernel_rfl) (fun _ _ _ h => h) rfl (fun w => by go_simp) ?_
  simp only [Act.put, List.setIfInBounds_toArray, List.set_cons_succ, List.set_cons_zero]
  have e0 := LE.cell 0 rfl
  have f0 := LE.free 0 (by show 0 < 5; decide)
  have e1 := LE.cell 1 rfl
  have f1 := LE.free 1 (by show 1 < 5; decide)
  have e2 := LE.cell 2 rfl
  have f2 := LE.free 2 (by show 2 < 5; decide)
  have e3 := LE.cell 3 rfl
  have f3 := LE.free 3 (by show 3 < 5; decide)
  have e4 := LE.cell 4 rfl
  have f4 := LE.free 4 (by show 4 < 5; decide)
  clear LE N1 N3 N5 x0 q0 q3 q5 q9 wa
  refine wpAny_all (rs := [16]) (by kernel_rfl) (by simp) (fun i hi => ?_)
  obtain rfl : i = 16 := by simpa using hi
  refine wpOp_step rfl (fun K' hK => ?_)
  clear hi
  go_simp
  refine hK _ _ ?_
  clear hK K'
  refine wpAny_all (rs := [17]) (by kernel_rfl) (by simp) (fun i hi => ?_)
  obtain rfl : i = 17 := by simpa using hi
  refine wpOp_step rfl (fun K' hK => ?_)
  clear hi
  go_simp
  refine hK _ _ ?_
  clear hK K'
  refine wpAny_done (by kernel_rfl) ?_ 0
  go_wp2_with fail
  refine ⟨rfl, .tuple #[.agg #[.bool (b == 1), .int .i64 port, .int .u32 addr, .int .i64 to, .string (s.extract 9 s.size)], .int .i64 0], ?_, rfl, em_belowP b0.out hE.out _ _ _ _ _⟩
  simp [results, Try.results7, go_sem, *]
set_option linter.unusedSimpArgs false in
set_option maxHeartbeats 8000000 in
theorem punpack_one (s : ByteArray) (w : World) (hs : s.size ≤ 9223372036854775807) (h : 9 ≤ s.size) (h1 : byt s 0 = 1) : Calls Try.prog 7 #[.string s] w fun e w' => e = .returned (.tuple #[emV (upkV s), .int .i64 0]) ∧ Below w.heap.size w w' := by
  have h2 : ¬ (s.size : Int) < 9 := by omega
  have h3 : ¬ s.size < 9 := by omega
  have q0 : (0 : Int) < s.size := by omega
  have q3 : (3 : Int) ≤ s.size := by omega
  have q5 : (5 : Int) ≤ s.size := by omega
  have q9 : (9 : Int) ≤ s.size := by omega
  have ne : ¬ s = ByteArray.empty := fun e => by rw [e] at h; exact absurd h (by decide)
  have x0 := byt_eq s 0 (by omega)
  have N1 : Hid (∀ w, _) := fun w => pnum2 s w 1 3 rfl (by omega)
  have N3 : Hid (∀ w, _) := fun w => pnum2 s w 3 5 rfl (by omega)
  have N5 : Hid (∀ w, _) := fun w => pnum4 s w 5 9 rfl (by omega)
  have c5 := num4_bd s 5
  have wa : IntKind.u32.wrap (num (byt s) 5 4) = num (byt s) 5 4 := by simp [IntKind.wrap, IntKind.bits, IntKind.signed]; omega
  unfold emV upkV
  simp only
  have bz : (byt s 0 != 0) = true := by rw [h1]; rfl
  have by' : (byt s 0 != 1) = false := by rw [h1]; rfl
  clear h1
  generalize byt s 0 = b at *
  generalize num (byt s) 1 2 = port at *
  generalize num (byt s) 3 2 = to at *
  generalize num (byt s) 5 4 = addr at *
  clear c5
  have b0 : Below w.heap.size w (w.alloc (.cells #[.bool false, .int .i64 0, .int .u32 0, .int .i64 0, .string ⟨#[]⟩] 24)) := (Below.refl _ _).alloc (Nat.le_refl _) _
  have LE : Lies (w.alloc (.cells #[.bool false, .int .i64 0, .int .u32 0, .int .i64 0, .string ⟨#[]⟩] 24)) w.heap.size [.bool false, .int .i64 0, .int .u32 0, .int .i64 0, .string ⟨#[]⟩] := Lies.new w [.bool false, .int .i64 0, .int .u32 0, .int .i64 0, .string ⟨#[]⟩] _
  obtain ⟨we, hwe⟩ : ∃ x, x = w.alloc (.cells #[.bool false, .int .i64 0, .int .u32 0, .int .i64 0, .string ⟨#[]⟩] 24) := ⟨_, rfl⟩
  rw [← hwe] at b0 LE
  replace hwe := Lib.hid hwe
  replace b0 := Lib.hid b0
  have hE : Hid (w.heap.size ≤ w.heap.size) := Nat.le_refl _
  go_enter Try.func7, Try.ntmps7
  go_upto_region 1 with fail
  rw [← hwe.out]
  clear hwe
  go_upto_region 5 with fail
  replace LE := LE.keep (by show 0 < 5; decide) (drewB _ we)
  replace b0 := Lib.hid (b0.out.trans ((drewB we.heap.size we).mono b0.out.size))
  clear h2 h3
  refine wp_region_any (by kernel_rfl) ?_
  change wpAny _ .any _ _ 18 (Array.replicate 18 false) _ we.drew
  generalize we.drew = wd at *
  refine take_slot (i := 0) (d := 17) (v := .string s) rfl rfl (by kernel_rfl) (by kernel_rfl) (by kernel_rfl) (fun _ _ _ h => h) rfl (fun w => by go_simp) ?_
  refine take_slot (i := 1) (d := 18) (v := .int .u8 b) rfl rfl (by kernel_rfl) (by kernel_rfl) (by kernel_rfl) (fun _ _ _ h => h) rfl (fun w => by go_simp) ?_
  refine take_slot (i := 2) (d := 19) (v := .bool (b == 1)) rfl rfl (by kernel_rfl) (by kernel_rfl) (by kernel_rfl) (fun _ _ _ h => h) rfl (fun w => by go_simp) ?_
  refine take_slot (i := 3) (d := 20) (v := .string s) rfl rfl (by kernel_rfl) (by kernel_rfl) (by kernel_rfl) (fun _ _ _ h => h) rfl (fun w => by go_simp) ?_
  refine take_slot (i := 4) (d := 21) (v := .string (s.extract 1 3)) rfl rfl (by kernel_rfl) (by kernel_rfl) (by kernel_rfl) (fun _ _ _ h => h) rfl (fun w => by go_simp) ?_
  refine call_slot (i := 5) (d := 22) (v := .int .i64 port) (x := .string (s.extract 1 3)) (k := 21) rfl rfl (by kernel_rfl) (by kernel_rfl) (by kernel_rfl) (fun _ _ _ h => h) rfl (fun a w K hx hK => pnumber_wp _ 21 rfl N1.out a w K _ hx hK) (by simp [Act.eval, Act.put]) ?_
  refine take_slot (i := 6) (d := 23) (v := .string s) rfl rfl (by kernel_rfl) (by kernel_rfl) (by kernel_rfl) (fun _ _ _ h => h) rfl (fun w => by go_simp) ?_
  refine take_slot (i := 7) (d := 24) (v := .string (s.extract 3 5)) rfl rfl (by kernel_rfl) (by kernel_rfl) (by kernel_rfl) (fun _ _ _ h => h) rfl (fun w => by go_simp) ?_
  refine call_slot (i := 8) (d := 25) (v := .int .i64 to) (x := .string (s.extract 3 5)) (k := 24) rfl rfl (by kernel_rfl) (by kernel_rfl) (by kernel_rfl) (fun _ _ _ h => h) rfl (fun a w K hx hK => pnumber_wp _ 24 rfl N3.out a w K _ hx hK) (by simp [Act.eval, Act.put]) ?_
  refine take_slot (i := 9) (d := 26) (v := .string s) rfl rfl (by kernel_rfl) (by kernel_rfl) (by kernel_rfl) (fun _ _ _ h => h) rfl (fun w => by go_simp) ?_
  refine take_slot (i := 10) (d := 27) (v := .string (s.extract 5 9)) rfl rfl (by kernel_rfl) (by kernel_rfl) (by kernel_rfl) (fun _ _ _ h => h) rfl (fun w => by go_simp) ?_
  refine call_slot (i := 11) (d := 28) (v := .int .i64 addr) (x := .string (s.extract 5 9)) (k := 27) rfl rfl (by kernel_rfl) (by kernel_rfl) (by kernel_rfl) (fun _ _ _ h => h) rfl (fun a w K hx hK => pnumber_wp _ 27 rfl N5.out a w K _ hx hK) (by simp [Act.eval, Act.put]) ?_
  refine take_slot (i := 12) (d := 29) (v := .int .u32 addr) rfl rfl (by kernel_rfl) (by kernel_rfl) (by kernel_rfl) (fun _ _ _ h => h) rfl (fun w => by go_simp) ?_
  refine take_slot (i := 13) (d := 30) (v := .string s) rfl rfl (by kernel_rfl) (by kernel_rfl) (by kernel_rfl) (fun _ _ _ h => h) rfl (fun w => by go_simp) ?_
  refine take_slot (i := 14) (d := 31) (v := .string (s.extract 9 s.size)) rfl rfl (by kernel_rfl) (by kernel_rfl) (by kernel_rfl) (fun _ _ _ h => h) rfl (fun w => by go_simp) ?_
  refine take_slot (i := 15) (d := 32) (v := .agg #[.bool (b == 1), .int .i64 port, .int .u32 addr, .int .i64 to, .string (s.extract 9 s.size)]) rfl rfl (by kernel_rfl) (by kernel_rfl) (by kernel_rfl) (fun _ _ _ h => h) rfl (fun w => by go_simp) ?_
  simp only [Act.put, List.setIfInBounds_toArray, List.set_cons_succ, List.set_cons_zero]
  have e0 := LE.cell 0 rfl
  have f0 := LE.free 0 (by show 0 < 5; decide)
  have e1 := LE.cell 1 rfl
  have f1 := LE.free 1 (by show 1 < 5; decide)
  have e2 := LE.cell 2 rfl
  have f2 := LE.free 2 (by show 2 < 5; decide)
  have e3 := LE.cell 3 rfl
  have f3 := LE.free 3 (by show 3 < 5; decide)
  have e4 := LE.cell 4 rfl
  have f4 := LE.free 4 (by show 4 < 5; decide)
  clear LE N1 N3 N5 x0 q0 q3 q5 q9 wa
  refine wpAny_all (rs := [16]) (by kernel_rfl) (by simp) (fun i hi => ?_)
  obtain rfl : i = 16 := by simpa using hi
  refine wpOp_step rfl (fun K' hK => ?_)
  clear hi
  go_simp
  refine hK _ _ ?_
  clear hK K'
  refine wpAny_all (rs := [17]) (by kernel_rfl) (by simp) (fun i hi => ?_)
  obtain rfl : i = 17 := by simpa using hi
  refine wpOp_step rfl (fun K' hK => ?_)
  clear hi
  go_simp
  refine hK _ _ ?_
  clear hK K'
  refine wpAny_done (by kernel_rfl) ?_ 0
  go_wp2_with fail
  refine ⟨rfl, .tuple #[.agg #[.bool (b == 1), .int .i64 port, .int .u32 addr, .int .i64 to, .string (s.extract 9 s.size)], .int .i64 0], ?_, rfl, em_belowP b0.out hE.out _ _ _ _ _⟩
  simp [results, Try.results7, go_sem, *]
theorem punpack_ok (s : ByteArray) (w : World) (hs : s.size ≤ 9223372036854775807) : Calls Try.prog 7 #[.string s] w fun e w' => e = .returned (.tuple #[emV (upkM s), .int .i64 (upkE s)]) ∧ Below w.heap.size w w' := by
  by_cases h : s.size < 9
  · have e : upkE s = 1 := by unfold upkE; rw [if_pos h]
    rw [show upkM s = em0 by unfold upkM; rw [if_neg (by rw [e]; decide)], e]
    exact punpack_short s w h
  by_cases h1 : 1 < byt s 0
  · have e : upkE s = 3 := by unfold upkE; rw [if_neg h, if_pos h1]
    rw [show upkM s = em0 by unfold upkM; rw [if_neg (by rw [e]; decide)], e]
    exact punpack_field s w hs (by omega) h1
  · have e : upkE s = 0 := by unfold upkE; rw [if_neg h, if_neg h1]
    rw [show upkM s = upkV s by unfold upkM; rw [if_pos e], e]
    have b0 := byt_bd s 0
    have hz : byt s 0 = 0 ∨ byt s 0 = 1 := by omega
    rcases hz with hz | hz
    · exact punpack_zero s w hs (by omega) hz
    · exact punpack_one s w hs (by omega) hz
theorem faceP : TuFaceP := ⟨fun m w h => ppack_ok m w h, fun s w h => punpack_ok s w (by omega)⟩
end Go.Proofs.Ytndaohiecpdmlaa
