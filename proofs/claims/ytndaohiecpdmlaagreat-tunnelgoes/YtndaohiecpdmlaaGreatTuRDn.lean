/-
  What the document's own Down answers of any tunnel and any bytes. No condition but what the form allows.
-/
import Derived.Test.YtndaohiecpdmlaaGreatTuOpn
import Derived.Test.YtndaohiecpdmlaaGreatTuRHop
namespace Go.Proofs.YtndaohiecpdmlaaGreat
set_option maxRecDepth 100000
open Go.RowKit Go.Sort

set_option maxHeartbeats 4000000 in
theorem rdn_long_true (T : Tu) (v : Value) (w : World) (h : RusAt w v T.rules) (src fr : Int) (s : ByteArray) (hs : s.size ≤ 140737488351232) (h1 : 1000 < s.size) (hi : T.ip = true) : Calls Tryz.prog 8 #[tuV T v, .int .u32 src, .int .i64 fr, .string s] w fun e w' => e = .returned (.tuple #[.string ⟨#[]⟩, .int .i64 8]) ∧ Below w.heap.size w w' := by
  obtain ⟨wb, hwb⟩ : ∃ x, x = w.alloc (.cells #[.bool T.ip, .int .u32 T.addr, .int .i64 T.tp, .int .u32 T.own, .int .i64 T.port, v] 27) := ⟨_, rfl⟩
  have b0 : Below w.heap.size w wb := by rw [hwb]; exact (Below.refl _ _).alloc (Nat.le_refl _) _
  have la : Lies wb w.heap.size (tuC T v) := by rw [hwb]; exact Lies.new w (tuC T v) _
  have hsl : ∃ a n c, v = .slice a n c := by obtain ⟨a, c, e, -, -⟩ := h; exact ⟨a, _, c, e⟩
  obtain ⟨a, n, c, rfl⟩ := hsl
  clear h
  obtain ⟨ip, addr, tp, own, port, rules, rt⟩ := T
  simp only at *
  subst hi
  have a0 : wb.cell? ⟨w.heap.size, 0, none⟩ = some (.bool true) := la.cell 0 rfl
  have a1 : wb.cell? ⟨w.heap.size, 1, none⟩ = some (.int .u32 addr) := la.cell 1 rfl
  have a2 : wb.cell? ⟨w.heap.size, 2, none⟩ = some (.int .i64 tp) := la.cell 2 rfl
  have a3 : wb.cell? ⟨w.heap.size, 3, none⟩ = some (.int .u32 own) := la.cell 3 rfl
  have LA := Lib.hid la
  replace hwb := Lib.hid hwb
  replace b0 := Lib.hid b0
  clear la
  have x2 : (1000 : Int) < (s.size : Int) := by omega
  unfold tuV
  go_enter Tryz.func8, Tryz.ntmps8
  go_upto_region 1 with fail
  rw [← hwb.out]
  clear hwb
  go_wp2_with fail
  go_ret2
  exact ⟨rfl, b0.out⟩
set_option maxHeartbeats 4000000 in
theorem rdn_long_false (T : Tu) (v : Value) (w : World) (h : RusAt w v T.rules) (src fr : Int) (s : ByteArray) (hs : s.size ≤ 140737488351232) (h1 : 1000 < s.size) (hi : T.ip = false) : Calls Tryz.prog 8 #[tuV T v, .int .u32 src, .int .i64 fr, .string s] w fun e w' => e = .returned (.tuple #[.string ⟨#[]⟩, .int .i64 8]) ∧ Below w.heap.size w w' := by
  obtain ⟨wb, hwb⟩ : ∃ x, x = w.alloc (.cells #[.bool T.ip, .int .u32 T.addr, .int .i64 T.tp, .int .u32 T.own, .int .i64 T.port, v] 27) := ⟨_, rfl⟩
  have b0 : Below w.heap.size w wb := by rw [hwb]; exact (Below.refl _ _).alloc (Nat.le_refl _) _
  have la : Lies wb w.heap.size (tuC T v) := by rw [hwb]; exact Lies.new w (tuC T v) _
  have hsl : ∃ a n c, v = .slice a n c := by obtain ⟨a, c, e, -, -⟩ := h; exact ⟨a, _, c, e⟩
  obtain ⟨a, n, c, rfl⟩ := hsl
  clear h
  obtain ⟨ip, addr, tp, own, port, rules, rt⟩ := T
  simp only at *
  subst hi
  have a0 : wb.cell? ⟨w.heap.size, 0, none⟩ = some (.bool false) := la.cell 0 rfl
  have a1 : wb.cell? ⟨w.heap.size, 1, none⟩ = some (.int .u32 addr) := la.cell 1 rfl
  have a2 : wb.cell? ⟨w.heap.size, 2, none⟩ = some (.int .i64 tp) := la.cell 2 rfl
  have a3 : wb.cell? ⟨w.heap.size, 3, none⟩ = some (.int .u32 own) := la.cell 3 rfl
  have LA := Lib.hid la
  replace hwb := Lib.hid hwb
  replace b0 := Lib.hid b0
  clear la
  have x2 : (1000 : Int) < (s.size : Int) := by omega
  unfold tuV
  go_enter Tryz.func8, Tryz.ntmps8
  go_upto_region 1 with fail
  rw [← hwb.out]
  clear hwb
  go_wp2_with fail
  go_ret2
  exact ⟨rfl, b0.out⟩
set_option maxHeartbeats 4000000 in
theorem rdn_addr (T : Tu) (v : Value) (w : World) (h : RusAt w v T.rules) (src fr : Int) (s : ByteArray) (hs : s.size ≤ 140737488351232) (h1 : s.size ≤ 1000) (ho : src ≠ T.addr) (hi : T.ip = false) : Calls Tryz.prog 8 #[tuV T v, .int .u32 src, .int .i64 fr, .string s] w fun e w' => e = .returned (.tuple #[.string ⟨#[]⟩, .int .i64 15]) ∧ Below w.heap.size w w' := by
  obtain ⟨wb, hwb⟩ : ∃ x, x = w.alloc (.cells #[.bool T.ip, .int .u32 T.addr, .int .i64 T.tp, .int .u32 T.own, .int .i64 T.port, v] 27) := ⟨_, rfl⟩
  have b0 : Below w.heap.size w wb := by rw [hwb]; exact (Below.refl _ _).alloc (Nat.le_refl _) _
  have la : Lies wb w.heap.size (tuC T v) := by rw [hwb]; exact Lies.new w (tuC T v) _
  have hsl : ∃ a n c, v = .slice a n c := by obtain ⟨a, c, e, -, -⟩ := h; exact ⟨a, _, c, e⟩
  obtain ⟨a, n, c, rfl⟩ := hsl
  clear h
  obtain ⟨ip, addr, tp, own, port, rules, rt⟩ := T
  simp only at *
  subst hi
  have a0 : wb.cell? ⟨w.heap.size, 0, none⟩ = some (.bool false) := la.cell 0 rfl
  have a1 : wb.cell? ⟨w.heap.size, 1, none⟩ = some (.int .u32 addr) := la.cell 1 rfl
  have a2 : wb.cell? ⟨w.heap.size, 2, none⟩ = some (.int .i64 tp) := la.cell 2 rfl
  have a3 : wb.cell? ⟨w.heap.size, 3, none⟩ = some (.int .u32 own) := la.cell 3 rfl
  have LA := Lib.hid la
  replace hwb := Lib.hid hwb
  replace b0 := Lib.hid b0
  clear la
  have x2 : ¬ (1000 : Int) < (s.size : Int) := by omega
  clear h1
  have y1 : (src != addr) = true := by simp [ho]
  unfold tuV
  go_enter Tryz.func8, Tryz.ntmps8
  go_upto_region 1 with fail
  rw [← hwb.out]
  clear hwb
  go_wp2_with fail
  go_ret2
  exact ⟨rfl, b0.out⟩
set_option maxHeartbeats 4000000 in
theorem rdn_port (T : Tu) (v : Value) (w : World) (h : RusAt w v T.rules) (src fr : Int) (s : ByteArray) (hs : s.size ≤ 140737488351232) (h1 : s.size ≤ 1000) (ho : src = T.addr) (hp : fr ≠ T.tp) (hi : T.ip = false) : Calls Tryz.prog 8 #[tuV T v, .int .u32 src, .int .i64 fr, .string s] w fun e w' => e = .returned (.tuple #[.string ⟨#[]⟩, .int .i64 15]) ∧ Below w.heap.size w w' := by
  obtain ⟨wb, hwb⟩ : ∃ x, x = w.alloc (.cells #[.bool T.ip, .int .u32 T.addr, .int .i64 T.tp, .int .u32 T.own, .int .i64 T.port, v] 27) := ⟨_, rfl⟩
  have b0 : Below w.heap.size w wb := by rw [hwb]; exact (Below.refl _ _).alloc (Nat.le_refl _) _
  have la : Lies wb w.heap.size (tuC T v) := by rw [hwb]; exact Lies.new w (tuC T v) _
  have hsl : ∃ a n c, v = .slice a n c := by obtain ⟨a, c, e, -, -⟩ := h; exact ⟨a, _, c, e⟩
  obtain ⟨a, n, c, rfl⟩ := hsl
  clear h
  obtain ⟨ip, addr, tp, own, port, rules, rt⟩ := T
  simp only at *
  subst hi
  have a0 : wb.cell? ⟨w.heap.size, 0, none⟩ = some (.bool false) := la.cell 0 rfl
  have a1 : wb.cell? ⟨w.heap.size, 1, none⟩ = some (.int .u32 addr) := la.cell 1 rfl
  have a2 : wb.cell? ⟨w.heap.size, 2, none⟩ = some (.int .i64 tp) := la.cell 2 rfl
  have a3 : wb.cell? ⟨w.heap.size, 3, none⟩ = some (.int .u32 own) := la.cell 3 rfl
  have LA := Lib.hid la
  replace hwb := Lib.hid hwb
  replace b0 := Lib.hid b0
  clear la
  have x2 : ¬ (1000 : Int) < (s.size : Int) := by omega
  clear h1
  have ho2 := ho.symm
  clear ho
  subst ho2
  have y1 : (fr != tp) = true := by simp [hp]
  unfold tuV
  go_enter Tryz.func8, Tryz.ntmps8
  go_upto_region 1 with fail
  rw [← hwb.out]
  clear hwb
  go_wp2_with fail
  go_ret2
  exact ⟨rfl, b0.out⟩
set_option maxHeartbeats 4000000 in
theorem rdn_pay (T : Tu) (v : Value) (w : World) (h : RusAt w v T.rules) (src fr : Int) (s : ByteArray) (hs : s.size ≤ 140737488351232) (h1 : s.size ≤ 1000) (ho : src = T.addr) (hp : fr = T.tp) (hi : T.ip = false) : Calls Tryz.prog 8 #[tuV T v, .int .u32 src, .int .i64 fr, .string s] w fun e w' => e = .returned (.tuple #[.string s, .int .i64 0]) ∧ Below w.heap.size w w' := by
  obtain ⟨wb, hwb⟩ : ∃ x, x = w.alloc (.cells #[.bool T.ip, .int .u32 T.addr, .int .i64 T.tp, .int .u32 T.own, .int .i64 T.port, v] 27) := ⟨_, rfl⟩
  have b0 : Below w.heap.size w wb := by rw [hwb]; exact (Below.refl _ _).alloc (Nat.le_refl _) _
  have la : Lies wb w.heap.size (tuC T v) := by rw [hwb]; exact Lies.new w (tuC T v) _
  have hsl : ∃ a n c, v = .slice a n c := by obtain ⟨a, c, e, -, -⟩ := h; exact ⟨a, _, c, e⟩
  obtain ⟨a, n, c, rfl⟩ := hsl
  clear h
  obtain ⟨ip, addr, tp, own, port, rules, rt⟩ := T
  simp only at *
  subst hi
  have a0 : wb.cell? ⟨w.heap.size, 0, none⟩ = some (.bool false) := la.cell 0 rfl
  have a1 : wb.cell? ⟨w.heap.size, 1, none⟩ = some (.int .u32 addr) := la.cell 1 rfl
  have a2 : wb.cell? ⟨w.heap.size, 2, none⟩ = some (.int .i64 tp) := la.cell 2 rfl
  have a3 : wb.cell? ⟨w.heap.size, 3, none⟩ = some (.int .u32 own) := la.cell 3 rfl
  have LA := Lib.hid la
  replace hwb := Lib.hid hwb
  replace b0 := Lib.hid b0
  clear la
  have x2 : ¬ (1000 : Int) < (s.size : Int) := by omega
  clear h1
  have ho2 := ho.symm
  clear ho
  have hp2 := hp.symm
  clear hp
  subst ho2 hp2
  unfold tuV
  go_enter Tryz.func8, Tryz.ntmps8
  go_upto_region 1 with fail
  rw [← hwb.out]
  clear hwb
  go_wp2_with fail
  go_ret2
  exact ⟨rfl, b0.out⟩
set_option maxHeartbeats 4000000 in
theorem rdn_bad (T : Tu) (v : Value) (w : World) (h : RusAt w v T.rules) (src fr : Int) (s : ByteArray) (hs : s.size ≤ 140737488351232) (h1 : s.size ≤ 1000) (k : Int) (hk : (k != 0) = true) (PA : Hid (∀ w, Calls Tryz.prog 13 #[.string s] w fun e w' => e = .returned (.tuple #[none', .int .i64 k]) ∧ Below w.heap.size w w')) (hi : T.ip = true) : Calls Tryz.prog 8 #[tuV T v, .int .u32 src, .int .i64 fr, .string s] w fun e w' => e = .returned (.tuple #[.string ⟨#[]⟩, .int .i64 k]) ∧ Below w.heap.size w w' := by
  obtain ⟨wb, hwb⟩ : ∃ x, x = w.alloc (.cells #[.bool T.ip, .int .u32 T.addr, .int .i64 T.tp, .int .u32 T.own, .int .i64 T.port, v] 27) := ⟨_, rfl⟩
  have b0 : Below w.heap.size w wb := by rw [hwb]; exact (Below.refl _ _).alloc (Nat.le_refl _) _
  have la : Lies wb w.heap.size (tuC T v) := by rw [hwb]; exact Lies.new w (tuC T v) _
  have hsl : ∃ a n c, v = .slice a n c := by obtain ⟨a, c, e, -, -⟩ := h; exact ⟨a, _, c, e⟩
  obtain ⟨a, n, c, rfl⟩ := hsl
  clear h
  obtain ⟨ip, addr, tp, own, port, rules, rt⟩ := T
  simp only at *
  subst hi
  have a0 : wb.cell? ⟨w.heap.size, 0, none⟩ = some (.bool true) := la.cell 0 rfl
  have a1 : wb.cell? ⟨w.heap.size, 1, none⟩ = some (.int .u32 addr) := la.cell 1 rfl
  have a2 : wb.cell? ⟨w.heap.size, 2, none⟩ = some (.int .i64 tp) := la.cell 2 rfl
  have a3 : wb.cell? ⟨w.heap.size, 3, none⟩ = some (.int .u32 own) := la.cell 3 rfl
  have LA := Lib.hid la
  replace hwb := Lib.hid hwb
  replace b0 := Lib.hid b0
  clear la
  have x2 : ¬ (1000 : Int) < (s.size : Int) := by omega
  clear h1
  unfold none' hv at PA
  unfold tuV
  go_enter Tryz.func8, Tryz.ntmps8
  go_upto_region 1 with fail
  rw [← hwb.out]
  clear hwb
  go_wp2_with fail
  refine (PA.out wb).mono ?_
  rintro e w1 ⟨rfl, b1⟩
  clear PA
  go_upto_region 8 with fail
  have bh : Below w1.heap.size w1 (w1.alloc (.cells #[.int .i64 0, .int .i64 0, .int .i64 0, .int .i64 0, .int .i64 0, .int .u32 0, .int .u32 0, .string ⟨#[]⟩] 40)) := (Below.refl _ _).alloc (Nat.le_refl _) _
  have LH : Lies (w1.alloc (.cells #[.int .i64 0, .int .i64 0, .int .i64 0, .int .i64 0, .int .i64 0, .int .u32 0, .int .u32 0, .string ⟨#[]⟩] 40)) w1.heap.size [.int .i64 0, .int .i64 0, .int .i64 0, .int .i64 0, .int .i64 0, .int .u32 0, .int .u32 0, .string ⟨#[]⟩] := Lies.new w1 [.int .i64 0, .int .i64 0, .int .i64 0, .int .i64 0, .int .i64 0, .int .u32 0, .int .u32 0, .string ⟨#[]⟩] _
  have b2 := b1.trans (bh.mono b1.size)
  generalize w1.alloc (.cells #[.int .i64 0, .int .i64 0, .int .i64 0, .int .i64 0, .int .i64 0, .int .u32 0, .int .u32 0, .string ⟨#[]⟩] 40) = w2 at *
  generalize w1.heap.size = gh at *
  have la := LA.out.keep (by show 0 < 6; decide) b2
  clear a0 a1 a2 a3 LA
  have a3 : w2.cell? ⟨w.heap.size, 3, none⟩ = some (.int .u32 own) := la.cell 3 rfl
  have h6 := LH.cell 6 rfl
  replace b2 := Lib.hid (b0.out.trans (b2.mono b0.out.size))
  clear b0 b1 bh la LH x2
  go_wp2_with fail
  go_ret2
  exact ⟨rfl, b2.out⟩
set_option maxHeartbeats 4000000 in
theorem rdn_dst (T : Tu) (v : Value) (w : World) (h : RusAt w v T.rules) (src fr : Int) (s : ByteArray) (hs : s.size ≤ 140737488351232) (h1 : s.size ≤ 1000) (tos id frag ttl pro sr dst : Int) (dat : ByteArray) (PA : Hid (∀ w, Calls Tryz.prog 13 #[.string s] w fun e w' => e = .returned (.tuple #[hv tos id frag ttl pro sr dst dat, .int .i64 0]) ∧ Below w.heap.size w w')) (ho : dst ≠ T.own) (hi : T.ip = true) : Calls Tryz.prog 8 #[tuV T v, .int .u32 src, .int .i64 fr, .string s] w fun e w' => e = .returned (.tuple #[.string ⟨#[]⟩, .int .i64 15]) ∧ Below w.heap.size w w' := by
  obtain ⟨wb, hwb⟩ : ∃ x, x = w.alloc (.cells #[.bool T.ip, .int .u32 T.addr, .int .i64 T.tp, .int .u32 T.own, .int .i64 T.port, v] 27) := ⟨_, rfl⟩
  have b0 : Below w.heap.size w wb := by rw [hwb]; exact (Below.refl _ _).alloc (Nat.le_refl _) _
  have la : Lies wb w.heap.size (tuC T v) := by rw [hwb]; exact Lies.new w (tuC T v) _
  have hsl : ∃ a n c, v = .slice a n c := by obtain ⟨a, c, e, -, -⟩ := h; exact ⟨a, _, c, e⟩
  obtain ⟨a, n, c, rfl⟩ := hsl
  clear h
  obtain ⟨ip, addr, tp, own, port, rules, rt⟩ := T
  simp only at *
  subst hi
  have a0 : wb.cell? ⟨w.heap.size, 0, none⟩ = some (.bool true) := la.cell 0 rfl
  have a1 : wb.cell? ⟨w.heap.size, 1, none⟩ = some (.int .u32 addr) := la.cell 1 rfl
  have a2 : wb.cell? ⟨w.heap.size, 2, none⟩ = some (.int .i64 tp) := la.cell 2 rfl
  have a3 : wb.cell? ⟨w.heap.size, 3, none⟩ = some (.int .u32 own) := la.cell 3 rfl
  have LA := Lib.hid la
  replace hwb := Lib.hid hwb
  replace b0 := Lib.hid b0
  clear la
  have x2 : ¬ (1000 : Int) < (s.size : Int) := by omega
  clear h1
  have y1 : (dst != own) = true := by simp [ho]
  unfold hv at PA
  unfold tuV
  go_enter Tryz.func8, Tryz.ntmps8
  go_upto_region 1 with fail
  rw [← hwb.out]
  clear hwb
  go_wp2_with fail
  refine (PA.out wb).mono ?_
  rintro e w1 ⟨rfl, b1⟩
  clear PA
  go_upto_region 8 with fail
  have bh : Below w1.heap.size w1 (w1.alloc (.cells #[.int .i64 tos, .int .i64 id, .int .i64 frag, .int .i64 ttl, .int .i64 pro, .int .u32 sr, .int .u32 dst, .string dat] 40)) := (Below.refl _ _).alloc (Nat.le_refl _) _
  have LH : Lies (w1.alloc (.cells #[.int .i64 tos, .int .i64 id, .int .i64 frag, .int .i64 ttl, .int .i64 pro, .int .u32 sr, .int .u32 dst, .string dat] 40)) w1.heap.size [.int .i64 tos, .int .i64 id, .int .i64 frag, .int .i64 ttl, .int .i64 pro, .int .u32 sr, .int .u32 dst, .string dat] := Lies.new w1 [.int .i64 tos, .int .i64 id, .int .i64 frag, .int .i64 ttl, .int .i64 pro, .int .u32 sr, .int .u32 dst, .string dat] _
  have b2 := b1.trans (bh.mono b1.size)
  generalize w1.alloc (.cells #[.int .i64 tos, .int .i64 id, .int .i64 frag, .int .i64 ttl, .int .i64 pro, .int .u32 sr, .int .u32 dst, .string dat] 40) = w2 at *
  generalize w1.heap.size = gh at *
  have la := LA.out.keep (by show 0 < 6; decide) b2
  clear a0 a1 a2 a3 LA
  have a3 : w2.cell? ⟨w.heap.size, 3, none⟩ = some (.int .u32 own) := la.cell 3 rfl
  have h6 := LH.cell 6 rfl
  replace b2 := Lib.hid (b0.out.trans (b2.mono b0.out.size))
  clear b0 b1 bh la LH x2
  go_wp2_with fail
  go_ret2
  exact ⟨rfl, b2.out⟩
set_option maxHeartbeats 4000000 in
theorem rdn_hop (T : Tu) (v : Value) (w : World) (h : RusAt w v T.rules) (src fr : Int) (s : ByteArray) (hs : s.size ≤ 140737488351232) (h1 : s.size ≤ 1000) (tos id frag ttl pro sr dst : Int) (dat : ByteArray) (PA : Hid (∀ w, Calls Tryz.prog 13 #[.string s] w fun e w' => e = .returned (.tuple #[hv tos id frag ttl pro sr dst dat, .int .i64 0]) ∧ Below w.heap.size w w')) (ho : dst = T.own) (ht : ByteArray) (hk : Int) (HO : Hid (∀ w, Calls Tryz.prog 16 #[.string s] w fun e w' => e = .returned (.tuple #[.string ht, .int .i64 hk]) ∧ Below w.heap.size w w')) (hi : T.ip = true) : Calls Tryz.prog 8 #[tuV T v, .int .u32 src, .int .i64 fr, .string s] w fun e w' => e = .returned (.tuple #[.string ht, .int .i64 hk]) ∧ Below w.heap.size w w' := by
  obtain ⟨wb, hwb⟩ : ∃ x, x = w.alloc (.cells #[.bool T.ip, .int .u32 T.addr, .int .i64 T.tp, .int .u32 T.own, .int .i64 T.port, v] 27) := ⟨_, rfl⟩
  have b0 : Below w.heap.size w wb := by rw [hwb]; exact (Below.refl _ _).alloc (Nat.le_refl _) _
  have la : Lies wb w.heap.size (tuC T v) := by rw [hwb]; exact Lies.new w (tuC T v) _
  have hsl : ∃ a n c, v = .slice a n c := by obtain ⟨a, c, e, -, -⟩ := h; exact ⟨a, _, c, e⟩
  obtain ⟨a, n, c, rfl⟩ := hsl
  clear h
  obtain ⟨ip, addr, tp, own, port, rules, rt⟩ := T
  simp only at *
  subst hi
  have a0 : wb.cell? ⟨w.heap.size, 0, none⟩ = some (.bool true) := la.cell 0 rfl
  have a1 : wb.cell? ⟨w.heap.size, 1, none⟩ = some (.int .u32 addr) := la.cell 1 rfl
  have a2 : wb.cell? ⟨w.heap.size, 2, none⟩ = some (.int .i64 tp) := la.cell 2 rfl
  have a3 : wb.cell? ⟨w.heap.size, 3, none⟩ = some (.int .u32 own) := la.cell 3 rfl
  have LA := Lib.hid la
  replace hwb := Lib.hid hwb
  replace b0 := Lib.hid b0
  clear la
  have x2 : ¬ (1000 : Int) < (s.size : Int) := by omega
  clear h1
  have ho2 := ho.symm
  clear ho
  subst ho2
  unfold hv at PA
  unfold tuV
  go_enter Tryz.func8, Tryz.ntmps8
  go_upto_region 1 with fail
  rw [← hwb.out]
  clear hwb
  go_wp2_with fail
  refine (PA.out wb).mono ?_
  rintro e w1 ⟨rfl, b1⟩
  clear PA
  go_upto_region 8 with fail
  have bh : Below w1.heap.size w1 (w1.alloc (.cells #[.int .i64 tos, .int .i64 id, .int .i64 frag, .int .i64 ttl, .int .i64 pro, .int .u32 sr, .int .u32 own, .string dat] 40)) := (Below.refl _ _).alloc (Nat.le_refl _) _
  have LH : Lies (w1.alloc (.cells #[.int .i64 tos, .int .i64 id, .int .i64 frag, .int .i64 ttl, .int .i64 pro, .int .u32 sr, .int .u32 own, .string dat] 40)) w1.heap.size [.int .i64 tos, .int .i64 id, .int .i64 frag, .int .i64 ttl, .int .i64 pro, .int .u32 sr, .int .u32 own, .string dat] := Lies.new w1 [.int .i64 tos, .int .i64 id, .int .i64 frag, .int .i64 ttl, .int .i64 pro, .int .u32 sr, .int .u32 own, .string dat] _
  have b2 := b1.trans (bh.mono b1.size)
  generalize w1.alloc (.cells #[.int .i64 tos, .int .i64 id, .int .i64 frag, .int .i64 ttl, .int .i64 pro, .int .u32 sr, .int .u32 own, .string dat] 40) = w2 at *
  generalize w1.heap.size = gh at *
  have la := LA.out.keep (by show 0 < 6; decide) b2
  clear a0 a1 a2 a3 LA
  have a3 : w2.cell? ⟨w.heap.size, 3, none⟩ = some (.int .u32 own) := la.cell 3 rfl
  have h6 := LH.cell 6 rfl
  replace b2 := Lib.hid (b0.out.trans (b2.mono b0.out.size))
  clear b0 b1 bh la LH x2
  go_wp2_with fail
  refine (HO.out w2).mono ?_
  rintro e w4 ⟨rfl, b4⟩
  clear HO
  replace b4 := Lib.hid (b2.out.trans (b4.mono b2.out.size))
  go_wp2_with fail
  go_ret2
  exact ⟨rfl, b4.out⟩
theorem rdown_ok (T : Tu) (v : Value) (w : World) (h : RusAt w v T.rules) (src fr : Int) (s : ByteArray) (hs : s.size ≤ 140737488351232) :
    Calls Tryz.prog 8 #[tuV T v, .int .u32 src, .int .i64 fr, .string s] w fun e w' => e = .returned (.tuple #[.string (dnS T src fr s), .int .i64 (dnE T src fr s)]) ∧ Below w.heap.size w w' := by
  by_cases h1 : 1000 < s.size
  · have e : dnE T src fr s = 8 := by unfold dnE; rw [if_pos h1]
    rw [show dnS T src fr s = ⟨#[]⟩ by unfold dnS; rw [if_pos (by rw [e]; decide)], e]
    cases hi : T.ip with
    | true => exact rdn_long_true T v w h src fr s hs h1 hi
    | false => exact rdn_long_false T v w h src fr s hs h1 hi
  have h2 : s.size ≤ 1000 := by omega
  cases hi : T.ip with
  | false =>
    have e : dnE T src fr s = if src ≠ T.addr ∨ fr ≠ T.tp then 15 else 0 := by unfold dnE; rw [if_neg h1, if_pos hi]
    by_cases ho : src = T.addr
    · by_cases hp : fr = T.tp
      · rw [if_neg (by simp [ho, hp])] at e
        rw [show dnS T src fr s = s by unfold dnS; rw [if_neg (by rw [e]; decide), if_pos hi], e]
        exact rdn_pay T v w h src fr s hs h2 ho hp hi
      · rw [if_pos (.inr hp)] at e
        rw [show dnS T src fr s = ⟨#[]⟩ by unfold dnS; rw [if_pos (by rw [e]; decide)], e]
        exact rdn_port T v w h src fr s hs h2 ho hp hi
    · rw [if_pos (.inl ho)] at e
      rw [show dnS T src fr s = ⟨#[]⟩ by unfold dnS; rw [if_pos (by rw [e]; decide)], e]
      exact rdn_addr T v w h src fr s hs h2 ho hi
  | true =>
    have hs' : s.size ≤ 9223372036854775807 := by omega
    have e : dnE T src fr s = if errOf s ≠ 0 then errOf s else if dstP s ≠ T.own then 15 else hopE s := by unfold dnE; rw [if_neg h1, if_neg (by rw [hi]; decide)]
    by_cases hE : errOf s ≠ 0
    · rw [if_pos hE] at e
      rw [show dnS T src fr s = ⟨#[]⟩ by unfold dnS; rw [if_pos (by rw [e]; exact hE)], e]
      exact rdn_bad T v w h src fr s hs h2 _ (by simpa using hE) (fun w => rparse_none s w hs' hE) hi
    rw [if_neg hE] at e
    have hE : errOf s = 0 := by simpa using hE
    have PA : ∀ w, Calls Tryz.prog 13 #[.string s] w fun e w' => e = .returned (.tuple #[hdOf s, .int .i64 0]) ∧ Below w.heap.size w w' := fun w => rparse_hd s w hs' hE
    have HO : ∀ w, Calls Tryz.prog 16 #[.string s] w fun e w' => e = .returned (.tuple #[.string (hopS s), .int .i64 (hopE s)]) ∧ Below w.heap.size w w' := fun w => rhop_ok s w hs'
    by_cases ho : dstP s = T.own
    · rw [if_neg (by simpa using ho)] at e
      rw [show dnS T src fr s = hopS s by
        unfold dnS
        by_cases q : dnE T src fr s ≠ 0
        · rw [if_pos q, hopE_some (by rw [← e]; exact q)]
        · rw [if_neg q, if_neg (by rw [hi]; decide)], e]
      exact rdn_hop T v w h src fr s hs h2 _ _ _ _ _ _ _ _ PA ho _ _ HO hi
    · rw [if_pos ho] at e
      rw [show dnS T src fr s = ⟨#[]⟩ by unfold dnS; rw [if_pos (by rw [e]; decide)], e]
      exact rdn_dst T v w h src fr s hs h2 _ _ _ _ _ _ _ _ PA ho hi
end Go.Proofs.YtndaohiecpdmlaaGreat
