/-
  What the document's own Parse answers for bytes that are as long as they say. No condition but that.
-/
import Derived.Test.YtndaohiecpdmlaaIpRefParse
import Derived.Test.YtndaohiecpdmlaaIpDraw
namespace Go.Proofs.Ytndaohiecpdmlaa
open Go.RowKit
/-- A call of Number whose argument lies in slot k. -/
theorem number_wp (o : Oper) (k : Nat) {x v : Value} (ho : o.op = .call { callee := .value (.func 19), args := #[.tmp k], argTypes := #[9] }) (N : ∀ w, Calls Try.prog 19 #[x] w fun e w' => e = .returned v ∧ w = w')
    (a : Act) (w : World) (K : Act → World → Prop) (Q : Exit → Act → World → Prop) (hx : a.eval (.tmp k) = x) (hK : K (a.put o.dst v) w) : o.wp Try.prog a w K Q := by
  unfold Oper.wp
  have hr : (execOp a.eval o).run Try.prog w = .ok (.enter 19 #[x]) w := by
    unfold execOp
    rw [ho]
    simp only [go_sem] at hx ⊢
    simp [go_sem, hx]
  rw [hr]
  exact (N w).mono fun e w' ⟨he, hw⟩ => by subst he; subst hw; exact hK
set_option maxRecDepth 100000 in
set_option maxHeartbeats 4000000 in
theorem rparse_core (s : ByteArray) (w : World) (t : ByteArray) (x : Bool) (v : Value) (r : Int) (hs : s.size ≤ 9223372036854775807) (h : 20 ≤ s.size) (hf : num (byt s) 0 1 = 69) (hl : said s = s.size)
    (hB : Hid (∀ w, Calls Try.prog 26 #[hdOf s] w fun e w' => e = .returned (.tuple #[.string t, .int .i64 0]) ∧ Below w.heap.size w w')) (ht : (t.toList == s.toList) = x)
    (hx : (x = false ∧ v = none' ∧ r = 9) ∨ (x = true ∧ v = hdOf s ∧ r = 0)) :
    Calls Try.prog 14 #[.string s] w fun e w' => e = .returned (.tuple #[v, .int .i64 r]) ∧ Below w.heap.size w w' := by
  have N2 : Hid (∀ w, _) := fun w => rnum2 s w 2 4 rfl (by omega)
  unfold said at hl
  have N4 : Hid (∀ w, _) := fun w => rnum2 s w 4 6 rfl (by omega)
  have N6 : Hid (∀ w, _) := fun w => rnum2 s w 6 8 rfl (by omega)
  have N12 : Hid (∀ w, _) := fun w => rnum4 s w 12 16 rfl (by omega)
  have N16 : Hid (∀ w, _) := fun w => rnum4 s w 16 20 rfl (by omega)
  have b4 := num2_bd s 4; have b6 := num2_bd s 6; have b12 := num4_bd s 12; have b16 := num4_bd s 16
  have bd := num2_bd s 2
  have e0 := byt_eq s 0 (Nat.lt_of_lt_of_le (by decide) h); have e1 := byt_eq s 1 (Nat.lt_of_lt_of_le (by decide) h); have e8 := byt_eq s 8 (Nat.lt_of_lt_of_le (by decide) h); have e9 := byt_eq s 9 (Nat.lt_of_lt_of_le (by decide) h)
  have a1 := byt_bd s 1; have a8 := byt_bd s 8; have a9 := byt_bd s 9
  rw [num1] at hf
  have f0 : (byt s 0 != 69) = false := by simp [hf]
  have q4 : (4 : Int) ≤ s.size := by omega
  have q6 : (6 : Int) ≤ s.size := by omega
  have q8 : (8 : Int) ≤ s.size := by omega
  have q16 : (16 : Int) ≤ s.size := by omega
  have q20 : (20 : Int) ≤ s.size := by omega
  have l1 : (1 : Int) < s.size := by omega
  have l8 : (8 : Int) < s.size := by omega
  have l9 : (9 : Int) < s.size := by omega
  unfold hdOf at *
  rw [num1, num1, num1] at *
  rw [hl] at N2 bd
  generalize num (byt s) 4 2 = id at *
  generalize num (byt s) 6 2 = frag at *
  generalize num (byt s) 12 4 = src at *
  generalize num (byt s) 16 4 = dst at *
  have f1 : decide ((s.size : Int) < 20) = false := by simp; omega
  clear hl
  unfold none' hv at *
  have w12 : IntKind.u32.wrap src = src := by simp [IntKind.wrap, IntKind.bits, IntKind.signed]; omega
  have w16 : IntKind.u32.wrap dst = dst := by simp [IntKind.wrap, IntKind.bits, IntKind.signed]; omega
  have w1 : IntKind.i64.wrap (byt s 1) = byt s 1 := by simp [IntKind.wrap, IntKind.bits, IntKind.signed]; omega
  have w8 : IntKind.i64.wrap (byt s 8) = byt s 8 := by simp [IntKind.wrap, IntKind.bits, IntKind.signed]; omega
  have w9 : IntKind.i64.wrap (byt s 9) = byt s 9 := by simp [IntKind.wrap, IntKind.bits, IntKind.signed]; omega
  generalize byt s 1 = tos at *
  generalize byt s 8 = ttl at *
  generalize byt s 9 = proto at *
  go_enter Try.func14, Try.ntmps14
  go_wp2_with (go_at_call 19; refine (N2.out _).mono ?_; rintro e w' ⟨rfl, rfl⟩)
  clear N2
  replace hx : Hid _ := hx
  replace ht : Hid _ := ht
  clear bd b4 b6 a1 a8 a9 f0 f1 hf
  refine wp_region_any (by kernel_rfl) ?_
  change wpAny _ .any _ _ 28 (Array.replicate 28 false) _ (w.alloc (.cells #[.int .i64 0, .int .i64 0, .int .i64 0, .int .i64 0, .int .i64 0, .int .u32 0, .int .u32 0, .string ⟨#[]⟩] 40)).drew
  refine take_slot (i := 0) (d := 35) (v := .string s) rfl rfl (by kernel_rfl) (by kernel_rfl) (by kernel_rfl) (fun _ _ _ h => h) rfl (fun w => by go_simp) ?_
  refine take_slot (i := 1) (d := 36) (v := .int .u8 tos) rfl rfl (by kernel_rfl) (by kernel_rfl) (by kernel_rfl) (fun _ _ _ h => h) rfl (fun w => by go_simp) ?_
  refine take_slot (i := 2) (d := 37) (v := .int .i64 tos) rfl rfl (by kernel_rfl) (by kernel_rfl) (by kernel_rfl) (fun _ _ _ h => h) rfl (fun w => by go_simp) ?_
  refine take_slot (i := 3) (d := 38) (v := .string s) rfl rfl (by kernel_rfl) (by kernel_rfl) (by kernel_rfl) (fun _ _ _ h => h) rfl (fun w => by go_simp) ?_
  refine take_slot (i := 4) (d := 39) (v := .string (s.extract 4 6)) rfl rfl (by kernel_rfl) (by kernel_rfl) (by kernel_rfl) (fun _ _ _ h => h) rfl (fun w => by go_simp) ?_
  refine call_slot (i := 5) (d := 40) (v := .int .i64 id) (x := .string (s.extract 4 6)) (k := 39) rfl rfl (by kernel_rfl) (by kernel_rfl) (by kernel_rfl) (fun _ _ _ h => h) rfl (fun a w K hx hK => number_wp _ 39 rfl N4.out a w K _ hx hK) (by simp [Act.eval, Act.put]) ?_
  refine take_slot (i := 6) (d := 41) (v := .string s) rfl rfl (by kernel_rfl) (by kernel_rfl) (by kernel_rfl) (fun _ _ _ h => h) rfl (fun w => by go_simp) ?_
  refine take_slot (i := 7) (d := 42) (v := .string (s.extract 6 8)) rfl rfl (by kernel_rfl) (by kernel_rfl) (by kernel_rfl) (fun _ _ _ h => h) rfl (fun w => by go_simp) ?_
  refine call_slot (i := 8) (d := 43) (v := .int .i64 frag) (x := .string (s.extract 6 8)) (k := 42) rfl rfl (by kernel_rfl) (by kernel_rfl) (by kernel_rfl) (fun _ _ _ h => h) rfl (fun a w K hx hK => number_wp _ 42 rfl N6.out a w K _ hx hK) (by simp [Act.eval, Act.put]) ?_
  refine take_slot (i := 9) (d := 44) (v := .string s) rfl rfl (by kernel_rfl) (by kernel_rfl) (by kernel_rfl) (fun _ _ _ h => h) rfl (fun w => by go_simp) ?_
  refine take_slot (i := 10) (d := 45) (v := .int .u8 ttl) rfl rfl (by kernel_rfl) (by kernel_rfl) (by kernel_rfl) (fun _ _ _ h => h) rfl (fun w => by go_simp) ?_
  refine take_slot (i := 11) (d := 46) (v := .int .i64 ttl) rfl rfl (by kernel_rfl) (by kernel_rfl) (by kernel_rfl) (fun _ _ _ h => h) rfl (fun w => by go_simp) ?_
  refine take_slot (i := 12) (d := 47) (v := .string s) rfl rfl (by kernel_rfl) (by kernel_rfl) (by kernel_rfl) (fun _ _ _ h => h) rfl (fun w => by go_simp) ?_
  refine take_slot (i := 13) (d := 48) (v := .int .u8 proto) rfl rfl (by kernel_rfl) (by kernel_rfl) (by kernel_rfl) (fun _ _ _ h => h) rfl (fun w => by go_simp) ?_
  refine take_slot (i := 14) (d := 49) (v := .int .i64 proto) rfl rfl (by kernel_rfl) (by kernel_rfl) (by kernel_rfl) (fun _ _ _ h => h) rfl (fun w => by go_simp) ?_
  refine take_slot (i := 15) (d := 50) (v := .string s) rfl rfl (by kernel_rfl) (by kernel_rfl) (by kernel_rfl) (fun _ _ _ h => h) rfl (fun w => by go_simp) ?_
  refine take_slot (i := 16) (d := 51) (v := .string (s.extract 12 16)) rfl rfl (by kernel_rfl) (by kernel_rfl) (by kernel_rfl) (fun _ _ _ h => h) rfl (fun w => by go_simp) ?_
  refine call_slot (i := 17) (d := 52) (v := .int .i64 src) (x := .string (s.extract 12 16)) (k := 51) rfl rfl (by kernel_rfl) (by kernel_rfl) (by kernel_rfl) (fun _ _ _ h => h) rfl (fun a w K hx hK => number_wp _ 51 rfl N12.out a w K _ hx hK) (by simp [Act.eval, Act.put]) ?_
  refine take_slot (i := 18) (d := 53) (v := .int .u32 src) rfl rfl (by kernel_rfl) (by kernel_rfl) (by kernel_rfl) (fun _ _ _ h => h) rfl (fun w => by go_simp) ?_
  refine take_slot (i := 19) (d := 54) (v := .string s) rfl rfl (by kernel_rfl) (by kernel_rfl) (by kernel_rfl) (fun _ _ _ h => h) rfl (fun w => by go_simp) ?_
  refine take_slot (i := 20) (d := 55) (v := .string (s.extract 16 20)) rfl rfl (by kernel_rfl) (by kernel_rfl) (by kernel_rfl) (fun _ _ _ h => h) rfl (fun w => by go_simp) ?_
  refine call_slot (i := 21) (d := 56) (v := .int .i64 dst) (x := .string (s.extract 16 20)) (k := 55) rfl rfl (by kernel_rfl) (by kernel_rfl) (by kernel_rfl) (fun _ _ _ h => h) rfl (fun a w K hx hK => number_wp _ 55 rfl N16.out a w K _ hx hK) (by simp [Act.eval, Act.put]) ?_
  refine take_slot (i := 22) (d := 57) (v := .int .u32 dst) rfl rfl (by kernel_rfl) (by kernel_rfl) (by kernel_rfl) (fun _ _ _ h => h) rfl (fun w => by go_simp) ?_
  refine take_slot (i := 23) (d := 58) (v := .string s) rfl rfl (by kernel_rfl) (by kernel_rfl) (by kernel_rfl) (fun _ _ _ h => h) rfl (fun w => by go_simp) ?_
  refine take_slot (i := 24) (d := 59) (v := .string (s.extract 20 s.size)) rfl rfl (by kernel_rfl) (by kernel_rfl) (by kernel_rfl) (fun _ _ _ h => h) rfl (fun w => by go_simp) ?_
  refine take_slot (i := 25) (d := 60) (v := .agg #[.int .i64 tos, .int .i64 id, .int .i64 frag, .int .i64 ttl, .int .i64 proto, .int .u32 src, .int .u32 dst, .string (s.extract 20 s.size)]) rfl rfl (by kernel_rfl) (by kernel_rfl) (by kernel_rfl) (fun _ _ _ h => h) rfl (fun w => by go_simp) ?_
  simp only [Act.put, List.setIfInBounds_toArray, List.set_cons_succ, List.set_cons_zero]
  refine wpAny_all (rs := [26]) (by kernel_rfl) (by simp) (fun i hi => ?_)
  obtain rfl : i = 26 := by simpa using hi
  refine wpOp_step rfl (fun K' hK => ?_)
  clear hi
  go_simp
  refine hK _ _ ?_
  clear hK K'
  refine wpAny_all (rs := [27]) (by kernel_rfl) (by simp) (fun i hi => ?_)
  obtain rfl : i = 27 := by simpa using hi
  refine wpOp_step rfl (fun K' hK => ?_)
  clear hi
  go_simp
  refine hK _ _ ?_
  clear hK K'
  refine wpAny_done (by kernel_rfl) ?_ 0
  clear N4 N6 N12 N16 e0 e1 e8 e9 q4 q6 q8 q16 q20 l1 l8 l9 w12 w16 w1 w8 w9
  have m0 : 0 < 8 := by decide
  have m1 : 1 < 8 := by decide
  have m2 : 2 < 8 := by decide
  have m3 : 3 < 8 := by decide
  have m4 : 4 < 8 := by decide
  have m5 : 5 < 8 := by decide
  have m6 : 6 < 8 := by decide
  have m7 : 7 < 8 := by decide
  have XX : Hid (∀ w1, Below ((w.alloc (.cells #[.int .i64 0, .int .i64 0, .int .i64 0, .int .i64 0, .int .i64 0, .int .u32 0, .int .u32 0, .string ⟨#[]⟩] 40)).drew.alloc (.cells #[.int .i64 tos, .int .i64 id, .int .i64 frag, .int .i64 ttl, .int .i64 proto, .int .u32 src, .int .u32 dst, .string (s.extract 20 s.size)] 40)).heap.size ((w.alloc (.cells #[.int .i64 0, .int .i64 0, .int .i64 0, .int .i64 0, .int .i64 0, .int .u32 0, .int .u32 0, .string ⟨#[]⟩] 40)).drew.alloc (.cells #[.int .i64 tos, .int .i64 id, .int .i64 frag, .int .i64 ttl, .int .i64 proto, .int .u32 src, .int .u32 dst, .string (s.extract 20 s.size)] 40)) w1 → Box w1 (w.heap.size + 1) tos id frag ttl proto src dst (s.extract 20 s.size)) := fun w1 b => by
    have hbx := (box_new (w.alloc (.cells #[.int .i64 0, .int .i64 0, .int .i64 0, .int .i64 0, .int .i64 0, .int .u32 0, .int .u32 0, .string ⟨#[]⟩] 40)).drew tos id frag ttl proto src dst (s.extract 20 s.size)).keep (by simp) b
    simpa using hbx
  have RR : Hid (∀ w1, Below ((w.alloc (.cells #[.int .i64 0, .int .i64 0, .int .i64 0, .int .i64 0, .int .i64 0, .int .u32 0, .int .u32 0, .string ⟨#[]⟩] 40)).drew.alloc (.cells #[.int .i64 tos, .int .i64 id, .int .i64 frag, .int .i64 ttl, .int .i64 proto, .int .u32 src, .int .u32 dst, .string (s.extract 20 s.size)] 40)).heap.size ((w.alloc (.cells #[.int .i64 0, .int .i64 0, .int .i64 0, .int .i64 0, .int .i64 0, .int .u32 0, .int .u32 0, .string ⟨#[]⟩] 40)).drew.alloc (.cells #[.int .i64 tos, .int .i64 id, .int .i64 frag, .int .i64 ttl, .int .i64 proto, .int .u32 src, .int .u32 dst, .string (s.extract 20 s.size)] 40)) w1 → HB w1 w.heap.size zs) := fun w1 b => by
    have h1 : HB (w.alloc (.cells #[.int .i64 0, .int .i64 0, .int .i64 0, .int .i64 0, .int .i64 0, .int .u32 0, .int .u32 0, .string ⟨#[]⟩] 40)).drew w.heap.size zs := ⟨(hb_new w).lt, (hb_new w).at'⟩
    exact (h1.alloc (.cells #[.int .i64 tos, .int .i64 id, .int .i64 frag, .int .i64 ttl, .int .i64 proto, .int .u32 src, .int .u32 dst, .string (s.extract 20 s.size)] 40)).below b (by simp; omega)
  have ZZ1 : Hid (∀ w1, Below ((w.alloc (.cells #[.int .i64 0, .int .i64 0, .int .i64 0, .int .i64 0, .int .i64 0, .int .u32 0, .int .u32 0, .string ⟨#[]⟩] 40)).drew.alloc (.cells #[.int .i64 tos, .int .i64 id, .int .i64 frag, .int .i64 ttl, .int .i64 proto, .int .u32 src, .int .u32 dst, .string (s.extract 20 s.size)] 40)).heap.size ((w.alloc (.cells #[.int .i64 0, .int .i64 0, .int .i64 0, .int .i64 0, .int .i64 0, .int .u32 0, .int .u32 0, .string ⟨#[]⟩] 40)).drew.alloc (.cells #[.int .i64 tos, .int .i64 id, .int .i64 frag, .int .i64 ttl, .int .i64 proto, .int .u32 src, .int .u32 dst, .string (s.extract 20 s.size)] 40)) w1 → Below w.heap.size w w1) := fun w1 b =>
    (((Below.refl _ _).alloc (Nat.le_refl _) _).drew.alloc (by simp) _).trans (b.mono (by simp; omega))
  rcases hx.out with ⟨rfl, rfl, rfl⟩ | ⟨rfl, rfl, rfl⟩
  · replace ht := ht.out
    clear hx
    go_wp2_with (go_at_call 26; refine (hB.out _).mono ?_; rintro e w1 ⟨rfl, b1⟩; have X1 := XX.out _ b1; have R1 := RR.out _ b1; have Z1 : Hid _ := ZZ1.out _ b1; obtain ⟨lx, c0, c1, c2, c3, c4, c5, c6, c7⟩ := X1; obtain ⟨lr, ra⟩ := R1; obtain ⟨g0, z0⟩ := ra 0 m0; obtain ⟨g1, z1⟩ := ra 1 m1; obtain ⟨g2, z2⟩ := ra 2 m2; obtain ⟨g3, z3⟩ := ra 3 m3; obtain ⟨g4, z4⟩ := ra 4 m4; obtain ⟨g5, z5⟩ := ra 5 m5; obtain ⟨g6, z6⟩ := ra 6 m6; obtain ⟨g7, z7⟩ := ra 7 m7; clear ra XX RR ZZ1 b1)
    refine ⟨rfl, .tuple #[.agg #[.int .i64 0, .int .i64 0, .int .i64 0, .int .i64 0, .int .i64 0, .int .u32 0, .int .u32 0, .string ⟨#[]⟩], .int .i64 9], ?_, rfl, ?_⟩
    · simp [results, Try.results14, go_sem, *]
    · have hn := Nat.le_refl w.heap.size
      exact (((((((Z1.out.setCell (p := ⟨w.heap.size, 0, none⟩) hn _).setCell (p := ⟨w.heap.size, 1, none⟩) hn _).setCell (p := ⟨w.heap.size, 2, none⟩) hn _).setCell (p := ⟨w.heap.size, 3, none⟩) hn _).setCell (p := ⟨w.heap.size, 4, none⟩) hn _).setCell (p := ⟨w.heap.size, 5, none⟩) hn _).setCell (p := ⟨w.heap.size, 6, none⟩) hn _).setCell (p := ⟨w.heap.size, 7, none⟩) hn _
  · replace ht := ht.out
    clear hx
    go_wp2_with (go_at_call 26; refine (hB.out _).mono ?_; rintro e w1 ⟨rfl, b1⟩; have X1 := XX.out _ b1; have R1 := RR.out _ b1; have Z1 : Hid _ := ZZ1.out _ b1; obtain ⟨lx, c0, c1, c2, c3, c4, c5, c6, c7⟩ := X1; obtain ⟨lr, ra⟩ := R1; obtain ⟨g0, z0⟩ := ra 0 m0; obtain ⟨g1, z1⟩ := ra 1 m1; obtain ⟨g2, z2⟩ := ra 2 m2; obtain ⟨g3, z3⟩ := ra 3 m3; obtain ⟨g4, z4⟩ := ra 4 m4; obtain ⟨g5, z5⟩ := ra 5 m5; obtain ⟨g6, z6⟩ := ra 6 m6; obtain ⟨g7, z7⟩ := ra 7 m7; clear ra XX RR ZZ1 b1)
    refine ⟨rfl, .tuple #[.agg #[.int .i64 tos, .int .i64 id, .int .i64 frag, .int .i64 ttl, .int .i64 proto, .int .u32 src, .int .u32 dst, .string (s.extract 20 s.size)], .int .i64 0], ?_, rfl, ?_⟩
    · simp [results, Try.results14, go_sem, *]
    · have hn := Nat.le_refl w.heap.size
      exact (((((((Z1.out.setCell (p := ⟨w.heap.size, 0, none⟩) hn _).setCell (p := ⟨w.heap.size, 1, none⟩) hn _).setCell (p := ⟨w.heap.size, 2, none⟩) hn _).setCell (p := ⟨w.heap.size, 3, none⟩) hn _).setCell (p := ⟨w.heap.size, 4, none⟩) hn _).setCell (p := ⟨w.heap.size, 5, none⟩) hn _).setCell (p := ⟨w.heap.size, 6, none⟩) hn _).setCell (p := ⟨w.heap.size, 7, none⟩) hn _
theorem list_eq (a b : ByteArray) (h : a.toList = b.toList) : a = b := by
  rw [ByteArray.toList_eq, ByteArray.toList_eq] at h
  exact ByteArray.ext (Array.toList_inj.1 h)
theorem data_small (s : ByteArray) (h : said s = s.size) : (s.extract 20 s.size).size ≤ 65515 ∨ s.size < 20 := by
  have := num2_bd s 2
  unfold said at h
  rw [ByteArray.size_extract]
  omega
theorem rbuild_again (s : ByteArray) (w : World) (h20 : 20 ≤ s.size) (hl : said s = s.size) :
    Calls Try.prog 26 #[hdOf s] w fun e w' => e = .returned (.tuple #[.string (pktOf s), .int .i64 0]) ∧ Below w.heap.size w w' :=
  rbuild_ok _ _ _ _ _ _ _ (s.extract 20 s.size) w (hok_of s) ((data_small s hl).resolve_right (by omega)) (num4_bd s 12).1 (num4_bd s 12).2 (num4_bd s 16).1 (num4_bd s 16).2
theorem rparse_ok (s : ByteArray) (w : World) (hs : s.size ≤ 9223372036854775807) :
    Calls Try.prog 14 #[.string s] w fun e w' => e = .returned (.tuple #[valOf s, .int .i64 (errOf s)]) ∧ Below w.heap.size w w' := by
  by_cases hg : Good s
  · have he := err_good s hg
    unfold valOf
    rw [he, if_pos rfl]
    refine rparse_core s w (pktOf s) true _ _ hs hg.1 hg.2.1 hg.2.2.1 (fun w => rbuild_again s w hg.1 hg.2.2.1) ?_ (.inr ⟨rfl, rfl, rfl⟩)
    rw [again_good s hg]
    simp
  have hne : errOf s ≠ 0 := fun e => hg (good_err s e)
  unfold valOf
  rw [if_neg hne]
  unfold errOf
  by_cases h1 : s.size < 20
  · rw [if_pos h1]
    exact rparse_short0 s w hs h1
  rw [if_neg h1]
  by_cases h2 : num (byt s) 0 1 ≠ 69
  · rw [if_pos h2]
    exact rparse_field s w hs (by omega) h2
  rw [if_neg h2]
  have h2' : num (byt s) 0 1 = 69 := by simpa using h2
  by_cases h3 : (s.size : Int) < said s ∨ said s < 20
  · rw [if_pos h3]
    by_cases h3' : said s < 20
    · exact rparse_short1 s w hs (by omega) h2' h3'
    · exact rparse_short2 s w hs (by omega) h2' h3' (by omega)
  rw [if_neg h3]
  by_cases h4 : said s < s.size
  · rw [if_pos h4]
    exact rparse_more s w hs (by omega) h2' (by omega) h4
  rw [if_neg h4]
  by_cases h5 : num (byt s) 10 2 ≠ right s
  · rw [if_pos h5]
    refine rparse_core s w (pktOf s) false _ _ hs (by omega) h2' (by omega) (fun w => rbuild_again s w (by omega) (by omega)) ?_ (.inl ⟨rfl, rfl, rfl⟩)
    have : ¬ pktOf s = s := fun e => h5 ((again_eq s (by omega) h2' (by omega)).1 e)
    simp only [beq_eq_false_iff_ne, ne_eq]
    exact fun e => this (list_eq _ _ e)
  · exact absurd ⟨by omega, h2', by omega, by simpa using h5⟩ hg
end Go.Proofs.Ytndaohiecpdmlaa
