/-
  What the program's Parse answers, at every string up to 2^47 bytes. Addresses are uint32's; no other condition.
-/
import Derived.Test.YtaloccmfpehhcabUdpBuild
namespace Go.Proofs.Ytaloccmfpehhcab
open Go.RowKit

/-- What is wrong with bytes as a datagram; 0: nothing. -/
def uerr (src dst : Int) (s : ByteArray) : Int :=
  if s.size < 8 then 1 else if (s.size : Int) < w2 s 4 then 1 else if w2 s 4 < 8 then 1 else if (s.size : Int) > w2 s 4 then 6
  else if w2 s 6 ≠ cks src dst (w2 s 0) (w2 s 2) (s.extract 8 s.size) then 9 else 0
def uno (e : Int) : Value := .tuple #[.int .i64 0, .int .i64 0, .string ⟨#[]⟩, .int .i64 e]
def uval (src dst : Int) (s : ByteArray) : Value :=
  if uerr src dst s = 0 then .tuple #[.int .i64 (w2 s 0), .int .i64 (w2 s 2), .string (s.extract 8 s.size), .int .i64 0] else uno (uerr src dst s)
theorem results_tmp4 {fn : Func} {t u v x : Tmp} (h : fn.results = #[.tmp t, .tmp u, .tmp v, .tmp x]) (tmps : Array Value) (P : Program) (w : World) :
    (results fn tmps).run P w = .ok (.tuple #[tmps.getD t undef, tmps.getD u undef, tmps.getD v undef, tmps.getD x undef]) w := by
  simp [results, h]
set_option maxHeartbeats 1000000 in
theorem up1 (src dst : Int) (s : ByteArray) (w : World) (h : s.size < 8) :
    Calls Try.prog 7 #[.int .u32 src, .int .u32 dst, .string s] w fun e w' => e = .returned (uno 1) ∧ Below w.heap.size w w' := by
  have h8 : (s.size : Int) < 8 := by omega
  go_enter Try.func7, Try.ntmps7
  go_wp2
  (try simp only [Exit.inBlock, Exit.then])
  refine bodyPost_ret (results_tmp4 rfl _ _ _) rfl ?_
  exact ⟨rfl, Below.refl _ _⟩
set_option maxHeartbeats 1000000 in
theorem up2 (src dst : Int) (s : ByteArray) (w : World) (h : 8 ≤ s.size) (h4 : (s.size : Int) < w2 s 4) :
    Calls Try.prog 7 #[.int .u32 src, .int .u32 dst, .string s] w fun e w' => e = .returned (uno 1) ∧ Below w.heap.size w w' := by
  have T0 : Hid (∀ w, _) := fun w => two_ok s 0 w (by omega) (by decide)
  have T2 : Hid (∀ w, _) := fun w => two_ok s 2 w (by omega) (by decide)
  have T4 : Hid (∀ w, _) := fun w => two_ok s 4 w (by omega) (by decide)
  have T6 : Hid (∀ w, _) := fun w => two_ok s 6 w (by omega) (by decide)
  have h8 : ¬ (s.size : Int) < 8 := by omega
  generalize w2 s 0 = x0 at *
  generalize w2 s 2 = x2 at *
  generalize w2 s 4 = x4 at *
  generalize w2 s 6 = x6 at *
  go_enter Try.func7, Try.ntmps7
  go_wp2_with (first
    | (go_at_call_of 8 (0 : Int); refine (T0.out _).mono ?_; rintro e w0 ⟨rfl, m0, rfl⟩)
    | (go_at_call_of 8 (2 : Int); refine (T2.out _).mono ?_; rintro e w2 ⟨rfl, m2, rfl⟩)
    | (go_at_call_of 8 (4 : Int); refine (T4.out _).mono ?_; rintro e w4 ⟨rfl, m4, rfl⟩)
    | (go_at_call_of 8 (6 : Int); refine (T6.out _).mono ?_; rintro e w6 ⟨rfl, m6, rfl⟩))
  (try simp only [Exit.inBlock, Exit.then])
  refine bodyPost_ret (results_tmp4 rfl _ _ _) rfl ?_
  exact ⟨rfl, ⟨rfl, rfl, rfl, Nat.le_refl _, fun _ _ => rfl⟩⟩
set_option maxHeartbeats 1000000 in
theorem up3 (src dst : Int) (s : ByteArray) (w : World) (h : 8 ≤ s.size) (h4 : ¬ (s.size : Int) < w2 s 4) (h5 : w2 s 4 < 8) :
    Calls Try.prog 7 #[.int .u32 src, .int .u32 dst, .string s] w fun e w' => e = .returned (uno 1) ∧ Below w.heap.size w w' := by
  have T0 : Hid (∀ w, _) := fun w => two_ok s 0 w (by omega) (by decide)
  have T2 : Hid (∀ w, _) := fun w => two_ok s 2 w (by omega) (by decide)
  have T4 : Hid (∀ w, _) := fun w => two_ok s 4 w (by omega) (by decide)
  have T6 : Hid (∀ w, _) := fun w => two_ok s 6 w (by omega) (by decide)
  have h8 : ¬ (s.size : Int) < 8 := by omega
  generalize w2 s 0 = x0 at *
  generalize w2 s 2 = x2 at *
  generalize w2 s 4 = x4 at *
  generalize w2 s 6 = x6 at *
  go_enter Try.func7, Try.ntmps7
  go_wp2_with (first
    | (go_at_call_of 8 (0 : Int); refine (T0.out _).mono ?_; rintro e w0 ⟨rfl, m0, rfl⟩)
    | (go_at_call_of 8 (2 : Int); refine (T2.out _).mono ?_; rintro e w2 ⟨rfl, m2, rfl⟩)
    | (go_at_call_of 8 (4 : Int); refine (T4.out _).mono ?_; rintro e w4 ⟨rfl, m4, rfl⟩)
    | (go_at_call_of 8 (6 : Int); refine (T6.out _).mono ?_; rintro e w6 ⟨rfl, m6, rfl⟩))
  (try simp only [Exit.inBlock, Exit.then])
  refine bodyPost_ret (results_tmp4 rfl _ _ _) rfl ?_
  exact ⟨rfl, ⟨rfl, rfl, rfl, Nat.le_refl _, fun _ _ => rfl⟩⟩
set_option maxHeartbeats 1000000 in
theorem up4 (src dst : Int) (s : ByteArray) (w : World) (h : 8 ≤ s.size) (h4 : ¬ (s.size : Int) < w2 s 4) (h5 : ¬ w2 s 4 < 8) (h6 : (s.size : Int) > w2 s 4) :
    Calls Try.prog 7 #[.int .u32 src, .int .u32 dst, .string s] w fun e w' => e = .returned (uno 6) ∧ Below w.heap.size w w' := by
  have T0 : Hid (∀ w, _) := fun w => two_ok s 0 w (by omega) (by decide)
  have T2 : Hid (∀ w, _) := fun w => two_ok s 2 w (by omega) (by decide)
  have T4 : Hid (∀ w, _) := fun w => two_ok s 4 w (by omega) (by decide)
  have T6 : Hid (∀ w, _) := fun w => two_ok s 6 w (by omega) (by decide)
  have h8 : ¬ (s.size : Int) < 8 := by omega
  generalize w2 s 0 = x0 at *
  generalize w2 s 2 = x2 at *
  generalize w2 s 4 = x4 at *
  generalize w2 s 6 = x6 at *
  go_enter Try.func7, Try.ntmps7
  go_wp2_with (first
    | (go_at_call_of 8 (0 : Int); refine (T0.out _).mono ?_; rintro e w0 ⟨rfl, m0, rfl⟩)
    | (go_at_call_of 8 (2 : Int); refine (T2.out _).mono ?_; rintro e w2 ⟨rfl, m2, rfl⟩)
    | (go_at_call_of 8 (4 : Int); refine (T4.out _).mono ?_; rintro e w4 ⟨rfl, m4, rfl⟩)
    | (go_at_call_of 8 (6 : Int); refine (T6.out _).mono ?_; rintro e w6 ⟨rfl, m6, rfl⟩))
  (try simp only [Exit.inBlock, Exit.then])
  refine bodyPost_ret (results_tmp4 rfl _ _ _) rfl ?_
  exact ⟨rfl, ⟨rfl, rfl, rfl, Nat.le_refl _, fun _ _ => rfl⟩⟩
set_option maxHeartbeats 1000000 in
theorem up5 (src dst : Int) (s : ByteArray) (w : World) (h : 8 ≤ s.size) (hs : s.size ≤ 140737488351232) (h4 : ¬ (s.size : Int) < w2 s 4) (_h5 : ¬ w2 s 4 < 8) (h6 : ¬ (s.size : Int) > w2 s 4) (h7 : (w2 s 6 != cks src dst (w2 s 0) (w2 s 2) (s.extract 8 s.size)) = true) (s0 : 0 ≤ src) (s1 : src < 4294967296) (d0 : 0 ≤ dst) (d1 : dst < 4294967296) :
    Calls Try.prog 7 #[.int .u32 src, .int .u32 dst, .string s] w fun e w' => e = .returned (uno 9) ∧ Below w.heap.size w w' := by
  have T0 : Hid (∀ w, _) := fun w => two_ok s 0 w (by omega) (by decide)
  have T2 : Hid (∀ w, _) := fun w => two_ok s 2 w (by omega) (by decide)
  have T4 : Hid (∀ w, _) := fun w => two_ok s 4 w (by omega) (by decide)
  have T6 : Hid (∀ w, _) := fun w => two_ok s 6 w (by omega) (by decide)
  have h8 : ¬ (s.size : Int) < 8 := by omega
  have S : Hid (∀ w, _) := fun w => checkSum_ok src dst (w2 s 0) (w2 s 2) (s.extract 8 s.size) w s0 s1 d0 d1 (by rw [ByteArray.size_extract]; omega)
  generalize cks src dst (w2 s 0) (w2 s 2) (s.extract 8 s.size) = c at *
  generalize w2 s 0 = x0 at *
  generalize w2 s 2 = x2 at *
  generalize w2 s 4 = x4 at *
  generalize w2 s 6 = x6 at *
  go_enter Try.func7, Try.ntmps7
  go_wp2_with (first
    | (go_at_call_of 8 (0 : Int); refine (T0.out _).mono ?_; rintro e w0 ⟨rfl, m0, rfl⟩)
    | (go_at_call_of 8 (2 : Int); refine (T2.out _).mono ?_; rintro e w2 ⟨rfl, m2, rfl⟩)
    | (go_at_call_of 8 (4 : Int); refine (T4.out _).mono ?_; rintro e w4 ⟨rfl, m4, rfl⟩)
    | (go_at_call_of 8 (6 : Int); refine (T6.out _).mono ?_; rintro e w6 ⟨rfl, m6, rfl⟩)
    | (go_at_call 10; refine (S.out _).mono ?_; rintro e w8 ⟨rfl, b8⟩; replace b8 : Hid _ := b8))
  (try simp only [Exit.inBlock, Exit.then])
  refine bodyPost_ret (results_tmp4 rfl _ _ _) rfl ?_
  exact ⟨rfl, (Below.trans (b := w.drewN _) ⟨rfl, rfl, rfl, Nat.le_refl _, fun _ _ => rfl⟩ b8.out)⟩
set_option maxHeartbeats 1000000 in
theorem up6 (src dst : Int) (s : ByteArray) (w : World) (h : 8 ≤ s.size) (hs : s.size ≤ 140737488351232) (h4 : ¬ (s.size : Int) < w2 s 4) (_h5 : ¬ w2 s 4 < 8) (h6 : ¬ (s.size : Int) > w2 s 4) (h7 : (w2 s 6 != cks src dst (w2 s 0) (w2 s 2) (s.extract 8 s.size)) = false) (s0 : 0 ≤ src) (s1 : src < 4294967296) (d0 : 0 ≤ dst) (d1 : dst < 4294967296) :
    Calls Try.prog 7 #[.int .u32 src, .int .u32 dst, .string s] w fun e w' => e = .returned (.tuple #[.int .i64 (w2 s 0), .int .i64 (w2 s 2), .string (s.extract 8 s.size), .int .i64 0]) ∧ Below w.heap.size w w' := by
  have T0 : Hid (∀ w, _) := fun w => two_ok s 0 w (by omega) (by decide)
  have T2 : Hid (∀ w, _) := fun w => two_ok s 2 w (by omega) (by decide)
  have T4 : Hid (∀ w, _) := fun w => two_ok s 4 w (by omega) (by decide)
  have T6 : Hid (∀ w, _) := fun w => two_ok s 6 w (by omega) (by decide)
  have h8 : ¬ (s.size : Int) < 8 := by omega
  have S : Hid (∀ w, _) := fun w => checkSum_ok src dst (w2 s 0) (w2 s 2) (s.extract 8 s.size) w s0 s1 d0 d1 (by rw [ByteArray.size_extract]; omega)
  generalize cks src dst (w2 s 0) (w2 s 2) (s.extract 8 s.size) = c at *
  generalize w2 s 0 = x0 at *
  generalize w2 s 2 = x2 at *
  generalize w2 s 4 = x4 at *
  generalize w2 s 6 = x6 at *
  go_enter Try.func7, Try.ntmps7
  go_wp2_with (first
    | (go_at_call_of 8 (0 : Int); refine (T0.out _).mono ?_; rintro e w0 ⟨rfl, m0, rfl⟩)
    | (go_at_call_of 8 (2 : Int); refine (T2.out _).mono ?_; rintro e w2 ⟨rfl, m2, rfl⟩)
    | (go_at_call_of 8 (4 : Int); refine (T4.out _).mono ?_; rintro e w4 ⟨rfl, m4, rfl⟩)
    | (go_at_call_of 8 (6 : Int); refine (T6.out _).mono ?_; rintro e w6 ⟨rfl, m6, rfl⟩)
    | (go_at_call 10; refine (S.out _).mono ?_; rintro e w8 ⟨rfl, b8⟩; replace b8 : Hid _ := b8))
  (try simp only [Exit.inBlock, Exit.then])
  refine bodyPost_ret (results_tmp4 rfl _ _ _) rfl ?_
  exact ⟨rfl, (Below.trans (b := w.drewN _) ⟨rfl, rfl, rfl, Nat.le_refl _, fun _ _ => rfl⟩ b8.out)⟩

theorem up_ok (src dst : Int) (s : ByteArray) (w : World) (hs : s.size ≤ 140737488351232) (s0 : 0 ≤ src) (s1 : src < 4294967296) (d0 : 0 ≤ dst) (d1 : dst < 4294967296) :
    Calls Try.prog 7 #[.int .u32 src, .int .u32 dst, .string s] w fun e w' => e = .returned (uval src dst s) ∧ Below w.heap.size w w' := by
  unfold uval uerr
  by_cases h : s.size < 8
  · rw [if_pos h, if_neg (by omega)]; exact up1 src dst s w h
  rw [if_neg h]
  by_cases h4 : (s.size : Int) < w2 s 4
  · rw [if_pos h4, if_neg (by omega)]; exact up2 src dst s w (by omega) h4
  rw [if_neg h4]
  by_cases h5 : w2 s 4 < 8
  · rw [if_pos h5, if_neg (by omega)]; exact up3 src dst s w (by omega) h4 h5
  rw [if_neg h5]
  by_cases h6 : (s.size : Int) > w2 s 4
  · rw [if_pos h6, if_neg (by omega)]; exact up4 src dst s w (by omega) h4 h5 h6
  rw [if_neg h6]
  by_cases h7 : w2 s 6 = cks src dst (w2 s 0) (w2 s 2) (s.extract 8 s.size)
  · rw [if_neg (not_not_intro h7), if_pos rfl]; exact up6 src dst s w (by omega) hs h4 h5 h6 (by simp [h7]) s0 s1 d0 d1
  · rw [if_pos h7, if_neg (by decide)]; exact up5 src dst s w (by omega) hs h4 h5 h6 (by simp [h7]) s0 s1 d0 d1
end Go.Proofs.Ytaloccmfpehhcab
