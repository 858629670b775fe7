/-
  What the document's own Build answers, for every header. The numbers are int's and uint32's; no other condition.
-/
import Derived.Test.YtndaohiecpdmlaaIpRefBuild
namespace Go.Proofs.Ytndaohiecpdmlaa
set_option maxRecDepth 100000
open Go.RowKit Go.Sort

set_option maxHeartbeats 400000 in
theorem byte_yes (n : Int) (w : World) (h : 0 ≤ n ∧ n ≤ 255) : Calls Try.prog 37 #[.int .i64 n] w fun e w' => e = .returned (.bool true) ∧ w = w' := by
  obtain ⟨a, b⟩ := h
  go_enter Try.func37, Try.ntmps37
  go_wp2
  go_ret
  exact ⟨rfl, rfl⟩
set_option maxHeartbeats 400000 in
theorem byte_no (n : Int) (w : World) (h : ¬ (0 ≤ n ∧ n ≤ 255)) : Calls Try.prog 37 #[.int .i64 n] w fun e w' => e = .returned (.bool false) ∧ w = w' := by
  rcases (show n < 0 ∨ (0 ≤ n ∧ 255 < n) by omega) with a | ⟨a, b⟩
  · clear h
    go_enter Try.func37, Try.ntmps37
    go_wp2
    go_ret
    exact ⟨rfl, rfl⟩
  · have hd : decide (n ≤ 255) = false := decide_eq_false (by omega)
    clear h
    go_enter Try.func37, Try.ntmps37
    go_wp2
    go_ret
    exact ⟨rfl, rfl⟩
set_option maxHeartbeats 400000 in
theorem word_yes (n : Int) (w : World) (h : 0 ≤ n ∧ n ≤ 65535) : Calls Try.prog 38 #[.int .i64 n] w fun e w' => e = .returned (.bool true) ∧ w = w' := by
  obtain ⟨a, b⟩ := h
  go_enter Try.func38, Try.ntmps38
  go_wp2
  go_ret
  exact ⟨rfl, rfl⟩
set_option maxHeartbeats 400000 in
theorem word_no (n : Int) (w : World) (h : ¬ (0 ≤ n ∧ n ≤ 65535)) : Calls Try.prog 38 #[.int .i64 n] w fun e w' => e = .returned (.bool false) ∧ w = w' := by
  rcases (show n < 0 ∨ (0 ≤ n ∧ 65535 < n) by omega) with a | ⟨a, b⟩
  · clear h
    go_enter Try.func38, Try.ntmps38
    go_wp2
    go_ret
    exact ⟨rfl, rfl⟩
  · have hd : decide (n ≤ 65535) = false := decide_eq_false (by omega)
    clear h
    go_enter Try.func38, Try.ntmps38
    go_wp2
    go_ret
    exact ⟨rfl, rfl⟩
set_option maxHeartbeats 2000000 in
theorem rbuild_long (tos id frag ttl proto src dst : Int) (data : ByteArray) (w : World) (hk : HOK tos id frag ttl proto) (hd : data.size ≤ 9223372036854775807) (hl : 65515 < data.size) :
    Calls Try.prog 26 #[hv tos id frag ttl proto src dst data] w fun e w' => e = .returned (.tuple #[.string ⟨#[]⟩, .int .i64 8]) ∧ Below w.heap.size w w' := by
  obtain ⟨h1, h2, h3, h4, h5⟩ := hk
  unfold hv
  have T1 : Hid (∀ w, _) := fun w => byte_yes tos w h1
  have T2 : Hid (∀ w, _) := fun w => byte_yes ttl w h2
  have T3 : Hid (∀ w, _) := fun w => byte_yes proto w h3
  have T4 : Hid (∀ w, _) := fun w => word_yes id w h4
  have T5 : Hid (∀ w, _) := fun w => word_yes frag w h5
  go_enter Try.func26, Try.ntmps26
  go_wp2_with (first
    | (go_at_call_of 37 tos; refine (T1.out _).mono ?_; rintro e w' ⟨rfl, rfl⟩)
    | (go_at_call_of 37 ttl; refine (T2.out _).mono ?_; rintro e w' ⟨rfl, rfl⟩)
    | (go_at_call_of 37 proto; refine (T3.out _).mono ?_; rintro e w' ⟨rfl, rfl⟩)
    | (go_at_call_of 38 id; refine (T4.out _).mono ?_; rintro e w' ⟨rfl, rfl⟩)
    | (go_at_call_of 38 frag; refine (T5.out _).mono ?_; rintro e w' ⟨rfl, rfl⟩))
  go_ret2
  exact ⟨rfl, (Below.refl _ _).alloc (Nat.le_refl _) _⟩
set_option maxHeartbeats 2000000 in
theorem rbuild_no1 (tos id frag ttl proto src dst : Int) (data : ByteArray) (w : World) (h1 : ¬ (0 ≤ tos ∧ tos ≤ 255)) :
    Calls Try.prog 26 #[hv tos id frag ttl proto src dst data] w fun e w' => e = .returned (.tuple #[.string ⟨#[]⟩, .int .i64 2]) ∧ Below w.heap.size w w' := by
  unfold hv
  have T1 : Hid (∀ w, _) := fun w => byte_no tos w h1
  clear h1
  go_enter Try.func26, Try.ntmps26
  go_wp2_with (first
    | (go_at_call_of 37 tos; refine (T1.out _).mono ?_; rintro e w' ⟨rfl, rfl⟩))
  go_ret2
  exact ⟨rfl, (Below.refl _ _).alloc (Nat.le_refl _) _⟩
set_option maxHeartbeats 2000000 in
theorem rbuild_no2 (tos id frag ttl proto src dst : Int) (data : ByteArray) (w : World) (h1 : 0 ≤ tos ∧ tos ≤ 255) (h2 : ¬ (0 ≤ ttl ∧ ttl ≤ 255)) :
    Calls Try.prog 26 #[hv tos id frag ttl proto src dst data] w fun e w' => e = .returned (.tuple #[.string ⟨#[]⟩, .int .i64 2]) ∧ Below w.heap.size w w' := by
  unfold hv
  have T1 : Hid (∀ w, _) := fun w => byte_yes tos w h1
  have T2 : Hid (∀ w, _) := fun w => byte_no ttl w h2
  clear h1 h2
  go_enter Try.func26, Try.ntmps26
  go_wp2_with (first
    | (go_at_call_of 37 tos; refine (T1.out _).mono ?_; rintro e w' ⟨rfl, rfl⟩)
    | (go_at_call_of 37 ttl; refine (T2.out _).mono ?_; rintro e w' ⟨rfl, rfl⟩))
  go_ret2
  exact ⟨rfl, (Below.refl _ _).alloc (Nat.le_refl _) _⟩
set_option maxHeartbeats 2000000 in
theorem rbuild_no3 (tos id frag ttl proto src dst : Int) (data : ByteArray) (w : World) (h1 : 0 ≤ tos ∧ tos ≤ 255) (h2 : 0 ≤ ttl ∧ ttl ≤ 255) (h3 : ¬ (0 ≤ proto ∧ proto ≤ 255)) :
    Calls Try.prog 26 #[hv tos id frag ttl proto src dst data] w fun e w' => e = .returned (.tuple #[.string ⟨#[]⟩, .int .i64 2]) ∧ Below w.heap.size w w' := by
  unfold hv
  have T1 : Hid (∀ w, _) := fun w => byte_yes tos w h1
  have T2 : Hid (∀ w, _) := fun w => byte_yes ttl w h2
  have T3 : Hid (∀ w, _) := fun w => byte_no proto w h3
  clear h1 h2 h3
  go_enter Try.func26, Try.ntmps26
  go_wp2_with (first
    | (go_at_call_of 37 tos; refine (T1.out _).mono ?_; rintro e w' ⟨rfl, rfl⟩)
    | (go_at_call_of 37 ttl; refine (T2.out _).mono ?_; rintro e w' ⟨rfl, rfl⟩)
    | (go_at_call_of 37 proto; refine (T3.out _).mono ?_; rintro e w' ⟨rfl, rfl⟩))
  go_ret2
  exact ⟨rfl, (Below.refl _ _).alloc (Nat.le_refl _) _⟩
set_option maxHeartbeats 2000000 in
theorem rbuild_no4 (tos id frag ttl proto src dst : Int) (data : ByteArray) (w : World) (h1 : 0 ≤ tos ∧ tos ≤ 255) (h2 : 0 ≤ ttl ∧ ttl ≤ 255) (h3 : 0 ≤ proto ∧ proto ≤ 255) (h4 : ¬ (0 ≤ id ∧ id ≤ 65535)) :
    Calls Try.prog 26 #[hv tos id frag ttl proto src dst data] w fun e w' => e = .returned (.tuple #[.string ⟨#[]⟩, .int .i64 2]) ∧ Below w.heap.size w w' := by
  unfold hv
  have T1 : Hid (∀ w, _) := fun w => byte_yes tos w h1
  have T2 : Hid (∀ w, _) := fun w => byte_yes ttl w h2
  have T3 : Hid (∀ w, _) := fun w => byte_yes proto w h3
  have T4 : Hid (∀ w, _) := fun w => word_no id w h4
  clear h1 h2 h3 h4
  go_enter Try.func26, Try.ntmps26
  go_wp2_with (first
    | (go_at_call_of 37 tos; refine (T1.out _).mono ?_; rintro e w' ⟨rfl, rfl⟩)
    | (go_at_call_of 37 ttl; refine (T2.out _).mono ?_; rintro e w' ⟨rfl, rfl⟩)
    | (go_at_call_of 37 proto; refine (T3.out _).mono ?_; rintro e w' ⟨rfl, rfl⟩)
    | (go_at_call_of 38 id; refine (T4.out _).mono ?_; rintro e w' ⟨rfl, rfl⟩))
  go_ret2
  exact ⟨rfl, (Below.refl _ _).alloc (Nat.le_refl _) _⟩
set_option maxHeartbeats 2000000 in
theorem rbuild_no5 (tos id frag ttl proto src dst : Int) (data : ByteArray) (w : World) (h1 : 0 ≤ tos ∧ tos ≤ 255) (h2 : 0 ≤ ttl ∧ ttl ≤ 255) (h3 : 0 ≤ proto ∧ proto ≤ 255) (h4 : 0 ≤ id ∧ id ≤ 65535) (h5 : ¬ (0 ≤ frag ∧ frag ≤ 65535)) :
    Calls Try.prog 26 #[hv tos id frag ttl proto src dst data] w fun e w' => e = .returned (.tuple #[.string ⟨#[]⟩, .int .i64 2]) ∧ Below w.heap.size w w' := by
  unfold hv
  have T1 : Hid (∀ w, _) := fun w => byte_yes tos w h1
  have T2 : Hid (∀ w, _) := fun w => byte_yes ttl w h2
  have T3 : Hid (∀ w, _) := fun w => byte_yes proto w h3
  have T4 : Hid (∀ w, _) := fun w => word_yes id w h4
  have T5 : Hid (∀ w, _) := fun w => word_no frag w h5
  clear h1 h2 h3 h4 h5
  go_enter Try.func26, Try.ntmps26
  go_wp2_with (first
    | (go_at_call_of 37 tos; refine (T1.out _).mono ?_; rintro e w' ⟨rfl, rfl⟩)
    | (go_at_call_of 37 ttl; refine (T2.out _).mono ?_; rintro e w' ⟨rfl, rfl⟩)
    | (go_at_call_of 37 proto; refine (T3.out _).mono ?_; rintro e w' ⟨rfl, rfl⟩)
    | (go_at_call_of 38 id; refine (T4.out _).mono ?_; rintro e w' ⟨rfl, rfl⟩)
    | (go_at_call_of 38 frag; refine (T5.out _).mono ?_; rintro e w' ⟨rfl, rfl⟩))
  go_ret2
  exact ⟨rfl, (Below.refl _ _).alloc (Nat.le_refl _) _⟩
theorem rbuild_range (tos id frag ttl proto src dst : Int) (data : ByteArray) (w : World) (h : ¬ HOK tos id frag ttl proto) :
    Calls Try.prog 26 #[hv tos id frag ttl proto src dst data] w fun e w' => e = .returned (.tuple #[.string ⟨#[]⟩, .int .i64 2]) ∧ Below w.heap.size w w' := by
  by_cases h1 : 0 ≤ tos ∧ tos ≤ 255
  · by_cases h2 : 0 ≤ ttl ∧ ttl ≤ 255
    · by_cases h3 : 0 ≤ proto ∧ proto ≤ 255
      · by_cases h4 : 0 ≤ id ∧ id ≤ 65535
        · by_cases h5 : 0 ≤ frag ∧ frag ≤ 65535
          · exact absurd ⟨h1, h2, h3, h4, h5⟩ h
          · exact rbuild_no5 tos id frag ttl proto src dst data w h1 h2 h3 h4 h5
        · exact rbuild_no4 tos id frag ttl proto src dst data w h1 h2 h3 h4
      · exact rbuild_no3 tos id frag ttl proto src dst data w h1 h2 h3
    · exact rbuild_no2 tos id frag ttl proto src dst data w h1 h2
  · exact rbuild_no1 tos id frag ttl proto src dst data w h1
theorem rsum_okB (s : ByteArray) (w : World) (hs : s.size ≤ 281474976702466) :
    Calls Try.prog 40 #[.string s] w fun e w' => e = .returned (.int .i64 (ck s)) ∧ RowKit.Below w.heap.size w w' :=
  (rsum_ok s w hs).mono fun _ _ ⟨h, k⟩ => ⟨h, k ▸ Below.refl _ _⟩
set_option maxHeartbeats 2000000 in
theorem rbuild_ok (tos id frag ttl proto src dst : Int) (data : ByteArray) (w : World) (hk : HOK tos id frag ttl proto) (hl : data.size ≤ 65515) (s0 : 0 ≤ src) (s1 : src < 4294967296) (d0 : 0 ≤ dst) (d1 : dst < 4294967296) :
    Calls Try.prog 26 #[hv tos id frag ttl proto src dst data] w fun e w' => e = .returned (.tuple #[.string (pkt tos id frag ttl proto src dst data), .int .i64 0]) ∧ Below w.heap.size w w' := by
  obtain ⟨h1, h2, h3, h4, h5⟩ := hk
  have T1 : Hid (∀ w, _) := fun w => byte_yes tos w h1
  have T2 : Hid (∀ w, _) := fun w => byte_yes ttl w h2
  have T3 : Hid (∀ w, _) := fun w => byte_yes proto w h3
  have T4 : Hid (∀ w, _) := fun w => word_yes id w h4
  have T5 : Hid (∀ w, _) := fun w => word_yes frag w h5
  have H0 : Hid (∀ w, _) := fun w => rheader_ok tos id frag ttl proto src dst 0 data w ⟨h1, h2, h3, h4, h5⟩ hl (by omega) (by omega) s0 s1 d0 d1
  have H1 : Hid (∀ w, _) := fun w => rheader_ok tos id frag ttl proto src dst (ck (h0 tos id frag ttl proto src dst data)) data w ⟨h1, h2, h3, h4, h5⟩ hl (ck_bd _).1 (ck_bd _).2 s0 s1 d0 d1
  have S1 : Hid (∀ w, _) := fun w => rsum_okB (h0 tos id frag ttl proto src dst data) w (by rw [h0_size]; decide)
  have z0 := strOfNums_size (hb tos (20 + data.size) id frag ttl proto (ck (h0 tos id frag ttl proto src dst data)) src dst)
  rw [hb_length] at z0
  unfold pkt
  unfold h0 at *
  generalize strOfNums (hb tos (20 + data.size) id frag ttl proto 0 src dst) = P0 at *
  generalize ck P0 = c at *
  generalize strOfNums (hb tos (20 + data.size) id frag ttl proto c src dst) = P1 at *
  unfold hv at *
  have X := box_new w tos id frag ttl proto src dst data
  have k0 := cell_regrown X.c0; have k1 := cell_regrown X.c1; have k2 := cell_regrown X.c2; have k3 := cell_regrown X.c3; have k4 := cell_regrown X.c4; have k5 := cell_regrown X.c5; have k6 := cell_regrown X.c6; have k7 := cell_regrown X.c7
  have n1 : ¬ 9223372036854775807 < 20 + data.size := by omega
  clear X h1 h2 h3 h4 h5
  go_enter Try.func26, Try.ntmps26
  go_wp2_with (first
    | (go_at_call_of 37 tos; refine (T1.out _).mono ?_; rintro e w' ⟨rfl, rfl⟩)
    | (go_at_call_of 37 ttl; refine (T2.out _).mono ?_; rintro e w' ⟨rfl, rfl⟩)
    | (go_at_call_of 37 proto; refine (T3.out _).mono ?_; rintro e w' ⟨rfl, rfl⟩)
    | (go_at_call_of 38 id; refine (T4.out _).mono ?_; rintro e w' ⟨rfl, rfl⟩)
    | (go_at_call_of 38 frag; refine (T5.out _).mono ?_; rintro e w' ⟨rfl, rfl⟩))
  clear T1 T2 T3 T4 T5
  refine wp_region_quiet_below (by kernel_rfl) (by kernel_rfl) ?_
  repeat (quiet_step (first | (go_at_call_of 39 (0 : Int); exact Calls.regrown_of (H0.out _)) | (go_at_call_of 39 c; exact Calls.regrown_of (H1.out _)) | (go_at_call 40; exact Calls.regrown_of (S1.out _))))
  refine wpQuiet_nil ?_
  intro _ hw'
  obtain ⟨⟨dq, osq⟩, hw''⟩ := hw'
  subst hw''
  go_wp2
  go_ret2
  exact ⟨rfl, ((Below.refl _ _).alloc (Nat.le_refl _) _).trans ((below_regrown _ dq osq).mono (by simp))⟩
end Go.Proofs.Ytndaohiecpdmlaa
