import Derived.Test.YtndaohiecpdmlaaIpBuild
namespace Go.Proofs.Ytndaohiecpdmlaa
open Go.RowKit Go.Sort
theorem sum_okB (s : ByteArray) (w : World) (hs : s.size ≤ 281474976702466) :
    Calls Try.prog 57 #[.string s] w fun e w' => e = .returned (.int .i64 (ck s)) ∧ RowKit.Below w.heap.size w w' :=
  (sum_ok s w hs).mono fun _ _ ⟨h, k⟩ => ⟨h, k ▸ Below.refl _ _⟩
set_option maxHeartbeats 2000000 in
theorem build_ok (tos id frag ttl proto src dst : Int) (data : ByteArray) (w : World) (hk : HOK tos id frag ttl proto) (hl : data.size ≤ 65515) (s0 : 0 ≤ src) (s1 : src < 4294967296) (d0 : 0 ≤ dst) (d1 : dst < 4294967296) :
    Calls Try.prog 55 #[hv tos id frag ttl proto src dst data] w fun e w' => e = .returned (.tuple #[.string (pkt tos id frag ttl proto src dst data), .int .i64 0]) ∧ Below w.heap.size w w' := by
  obtain ⟨h1, h2, h3, h4, h5⟩ := hk
  have T1 : Hid (∀ w, _) := fun w => fits8_yes tos w h1
  have T2 : Hid (∀ w, _) := fun w => fits8_yes ttl w h2
  have T3 : Hid (∀ w, _) := fun w => fits8_yes proto w h3
  have T4 : Hid (∀ w, _) := fun w => fits16_yes id w h4
  have T5 : Hid (∀ w, _) := fun w => fits16_yes frag w h5
  have H0 : Hid (∀ w, _) := fun w => header_ok tos id frag ttl proto src dst 0 data w (by omega) s0 s1 d0 d1
  have H1 : Hid (∀ w, _) := fun w => header_ok tos id frag ttl proto src dst (ck (h0 tos id frag ttl proto src dst data)) data w (by omega) s0 s1 d0 d1
  have S1 : Hid (∀ w, _) := fun w => sum_okB (h0 tos id frag ttl proto src dst data) w (by rw [h0_size]; decide)
  have z0 := strOfNums_size (hb tos (20 + data.size) id frag ttl proto (ck (h0 tos id frag ttl proto src dst data)) src dst)
  rw [hb_length] at z0
  unfold pkt
  unfold h0 at *
  generalize strOfNums (hb tos (20 + data.size) id frag ttl proto 0 src dst) = P0 at *
  generalize ck P0 = c at *
  generalize strOfNums (hb tos (20 + data.size) id frag ttl proto c src dst) = P1 at *
  unfold hv at *
  have X := box_new w tos id frag ttl proto src dst data
  have k0 := cell_regrown X.c0; have k1 := cell_regrown X.c1; have k2 := cell_regrown X.c2; have k3 := cell_regrown X.c3; have k4 := cell_regrown X.c4; have k5 := cell_regrown X.c5; have k6 := cell_regrown X.c6; have k7 := cell_regrown X.c7
  have n1 : ¬ 9223372036854775807 < 20 + data.size := by omega
  clear X h1 h2 h3 h4 h5
  go_enter Try.func55, Try.ntmps55
  go_wp2_with (first
    | (go_at_call_of 60 tos; refine (T1.out _).mono ?_; rintro e w' ⟨rfl, rfl⟩)
    | (go_at_call_of 60 ttl; refine (T2.out _).mono ?_; rintro e w' ⟨rfl, rfl⟩)
    | (go_at_call_of 60 proto; refine (T3.out _).mono ?_; rintro e w' ⟨rfl, rfl⟩)
    | (go_at_call_of 60 id; refine (T4.out _).mono ?_; rintro e w' ⟨rfl, rfl⟩)
    | (go_at_call_of 60 frag; refine (T5.out _).mono ?_; rintro e w' ⟨rfl, rfl⟩))
  clear T1 T2 T3 T4 T5
  refine wp_region_quiet_below (by kernel_rfl) (by kernel_rfl) ?_
  repeat (quiet_step (first | (go_at_call_of 61 (0 : Int); exact Calls.regrown_of (H0.out _)) | (go_at_call_of 61 c; exact Calls.regrown_of (H1.out _)) | (go_at_call 57; exact Calls.regrown_of (S1.out _))))
  refine wpQuiet_nil ?_
  intro _ hw'
  obtain ⟨⟨dq, osq⟩, hw''⟩ := hw'
  subst hw''
  go_wp2
  go_ret2
  exact ⟨rfl, ((Below.refl _ _).alloc (Nat.le_refl _) _).trans ((below_regrown _ dq osq).mono (by simp))⟩
end Go.Proofs.Ytndaohiecpdmlaa
