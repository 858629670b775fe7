/-
  What the program's Build answers, for every header. The numbers are int's and uint32's; no other condition.
-/
import Derived.Test.YtndaohiecpdmlaaIpHead
import Derived.Lib.QuietBelow
namespace Go.Proofs.Ytndaohiecpdmlaa
open Go.RowKit Go.Sort

theorem fits8_yes (n : Int) (w : World) (h : 0 ≤ n ∧ n ≤ 255) : Calls Try.prog 60 #[.int .i64 n, .int .i64 8] w fun e w' => e = .returned (.bool true) ∧ w = w' := by
  have := fits8 n w
  rwa [decide_eq_true h] at this
theorem fits8_no (n : Int) (w : World) (h : ¬ (0 ≤ n ∧ n ≤ 255)) : Calls Try.prog 60 #[.int .i64 n, .int .i64 8] w fun e w' => e = .returned (.bool false) ∧ w = w' := by
  have := fits8 n w
  rwa [decide_eq_false h] at this
theorem fits16_yes (n : Int) (w : World) (h : 0 ≤ n ∧ n ≤ 65535) : Calls Try.prog 60 #[.int .i64 n, .int .i64 16] w fun e w' => e = .returned (.bool true) ∧ w = w' := by
  have := fits16 n w
  rwa [decide_eq_true h] at this
theorem fits16_no (n : Int) (w : World) (h : ¬ (0 ≤ n ∧ n ≤ 65535)) : Calls Try.prog 60 #[.int .i64 n, .int .i64 16] w fun e w' => e = .returned (.bool false) ∧ w = w' := by
  have := fits16 n w
  rwa [decide_eq_false h] at this

/-- The numbers are where they may be. -/
def HOK (tos id frag ttl proto : Int) : Prop := (0 ≤ tos ∧ tos ≤ 255) ∧ (0 ≤ ttl ∧ ttl ≤ 255) ∧ (0 ≤ proto ∧ proto ≤ 255) ∧ (0 ≤ id ∧ id ≤ 65535) ∧ (0 ≤ frag ∧ frag ≤ 65535)
/-- A header's bytes without its sum. -/
def h0 (tos id frag ttl proto src dst : Int) (data : ByteArray) : ByteArray := strOfNums (hb tos (20 + data.size) id frag ttl proto 0 src dst)
/-- A packet's bytes. -/
def pkt (tos id frag ttl proto src dst : Int) (data : ByteArray) : ByteArray := strOfNums (hb tos (20 + data.size) id frag ttl proto (ck (h0 tos id frag ttl proto src dst data)) src dst) ++ data
theorem hb_length (tos len id frag ttl proto sum src dst : Int) : (hb tos len id frag ttl proto sum src dst).length = 20 := rfl
theorem h0_size (tos id frag ttl proto src dst : Int) (data : ByteArray) : (h0 tos id frag ttl proto src dst data).size = 20 := strOfNums_size _

set_option maxHeartbeats 2000000 in
theorem build_long (tos id frag ttl proto src dst : Int) (data : ByteArray) (w : World) (hk : HOK tos id frag ttl proto) (hd : data.size ≤ 9223372036854775807) (hl : 65515 < data.size) :
    Calls Try.prog 55 #[hv tos id frag ttl proto src dst data] w fun e w' => e = .returned (.tuple #[.string ⟨#[]⟩, .int .i64 8]) ∧ Below w.heap.size w w' := by
  obtain ⟨h1, h2, h3, h4, h5⟩ := hk
  unfold hv
  have T1 : Hid (∀ w, _) := fun w => fits8_yes tos w h1
  have T2 : Hid (∀ w, _) := fun w => fits8_yes ttl w h2
  have T3 : Hid (∀ w, _) := fun w => fits8_yes proto w h3
  have T4 : Hid (∀ w, _) := fun w => fits16_yes id w h4
  have T5 : Hid (∀ w, _) := fun w => fits16_yes frag w h5
  go_enter Try.func55, Try.ntmps55
  go_wp2_with (first
    | (go_at_call_of 60 tos; refine (T1.out _).mono ?_; rintro e w' ⟨rfl, rfl⟩)
    | (go_at_call_of 60 ttl; refine (T2.out _).mono ?_; rintro e w' ⟨rfl, rfl⟩)
    | (go_at_call_of 60 proto; refine (T3.out _).mono ?_; rintro e w' ⟨rfl, rfl⟩)
    | (go_at_call_of 60 id; refine (T4.out _).mono ?_; rintro e w' ⟨rfl, rfl⟩)
    | (go_at_call_of 60 frag; refine (T5.out _).mono ?_; rintro e w' ⟨rfl, rfl⟩))
  go_ret2
  exact ⟨rfl, (Below.refl _ _).alloc (Nat.le_refl _) _⟩
set_option maxHeartbeats 2000000 in
theorem build_no1 (tos id frag ttl proto src dst : Int) (data : ByteArray) (w : World) (h1 : ¬ (0 ≤ tos ∧ tos ≤ 255)) :
    Calls Try.prog 55 #[hv tos id frag ttl proto src dst data] w fun e w' => e = .returned (.tuple #[.string ⟨#[]⟩, .int .i64 2]) ∧ Below w.heap.size w w' := by
  unfold hv
  have T1 : Hid (∀ w, _) := fun w => fits8_no tos w h1
  clear h1
  go_enter Try.func55, Try.ntmps55
  go_wp2_with (first
    | (go_at_call_of 60 tos; refine (T1.out _).mono ?_; rintro e w' ⟨rfl, rfl⟩))
  go_ret2
  exact ⟨rfl, (Below.refl _ _).alloc (Nat.le_refl _) _⟩
set_option maxHeartbeats 2000000 in
theorem build_no2 (tos id frag ttl proto src dst : Int) (data : ByteArray) (w : World) (h1 : 0 ≤ tos ∧ tos ≤ 255) (h2 : ¬ (0 ≤ ttl ∧ ttl ≤ 255)) :
    Calls Try.prog 55 #[hv tos id frag ttl proto src dst data] w fun e w' => e = .returned (.tuple #[.string ⟨#[]⟩, .int .i64 2]) ∧ Below w.heap.size w w' := by
  unfold hv
  have T1 : Hid (∀ w, _) := fun w => fits8_yes tos w h1
  have T2 : Hid (∀ w, _) := fun w => fits8_no ttl w h2
  clear h1 h2
  go_enter Try.func55, Try.ntmps55
  go_wp2_with (first
    | (go_at_call_of 60 tos; refine (T1.out _).mono ?_; rintro e w' ⟨rfl, rfl⟩)
    | (go_at_call_of 60 ttl; refine (T2.out _).mono ?_; rintro e w' ⟨rfl, rfl⟩))
  go_ret2
  exact ⟨rfl, (Below.refl _ _).alloc (Nat.le_refl _) _⟩
set_option maxHeartbeats 2000000 in
theorem build_no3 (tos id frag ttl proto src dst : Int) (data : ByteArray) (w : World) (h1 : 0 ≤ tos ∧ tos ≤ 255) (h2 : 0 ≤ ttl ∧ ttl ≤ 255) (h3 : ¬ (0 ≤ proto ∧ proto ≤ 255)) :
    Calls Try.prog 55 #[hv tos id frag ttl proto src dst data] w fun e w' => e = .returned (.tuple #[.string ⟨#[]⟩, .int .i64 2]) ∧ Below w.heap.size w w' := by
  unfold hv
  have T1 : Hid (∀ w, _) := fun w => fits8_yes tos w h1
  have T2 : Hid (∀ w, _) := fun w => fits8_yes ttl w h2
  have T3 : Hid (∀ w, _) := fun w => fits8_no proto w h3
  clear h1 h2 h3
  go_enter Try.func55, Try.ntmps55
  go_wp2_with (first
    | (go_at_call_of 60 tos; refine (T1.out _).mono ?_; rintro e w' ⟨rfl, rfl⟩)
    | (go_at_call_of 60 ttl; refine (T2.out _).mono ?_; rintro e w' ⟨rfl, rfl⟩)
    | (go_at_call_of 60 proto; refine (T3.out _).mono ?_; rintro e w' ⟨rfl, rfl⟩))
  go_ret2
  exact ⟨rfl, (Below.refl _ _).alloc (Nat.le_refl _) _⟩
set_option maxHeartbeats 2000000 in
theorem build_no4 (tos id frag ttl proto src dst : Int) (data : ByteArray) (w : World) (h1 : 0 ≤ tos ∧ tos ≤ 255) (h2 : 0 ≤ ttl ∧ ttl ≤ 255) (h3 : 0 ≤ proto ∧ proto ≤ 255) (h4 : ¬ (0 ≤ id ∧ id ≤ 65535)) :
    Calls Try.prog 55 #[hv tos id frag ttl proto src dst data] w fun e w' => e = .returned (.tuple #[.string ⟨#[]⟩, .int .i64 2]) ∧ Below w.heap.size w w' := by
  unfold hv
  have T1 : Hid (∀ w, _) := fun w => fits8_yes tos w h1
  have T2 : Hid (∀ w, _) := fun w => fits8_yes ttl w h2
  have T3 : Hid (∀ w, _) := fun w => fits8_yes proto w h3
  have T4 : Hid (∀ w, _) := fun w => fits16_no id w h4
  clear h1 h2 h3 h4
  go_enter Try.func55, Try.ntmps55
  go_wp2_with (first
    | (go_at_call_of 60 tos; refine (T1.out _).mono ?_; rintro e w' ⟨rfl, rfl⟩)
    | (go_at_call_of 60 ttl; refine (T2.out _).mono ?_; rintro e w' ⟨rfl, rfl⟩)
    | (go_at_call_of 60 proto; refine (T3.out _).mono ?_; rintro e w' ⟨rfl, rfl⟩)
    | (go_at_call_of 60 id; refine (T4.out _).mono ?_; rintro e w' ⟨rfl, rfl⟩))
  go_ret2
  exact ⟨rfl, (Below.refl _ _).alloc (Nat.le_refl _) _⟩
set_option maxHeartbeats 2000000 in
theorem build_no5 (tos id frag ttl proto src dst : Int) (data : ByteArray) (w : World) (h1 : 0 ≤ tos ∧ tos ≤ 255) (h2 : 0 ≤ ttl ∧ ttl ≤ 255) (h3 : 0 ≤ proto ∧ proto ≤ 255) (h4 : 0 ≤ id ∧ id ≤ 65535) (h5 : ¬ (0 ≤ frag ∧ frag ≤ 65535)) :
    Calls Try.prog 55 #[hv tos id frag ttl proto src dst data] w fun e w' => e = .returned (.tuple #[.string ⟨#[]⟩, .int .i64 2]) ∧ Below w.heap.size w w' := by
  unfold hv
  have T1 : Hid (∀ w, _) := fun w => fits8_yes tos w h1
  have T2 : Hid (∀ w, _) := fun w => fits8_yes ttl w h2
  have T3 : Hid (∀ w, _) := fun w => fits8_yes proto w h3
  have T4 : Hid (∀ w, _) := fun w => fits16_yes id w h4
  have T5 : Hid (∀ w, _) := fun w => fits16_no frag w h5
  clear h1 h2 h3 h4 h5
  go_enter Try.func55, Try.ntmps55
  go_wp2_with (first
    | (go_at_call_of 60 tos; refine (T1.out _).mono ?_; rintro e w' ⟨rfl, rfl⟩)
    | (go_at_call_of 60 ttl; refine (T2.out _).mono ?_; rintro e w' ⟨rfl, rfl⟩)
    | (go_at_call_of 60 proto; refine (T3.out _).mono ?_; rintro e w' ⟨rfl, rfl⟩)
    | (go_at_call_of 60 id; refine (T4.out _).mono ?_; rintro e w' ⟨rfl, rfl⟩)
    | (go_at_call_of 60 frag; refine (T5.out _).mono ?_; rintro e w' ⟨rfl, rfl⟩))
  go_ret2
  exact ⟨rfl, (Below.refl _ _).alloc (Nat.le_refl _) _⟩
theorem build_range (tos id frag ttl proto src dst : Int) (data : ByteArray) (w : World) (h : ¬ HOK tos id frag ttl proto) :
    Calls Try.prog 55 #[hv tos id frag ttl proto src dst data] w fun e w' => e = .returned (.tuple #[.string ⟨#[]⟩, .int .i64 2]) ∧ Below w.heap.size w w' := by
  by_cases h1 : 0 ≤ tos ∧ tos ≤ 255
  · by_cases h2 : 0 ≤ ttl ∧ ttl ≤ 255
    · by_cases h3 : 0 ≤ proto ∧ proto ≤ 255
      · by_cases h4 : 0 ≤ id ∧ id ≤ 65535
        · by_cases h5 : 0 ≤ frag ∧ frag ≤ 65535
          · exact absurd ⟨h1, h2, h3, h4, h5⟩ h
          · exact build_no5 tos id frag ttl proto src dst data w h1 h2 h3 h4 h5
        · exact build_no4 tos id frag ttl proto src dst data w h1 h2 h3 h4
      · exact build_no3 tos id frag ttl proto src dst data w h1 h2 h3
    · exact build_no2 tos id frag ttl proto src dst data w h1 h2
  · exact build_no1 tos id frag ttl proto src dst data w h1
end Go.Proofs.Ytndaohiecpdmlaa
