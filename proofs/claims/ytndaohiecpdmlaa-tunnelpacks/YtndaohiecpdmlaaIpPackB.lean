/-
  What the reader's packet does with 20 bytes and more, in every world that holds the reader. No condition but that.
-/
import Derived.Test.YtndaohiecpdmlaaIpPack
namespace Go.Proofs.Ytndaohiecpdmlaa
open Go.RowKit

theorem num1_bd (s : ByteArray) (p : Nat) : 0 ≤ num (byt s) p 1 ∧ num (byt s) p 1 < 256 := num_bd (byt s) (byt_bd s) p 1
theorem num4_bd (s : ByteArray) (p : Nat) : 0 ≤ num (byt s) p 4 ∧ num (byt s) p 4 < 4294967296 := num_bd (byt s) (byt_bd s) p 4
theorem hb_new (w : World) : HB (w.alloc (.cells #[.int .i64 0, .int .i64 0, .int .i64 0, .int .i64 0, .int .i64 0, .int .u32 0, .int .u32 0, .string ⟨#[]⟩] 40)) w.heap.size zs := by
  refine ⟨by simp, fun i hi => ⟨?_, by simp⟩⟩
  rw [World.cell?_alloc_new]
  rcases i with _|_|_|_|_|_|_|_|i
  all_goals first | rfl | omega
theorem St.start {w w1 : World} {B : Nat} {s : ByteArray} (lt : B < w.heap.size) (R1 : Rd w1 B s 1) (o1 : Only B (w.alloc (.cells #[.int .i64 0, .int .i64 0, .int .i64 0, .int .i64 0, .int .i64 0, .int .u32 0, .int .u32 0, .string ⟨#[]⟩] 40)) w1) : St w (w1.alloc (.cells #[.int .i64 0, .int .i64 0, .int .i64 0, .int .i64 0, .int .i64 0, .int .u32 0, .int .u32 0, .string ⟨#[]⟩] 40)) B w.heap.size w1.heap.size s 1 zs zs := by
  have hz : w1.heap.size = w.heap.size + 1 := by rw [o1.size]; simp
  exact ⟨R1.alloc _, hb_new w1, ((hb_new w).only o1 (by omega)).alloc _, (((Below.refl B w).alloc (Nat.le_of_lt lt) _).trans (o1.below (Nat.le_refl B))).alloc (by omega) _, by omega, by omega, by omega, by omega⟩
set_option maxHeartbeats 2000000 in
theorem packet_short1 (w : World) (B : Nat) (s : ByteArray) (h : Rd w B s 0) (h20 : 20 ≤ s.size) (hs : s.size ≤ 9223372036854775807) (hf : num (byt s) 0 1 = 69) (hl : s.size < said s) :
    Calls Try.prog 42 #[.pointer (some ⟨B, 0, none⟩)] w fun e w' => e = .panicked (thrown 1) ∧ Below B w w' := by
  have hr : Hid (Rd w B s 0) := h
  obtain ⟨lt, c0, c1, z1⟩ := h
  have f1 : decide ((s.size : Int) < 20) = false := by simp; omega
  have N0 : Hid (∀ w, Rd w B s 0 → _) := fun w hr => number_ok w B s 0 1 hr (by decide) (by omega) hs
  have N1 : Hid (∀ w, Rd w B s 1 → _) := fun w hr => number_ok w B s 1 1 hr (by decide) (by omega) hs
  have LEN : Hid _ := fun (w : World) (hr : Rd w B s 2) => length_short1 w B s hr h20 hs hl
  have b1 := num1_bd s 1
  rw [hf] at N0
  clear hf
  generalize num (byt s) 1 1 = tos at *
  have k0 : 0 < 8 := by decide
  have k1 : 1 < 8 := by decide
  have k2 : 2 < 8 := by decide
  have k3 : 3 < 8 := by decide
  have k4 : 4 < 8 := by decide
  have k5 : 5 < 8 := by decide
  have k6 : 6 < 8 := by decide
  have k7 : 7 < 8 := by decide
  go_enter Try.func42, Try.ntmps42
  go_wp2_with (first
    | (go_at_call_of 48 (1 : Int); refine (throw_no _ _).mono ?_; rintro e w' ⟨rfl, rfl⟩)
    | (go_at_call_of 48 (3 : Int); refine (throw_no _ _).mono ?_; rintro e w' ⟨rfl, rfl⟩)
    | (go_at_call 49; refine (N0.out _ (hr.out.alloc _)).mono ?_; rintro e w1 ⟨rfl, R1, o1⟩; have S1 : Hid _ := St.start lt R1 o1; clear R1 o1 hr c0 c1 z1 N0)
    | (go_at_call 49; refine (N1.out _ S1.out.rd).mono ?_; rintro e w2 ⟨rfl, R2, o2⟩; have S2 := S1.out.call R2 o2; obtain ⟨x2, z2⟩ := S2.h.at' 0 k0; replace S2 : Hid _ := S2; clear S1 R2 o2 N1)
    | (go_at_call 50; refine (LEN.out _ (S2.out.store 0 k0 _).rd).mono ?_; rintro e w3 ⟨rfl, o3⟩; have Z3 := (S2.out.store 0 k0 _).bel.trans (o3.below (Nat.le_refl B))))
  exact ⟨rfl, rfl, Z3⟩
set_option maxHeartbeats 2000000 in
theorem packet_short2 (w : World) (B : Nat) (s : ByteArray) (h : Rd w B s 0) (h20 : 20 ≤ s.size) (hs : s.size ≤ 9223372036854775807) (hf : num (byt s) 0 1 = 69) (hl : ¬ s.size < said s) (hg : said s < 20) :
    Calls Try.prog 42 #[.pointer (some ⟨B, 0, none⟩)] w fun e w' => e = .panicked (thrown 1) ∧ Below B w w' := by
  have hr : Hid (Rd w B s 0) := h
  obtain ⟨lt, c0, c1, z1⟩ := h
  have f1 : decide ((s.size : Int) < 20) = false := by simp; omega
  have N0 : Hid (∀ w, Rd w B s 0 → _) := fun w hr => number_ok w B s 0 1 hr (by decide) (by omega) hs
  have N1 : Hid (∀ w, Rd w B s 1 → _) := fun w hr => number_ok w B s 1 1 hr (by decide) (by omega) hs
  have LEN : Hid _ := fun (w : World) (hr : Rd w B s 2) => length_short2 w B s hr h20 hs hl hg
  have b1 := num1_bd s 1
  rw [hf] at N0
  clear hf
  generalize num (byt s) 1 1 = tos at *
  have k0 : 0 < 8 := by decide
  have k1 : 1 < 8 := by decide
  have k2 : 2 < 8 := by decide
  have k3 : 3 < 8 := by decide
  have k4 : 4 < 8 := by decide
  have k5 : 5 < 8 := by decide
  have k6 : 6 < 8 := by decide
  have k7 : 7 < 8 := by decide
  go_enter Try.func42, Try.ntmps42
  go_wp2_with (first
    | (go_at_call_of 48 (1 : Int); refine (throw_no _ _).mono ?_; rintro e w' ⟨rfl, rfl⟩)
    | (go_at_call_of 48 (3 : Int); refine (throw_no _ _).mono ?_; rintro e w' ⟨rfl, rfl⟩)
    | (go_at_call 49; refine (N0.out _ (hr.out.alloc _)).mono ?_; rintro e w1 ⟨rfl, R1, o1⟩; have S1 : Hid _ := St.start lt R1 o1; clear R1 o1 hr c0 c1 z1 N0)
    | (go_at_call 49; refine (N1.out _ S1.out.rd).mono ?_; rintro e w2 ⟨rfl, R2, o2⟩; have S2 := S1.out.call R2 o2; obtain ⟨x2, z2⟩ := S2.h.at' 0 k0; replace S2 : Hid _ := S2; clear S1 R2 o2 N1)
    | (go_at_call 50; refine (LEN.out _ (S2.out.store 0 k0 _).rd).mono ?_; rintro e w3 ⟨rfl, o3⟩; have Z3 := (S2.out.store 0 k0 _).bel.trans (o3.below (Nat.le_refl B))))
  exact ⟨rfl, rfl, Z3⟩
set_option maxHeartbeats 2000000 in
theorem packet_more (w : World) (B : Nat) (s : ByteArray) (h : Rd w B s 0) (h20 : 20 ≤ s.size) (hs : s.size ≤ 9223372036854775807) (hf : num (byt s) 0 1 = 69) (hl : said s < s.size) (hg : 20 ≤ said s) :
    Calls Try.prog 42 #[.pointer (some ⟨B, 0, none⟩)] w fun e w' => e = .panicked (thrown 6) ∧ Below B w w' := by
  have hr : Hid (Rd w B s 0) := h
  obtain ⟨lt, c0, c1, z1⟩ := h
  have f1 : decide ((s.size : Int) < 20) = false := by simp; omega
  have N0 : Hid (∀ w, Rd w B s 0 → _) := fun w hr => number_ok w B s 0 1 hr (by decide) (by omega) hs
  have N1 : Hid (∀ w, Rd w B s 1 → _) := fun w hr => number_ok w B s 1 1 hr (by decide) (by omega) hs
  have LEN : Hid _ := fun (w : World) (hr : Rd w B s 2) => length_more w B s hr h20 hs hl hg
  have b1 := num1_bd s 1
  rw [hf] at N0
  clear hf
  generalize num (byt s) 1 1 = tos at *
  have k0 : 0 < 8 := by decide
  have k1 : 1 < 8 := by decide
  have k2 : 2 < 8 := by decide
  have k3 : 3 < 8 := by decide
  have k4 : 4 < 8 := by decide
  have k5 : 5 < 8 := by decide
  have k6 : 6 < 8 := by decide
  have k7 : 7 < 8 := by decide
  go_enter Try.func42, Try.ntmps42
  go_wp2_with (first
    | (go_at_call_of 48 (1 : Int); refine (throw_no _ _).mono ?_; rintro e w' ⟨rfl, rfl⟩)
    | (go_at_call_of 48 (3 : Int); refine (throw_no _ _).mono ?_; rintro e w' ⟨rfl, rfl⟩)
    | (go_at_call 49; refine (N0.out _ (hr.out.alloc _)).mono ?_; rintro e w1 ⟨rfl, R1, o1⟩; have S1 : Hid _ := St.start lt R1 o1; clear R1 o1 hr c0 c1 z1 N0)
    | (go_at_call 49; refine (N1.out _ S1.out.rd).mono ?_; rintro e w2 ⟨rfl, R2, o2⟩; have S2 := S1.out.call R2 o2; obtain ⟨x2, z2⟩ := S2.h.at' 0 k0; replace S2 : Hid _ := S2; clear S1 R2 o2 N1)
    | (go_at_call 50; refine (LEN.out _ (S2.out.store 0 k0 _).rd).mono ?_; rintro e w3 ⟨rfl, o3⟩; have Z3 := (S2.out.store 0 k0 _).bel.trans (o3.below (Nat.le_refl B))))
  exact ⟨rfl, rfl, Z3⟩
end Go.Proofs.Ytndaohiecpdmlaa
