/-
  What the reader's packet does with bytes whose check sum is wrong, in every world that holds the reader. No condition but that.
-/
import Derived.Test.YtndaohiecpdmlaaIpPackB
namespace Go.Proofs.Ytndaohiecpdmlaa
open Go.RowKit
set_option maxHeartbeats 2000000 in
theorem packet_sum (w : World) (B : Nat) (s : ByteArray) (h : Rd w B s 0) (h20 : 20 ≤ s.size) (hs : s.size ≤ 9223372036854775807) (hf : num (byt s) 0 1 = 69) (hl : said s = s.size) (hc : num (byt s) 10 2 ≠ right s) :
    Calls Try.prog 42 #[.pointer (some ⟨B, 0, none⟩)] w fun e w' => e = .panicked (thrown 9) ∧ Below B w w' := by
  have hr : Hid (Rd w B s 0) := h
  obtain ⟨lt, c0, c1, z1⟩ := h
  have f1 : decide ((s.size : Int) < 20) = false := by simp; omega
  have N0 : Hid (∀ w, Rd w B s 0 → _) := fun w hr => number_ok w B s 0 1 hr (by decide) (by omega) hs
  have N1 : Hid (∀ w, Rd w B s 1 → _) := fun w hr => number_ok w B s 1 1 hr (by decide) (by omega) hs
  have N4 : Hid (∀ w, Rd w B s 4 → _) := fun w hr => number_ok w B s 4 2 hr (by decide) (by omega) hs
  have N6 : Hid (∀ w, Rd w B s 6 → _) := fun w hr => number_ok w B s 6 2 hr (by decide) (by omega) hs
  have N8 : Hid (∀ w, Rd w B s 8 → _) := fun w hr => number_ok w B s 8 1 hr (by decide) (by omega) hs
  have N9 : Hid (∀ w, Rd w B s 9 → _) := fun w hr => number_ok w B s 9 1 hr (by decide) (by omega) hs
  have LEN : Hid _ := fun (w : World) (hr : Rd w B s 2) => length_ok w B s hr h20 hs hl
  have CHK : Hid _ := fun (w : World) (hr : Rd w B s 10) => ipchk_no w B s hr h20 hs hc
  have b1 := num1_bd s 1
  have b4 := num2_bd s 4
  have b6 := num2_bd s 6
  have b8 := num1_bd s 8
  have b9 := num1_bd s 9
  rw [hf] at N0
  clear hf
  generalize num (byt s) 1 1 = tos at *
  generalize num (byt s) 4 2 = id at *
  generalize num (byt s) 6 2 = frag at *
  generalize num (byt s) 8 1 = ttl at *
  generalize num (byt s) 9 1 = proto at *
  have k0 : 0 < 8 := by decide
  have k1 : 1 < 8 := by decide
  have k2 : 2 < 8 := by decide
  have k3 : 3 < 8 := by decide
  have k4 : 4 < 8 := by decide
  have k5 : 5 < 8 := by decide
  have k6 : 6 < 8 := by decide
  have k7 : 7 < 8 := by decide
  go_enter Try.func42, Try.ntmps42
  go_wp2_with (first
    | (go_at_call_of 48 (1 : Int); refine (throw_no _ _).mono ?_; rintro e w' ⟨rfl, rfl⟩)
    | (go_at_call_of 48 (3 : Int); refine (throw_no _ _).mono ?_; rintro e w' ⟨rfl, rfl⟩)
    | (go_at_call 49; refine (N0.out _ (hr.out.alloc _)).mono ?_; rintro e w1 ⟨rfl, R1, o1⟩; have S1 : Hid _ := St.start lt R1 o1; clear R1 o1 hr c0 c1 z1 N0)
    | (go_at_call 49; refine (N1.out _ S1.out.rd).mono ?_; rintro e w2 ⟨rfl, R2, o2⟩; have S2 := S1.out.call R2 o2; obtain ⟨x2, z2⟩ := S2.h.at' 0 k0; replace S2 : Hid _ := S2; clear S1 R2 o2 N1)
    | (go_at_call 50; refine (LEN.out _ (S2.out.store 0 k0 _).rd).mono ?_; rintro e w3 ⟨rfl, R3, o3⟩; have S3 : Hid _ := (S2.out.store 0 k0 _).call R3 o3; clear S2 x2 z2 R3 o3)
    | (go_at_call 49; refine (N4.out _ (S3.out).rd).mono ?_; rintro e w4 ⟨rfl, R4, o4⟩; have S4 := (S3.out).call R4 o4; obtain ⟨x4, z4⟩ := S4.h.at' 1 k1; replace S4 : Hid _ := S4; clear S3 R4 o4 N4)
    | (go_at_call 49; refine (N6.out _ (S4.out.store 1 k1 _).rd).mono ?_; rintro e w5 ⟨rfl, R5, o5⟩; have S5 := (S4.out.store 1 k1 _).call R5 o5; obtain ⟨x5, z5⟩ := S5.h.at' 2 k2; replace S5 : Hid _ := S5; clear S4 R5 o5 x4 z4 N6)
    | (go_at_call 49; refine (N8.out _ (S5.out.store 2 k2 _).rd).mono ?_; rintro e w6 ⟨rfl, R6, o6⟩; have S6 := (S5.out.store 2 k2 _).call R6 o6; obtain ⟨x6, z6⟩ := S6.h.at' 3 k3; replace S6 : Hid _ := S6; clear S5 R6 o6 x5 z5 N8)
    | (go_at_call 49; refine (N9.out _ (S6.out.store 3 k3 _).rd).mono ?_; rintro e w7 ⟨rfl, R7, o7⟩; have S7 := (S6.out.store 3 k3 _).call R7 o7; obtain ⟨x7, z7⟩ := S7.h.at' 4 k4; replace S7 : Hid _ := S7; clear S6 R7 o7 x6 z6 N9)
    | (go_at_call 51; refine (CHK.out _ (S7.out.store 4 k4 _).rd).mono ?_; rintro e w8 ⟨rfl, o8⟩; have Z8 := (S7.out.store 4 k4 _).bel.trans (o8.below (Nat.le_refl B))))
  exact ⟨rfl, rfl, Z8⟩
end Go.Proofs.Ytndaohiecpdmlaa
