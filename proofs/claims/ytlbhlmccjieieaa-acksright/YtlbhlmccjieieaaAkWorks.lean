/-
  The statements' first look at the program answers yes. No condition.
-/
import Derived.Test.YtlbhlmccjieieaaAkInv
namespace Go.Proofs.Ytlbhlmccjieieaa
set_option maxRecDepth 100000
open Go.RowKit Go.Sort

theorem Out.one {w : World} {base : Nat} {v : Value} {x : Rg} (h : Out w base v [x]) : ∃ g o cap, v = .slice (some ⟨g, o, none⟩) 1 cap ∧ w.cell? ⟨g, o, none⟩ = some (.int .i64 x.1) ∧ w.cell? ⟨g, o + 1, none⟩ = some (.int .i64 x.2) := by
  obtain ⟨a, cap, rfl, q⟩ := h.at
  rcases q with q | ⟨g, o, rfl, q⟩
  · cases q
  · obtain ⟨h1, h2⟩ := q 0 (by show 0 < 1; decide)
    exact ⟨g, o, cap, rfl, h1, h2⟩
set_option maxHeartbeats 4000000 in
theorem works_ok (w : World) :
    Calls Try.prog 19 #[] w fun e w' => e = .returned (.bool true) ∧ Below w.heap.size w w' := by
  have NW : Hid (∀ w', Below w.heap.size w w' → _) := fun w' b => pinv_new w w' b
  have S1 : Hid (∀ w' B F, PInv w w' B F [] → Calls Try.prog 11 #[.pointer (some ⟨B, 0, none⟩), .int .i64 5, .int .i64 6] w' fun e w'' => e = .returned (.int .i64 0) ∧ ∃ F', PInv w w'' B F' [(5, 6)]) := fun w' B F h => (pinv_add h ⟨by decide, by decide⟩ ⟨by decide, by decide⟩).mono fun _ _ ⟨e, F', h, _⟩ => ⟨e, F', h⟩
  have S2 : Hid (∀ w' B F, PInv w w' B F [(5, 6)] → Calls Try.prog 11 #[.pointer (some ⟨B, 0, none⟩), .int .i64 8, .int .i64 8] w' fun e w'' => e = .returned (.int .i64 0) ∧ ∃ F', PInv w w'' B F' [(8, 8), (5, 6)]) := fun w' B F h => (pinv_add h ⟨by decide, by decide⟩ ⟨by decide, by decide⟩).mono fun _ _ ⟨e, F', h, _⟩ => ⟨e, F', h⟩
  have S3 : Hid (∀ w' B F, PInv w w' B F [(8, 8), (5, 6)] → Calls Try.prog 11 #[.pointer (some ⟨B, 0, none⟩), .int .i64 7, .int .i64 7] w' fun e w'' => e = .returned (.int .i64 0) ∧ ∃ F', PInv w w'' B F' [(5, 8)]) := fun w' B F h => (pinv_add h ⟨by decide, by decide⟩ ⟨by decide, by decide⟩).mono fun _ _ ⟨e, F', h, _⟩ => ⟨e, F', h⟩
  have RA : Hid (∀ w' B F, PInv w w' B F [(5, 8)] → Calls Try.prog 13 #[.pointer (some ⟨B, 0, none⟩)] w' fun e w'' => ∃ g o cap, e = .returned (.slice (some ⟨g, o, none⟩) 1 cap) ∧ w''.cell? ⟨g, o, none⟩ = some (.int .i64 5) ∧ w''.cell? ⟨g, o + 1, none⟩ = some (.int .i64 8) ∧ PInv w w'' B F [(5, 8)]) := fun w' B F h => (pinv_ranges h).mono fun e w'' ⟨v, he, ho, hb⟩ => by
    obtain ⟨g, o, cap, rfl, h1, h2⟩ := ho.one
    exact ⟨g, o, cap, he, h1, h2, h.keep hb⟩
  have H7 : Hid (∀ w' B F, PInv w w' B F [(5, 8)] → Calls Try.prog 15 #[.pointer (some ⟨B, 0, none⟩), .int .i64 7] w' fun e w'' => e = .returned (.bool true) ∧ PInv w w'' B F [(5, 8)]) := fun w' B F h => (pinv_has h ⟨by decide, by decide⟩).mono fun _ _ ⟨e, b⟩ => ⟨e, h.keep b⟩
  have H9 : Hid (∀ w' B F, PInv w w' B F [(5, 8)] → Calls Try.prog 15 #[.pointer (some ⟨B, 0, none⟩), .int .i64 9] w' fun e w'' => e = .returned (.bool false) ∧ PInv w w'' B F [(5, 8)]) := fun w' B F h => (pinv_has h ⟨by decide, by decide⟩).mono fun _ _ ⟨e, b⟩ => ⟨e, h.keep b⟩
  have S4 : Hid (∀ w' B F, PInv w w' B F [(5, 8)] → Calls Try.prog 11 #[.pointer (some ⟨B, 0, none⟩), .int .i64 2, .int .i64 1] w' fun e w'' => e = .returned (.int .i64 2) ∧ ∃ F', PInv w w'' B F' [(5, 8)]) := fun w' B F h => (pinv_add h ⟨by decide, by decide⟩ ⟨by decide, by decide⟩).mono fun _ _ ⟨e, F', h, _⟩ => ⟨e, F', h⟩
  go_enter Try.func19, Try.ntmps19
  go_wp2_with fail
  refine (NW.out _ (Below.refl _ _)).mono ?_
  rintro e w1 ⟨B, F, rfl, n1, -⟩
  have N1 := Lib.hid n1
  clear n1 NW
  go_wp2_with fail
  refine (S1.out _ _ _ N1.out).mono ?_
  rintro e w2 ⟨rfl, F2, n2⟩
  have N2 := Lib.hid n2
  clear n2 N1 S1
  go_wp2_with fail
  refine (S2.out _ _ _ N2.out).mono ?_
  rintro e w3 ⟨rfl, F3, n3⟩
  have N3 := Lib.hid n3
  clear n3 N2 S2
  go_wp2_with fail
  refine (S3.out _ _ _ N3.out).mono ?_
  rintro e w4 ⟨rfl, F4, n4⟩
  have N4 := Lib.hid n4
  clear n4 N3 S3
  go_wp2_with fail
  refine (RA.out _ _ _ N4.out).mono ?_
  rintro e w5 ⟨g, o, cap, rfl, c1, c2, n5⟩
  have N5 := Lib.hid n5
  clear n5 N4 RA
  go_wp2_with fail
  refine (H7.out _ _ _ N5.out).mono ?_
  rintro e w6 ⟨rfl, n6⟩
  have N6 := Lib.hid n6
  clear n6 N5 H7 c1 c2
  go_wp2_with fail
  refine (H9.out _ _ _ N6.out).mono ?_
  rintro e w7 ⟨rfl, n7⟩
  have N7 := Lib.hid n7
  clear n7 N6 H9
  go_wp2_with fail
  refine (S4.out _ _ _ N7.out).mono ?_
  rintro e w8 ⟨rfl, F8, n8⟩
  have N8 := Lib.hid n8
  clear n8 N7 S4
  go_wp2_with fail
  go_ret
  exact ⟨rfl, N8.out.bel⟩
end Go.Proofs.Ytlbhlmccjieieaa
