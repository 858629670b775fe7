/-
  The law's own example of a stream that is sent answers true, by what is asked of the program's calls (OuFace). No other condition.
-/
import Derived.Test.YtdmoaeegjjenmaaOuFace
namespace Go.Proofs.Ytdmoaeegjjenmaa
set_option maxRecDepth 100000
open Go.RowKit Go.Sort

def hello : ByteArray := ⟨#[104, 101, 108, 108, 111]⟩
def hx (l : List Int) (f : Int) : Ox := ⟨hello, l, f, 4096⟩
theorem hx_write : wrE ox0 5 = 0 ∧ wrO ox0 hello true = hx [0, 0, 0, 0, 0] 0 := ⟨by kernel_rfl, by kernel_rfl⟩
theorem hx_n1 : nxt (hx [0, 0, 0, 0, 0] 0) 3 = some ⟨0, 3, false⟩ ∧ nxtO (hx [0, 0, 0, 0, 0] 0) 3 = hx [1, 1, 1, 0, 0] 0 := ⟨by kernel_rfl, by kernel_rfl⟩
theorem hx_n2 : nxt (hx [1, 1, 1, 0, 0] 0) 9 = some ⟨3, 2, true⟩ ∧ nxtO (hx [1, 1, 1, 0, 0] 0) 9 = hx [1, 1, 1, 1, 1] 1 := ⟨by kernel_rfl, by kernel_rfl⟩
theorem hx_lost : lostO (hx [1, 1, 1, 1, 1] 1) ⟨0, 3, false⟩ = hx [0, 0, 0, 1, 1] 1 := by kernel_rfl
theorem hx_n3 : nxt (hx [0, 0, 0, 1, 1] 1) 9 = some ⟨0, 3, false⟩ ∧ nxtO (hx [0, 0, 0, 1, 1] 1) 9 = hx [1, 1, 1, 1, 1] 1 := ⟨by kernel_rfl, by kernel_rfl⟩
theorem hx_a1 : ackO (hx [1, 1, 1, 1, 1] 1) ⟨3, 2, true⟩ = hx [1, 1, 1, 2, 2] 2 := by kernel_rfl
theorem hx_a2 : ackO (hx [1, 1, 1, 2, 2] 2) ⟨0, 3, false⟩ = hx [2, 2, 2, 2, 2] 2 := by kernel_rfl
theorem hx_st : thereN (hx [2, 2, 2, 2, 2] 2) = 5 ∧ allB (hx [2, 2, 2, 2, 2] 2) = true := ⟨by kernel_rfl, by kernel_rfl⟩
theorem hx_sub : hello.extract 0 (0 + 3) = ⟨#[104, 101, 108]⟩ ∧ hello.extract 3 (3 + 2) = ⟨#[108, 111]⟩ := ⟨by kernel_rfl, by kernel_rfl⟩
theorem hx_p (l : List Int) (f : Int) : PcOk (hx l f) ⟨0, 3, false⟩ ⟨#[104, 101, 108]⟩ := ⟨by show 0 + 3 ≤ 5; decide, hx_sub.1.symm, fun q => by cases q⟩
theorem hx_q (l : List Int) (f : Int) (hf : f ≠ 3) : PcOk (hx l f) ⟨3, 2, true⟩ ⟨#[108, 111]⟩ := ⟨by show 3 + 2 ≤ 5; decide, hx_sub.2.symm, fun _ => ⟨hf, rfl⟩⟩
set_option maxHeartbeats 8000000 in
theorem works_ok {LS : OSt} (fc : OuFace LS) (w : World) : Calls Try.prog 22 #[] w fun e w' => e = .returned (.bool true) ∧ Below w.heap.size w w' := by
  have NP : Hid (∀ w', Below w.heap.size w w' → _) := fun w' b => po_new fc (fun _ => False) w w' b (fun _ q => q.elim)
  have W1 : Hid (∀ w' B F, PO LS (fun _ => False) w w' B F ox0 → _) := fun w' B F h => po_write fc hello true (X := fun _ => False) (w0 := w) (w := w') (B := B) (F := F) h (by decide) (by decide)
  have hz : hello.size = 5 := rfl
  rw [hz, hx_write.1, hx_write.2] at W1
  have A1 : Hid (∀ w' B F, PO LS (fun _ => False) w w' B F (hx [0, 0, 0, 0, 0] 0) → _) := fun w' B F h => po_next fc 3 (X := fun _ => False) (w0 := w) (w := w') (B := B) (F := F) h (by decide) (by decide) (.inl (by decide))
  have A2 : Hid (∀ w' B F (X : Nat → Prop), PO LS X w w' B F (hx [1, 1, 1, 0, 0] 0) → _) := fun w' B F X h => po_next fc 9 (w0 := w) (w := w') (B := B) (F := F) h (by decide) (by decide) (.inl (by decide))
  have A3 : Hid (∀ w' B F (X : Nat → Prop), PO LS X w w' B F (hx [1, 1, 1, 1, 1] 1) → _) := fun w' B F X h => po_lost fc ⟨0, 3, false⟩ ⟨#[104, 101, 108]⟩ (w0 := w) (w := w') (B := B) (F := F) h (by decide) (hx_p _ _)
  have A4 : Hid (∀ w' B F (X : Nat → Prop), PO LS X w w' B F (hx [0, 0, 0, 1, 1] 1) → _) := fun w' B F X h => po_next fc 9 (w0 := w) (w := w') (B := B) (F := F) h (by decide) (by decide) (.inl (by decide))
  have A5 : Hid (∀ w' B F (X : Nat → Prop), PO LS X w w' B F (hx [1, 1, 1, 1, 1] 1) → _) := fun w' B F X h => po_acked fc ⟨3, 2, true⟩ ⟨#[108, 111]⟩ (w0 := w) (w := w') (B := B) (F := F) h (by decide) (hx_q _ _ (by decide))
  have A6 : Hid (∀ w' B F (X : Nat → Prop), PO LS X w w' B F (hx [1, 1, 1, 2, 2] 2) → _) := fun w' B F X h => po_acked fc ⟨0, 3, false⟩ ⟨#[104, 101, 108]⟩ (w0 := w) (w := w') (B := B) (F := F) h (by decide) (hx_p _ _)
  have A7 : Hid (∀ w' B F (X : Nat → Prop), PO LS X w w' B F (hx [2, 2, 2, 2, 2] 2) → _) := fun w' B F X h => po_state fc (w0 := w) (w := w') (B := B) (F := F) h (by decide)
  rw [hx_n1.1, hx_n1.2] at A1
  rw [hx_n2.1, hx_n2.2] at A2
  rw [hx_lost] at A3
  rw [hx_n3.1, hx_n3.2] at A4
  rw [hx_a1] at A5
  rw [hx_a2] at A6
  rw [hx_st.1, hx_st.2] at A7
  have v1 : ∀ l f, nxtV (hx l f) (some ⟨0, 3, false⟩) = .tuple #[.agg #[.int .i64 0, .string ⟨#[104, 101, 108]⟩, .bool false], .bool true] := fun l f => by show Value.tuple #[.agg #[_, .string (hello.extract 0 (0 + 3)), _], _] = _; rw [hx_sub.1]; rfl
  have v2 : ∀ l f, nxtV (hx l f) (some ⟨3, 2, true⟩) = .tuple #[.agg #[.int .i64 3, .string ⟨#[108, 111]⟩, .bool true], .bool true] := fun l f => by show Value.tuple #[.agg #[_, .string (hello.extract 3 (3 + 2)), _], _] = _; rw [hx_sub.2]; rfl
  have v3 : pcV ⟨0, 3, false⟩ ⟨#[104, 101, 108]⟩ = .agg #[.int .i64 0, .string ⟨#[104, 101, 108]⟩, .bool false] := rfl
  have v4 : pcV ⟨3, 2, true⟩ ⟨#[108, 111]⟩ = .agg #[.int .i64 3, .string ⟨#[108, 111]⟩, .bool true] := rfl
  have v5 : ((hx [2, 2, 2, 2, 2] 2).s.size : Int) = 5 := rfl
  have v6 : (((5 : Nat) : Nat) : Int) = 5 := rfl
  have v7 : hello = ⟨#[104, 101, 108, 108, 111]⟩ := rfl
  simp only [v1, v2, v3, v4, v5, v6] at A1 A2 A3 A4 A5 A6 A7
  rw [v7] at W1
  clear v1 v2 v3 v4 v5 v6 v7 hz
  generalize hx [0, 0, 0, 0, 0] 0 = d1 at *
  generalize hx [1, 1, 1, 0, 0] 0 = d2 at *
  generalize hx [1, 1, 1, 1, 1] 1 = d3 at *
  generalize hx [0, 0, 0, 1, 1] 1 = d4 at *
  generalize hx [1, 1, 1, 2, 2] 2 = d5 at *
  generalize hx [2, 2, 2, 2, 2] 2 = d6 at *
  go_enter Try.func22, Try.ntmps22
  go_wp2_with fail
  refine (NP.out _ (Below.refl _ _)).mono ?_
  rintro e w1 ⟨B, F1, rfl, n1, -, -⟩
  have N1 := Lib.hid n1
  clear n1 NP
  go_wp2_with fail
  refine (W1.out _ _ _ N1.out).mono ?_
  rintro e w2 ⟨rfl, F2, ⟨n2, -⟩, -, -⟩
  have N2 := Lib.hid n2
  clear n2 N1 W1
  go_wp2_with fail
  refine (A1.out _ _ _ N2.out).mono ?_
  rintro e w3 ⟨rfl, F3, ⟨n3, -⟩, -, -⟩
  have N3 := Lib.hid n3
  clear n3 N2 A1
  go_upto_region 6 with fail
  have al : Below w3.heap.size w3 (w3.alloc (.cells #[.int .i64 0, .string ⟨#[104, 101, 108]⟩, .bool false] 33)) := (Below.refl _ _).alloc (Nat.le_refl _) _
  have N4 : Hid (PO LS (fun k => False ∨ k = w3.heap.size) w (w3.alloc (.cells #[.int .i64 0, .string ⟨#[104, 101, 108]⟩, .bool false] 33)) B F3 d2) := N3.out.fresh fc al (fun k q => q.elim .inl fun q => .inr ⟨by omega, by simp; omega⟩)
  have P4 : Hid (Lies (w3.alloc (.cells #[.int .i64 0, .string ⟨#[104, 101, 108]⟩, .bool false] 33)) w3.heap.size [.int .i64 0, .string ⟨#[104, 101, 108]⟩, .bool false]) := Lies.new w3 _ _
  clear al N3 
  generalize w3.alloc (.cells #[.int .i64 0, .string ⟨#[104, 101, 108]⟩, .bool false] 33) = w4 at *
  generalize w3.heap.size = g1 at *
  go_wp2_with fail
  refine (A2.out _ _ _ _ N4.out).mono ?_
  rintro e w5 ⟨rfl, F5, ⟨n5, s5⟩, -, -⟩
  have N5 := Lib.hid n5
  have P5 := Lib.hid (P4.out.asIs s5 (.inr rfl))
  clear n5 s5 N4 P4 A2
  go_upto_region 7 with fail
  have al : Below w5.heap.size w5 (w5.alloc (.cells #[.int .i64 3, .string ⟨#[108, 111]⟩, .bool true] 33)) := (Below.refl _ _).alloc (Nat.le_refl _) _
  have N6 : Hid (PO LS (fun k => (False ∨ k = g1) ∨ k = w5.heap.size) w (w5.alloc (.cells #[.int .i64 3, .string ⟨#[108, 111]⟩, .bool true] 33)) B F5 d3) := N5.out.fresh fc al (fun k q => q.elim .inl fun q => .inr ⟨by omega, by simp; omega⟩)
  have P6 : Hid (Lies (w5.alloc (.cells #[.int .i64 3, .string ⟨#[108, 111]⟩, .bool true] 33)) g1 [.int .i64 0, .string ⟨#[104, 101, 108]⟩, .bool false]) := P5.out.keep (by show 0 < 3; decide) al
  have Q6 : Hid (Lies (w5.alloc (.cells #[.int .i64 3, .string ⟨#[108, 111]⟩, .bool true] 33)) w5.heap.size [.int .i64 3, .string ⟨#[108, 111]⟩, .bool true]) := Lies.new w5 _ _
  clear al N5 P5
  generalize w5.alloc (.cells #[.int .i64 3, .string ⟨#[108, 111]⟩, .bool true] 33) = w6 at *
  generalize w5.heap.size = g2 at *
  have p0 := P6.out.cell 0 (v := .int .i64 0) rfl
  have p1 := P6.out.cell 1 (v := .string ⟨#[104, 101, 108]⟩) rfl
  have p2 := P6.out.cell 2 (v := .bool false) rfl
  go_wp2_with fail
  refine (A3.out _ _ _ _ N6.out).mono ?_
  rintro e w7 ⟨rfl, F7, ⟨n7, s7⟩, -, -⟩
  have N7 := Lib.hid n7
  have P7 := Lib.hid (P6.out.asIs s7 (.inl (.inr rfl)))
  have Q7 := Lib.hid (Q6.out.asIs s7 (.inr rfl))
  clear n7 s7 N6 P6 Q6 A3 p0 p1 p2
  go_wp2_with fail
  refine (A4.out _ _ _ _ N7.out).mono ?_
  rintro e w8 ⟨rfl, F8, ⟨n8, s8⟩, -, -⟩
  have N8 := Lib.hid n8
  have P8 := Lib.hid (P7.out.asIs s8 (.inl (.inr rfl)))
  have Q8 := Lib.hid (Q7.out.asIs s8 (.inr rfl))
  clear n8 s8 N7 P7 Q7 A4
  go_upto_region 9 with fail
  have al : Below w8.heap.size w8 (w8.alloc (.cells #[.int .i64 0, .string ⟨#[104, 101, 108]⟩, .bool false] 33)) := (Below.refl _ _).alloc (Nat.le_refl _) _
  have N9 : Hid (PO LS (fun k => ((False ∨ k = g1) ∨ k = g2) ∨ k = w8.heap.size) w (w8.alloc (.cells #[.int .i64 0, .string ⟨#[104, 101, 108]⟩, .bool false] 33)) B F8 d3) := N8.out.fresh fc al (fun k q => q.elim .inl fun q => .inr ⟨by omega, by simp; omega⟩)
  have P9 : Hid (Lies (w8.alloc (.cells #[.int .i64 0, .string ⟨#[104, 101, 108]⟩, .bool false] 33)) g1 [.int .i64 0, .string ⟨#[104, 101, 108]⟩, .bool false]) := P8.out.keep (by show 0 < 3; decide) al
  have Q9 : Hid (Lies (w8.alloc (.cells #[.int .i64 0, .string ⟨#[104, 101, 108]⟩, .bool false] 33)) g2 [.int .i64 3, .string ⟨#[108, 111]⟩, .bool true]) := Q8.out.keep (by show 0 < 3; decide) al
  have S9 : Hid (Lies (w8.alloc (.cells #[.int .i64 0, .string ⟨#[104, 101, 108]⟩, .bool false] 33)) w8.heap.size [.int .i64 0, .string ⟨#[104, 101, 108]⟩, .bool false]) := Lies.new w8 _ _
  clear al N8 P8 Q8
  generalize w8.alloc (.cells #[.int .i64 0, .string ⟨#[104, 101, 108]⟩, .bool false] 33) = w9 at *
  generalize w8.heap.size = g3 at *
  have q0 := Q9.out.cell 0 (v := .int .i64 3) rfl
  have q1 := Q9.out.cell 1 (v := .string ⟨#[108, 111]⟩) rfl
  have q2 := Q9.out.cell 2 (v := .bool true) rfl
  go_wp2_with fail
  refine (A5.out _ _ _ _ N9.out).mono ?_
  rintro e wA ⟨rfl, FA, ⟨nA, sA⟩, -, -⟩
  have NA := Lib.hid nA
  have PA := Lib.hid (P9.out.asIs sA (.inl (.inl (.inr rfl))))
  have QA := Lib.hid (Q9.out.asIs sA (.inl (.inr rfl)))
  have SA := Lib.hid (S9.out.asIs sA (.inr rfl))
  clear nA sA N9 P9 Q9 S9 A5 q0 q1 q2
  have s0 := SA.out.cell 0 (v := .int .i64 0) rfl
  have s1 := SA.out.cell 1 (v := .string ⟨#[104, 101, 108]⟩) rfl
  have s2 := SA.out.cell 2 (v := .bool false) rfl
  go_wp2_with fail
  refine (A6.out _ _ _ _ NA.out).mono ?_
  rintro e wB ⟨rfl, FB, ⟨nB, sB⟩, -, -⟩
  have NB := Lib.hid nB
  have PB := Lib.hid (PA.out.asIs sB (.inl (.inl (.inr rfl))))
  have QB := Lib.hid (QA.out.asIs sB (.inl (.inr rfl)))
  have SB := Lib.hid (SA.out.asIs sB (.inr rfl))
  clear nB sB NA PA QA SA A6 s0 s1 s2
  go_wp2_with fail
  refine (A7.out _ _ _ _ NB.out).mono ?_
  rintro e wC ⟨rfl, bC⟩
  have bel := Lib.hid (NB.out.keep fc bC).bel
  have PC := Lib.hid (PB.out.keep (by show 0 < 3; decide) bC)
  have QC := Lib.hid (QB.out.keep (by show 0 < 3; decide) bC)
  have SC := Lib.hid (SB.out.keep (by show 0 < 3; decide) bC)
  clear bC NB PB QB SB A7
  have p0 := PC.out.cell 0 (v := .int .i64 0) rfl
  have p1 := PC.out.cell 1 (v := .string ⟨#[104, 101, 108]⟩) rfl
  have p2 := PC.out.cell 2 (v := .bool false) rfl
  have q0 := QC.out.cell 0 (v := .int .i64 3) rfl
  have q1 := QC.out.cell 1 (v := .string ⟨#[108, 111]⟩) rfl
  have q2 := QC.out.cell 2 (v := .bool true) rfl
  have s0 := SC.out.cell 0 (v := .int .i64 0) rfl
  have s1 := SC.out.cell 1 (v := .string ⟨#[104, 101, 108]⟩) rfl
  have s2 := SC.out.cell 2 (v := .bool false) rfl
  go_wp2_with fail
  go_ret
  exact ⟨rfl, bel.out⟩
end Go.Proofs.Ytdmoaeegjjenmaa
