/-
  The law OutboxEnd returns true for every text, by what is asked of the program's calls (OuFace). No other condition.
-/
import Derived.Test.YtdmoaeegjjenmaaOuMore
import Derived.Test.YtdmoaeegjjenmaaOuWorks
namespace Go.Proofs.Ytdmoaeegjjenmaa
set_option maxRecDepth 100000
open Go.RowKit Go.Sort

/-- A stream all of whose bytes are of one kind. -/
def un (s : ByteArray) (x f : Int) : Ox := tx s s.size x f 4096
theorem un_next (s : ByteArray) (h : s.size ≤ 1000) : nxt (tx s 0 1 3 4096) 2000 = (if s.size = 0 then none else some (Pc.mk 0 s.size false)) ∧ nxtO (tx s 0 1 3 4096) 2000 = un s 1 3 := by
  have e : nxt (tx s 0 1 3 4096) 2000 = (if s.size = 0 then none else some (Pc.mk 0 s.size false)) := by
    rw [tx_nxt s 0 1 3 4096 2000 (by omega) (by decide) (by decide)]
    by_cases q : s.size = 0
    · rw [if_pos (.inl (by omega)), if_pos (.inl (by decide)), if_pos q]
    · have k : runK s 0 4096 2000 = s.size := by unfold runK; show min 2000 (min s.size 4096 - 0) = _; omega
      rw [if_neg (by omega), k, if_neg q, if_neg q]
      simp
  refine ⟨e, ?_⟩
  unfold nxtO
  rw [e]
  by_cases q : s.size = 0
  · rw [if_pos q]
    show tx s 0 1 3 4096 = tx s s.size 1 3 4096
    rw [q]
  · rw [if_neg q]
    show aftO (tx s 0 1 3 4096) (Pc.mk 0 s.size false) = _
    rw [tx_aft s 0 s.size 3 4096 false (by omega)]
    simp [un]
theorem un_end (s : ByteArray) (h : s.size ≤ 1000) : wrE (un s 1 3) 0 = 0 ∧ wrO (un s 1 3) ⟨#[]⟩ true = un s 1 0 := by
  have hl : (two s.size (s.size - s.size) 1 0).length = s.size := by rw [two_len]; omega
  have e : wrE (un s 1 3) 0 = 0 := by
    have := openN_le (two s.size (s.size - s.size) 1 0)
    unfold wrE un tx
    show (if (3 : Int) ≠ 3 then (7 : Int) else if 16384 < 0 + openN (two s.size (s.size - s.size) 1 0) then 4 else 0) = 0
    rw [if_neg (by decide), if_neg (by omega)]
  refine ⟨e, ?_⟩
  unfold wrO
  have z : (⟨#[]⟩ : ByteArray).size = 0 := rfl
  rw [z, if_pos e]
  unfold un tx
  show Ox.mk (s ++ ⟨#[]⟩) (_ ++ List.replicate 0 0) 0 4096 = _
  rw [show s ++ (⟨#[]⟩ : ByteArray) = s from ByteArray.append_empty]
  simp
theorem un_more (s : ByteArray) : wrE (un s 1 0) 1 = 7 ∧ wrO (un s 1 0) ⟨#[120]⟩ false = un s 1 0 := ⟨rfl, rfl⟩
theorem un_fin (s : ByteArray) (h : s.size ≤ 1000) : nxt (un s 1 0) 2000 = some (Pc.mk s.size 0 true) ∧ nxtO (un s 1 0) 2000 = un s 1 1 := by
  have e : nxt (un s 1 0) 2000 = some (Pc.mk s.size 0 true) := by
    unfold un
    rw [tx_nxt s s.size 1 0 4096 2000 (by omega) (by decide) (by decide), if_pos (.inl (by omega)), if_neg (by omega)]
  refine ⟨e, ?_⟩
  unfold nxtO
  rw [e]
  show aftO (tx s s.size 1 0 4096) (Pc.mk s.size 0 true) = _
  rw [tx_aft s s.size 0 0 4096 true (by omega)]
  rfl
theorem un_lost (s : ByteArray) : lostO (un s 1 1) (Pc.mk s.size 0 true) = un s 1 0 := rfl
theorem un_none (s : ByteArray) : nxt (un s 1 1) 2000 = none ∧ nxtO (un s 1 1) 2000 = un s 1 1 := by
  have e : nxt (un s 1 1) 2000 = none := by
    unfold un
    rw [tx_nxt s s.size 1 1 4096 2000 (by omega) (by decide) (by decide), if_pos (.inl (by omega)), if_pos (.inl (by decide))]
  refine ⟨e, ?_⟩
  unfold nxtO
  rw [e]
theorem un_ack (s : ByteArray) : ackO (un s 1 1) (Pc.mk 0 s.size false) = un s 2 1 := by
  unfold ackO un tx
  show Ox.mk s (setR (two s.size (s.size - s.size) 1 0) 0 2 s.size) 1 4096 = Ox.mk s _ 1 4096
  congr 1
  have hl : (two s.size (s.size - s.size) 1 0).length = s.size := by rw [two_len]; omega
  refine getD_ext (by rw [setR_len, two_len, two_len]) fun i hi => ?_
  rw [setR_len, hl] at hi
  rw [setR_get _ _ _ _ (by omega), if_pos (by omega), two_get _ _ _ _ _ (by omega), if_pos (by omega)]
theorem un_nil (s : ByteArray) (h : s.size = 0) : un s 1 1 = un s 2 1 := by
  unfold un tx
  rw [h]
  rfl
theorem un_acked (s : ByteArray) : ackO (un s 2 1) (Pc.mk s.size 0 true) = un s 2 2 := rfl
theorem un_p (s : ByteArray) (x f : Int) : PcOk (un s x f) (Pc.mk 0 s.size false) (s.extract 0 (0 + s.size)) := ⟨by show 0 + s.size ≤ s.size; omega, rfl, fun q => by cases q⟩
theorem un_q (s : ByteArray) (x f : Int) (hf : f ≠ 3) : PcOk (un s x f) (Pc.mk s.size 0 true) ⟨#[]⟩ := ⟨by show s.size + 0 ≤ s.size; omega, (ext_nil s s.size).symm, fun _ => ⟨hf, rfl⟩⟩
theorem bytes_len (a : ByteArray) : a.toList.length = a.size := by rw [ByteArray.toList_eq]; simp
theorem bytes_some (a : ByteArray) (h : 0 < a.size) : a.toList.isEmpty = false := by
  cases e : a.toList with
  | nil => have := bytes_len a; rw [e] at this; simp at this; omega
  | cons x l => rfl
theorem bytes_none (a : ByteArray) (h : ¬ 0 < a.size) : a.toList.isEmpty = true := by
  rw [List.eq_nil_of_length_eq_zero (l := a.toList) (by rw [bytes_len]; omega)]
  rfl
set_option maxHeartbeats 8000000 in
theorem end_el {LS : OSt} (fc : OuFace LS) (s : ByteArray) (w : World) (hs : s.size ≤ 1000) (he : s.size = 0) : Calls Try.prog 6 #[.string s, .bool true] w fun e w' => e = .returned (.bool true) ∧ Below w.heap.size w w' := by
  have hem := bytes_none s (by omega)
  have WK : Hid (∀ _ : Unit, _) := fun _ => works_ok fc w
  have NP : Hid (∀ w', Below w.heap.size w w' → _) := fun w' b => po_new fc (fun _ => False) w w' b (fun _ q => q.elim)
  have W1 : Hid (∀ w' B F, PO LS (fun _ => False) w w' B F ox0 → _) := fun w' B F h => po_write fc s false (X := fun _ => False) (w0 := w) (w := w') (B := B) (F := F) h (by decide) (by omega)
  obtain ⟨r1, r2⟩ := tx_write0 s 1 false (by omega)
  rw [r1, r2] at W1
  have e3 : (if false = true then (0 : Int) else 3) = 3 := rfl
  rw [e3] at W1
  have A1 : Hid (∀ w' B F, PO LS (fun _ => False) w w' B F (tx s 0 1 3 4096) → _) := fun w' B F h => po_next fc 2000 (X := fun _ => False) (w0 := w) (w := w') (B := B) (F := F) h (show s.size < 50000000 by omega) (by decide) (.inl (show (3 : Int) ≠ 2 by decide))
  rw [(un_next s hs).1, (un_next s hs).2, if_pos he] at A1
  have A2 : Hid (∀ w' B F (X : Nat → Prop), PO LS X w w' B F (un s 1 3) → _) := fun w' B F X h => po_write fc ⟨#[]⟩ true (w0 := w) (w := w') (B := B) (F := F) h (show s.size < 50000000 by omega) (by decide)
  have z0 : (⟨#[]⟩ : ByteArray).size = 0 := rfl
  rw [z0, (un_end s hs).1, (un_end s hs).2] at A2
  have A3 : Hid (∀ w' B F (X : Nat → Prop), PO LS X w w' B F (un s 1 0) → _) := fun w' B F X h => po_write fc ⟨#[120]⟩ false (w0 := w) (w := w') (B := B) (F := F) h (show s.size < 50000000 by omega) (by decide)
  have z1 : (⟨#[120]⟩ : ByteArray).size = 1 := rfl
  rw [z1, (un_more s).1, (un_more s).2] at A3
  have A4 : Hid (∀ w' B F (X : Nat → Prop), PO LS X w w' B F (un s 1 0) → _) := fun w' B F X h => po_next fc 2000 (w0 := w) (w := w') (B := B) (F := F) h (show s.size < 50000000 by omega) (by decide) (.inl (show (0 : Int) ≠ 2 by decide))
  rw [(un_fin s hs).1, (un_fin s hs).2] at A4
  have A5 : Hid (∀ w' B F (X : Nat → Prop), PO LS X w w' B F (un s 1 1) → _) := fun w' B F X h => po_lost fc (Pc.mk s.size 0 true) ⟨#[]⟩ (w0 := w) (w := w') (B := B) (F := F) h (show s.size < 50000000 by omega) (un_q s 1 1 (by decide))
  rw [un_lost] at A5
  have A6 : Hid (∀ w' B F (X : Nat → Prop), PO LS X w w' B F (un s 1 1) → _) := fun w' B F X h => po_next fc 2000 (w0 := w) (w := w') (B := B) (F := F) h (show s.size < 50000000 by omega) (by decide) (.inl (show (1 : Int) ≠ 2 by decide))
  rw [(un_none s).1, (un_none s).2] at A6
  have A7 : Hid (∀ w' B F (X : Nat → Prop), PO LS X w w' B F (un s 1 1) → _) := fun w' B F X h => po_acked fc (Pc.mk 0 s.size false) (s.extract 0 (0 + s.size)) (w0 := w) (w := w') (B := B) (F := F) h (show s.size < 50000000 by omega) (un_p s 1 1)
  rw [un_ack] at A7
  have A8 : Hid (∀ w' B F (X : Nat → Prop), PO LS X w w' B F (un s 2 1) → _) := fun w' B F X h => po_acked fc (Pc.mk s.size 0 true) ⟨#[]⟩ (w0 := w) (w := w') (B := B) (F := F) h (show s.size < 50000000 by omega) (un_q s 2 1 (by decide))
  rw [un_acked] at A8
  have A9 : Hid (∀ w' B F (X : Nat → Prop), PO LS X w w' B F (un s 2 2) → _) := fun w' B F X h => po_state fc (w0 := w) (w := w') (B := B) (F := F) h (show s.size < 50000000 by omega)
  have z2 : allB (un s 2 2) = true := tx_all s 4096
  have z3 : (un s 2 2).s.size = s.size := rfl
  have z4 : thereN (un s 2 2) = s.size := tx_there s 2 4096
  rw [z2, z3, z4] at A9
  have v0 : ∀ d, nxtV d none = .tuple #[.agg #[.int .i64 0, .string ⟨#[]⟩, .bool false], .bool false] := fun _ => rfl
  have v1 : nxtV (tx s 0 1 3 4096) (some (Pc.mk 0 s.size false)) = .tuple #[.agg #[.int .i64 0, .string (s.extract 0 (0 + s.size)), .bool false], .bool true] := rfl
  have v2 : nxtV (un s 1 0) (some (Pc.mk s.size 0 true)) = .tuple #[.agg #[.int .i64 (s.size : Int), .string ⟨#[]⟩, .bool true], .bool true] := by show Value.tuple #[.agg #[_, .string (s.extract s.size (s.size + 0)), _], _] = _; rw [ext_nil]
  have v3 : pcV (Pc.mk 0 s.size false) (s.extract 0 (0 + s.size)) = .agg #[.int .i64 0, .string (s.extract 0 (0 + s.size)), .bool false] := rfl
  have v4 : pcV (Pc.mk s.size 0 true) ⟨#[]⟩ = .agg #[.int .i64 (s.size : Int), .string ⟨#[]⟩, .bool true] := rfl
  simp only [v0, v2, v3, v4] at A1 A4 A5 A6 A7 A8 A9
  have un0 := un_nil s he
  clear v0 v1 v2 v3 v4 z0 z1 z2 z3 z4 r1 r2 e3
  generalize s.extract 0 (0 + s.size) = t at *
  generalize tx s 0 1 3 4096 = d1 at *
  generalize un s 1 3 = d2 at *
  generalize un s 1 0 = d3 at *
  generalize un s 1 1 = d4 at *
  generalize un s 2 1 = d5 at *
  generalize un s 2 2 = d6 at *
  replace un0 := Lib.hid un0
  have z5 : decide ((1000 : Int) < (s.size : Int)) = false := decide_eq_false (by omega)
  have z6 : decide (1000 < s.size) = false := decide_eq_false (by omega)
  replace he := Lib.hid he
  go_enter Try.func6, Try.ntmps6
  go_wp2_with fail
  refine (WK.out ()).mono ?_
  rintro e w0 ⟨rfl, b0⟩
  have B0 := Lib.hid b0
  clear b0 WK
  go_wp2_with fail
  refine (NP.out _ B0.out).mono ?_
  rintro e w1 ⟨B, F1, rfl, n1, -, -⟩
  have N1 := Lib.hid n1
  clear n1 NP B0
  go_wp2_with fail
  refine (W1.out _ _ _ N1.out).mono ?_
  rintro e w2 ⟨rfl, F2, ⟨n2, -⟩, -, -⟩
  have N2 := Lib.hid n2
  clear n2 N1 W1
  go_wp2_with fail
  refine (A1.out _ _ _ N2.out).mono ?_
  rintro e w3 ⟨rfl, F3, ⟨n3, -⟩, -, -⟩
  have N3 := Lib.hid n3
  clear n3 N2 A1
  go_upto_region 9 with fail
  have al : Below w3.heap.size w3 (w3.alloc (.cells #[.int .i64 0, .string ⟨#[]⟩, .bool false] 33)) := (Below.refl _ _).alloc (Nat.le_refl _) _
  have N4 : Hid (PO LS (fun k => False ∨ k = w3.heap.size) w (w3.alloc (.cells #[.int .i64 0, .string ⟨#[]⟩, .bool false] 33)) B F3 d2) := N3.out.fresh fc al (fun k q => q.elim .inl fun q => .inr ⟨by omega, by simp; omega⟩)
  have P4 : Hid (Lies (w3.alloc (.cells #[.int .i64 0, .string ⟨#[]⟩, .bool false] 33)) w3.heap.size [.int .i64 0, .string ⟨#[]⟩, .bool false]) := Lies.new w3 _ _
  clear al N3 
  generalize w3.alloc (.cells #[.int .i64 0, .string ⟨#[]⟩, .bool false] 33) = w4 at *
  generalize w3.heap.size = g1 at *
  go_wp2_with fail
  refine (A2.out _ _ _ _ N4.out).mono ?_
  rintro e w5 ⟨rfl, F5, ⟨n5, s5⟩, -, -⟩
  have N5 := Lib.hid n5
  have P5 := Lib.hid (P4.out.asIs s5 (.inr rfl))
  clear n5 s5 N4 P4 A2
  go_wp2_with fail
  refine (A3.out _ _ _ _ N5.out).mono ?_
  rintro e w6 ⟨rfl, F6, ⟨n6, s6⟩, -, -⟩
  have N6 := Lib.hid n6
  have P6 := Lib.hid (P5.out.asIs s6 (.inr rfl))
  clear n6 s6 N5 P5 A3
  go_wp2_with fail
  refine (A4.out _ _ _ _ N6.out).mono ?_
  rintro e w7 ⟨rfl, F7, ⟨n7, s7⟩, -, -⟩
  have N7 := Lib.hid n7
  have P7 := Lib.hid (P6.out.asIs s7 (.inr rfl))
  clear n7 s7 N6 P6
  go_upto_region 12 with fail
  have al : Below w7.heap.size w7 (w7.alloc (.cells #[.int .i64 (s.size : Int), .string ⟨#[]⟩, .bool true] 33)) := (Below.refl _ _).alloc (Nat.le_refl _) _
  have N8 : Hid (PO LS (fun k => (False ∨ k = g1) ∨ k = w7.heap.size) w (w7.alloc (.cells #[.int .i64 (s.size : Int), .string ⟨#[]⟩, .bool true] 33)) B F7 d4) := N7.out.fresh fc al (fun k q => q.elim .inl fun q => .inr ⟨by omega, by simp; omega⟩)
  have P8 : Hid (Lies (w7.alloc (.cells #[.int .i64 (s.size : Int), .string ⟨#[]⟩, .bool true] 33)) g1 [.int .i64 0, .string ⟨#[]⟩, .bool false]) := P7.out.keep (by show 0 < 3; decide) al
  have Q8 : Hid (Lies (w7.alloc (.cells #[.int .i64 (s.size : Int), .string ⟨#[]⟩, .bool true] 33)) w7.heap.size [.int .i64 (s.size : Int), .string ⟨#[]⟩, .bool true]) := Lies.new w7 _ _
  clear al N7 P7
  generalize w7.alloc (.cells #[.int .i64 (s.size : Int), .string ⟨#[]⟩, .bool true] 33) = w8 at *
  generalize w7.heap.size = g2 at *
  have q0 := Q8.out.cell 0 (v := .int .i64 (s.size : Int)) rfl
  have q1 := Q8.out.cell 1 (v := .string ⟨#[]⟩) rfl
  have q2 := Q8.out.cell 2 (v := .bool true) rfl
  go_wp2_with fail
  refine (A5.out _ _ _ _ N8.out).mono ?_
  rintro e w9 ⟨rfl, F9, ⟨n9, s9⟩, -, -⟩
  have N9 := Lib.hid n9
  have P9 := Lib.hid (P8.out.asIs s9 (.inl (.inr rfl)))
  have Q9 := Lib.hid (Q8.out.asIs s9 (.inr rfl))
  clear n9 s9 N8 P8 Q8 A5 q0 q1 q2
  go_wp2_with fail
  refine (A4.out _ _ _ _ N9.out).mono ?_
  rintro e wA ⟨rfl, FA, ⟨nA, sA⟩, -, -⟩
  have NA := Lib.hid nA
  have PA := Lib.hid (P9.out.asIs sA (.inl (.inr rfl)))
  have QA := Lib.hid (Q9.out.asIs sA (.inr rfl))
  clear nA sA N9 P9 Q9 A4
  go_upto_region 17 with fail
  have al : Below wA.heap.size wA (wA.alloc (.cells #[.int .i64 (s.size : Int), .string ⟨#[]⟩, .bool true] 33)) := (Below.refl _ _).alloc (Nat.le_refl _) _
  have NB : Hid (PO LS (fun k => ((False ∨ k = g1) ∨ k = g2) ∨ k = wA.heap.size) w (wA.alloc (.cells #[.int .i64 (s.size : Int), .string ⟨#[]⟩, .bool true] 33)) B FA d4) := NA.out.fresh fc al (fun k q => q.elim .inl fun q => .inr ⟨by omega, by simp; omega⟩)
  have PB : Hid (Lies (wA.alloc (.cells #[.int .i64 (s.size : Int), .string ⟨#[]⟩, .bool true] 33)) g1 [.int .i64 0, .string ⟨#[]⟩, .bool false]) := PA.out.keep (by show 0 < 3; decide) al
  have QB : Hid (Lies (wA.alloc (.cells #[.int .i64 (s.size : Int), .string ⟨#[]⟩, .bool true] 33)) g2 [.int .i64 (s.size : Int), .string ⟨#[]⟩, .bool true]) := QA.out.keep (by show 0 < 3; decide) al
  have RB : Hid (Lies (wA.alloc (.cells #[.int .i64 (s.size : Int), .string ⟨#[]⟩, .bool true] 33)) wA.heap.size [.int .i64 (s.size : Int), .string ⟨#[]⟩, .bool true]) := Lies.new wA _ _
  clear al NA PA QA
  generalize wA.alloc (.cells #[.int .i64 (s.size : Int), .string ⟨#[]⟩, .bool true] 33) = wB at *
  generalize wA.heap.size = g3 at *
  have q0 := QB.out.cell 0 (v := .int .i64 (s.size : Int)) rfl
  have q1 := QB.out.cell 1 (v := .string ⟨#[]⟩) rfl
  have q2 := QB.out.cell 2 (v := .bool true) rfl
  have r0 := RB.out.cell 0 (v := .int .i64 (s.size : Int)) rfl
  have r1 := RB.out.cell 1 (v := .string ⟨#[]⟩) rfl
  have r2 := RB.out.cell 2 (v := .bool true) rfl
  have N8 := Lib.hid (NB.out.sub (Y := fun k => (False ∨ k = g1) ∨ k = g2) fun _ q => .inl q)
  have P8 := PB
  have Q8 := QB
  clear NB PB QB
  go_wp2_with fail
  refine (A6.out _ _ _ _ N8.out).mono ?_
  rintro e wC ⟨rfl, FC, ⟨nC, sC⟩, -, -⟩
  have NC := Lib.hid nC
  have PCc := Lib.hid (P8.out.asIs sC (.inl (.inr rfl)))
  have QCc := Lib.hid (Q8.out.asIs sC (.inr rfl))
  clear nC sC N8 P8 Q8 A6 q0 q1 q2 r0 r1 r2 RB
  go_upto_region 20 with fail
  have al : Below wC.heap.size wC (wC.alloc (.cells #[.int .i64 0, .string ⟨#[]⟩, .bool false] 33)) := (Below.refl _ _).alloc (Nat.le_refl _) _
  have ND : Hid (PO LS (fun k => ((False ∨ k = g1) ∨ k = g2) ∨ k = wC.heap.size) w (wC.alloc (.cells #[.int .i64 0, .string ⟨#[]⟩, .bool false] 33)) B FC d4) := NC.out.fresh fc al (fun k q => q.elim .inl fun q => .inr ⟨by omega, by simp; omega⟩)
  have PD : Hid (Lies (wC.alloc (.cells #[.int .i64 0, .string ⟨#[]⟩, .bool false] 33)) g1 [.int .i64 0, .string ⟨#[]⟩, .bool false]) := PCc.out.keep (by show 0 < 3; decide) al
  have QD : Hid (Lies (wC.alloc (.cells #[.int .i64 0, .string ⟨#[]⟩, .bool false] 33)) g2 [.int .i64 (s.size : Int), .string ⟨#[]⟩, .bool true]) := QCc.out.keep (by show 0 < 3; decide) al
  have RD : Hid (Lies (wC.alloc (.cells #[.int .i64 0, .string ⟨#[]⟩, .bool false] 33)) wC.heap.size [.int .i64 0, .string ⟨#[]⟩, .bool false]) := Lies.new wC _ _
  clear al NC PCc QCc
  generalize wC.alloc (.cells #[.int .i64 0, .string ⟨#[]⟩, .bool false] 33) = wD at *
  generalize wC.heap.size = g4 at *
  have NE := ND
  have QE := QD
  rw [un0.out] at NE
  clear ND PD QD RD A7
  have q0 := QE.out.cell 0 (v := .int .i64 (s.size : Int)) rfl
  have q1 := QE.out.cell 1 (v := .string ⟨#[]⟩) rfl
  have q2 := QE.out.cell 2 (v := .bool true) rfl
  go_wp2_with fail
  refine (A8.out _ _ _ _ NE.out).mono ?_
  rintro e wF ⟨rfl, FF, ⟨nF, -⟩, -, -⟩
  have NF := Lib.hid nF
  clear nF NE QE A8 q0 q1 q2
  go_wp2_with fail
  refine (A9.out _ _ _ _ NF.out).mono ?_
  rintro e wG ⟨rfl, bG⟩
  have bel := Lib.hid (NF.out.keep fc bG).bel
  clear bG NF A9
  go_wp2_with fail
  go_ret
  exact ⟨rfl, bel.out⟩
set_option maxHeartbeats 8000000 in
theorem end_ek {LS : OSt} (fc : OuFace LS) (s : ByteArray) (w : World) (hs : s.size ≤ 1000) (he : s.size = 0) : Calls Try.prog 6 #[.string s, .bool false] w fun e w' => e = .returned (.bool true) ∧ Below w.heap.size w w' := by
  have hem := bytes_none s (by omega)
  have WK : Hid (∀ _ : Unit, _) := fun _ => works_ok fc w
  have NP : Hid (∀ w', Below w.heap.size w w' → _) := fun w' b => po_new fc (fun _ => False) w w' b (fun _ q => q.elim)
  have W1 : Hid (∀ w' B F, PO LS (fun _ => False) w w' B F ox0 → _) := fun w' B F h => po_write fc s false (X := fun _ => False) (w0 := w) (w := w') (B := B) (F := F) h (by decide) (by omega)
  obtain ⟨r1, r2⟩ := tx_write0 s 1 false (by omega)
  rw [r1, r2] at W1
  have e3 : (if false = true then (0 : Int) else 3) = 3 := rfl
  rw [e3] at W1
  have A1 : Hid (∀ w' B F, PO LS (fun _ => False) w w' B F (tx s 0 1 3 4096) → _) := fun w' B F h => po_next fc 2000 (X := fun _ => False) (w0 := w) (w := w') (B := B) (F := F) h (show s.size < 50000000 by omega) (by decide) (.inl (show (3 : Int) ≠ 2 by decide))
  rw [(un_next s hs).1, (un_next s hs).2, if_pos he] at A1
  have A2 : Hid (∀ w' B F (X : Nat → Prop), PO LS X w w' B F (un s 1 3) → _) := fun w' B F X h => po_write fc ⟨#[]⟩ true (w0 := w) (w := w') (B := B) (F := F) h (show s.size < 50000000 by omega) (by decide)
  have z0 : (⟨#[]⟩ : ByteArray).size = 0 := rfl
  rw [z0, (un_end s hs).1, (un_end s hs).2] at A2
  have A3 : Hid (∀ w' B F (X : Nat → Prop), PO LS X w w' B F (un s 1 0) → _) := fun w' B F X h => po_write fc ⟨#[120]⟩ false (w0 := w) (w := w') (B := B) (F := F) h (show s.size < 50000000 by omega) (by decide)
  have z1 : (⟨#[120]⟩ : ByteArray).size = 1 := rfl
  rw [z1, (un_more s).1, (un_more s).2] at A3
  have A4 : Hid (∀ w' B F (X : Nat → Prop), PO LS X w w' B F (un s 1 0) → _) := fun w' B F X h => po_next fc 2000 (w0 := w) (w := w') (B := B) (F := F) h (show s.size < 50000000 by omega) (by decide) (.inl (show (0 : Int) ≠ 2 by decide))
  rw [(un_fin s hs).1, (un_fin s hs).2] at A4
  have A5 : Hid (∀ w' B F (X : Nat → Prop), PO LS X w w' B F (un s 1 1) → _) := fun w' B F X h => po_lost fc (Pc.mk s.size 0 true) ⟨#[]⟩ (w0 := w) (w := w') (B := B) (F := F) h (show s.size < 50000000 by omega) (un_q s 1 1 (by decide))
  rw [un_lost] at A5
  have A6 : Hid (∀ w' B F (X : Nat → Prop), PO LS X w w' B F (un s 1 1) → _) := fun w' B F X h => po_next fc 2000 (w0 := w) (w := w') (B := B) (F := F) h (show s.size < 50000000 by omega) (by decide) (.inl (show (1 : Int) ≠ 2 by decide))
  rw [(un_none s).1, (un_none s).2] at A6
  have A7 : Hid (∀ w' B F (X : Nat → Prop), PO LS X w w' B F (un s 1 1) → _) := fun w' B F X h => po_acked fc (Pc.mk 0 s.size false) (s.extract 0 (0 + s.size)) (w0 := w) (w := w') (B := B) (F := F) h (show s.size < 50000000 by omega) (un_p s 1 1)
  rw [un_ack] at A7
  have A8 : Hid (∀ w' B F (X : Nat → Prop), PO LS X w w' B F (un s 2 1) → _) := fun w' B F X h => po_acked fc (Pc.mk s.size 0 true) ⟨#[]⟩ (w0 := w) (w := w') (B := B) (F := F) h (show s.size < 50000000 by omega) (un_q s 2 1 (by decide))
  rw [un_acked] at A8
  have A9 : Hid (∀ w' B F (X : Nat → Prop), PO LS X w w' B F (un s 2 2) → _) := fun w' B F X h => po_state fc (w0 := w) (w := w') (B := B) (F := F) h (show s.size < 50000000 by omega)
  have z2 : allB (un s 2 2) = true := tx_all s 4096
  have z3 : (un s 2 2).s.size = s.size := rfl
  have z4 : thereN (un s 2 2) = s.size := tx_there s 2 4096
  rw [z2, z3, z4] at A9
  have v0 : ∀ d, nxtV d none = .tuple #[.agg #[.int .i64 0, .string ⟨#[]⟩, .bool false], .bool false] := fun _ => rfl
  have v1 : nxtV (tx s 0 1 3 4096) (some (Pc.mk 0 s.size false)) = .tuple #[.agg #[.int .i64 0, .string (s.extract 0 (0 + s.size)), .bool false], .bool true] := rfl
  have v2 : nxtV (un s 1 0) (some (Pc.mk s.size 0 true)) = .tuple #[.agg #[.int .i64 (s.size : Int), .string ⟨#[]⟩, .bool true], .bool true] := by show Value.tuple #[.agg #[_, .string (s.extract s.size (s.size + 0)), _], _] = _; rw [ext_nil]
  have v3 : pcV (Pc.mk 0 s.size false) (s.extract 0 (0 + s.size)) = .agg #[.int .i64 0, .string (s.extract 0 (0 + s.size)), .bool false] := rfl
  have v4 : pcV (Pc.mk s.size 0 true) ⟨#[]⟩ = .agg #[.int .i64 (s.size : Int), .string ⟨#[]⟩, .bool true] := rfl
  simp only [v0, v2, v3, v4] at A1 A4 A5 A6 A7 A8 A9
  have un0 := un_nil s he
  clear v0 v1 v2 v3 v4 z0 z1 z2 z3 z4 r1 r2 e3
  generalize s.extract 0 (0 + s.size) = t at *
  generalize tx s 0 1 3 4096 = d1 at *
  generalize un s 1 3 = d2 at *
  generalize un s 1 0 = d3 at *
  generalize un s 1 1 = d4 at *
  generalize un s 2 1 = d5 at *
  generalize un s 2 2 = d6 at *
  replace un0 := Lib.hid un0
  have z5 : decide ((1000 : Int) < (s.size : Int)) = false := decide_eq_false (by omega)
  have z6 : decide (1000 < s.size) = false := decide_eq_false (by omega)
  replace he := Lib.hid he
  go_enter Try.func6, Try.ntmps6
  go_wp2_with fail
  refine (WK.out ()).mono ?_
  rintro e w0 ⟨rfl, b0⟩
  have B0 := Lib.hid b0
  clear b0 WK
  go_wp2_with fail
  refine (NP.out _ B0.out).mono ?_
  rintro e w1 ⟨B, F1, rfl, n1, -, -⟩
  have N1 := Lib.hid n1
  clear n1 NP B0
  go_wp2_with fail
  refine (W1.out _ _ _ N1.out).mono ?_
  rintro e w2 ⟨rfl, F2, ⟨n2, -⟩, -, -⟩
  have N2 := Lib.hid n2
  clear n2 N1 W1
  go_wp2_with fail
  refine (A1.out _ _ _ N2.out).mono ?_
  rintro e w3 ⟨rfl, F3, ⟨n3, -⟩, -, -⟩
  have N3 := Lib.hid n3
  clear n3 N2 A1
  go_upto_region 9 with fail
  have al : Below w3.heap.size w3 (w3.alloc (.cells #[.int .i64 0, .string ⟨#[]⟩, .bool false] 33)) := (Below.refl _ _).alloc (Nat.le_refl _) _
  have N4 : Hid (PO LS (fun k => False ∨ k = w3.heap.size) w (w3.alloc (.cells #[.int .i64 0, .string ⟨#[]⟩, .bool false] 33)) B F3 d2) := N3.out.fresh fc al (fun k q => q.elim .inl fun q => .inr ⟨by omega, by simp; omega⟩)
  have P4 : Hid (Lies (w3.alloc (.cells #[.int .i64 0, .string ⟨#[]⟩, .bool false] 33)) w3.heap.size [.int .i64 0, .string ⟨#[]⟩, .bool false]) := Lies.new w3 _ _
  clear al N3 
  generalize w3.alloc (.cells #[.int .i64 0, .string ⟨#[]⟩, .bool false] 33) = w4 at *
  generalize w3.heap.size = g1 at *
  go_wp2_with fail
  refine (A2.out _ _ _ _ N4.out).mono ?_
  rintro e w5 ⟨rfl, F5, ⟨n5, s5⟩, -, -⟩
  have N5 := Lib.hid n5
  have P5 := Lib.hid (P4.out.asIs s5 (.inr rfl))
  clear n5 s5 N4 P4 A2
  go_wp2_with fail
  refine (A3.out _ _ _ _ N5.out).mono ?_
  rintro e w6 ⟨rfl, F6, ⟨n6, s6⟩, -, -⟩
  have N6 := Lib.hid n6
  have P6 := Lib.hid (P5.out.asIs s6 (.inr rfl))
  clear n6 s6 N5 P5 A3
  go_wp2_with fail
  refine (A4.out _ _ _ _ N6.out).mono ?_
  rintro e w7 ⟨rfl, F7, ⟨n7, s7⟩, -, -⟩
  have N7 := Lib.hid n7
  have P7 := Lib.hid (P6.out.asIs s7 (.inr rfl))
  clear n7 s7 N6 P6 A4
  go_upto_region 12 with fail
  have al : Below w7.heap.size w7 (w7.alloc (.cells #[.int .i64 (s.size : Int), .string ⟨#[]⟩, .bool true] 33)) := (Below.refl _ _).alloc (Nat.le_refl _) _
  have N8 : Hid (PO LS (fun k => (False ∨ k = g1) ∨ k = w7.heap.size) w (w7.alloc (.cells #[.int .i64 (s.size : Int), .string ⟨#[]⟩, .bool true] 33)) B F7 d4) := N7.out.fresh fc al (fun k q => q.elim .inl fun q => .inr ⟨by omega, by simp; omega⟩)
  have P8 : Hid (Lies (w7.alloc (.cells #[.int .i64 (s.size : Int), .string ⟨#[]⟩, .bool true] 33)) g1 [.int .i64 0, .string ⟨#[]⟩, .bool false]) := P7.out.keep (by show 0 < 3; decide) al
  have Q8 : Hid (Lies (w7.alloc (.cells #[.int .i64 (s.size : Int), .string ⟨#[]⟩, .bool true] 33)) w7.heap.size [.int .i64 (s.size : Int), .string ⟨#[]⟩, .bool true]) := Lies.new w7 _ _
  clear al N7 P7
  generalize w7.alloc (.cells #[.int .i64 (s.size : Int), .string ⟨#[]⟩, .bool true] 33) = w8 at *
  generalize w7.heap.size = g2 at *
  have q0 := Q8.out.cell 0 (v := .int .i64 (s.size : Int)) rfl
  have q1 := Q8.out.cell 1 (v := .string ⟨#[]⟩) rfl
  have q2 := Q8.out.cell 2 (v := .bool true) rfl
  clear A5
  go_wp2_with fail
  refine (A6.out _ _ _ _ N8.out).mono ?_
  rintro e wC ⟨rfl, FC, ⟨nC, sC⟩, -, -⟩
  have NC := Lib.hid nC
  have PCc := Lib.hid (P8.out.asIs sC (.inl (.inr rfl)))
  have QCc := Lib.hid (Q8.out.asIs sC (.inr rfl))
  clear nC sC N8 P8 Q8 A6 q0 q1 q2
  go_upto_region 20 with fail
  have al : Below wC.heap.size wC (wC.alloc (.cells #[.int .i64 0, .string ⟨#[]⟩, .bool false] 33)) := (Below.refl _ _).alloc (Nat.le_refl _) _
  have ND : Hid (PO LS (fun k => ((False ∨ k = g1) ∨ k = g2) ∨ k = wC.heap.size) w (wC.alloc (.cells #[.int .i64 0, .string ⟨#[]⟩, .bool false] 33)) B FC d4) := NC.out.fresh fc al (fun k q => q.elim .inl fun q => .inr ⟨by omega, by simp; omega⟩)
  have PD : Hid (Lies (wC.alloc (.cells #[.int .i64 0, .string ⟨#[]⟩, .bool false] 33)) g1 [.int .i64 0, .string ⟨#[]⟩, .bool false]) := PCc.out.keep (by show 0 < 3; decide) al
  have QD : Hid (Lies (wC.alloc (.cells #[.int .i64 0, .string ⟨#[]⟩, .bool false] 33)) g2 [.int .i64 (s.size : Int), .string ⟨#[]⟩, .bool true]) := QCc.out.keep (by show 0 < 3; decide) al
  have RD : Hid (Lies (wC.alloc (.cells #[.int .i64 0, .string ⟨#[]⟩, .bool false] 33)) wC.heap.size [.int .i64 0, .string ⟨#[]⟩, .bool false]) := Lies.new wC _ _
  clear al NC PCc QCc
  generalize wC.alloc (.cells #[.int .i64 0, .string ⟨#[]⟩, .bool false] 33) = wD at *
  generalize wC.heap.size = g4 at *
  have NE := ND
  have QE := QD
  rw [un0.out] at NE
  clear ND PD QD RD A7
  have q0 := QE.out.cell 0 (v := .int .i64 (s.size : Int)) rfl
  have q1 := QE.out.cell 1 (v := .string ⟨#[]⟩) rfl
  have q2 := QE.out.cell 2 (v := .bool true) rfl
  go_wp2_with fail
  refine (A8.out _ _ _ _ NE.out).mono ?_
  rintro e wF ⟨rfl, FF, ⟨nF, -⟩, -, -⟩
  have NF := Lib.hid nF
  clear nF NE QE A8 q0 q1 q2
  go_wp2_with fail
  refine (A9.out _ _ _ _ NF.out).mono ?_
  rintro e wG ⟨rfl, bG⟩
  have bel := Lib.hid (NF.out.keep fc bG).bel
  clear bG NF A9
  go_wp2_with fail
  go_ret
  exact ⟨rfl, bel.out⟩
set_option maxHeartbeats 8000000 in
theorem end_sl {LS : OSt} (fc : OuFace LS) (s : ByteArray) (w : World) (hs : s.size ≤ 1000) (he : s.size ≠ 0) : Calls Try.prog 6 #[.string s, .bool true] w fun e w' => e = .returned (.bool true) ∧ Below w.heap.size w w' := by
  have hem := bytes_some s (by omega)
  have WK : Hid (∀ _ : Unit, _) := fun _ => works_ok fc w
  have NP : Hid (∀ w', Below w.heap.size w w' → _) := fun w' b => po_new fc (fun _ => False) w w' b (fun _ q => q.elim)
  have W1 : Hid (∀ w' B F, PO LS (fun _ => False) w w' B F ox0 → _) := fun w' B F h => po_write fc s false (X := fun _ => False) (w0 := w) (w := w') (B := B) (F := F) h (by decide) (by omega)
  obtain ⟨r1, r2⟩ := tx_write0 s 1 false (by omega)
  rw [r1, r2] at W1
  have e3 : (if false = true then (0 : Int) else 3) = 3 := rfl
  rw [e3] at W1
  have A1 : Hid (∀ w' B F, PO LS (fun _ => False) w w' B F (tx s 0 1 3 4096) → _) := fun w' B F h => po_next fc 2000 (X := fun _ => False) (w0 := w) (w := w') (B := B) (F := F) h (show s.size < 50000000 by omega) (by decide) (.inl (show (3 : Int) ≠ 2 by decide))
  rw [(un_next s hs).1, (un_next s hs).2, if_neg he] at A1
  have A2 : Hid (∀ w' B F (X : Nat → Prop), PO LS X w w' B F (un s 1 3) → _) := fun w' B F X h => po_write fc ⟨#[]⟩ true (w0 := w) (w := w') (B := B) (F := F) h (show s.size < 50000000 by omega) (by decide)
  have z0 : (⟨#[]⟩ : ByteArray).size = 0 := rfl
  rw [z0, (un_end s hs).1, (un_end s hs).2] at A2
  have A3 : Hid (∀ w' B F (X : Nat → Prop), PO LS X w w' B F (un s 1 0) → _) := fun w' B F X h => po_write fc ⟨#[120]⟩ false (w0 := w) (w := w') (B := B) (F := F) h (show s.size < 50000000 by omega) (by decide)
  have z1 : (⟨#[120]⟩ : ByteArray).size = 1 := rfl
  rw [z1, (un_more s).1, (un_more s).2] at A3
  have A4 : Hid (∀ w' B F (X : Nat → Prop), PO LS X w w' B F (un s 1 0) → _) := fun w' B F X h => po_next fc 2000 (w0 := w) (w := w') (B := B) (F := F) h (show s.size < 50000000 by omega) (by decide) (.inl (show (0 : Int) ≠ 2 by decide))
  rw [(un_fin s hs).1, (un_fin s hs).2] at A4
  have A5 : Hid (∀ w' B F (X : Nat → Prop), PO LS X w w' B F (un s 1 1) → _) := fun w' B F X h => po_lost fc (Pc.mk s.size 0 true) ⟨#[]⟩ (w0 := w) (w := w') (B := B) (F := F) h (show s.size < 50000000 by omega) (un_q s 1 1 (by decide))
  rw [un_lost] at A5
  have A6 : Hid (∀ w' B F (X : Nat → Prop), PO LS X w w' B F (un s 1 1) → _) := fun w' B F X h => po_next fc 2000 (w0 := w) (w := w') (B := B) (F := F) h (show s.size < 50000000 by omega) (by decide) (.inl (show (1 : Int) ≠ 2 by decide))
  rw [(un_none s).1, (un_none s).2] at A6
  have A7 : Hid (∀ w' B F (X : Nat → Prop), PO LS X w w' B F (un s 1 1) → _) := fun w' B F X h => po_acked fc (Pc.mk 0 s.size false) (s.extract 0 (0 + s.size)) (w0 := w) (w := w') (B := B) (F := F) h (show s.size < 50000000 by omega) (un_p s 1 1)
  rw [un_ack] at A7
  have A8 : Hid (∀ w' B F (X : Nat → Prop), PO LS X w w' B F (un s 2 1) → _) := fun w' B F X h => po_acked fc (Pc.mk s.size 0 true) ⟨#[]⟩ (w0 := w) (w := w') (B := B) (F := F) h (show s.size < 50000000 by omega) (un_q s 2 1 (by decide))
  rw [un_acked] at A8
  have A9 : Hid (∀ w' B F (X : Nat → Prop), PO LS X w w' B F (un s 2 2) → _) := fun w' B F X h => po_state fc (w0 := w) (w := w') (B := B) (F := F) h (show s.size < 50000000 by omega)
  have z2 : allB (un s 2 2) = true := tx_all s 4096
  have z3 : (un s 2 2).s.size = s.size := rfl
  have z4 : thereN (un s 2 2) = s.size := tx_there s 2 4096
  rw [z2, z3, z4] at A9
  have v0 : ∀ d, nxtV d none = .tuple #[.agg #[.int .i64 0, .string ⟨#[]⟩, .bool false], .bool false] := fun _ => rfl
  have v1 : nxtV (tx s 0 1 3 4096) (some (Pc.mk 0 s.size false)) = .tuple #[.agg #[.int .i64 0, .string (s.extract 0 (0 + s.size)), .bool false], .bool true] := rfl
  have v2 : nxtV (un s 1 0) (some (Pc.mk s.size 0 true)) = .tuple #[.agg #[.int .i64 (s.size : Int), .string ⟨#[]⟩, .bool true], .bool true] := by show Value.tuple #[.agg #[_, .string (s.extract s.size (s.size + 0)), _], _] = _; rw [ext_nil]
  have v3 : pcV (Pc.mk 0 s.size false) (s.extract 0 (0 + s.size)) = .agg #[.int .i64 0, .string (s.extract 0 (0 + s.size)), .bool false] := rfl
  have v4 : pcV (Pc.mk s.size 0 true) ⟨#[]⟩ = .agg #[.int .i64 (s.size : Int), .string ⟨#[]⟩, .bool true] := rfl
  simp only [v0, v1, v2, v3, v4] at A1 A4 A5 A6 A7 A8 A9
  clear v0 v1 v2 v3 v4 z0 z1 z2 z3 z4 r1 r2 e3
  generalize s.extract 0 (0 + s.size) = t at *
  generalize tx s 0 1 3 4096 = d1 at *
  generalize un s 1 3 = d2 at *
  generalize un s 1 0 = d3 at *
  generalize un s 1 1 = d4 at *
  generalize un s 2 1 = d5 at *
  generalize un s 2 2 = d6 at *
  have z5 : decide ((1000 : Int) < (s.size : Int)) = false := decide_eq_false (by omega)
  have z6 : decide (1000 < s.size) = false := decide_eq_false (by omega)
  replace he := Lib.hid he
  go_enter Try.func6, Try.ntmps6
  go_wp2_with fail
  refine (WK.out ()).mono ?_
  rintro e w0 ⟨rfl, b0⟩
  have B0 := Lib.hid b0
  clear b0 WK
  go_wp2_with fail
  refine (NP.out _ B0.out).mono ?_
  rintro e w1 ⟨B, F1, rfl, n1, -, -⟩
  have N1 := Lib.hid n1
  clear n1 NP B0
  go_wp2_with fail
  refine (W1.out _ _ _ N1.out).mono ?_
  rintro e w2 ⟨rfl, F2, ⟨n2, -⟩, -, -⟩
  have N2 := Lib.hid n2
  clear n2 N1 W1
  go_wp2_with fail
  refine (A1.out _ _ _ N2.out).mono ?_
  rintro e w3 ⟨rfl, F3, ⟨n3, -⟩, -, -⟩
  have N3 := Lib.hid n3
  clear n3 N2 A1
  go_upto_region 9 with fail
  have al : Below w3.heap.size w3 (w3.alloc (.cells #[.int .i64 0, .string t, .bool false] 33)) := (Below.refl _ _).alloc (Nat.le_refl _) _
  have N4 : Hid (PO LS (fun k => False ∨ k = w3.heap.size) w (w3.alloc (.cells #[.int .i64 0, .string t, .bool false] 33)) B F3 d2) := N3.out.fresh fc al (fun k q => q.elim .inl fun q => .inr ⟨by omega, by simp; omega⟩)
  have P4 : Hid (Lies (w3.alloc (.cells #[.int .i64 0, .string t, .bool false] 33)) w3.heap.size [.int .i64 0, .string t, .bool false]) := Lies.new w3 _ _
  clear al N3 
  generalize w3.alloc (.cells #[.int .i64 0, .string t, .bool false] 33) = w4 at *
  generalize w3.heap.size = g1 at *
  go_wp2_with fail
  refine (A2.out _ _ _ _ N4.out).mono ?_
  rintro e w5 ⟨rfl, F5, ⟨n5, s5⟩, -, -⟩
  have N5 := Lib.hid n5
  have P5 := Lib.hid (P4.out.asIs s5 (.inr rfl))
  clear n5 s5 N4 P4 A2
  go_wp2_with fail
  refine (A3.out _ _ _ _ N5.out).mono ?_
  rintro e w6 ⟨rfl, F6, ⟨n6, s6⟩, -, -⟩
  have N6 := Lib.hid n6
  have P6 := Lib.hid (P5.out.asIs s6 (.inr rfl))
  clear n6 s6 N5 P5 A3
  go_wp2_with fail
  refine (A4.out _ _ _ _ N6.out).mono ?_
  rintro e w7 ⟨rfl, F7, ⟨n7, s7⟩, -, -⟩
  have N7 := Lib.hid n7
  have P7 := Lib.hid (P6.out.asIs s7 (.inr rfl))
  clear n7 s7 N6 P6
  go_upto_region 12 with fail
  have al : Below w7.heap.size w7 (w7.alloc (.cells #[.int .i64 (s.size : Int), .string ⟨#[]⟩, .bool true] 33)) := (Below.refl _ _).alloc (Nat.le_refl _) _
  have N8 : Hid (PO LS (fun k => (False ∨ k = g1) ∨ k = w7.heap.size) w (w7.alloc (.cells #[.int .i64 (s.size : Int), .string ⟨#[]⟩, .bool true] 33)) B F7 d4) := N7.out.fresh fc al (fun k q => q.elim .inl fun q => .inr ⟨by omega, by simp; omega⟩)
  have P8 : Hid (Lies (w7.alloc (.cells #[.int .i64 (s.size : Int), .string ⟨#[]⟩, .bool true] 33)) g1 [.int .i64 0, .string t, .bool false]) := P7.out.keep (by show 0 < 3; decide) al
  have Q8 : Hid (Lies (w7.alloc (.cells #[.int .i64 (s.size : Int), .string ⟨#[]⟩, .bool true] 33)) w7.heap.size [.int .i64 (s.size : Int), .string ⟨#[]⟩, .bool true]) := Lies.new w7 _ _
  clear al N7 P7
  generalize w7.alloc (.cells #[.int .i64 (s.size : Int), .string ⟨#[]⟩, .bool true] 33) = w8 at *
  generalize w7.heap.size = g2 at *
  have q0 := Q8.out.cell 0 (v := .int .i64 (s.size : Int)) rfl
  have q1 := Q8.out.cell 1 (v := .string ⟨#[]⟩) rfl
  have q2 := Q8.out.cell 2 (v := .bool true) rfl
  go_wp2_with fail
  refine (A5.out _ _ _ _ N8.out).mono ?_
  rintro e w9 ⟨rfl, F9, ⟨n9, s9⟩, -, -⟩
  have N9 := Lib.hid n9
  have P9 := Lib.hid (P8.out.asIs s9 (.inl (.inr rfl)))
  have Q9 := Lib.hid (Q8.out.asIs s9 (.inr rfl))
  clear n9 s9 N8 P8 Q8 A5 q0 q1 q2
  go_wp2_with fail
  refine (A4.out _ _ _ _ N9.out).mono ?_
  rintro e wA ⟨rfl, FA, ⟨nA, sA⟩, -, -⟩
  have NA := Lib.hid nA
  have PA := Lib.hid (P9.out.asIs sA (.inl (.inr rfl)))
  have QA := Lib.hid (Q9.out.asIs sA (.inr rfl))
  clear nA sA N9 P9 Q9 A4
  go_upto_region 17 with fail
  have al : Below wA.heap.size wA (wA.alloc (.cells #[.int .i64 (s.size : Int), .string ⟨#[]⟩, .bool true] 33)) := (Below.refl _ _).alloc (Nat.le_refl _) _
  have NB : Hid (PO LS (fun k => ((False ∨ k = g1) ∨ k = g2) ∨ k = wA.heap.size) w (wA.alloc (.cells #[.int .i64 (s.size : Int), .string ⟨#[]⟩, .bool true] 33)) B FA d4) := NA.out.fresh fc al (fun k q => q.elim .inl fun q => .inr ⟨by omega, by simp; omega⟩)
  have PB : Hid (Lies (wA.alloc (.cells #[.int .i64 (s.size : Int), .string ⟨#[]⟩, .bool true] 33)) g1 [.int .i64 0, .string t, .bool false]) := PA.out.keep (by show 0 < 3; decide) al
  have QB : Hid (Lies (wA.alloc (.cells #[.int .i64 (s.size : Int), .string ⟨#[]⟩, .bool true] 33)) g2 [.int .i64 (s.size : Int), .string ⟨#[]⟩, .bool true]) := QA.out.keep (by show 0 < 3; decide) al
  have RB : Hid (Lies (wA.alloc (.cells #[.int .i64 (s.size : Int), .string ⟨#[]⟩, .bool true] 33)) wA.heap.size [.int .i64 (s.size : Int), .string ⟨#[]⟩, .bool true]) := Lies.new wA _ _
  clear al NA PA QA
  generalize wA.alloc (.cells #[.int .i64 (s.size : Int), .string ⟨#[]⟩, .bool true] 33) = wB at *
  generalize wA.heap.size = g3 at *
  have q0 := QB.out.cell 0 (v := .int .i64 (s.size : Int)) rfl
  have q1 := QB.out.cell 1 (v := .string ⟨#[]⟩) rfl
  have q2 := QB.out.cell 2 (v := .bool true) rfl
  have r0 := RB.out.cell 0 (v := .int .i64 (s.size : Int)) rfl
  have r1 := RB.out.cell 1 (v := .string ⟨#[]⟩) rfl
  have r2 := RB.out.cell 2 (v := .bool true) rfl
  have N8 := Lib.hid (NB.out.sub (Y := fun k => (False ∨ k = g1) ∨ k = g2) fun _ q => .inl q)
  have P8 := PB
  have Q8 := QB
  clear NB PB QB
  go_wp2_with fail
  refine (A6.out _ _ _ _ N8.out).mono ?_
  rintro e wC ⟨rfl, FC, ⟨nC, sC⟩, -, -⟩
  have NC := Lib.hid nC
  have PCc := Lib.hid (P8.out.asIs sC (.inl (.inr rfl)))
  have QCc := Lib.hid (Q8.out.asIs sC (.inr rfl))
  clear nC sC N8 P8 Q8 A6 q0 q1 q2 r0 r1 r2 RB
  go_upto_region 20 with fail
  have al : Below wC.heap.size wC (wC.alloc (.cells #[.int .i64 0, .string ⟨#[]⟩, .bool false] 33)) := (Below.refl _ _).alloc (Nat.le_refl _) _
  have ND : Hid (PO LS (fun k => ((False ∨ k = g1) ∨ k = g2) ∨ k = wC.heap.size) w (wC.alloc (.cells #[.int .i64 0, .string ⟨#[]⟩, .bool false] 33)) B FC d4) := NC.out.fresh fc al (fun k q => q.elim .inl fun q => .inr ⟨by omega, by simp; omega⟩)
  have PD : Hid (Lies (wC.alloc (.cells #[.int .i64 0, .string ⟨#[]⟩, .bool false] 33)) g1 [.int .i64 0, .string t, .bool false]) := PCc.out.keep (by show 0 < 3; decide) al
  have QD : Hid (Lies (wC.alloc (.cells #[.int .i64 0, .string ⟨#[]⟩, .bool false] 33)) g2 [.int .i64 (s.size : Int), .string ⟨#[]⟩, .bool true]) := QCc.out.keep (by show 0 < 3; decide) al
  have RD : Hid (Lies (wC.alloc (.cells #[.int .i64 0, .string ⟨#[]⟩, .bool false] 33)) wC.heap.size [.int .i64 0, .string ⟨#[]⟩, .bool false]) := Lies.new wC _ _
  clear al NC PCc QCc
  generalize wC.alloc (.cells #[.int .i64 0, .string ⟨#[]⟩, .bool false] 33) = wD at *
  generalize wC.heap.size = g4 at *
  have p0 := PD.out.cell 0 (v := .int .i64 0) rfl
  have p1 := PD.out.cell 1 (v := .string t) rfl
  have p2 := PD.out.cell 2 (v := .bool false) rfl
  go_wp2_with fail
  refine (A7.out _ _ _ _ ND.out).mono ?_
  rintro e wE ⟨rfl, FE, ⟨nE, sE⟩, -, -⟩
  have NE := Lib.hid nE
  have QE := Lib.hid (QD.out.asIs sE (.inl (.inr rfl)))
  clear nE sE ND PD QD RD A7 p0 p1 p2
  have q0 := QE.out.cell 0 (v := .int .i64 (s.size : Int)) rfl
  have q1 := QE.out.cell 1 (v := .string ⟨#[]⟩) rfl
  have q2 := QE.out.cell 2 (v := .bool true) rfl
  go_wp2_with fail
  refine (A8.out _ _ _ _ NE.out).mono ?_
  rintro e wF ⟨rfl, FF, ⟨nF, -⟩, -, -⟩
  have NF := Lib.hid nF
  clear nF NE QE A8 q0 q1 q2
  go_wp2_with fail
  refine (A9.out _ _ _ _ NF.out).mono ?_
  rintro e wG ⟨rfl, bG⟩
  have bel := Lib.hid (NF.out.keep fc bG).bel
  clear bG NF A9
  go_wp2_with fail
  go_ret
  exact ⟨rfl, bel.out⟩
set_option maxHeartbeats 8000000 in
theorem end_sk {LS : OSt} (fc : OuFace LS) (s : ByteArray) (w : World) (hs : s.size ≤ 1000) (he : s.size ≠ 0) : Calls Try.prog 6 #[.string s, .bool false] w fun e w' => e = .returned (.bool true) ∧ Below w.heap.size w w' := by
  have hem := bytes_some s (by omega)
  have WK : Hid (∀ _ : Unit, _) := fun _ => works_ok fc w
  have NP : Hid (∀ w', Below w.heap.size w w' → _) := fun w' b => po_new fc (fun _ => False) w w' b (fun _ q => q.elim)
  have W1 : Hid (∀ w' B F, PO LS (fun _ => False) w w' B F ox0 → _) := fun w' B F h => po_write fc s false (X := fun _ => False) (w0 := w) (w := w') (B := B) (F := F) h (by decide) (by omega)
  obtain ⟨r1, r2⟩ := tx_write0 s 1 false (by omega)
  rw [r1, r2] at W1
  have e3 : (if false = true then (0 : Int) else 3) = 3 := rfl
  rw [e3] at W1
  have A1 : Hid (∀ w' B F, PO LS (fun _ => False) w w' B F (tx s 0 1 3 4096) → _) := fun w' B F h => po_next fc 2000 (X := fun _ => False) (w0 := w) (w := w') (B := B) (F := F) h (show s.size < 50000000 by omega) (by decide) (.inl (show (3 : Int) ≠ 2 by decide))
  rw [(un_next s hs).1, (un_next s hs).2, if_neg he] at A1
  have A2 : Hid (∀ w' B F (X : Nat → Prop), PO LS X w w' B F (un s 1 3) → _) := fun w' B F X h => po_write fc ⟨#[]⟩ true (w0 := w) (w := w') (B := B) (F := F) h (show s.size < 50000000 by omega) (by decide)
  have z0 : (⟨#[]⟩ : ByteArray).size = 0 := rfl
  rw [z0, (un_end s hs).1, (un_end s hs).2] at A2
  have A3 : Hid (∀ w' B F (X : Nat → Prop), PO LS X w w' B F (un s 1 0) → _) := fun w' B F X h => po_write fc ⟨#[120]⟩ false (w0 := w) (w := w') (B := B) (F := F) h (show s.size < 50000000 by omega) (by decide)
  have z1 : (⟨#[120]⟩ : ByteArray).size = 1 := rfl
  rw [z1, (un_more s).1, (un_more s).2] at A3
  have A4 : Hid (∀ w' B F (X : Nat → Prop), PO LS X w w' B F (un s 1 0) → _) := fun w' B F X h => po_next fc 2000 (w0 := w) (w := w') (B := B) (F := F) h (show s.size < 50000000 by omega) (by decide) (.inl (show (0 : Int) ≠ 2 by decide))
  rw [(un_fin s hs).1, (un_fin s hs).2] at A4
  have A5 : Hid (∀ w' B F (X : Nat → Prop), PO LS X w w' B F (un s 1 1) → _) := fun w' B F X h => po_lost fc (Pc.mk s.size 0 true) ⟨#[]⟩ (w0 := w) (w := w') (B := B) (F := F) h (show s.size < 50000000 by omega) (un_q s 1 1 (by decide))
  rw [un_lost] at A5
  have A6 : Hid (∀ w' B F (X : Nat → Prop), PO LS X w w' B F (un s 1 1) → _) := fun w' B F X h => po_next fc 2000 (w0 := w) (w := w') (B := B) (F := F) h (show s.size < 50000000 by omega) (by decide) (.inl (show (1 : Int) ≠ 2 by decide))
  rw [(un_none s).1, (un_none s).2] at A6
  have A7 : Hid (∀ w' B F (X : Nat → Prop), PO LS X w w' B F (un s 1 1) → _) := fun w' B F X h => po_acked fc (Pc.mk 0 s.size false) (s.extract 0 (0 + s.size)) (w0 := w) (w := w') (B := B) (F := F) h (show s.size < 50000000 by omega) (un_p s 1 1)
  rw [un_ack] at A7
  have A8 : Hid (∀ w' B F (X : Nat → Prop), PO LS X w w' B F (un s 2 1) → _) := fun w' B F X h => po_acked fc (Pc.mk s.size 0 true) ⟨#[]⟩ (w0 := w) (w := w') (B := B) (F := F) h (show s.size < 50000000 by omega) (un_q s 2 1 (by decide))
  rw [un_acked] at A8
  have A9 : Hid (∀ w' B F (X : Nat → Prop), PO LS X w w' B F (un s 2 2) → _) := fun w' B F X h => po_state fc (w0 := w) (w := w') (B := B) (F := F) h (show s.size < 50000000 by omega)
  have z2 : allB (un s 2 2) = true := tx_all s 4096
  have z3 : (un s 2 2).s.size = s.size := rfl
  have z4 : thereN (un s 2 2) = s.size := tx_there s 2 4096
  rw [z2, z3, z4] at A9
  have v0 : ∀ d, nxtV d none = .tuple #[.agg #[.int .i64 0, .string ⟨#[]⟩, .bool false], .bool false] := fun _ => rfl
  have v1 : nxtV (tx s 0 1 3 4096) (some (Pc.mk 0 s.size false)) = .tuple #[.agg #[.int .i64 0, .string (s.extract 0 (0 + s.size)), .bool false], .bool true] := rfl
  have v2 : nxtV (un s 1 0) (some (Pc.mk s.size 0 true)) = .tuple #[.agg #[.int .i64 (s.size : Int), .string ⟨#[]⟩, .bool true], .bool true] := by show Value.tuple #[.agg #[_, .string (s.extract s.size (s.size + 0)), _], _] = _; rw [ext_nil]
  have v3 : pcV (Pc.mk 0 s.size false) (s.extract 0 (0 + s.size)) = .agg #[.int .i64 0, .string (s.extract 0 (0 + s.size)), .bool false] := rfl
  have v4 : pcV (Pc.mk s.size 0 true) ⟨#[]⟩ = .agg #[.int .i64 (s.size : Int), .string ⟨#[]⟩, .bool true] := rfl
  simp only [v0, v1, v2, v3, v4] at A1 A4 A5 A6 A7 A8 A9
  clear v0 v1 v2 v3 v4 z0 z1 z2 z3 z4 r1 r2 e3
  generalize s.extract 0 (0 + s.size) = t at *
  generalize tx s 0 1 3 4096 = d1 at *
  generalize un s 1 3 = d2 at *
  generalize un s 1 0 = d3 at *
  generalize un s 1 1 = d4 at *
  generalize un s 2 1 = d5 at *
  generalize un s 2 2 = d6 at *
  have z5 : decide ((1000 : Int) < (s.size : Int)) = false := decide_eq_false (by omega)
  have z6 : decide (1000 < s.size) = false := decide_eq_false (by omega)
  replace he := Lib.hid he
  go_enter Try.func6, Try.ntmps6
  go_wp2_with fail
  refine (WK.out ()).mono ?_
  rintro e w0 ⟨rfl, b0⟩
  have B0 := Lib.hid b0
  clear b0 WK
  go_wp2_with fail
  refine (NP.out _ B0.out).mono ?_
  rintro e w1 ⟨B, F1, rfl, n1, -, -⟩
  have N1 := Lib.hid n1
  clear n1 NP B0
  go_wp2_with fail
  refine (W1.out _ _ _ N1.out).mono ?_
  rintro e w2 ⟨rfl, F2, ⟨n2, -⟩, -, -⟩
  have N2 := Lib.hid n2
  clear n2 N1 W1
  go_wp2_with fail
  refine (A1.out _ _ _ N2.out).mono ?_
  rintro e w3 ⟨rfl, F3, ⟨n3, -⟩, -, -⟩
  have N3 := Lib.hid n3
  clear n3 N2 A1
  go_upto_region 9 with fail
  have al : Below w3.heap.size w3 (w3.alloc (.cells #[.int .i64 0, .string t, .bool false] 33)) := (Below.refl _ _).alloc (Nat.le_refl _) _
  have N4 : Hid (PO LS (fun k => False ∨ k = w3.heap.size) w (w3.alloc (.cells #[.int .i64 0, .string t, .bool false] 33)) B F3 d2) := N3.out.fresh fc al (fun k q => q.elim .inl fun q => .inr ⟨by omega, by simp; omega⟩)
  have P4 : Hid (Lies (w3.alloc (.cells #[.int .i64 0, .string t, .bool false] 33)) w3.heap.size [.int .i64 0, .string t, .bool false]) := Lies.new w3 _ _
  clear al N3 
  generalize w3.alloc (.cells #[.int .i64 0, .string t, .bool false] 33) = w4 at *
  generalize w3.heap.size = g1 at *
  go_wp2_with fail
  refine (A2.out _ _ _ _ N4.out).mono ?_
  rintro e w5 ⟨rfl, F5, ⟨n5, s5⟩, -, -⟩
  have N5 := Lib.hid n5
  have P5 := Lib.hid (P4.out.asIs s5 (.inr rfl))
  clear n5 s5 N4 P4 A2
  go_wp2_with fail
  refine (A3.out _ _ _ _ N5.out).mono ?_
  rintro e w6 ⟨rfl, F6, ⟨n6, s6⟩, -, -⟩
  have N6 := Lib.hid n6
  have P6 := Lib.hid (P5.out.asIs s6 (.inr rfl))
  clear n6 s6 N5 P5 A3
  go_wp2_with fail
  refine (A4.out _ _ _ _ N6.out).mono ?_
  rintro e w7 ⟨rfl, F7, ⟨n7, s7⟩, -, -⟩
  have N7 := Lib.hid n7
  have P7 := Lib.hid (P6.out.asIs s7 (.inr rfl))
  clear n7 s7 N6 P6 A4
  go_upto_region 12 with fail
  have al : Below w7.heap.size w7 (w7.alloc (.cells #[.int .i64 (s.size : Int), .string ⟨#[]⟩, .bool true] 33)) := (Below.refl _ _).alloc (Nat.le_refl _) _
  have N8 : Hid (PO LS (fun k => (False ∨ k = g1) ∨ k = w7.heap.size) w (w7.alloc (.cells #[.int .i64 (s.size : Int), .string ⟨#[]⟩, .bool true] 33)) B F7 d4) := N7.out.fresh fc al (fun k q => q.elim .inl fun q => .inr ⟨by omega, by simp; omega⟩)
  have P8 : Hid (Lies (w7.alloc (.cells #[.int .i64 (s.size : Int), .string ⟨#[]⟩, .bool true] 33)) g1 [.int .i64 0, .string t, .bool false]) := P7.out.keep (by show 0 < 3; decide) al
  have Q8 : Hid (Lies (w7.alloc (.cells #[.int .i64 (s.size : Int), .string ⟨#[]⟩, .bool true] 33)) w7.heap.size [.int .i64 (s.size : Int), .string ⟨#[]⟩, .bool true]) := Lies.new w7 _ _
  clear al N7 P7
  generalize w7.alloc (.cells #[.int .i64 (s.size : Int), .string ⟨#[]⟩, .bool true] 33) = w8 at *
  generalize w7.heap.size = g2 at *
  have q0 := Q8.out.cell 0 (v := .int .i64 (s.size : Int)) rfl
  have q1 := Q8.out.cell 1 (v := .string ⟨#[]⟩) rfl
  have q2 := Q8.out.cell 2 (v := .bool true) rfl
  clear A5
  go_wp2_with fail
  refine (A6.out _ _ _ _ N8.out).mono ?_
  rintro e wC ⟨rfl, FC, ⟨nC, sC⟩, -, -⟩
  have NC := Lib.hid nC
  have PCc := Lib.hid (P8.out.asIs sC (.inl (.inr rfl)))
  have QCc := Lib.hid (Q8.out.asIs sC (.inr rfl))
  clear nC sC N8 P8 Q8 A6 q0 q1 q2
  go_upto_region 20 with fail
  have al : Below wC.heap.size wC (wC.alloc (.cells #[.int .i64 0, .string ⟨#[]⟩, .bool false] 33)) := (Below.refl _ _).alloc (Nat.le_refl _) _
  have ND : Hid (PO LS (fun k => ((False ∨ k = g1) ∨ k = g2) ∨ k = wC.heap.size) w (wC.alloc (.cells #[.int .i64 0, .string ⟨#[]⟩, .bool false] 33)) B FC d4) := NC.out.fresh fc al (fun k q => q.elim .inl fun q => .inr ⟨by omega, by simp; omega⟩)
  have PD : Hid (Lies (wC.alloc (.cells #[.int .i64 0, .string ⟨#[]⟩, .bool false] 33)) g1 [.int .i64 0, .string t, .bool false]) := PCc.out.keep (by show 0 < 3; decide) al
  have QD : Hid (Lies (wC.alloc (.cells #[.int .i64 0, .string ⟨#[]⟩, .bool false] 33)) g2 [.int .i64 (s.size : Int), .string ⟨#[]⟩, .bool true]) := QCc.out.keep (by show 0 < 3; decide) al
  have RD : Hid (Lies (wC.alloc (.cells #[.int .i64 0, .string ⟨#[]⟩, .bool false] 33)) wC.heap.size [.int .i64 0, .string ⟨#[]⟩, .bool false]) := Lies.new wC _ _
  clear al NC PCc QCc
  generalize wC.alloc (.cells #[.int .i64 0, .string ⟨#[]⟩, .bool false] 33) = wD at *
  generalize wC.heap.size = g4 at *
  have p0 := PD.out.cell 0 (v := .int .i64 0) rfl
  have p1 := PD.out.cell 1 (v := .string t) rfl
  have p2 := PD.out.cell 2 (v := .bool false) rfl
  go_wp2_with fail
  refine (A7.out _ _ _ _ ND.out).mono ?_
  rintro e wE ⟨rfl, FE, ⟨nE, sE⟩, -, -⟩
  have NE := Lib.hid nE
  have QE := Lib.hid (QD.out.asIs sE (.inl (.inr rfl)))
  clear nE sE ND PD QD RD A7 p0 p1 p2
  have q0 := QE.out.cell 0 (v := .int .i64 (s.size : Int)) rfl
  have q1 := QE.out.cell 1 (v := .string ⟨#[]⟩) rfl
  have q2 := QE.out.cell 2 (v := .bool true) rfl
  go_wp2_with fail
  refine (A8.out _ _ _ _ NE.out).mono ?_
  rintro e wF ⟨rfl, FF, ⟨nF, -⟩, -, -⟩
  have NF := Lib.hid nF
  clear nF NE QE A8 q0 q1 q2
  go_wp2_with fail
  refine (A9.out _ _ _ _ NF.out).mono ?_
  rintro e wG ⟨rfl, bG⟩
  have bel := Lib.hid (NF.out.keep fc bG).bel
  clear bG NF A9
  go_wp2_with fail
  go_ret
  exact ⟨rfl, bel.out⟩
set_option maxHeartbeats 2000000 in
theorem end_long {LS : OSt} (fc : OuFace LS) (s : ByteArray) (lost : Bool) (w : World) (hs : 1000 < s.size) (hm : s.size ≤ 140737488351232) : Calls Try.prog 6 #[.string s, .bool lost] w fun e w' => e = .returned (.bool true) ∧ Below w.heap.size w w' := by
  have WK : Hid (∀ _ : Unit, _) := fun _ => works_ok fc w
  have z5 : decide ((1000 : Int) < (s.size : Int)) = true := decide_eq_true (by omega)
  have z6 : decide (1000 < s.size) = true := decide_eq_true (by omega)
  go_enter Try.func6, Try.ntmps6
  go_wp2_with fail
  refine (WK.out ()).mono ?_
  rintro e w0 ⟨rfl, b0⟩
  have B0 := Lib.hid b0
  clear b0 WK
  go_wp2_with fail
  go_ret
  exact ⟨rfl, B0.out⟩
theorem end_walk {LS : OSt} (fc : OuFace LS) (s : ByteArray) (lost : Bool) (w : World) (hm : s.size ≤ 140737488351232) : Calls Try.prog 6 #[.string s, .bool lost] w fun e w' => e = .returned (.bool true) ∧ Below w.heap.size w w' := by
  by_cases h : s.size ≤ 1000
  · by_cases he : s.size = 0
    · cases lost
      · exact end_ek fc s w h he
      · exact end_el fc s w h he
    · cases lost
      · exact end_sk fc s w h he
      · exact end_sl fc s w h he
  · exact end_long fc s lost w (by omega) hm
end Go.Proofs.Ytdmoaeegjjenmaa
