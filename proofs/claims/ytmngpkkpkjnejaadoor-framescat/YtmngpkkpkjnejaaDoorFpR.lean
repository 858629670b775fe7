/-
  What the program's own reader of frames answers for a number, a text and a flag, and what it leaves; what it throws. Texts below 2^63 bytes; no other condition but the table of sizes. What the program's own reader of frames answers for ranges, and what it leaves; what it throws. Texts below 2^63 bytes; no other condition but the table of sizes. What the program's own reader of frames answers for a frame, and what it leaves; what it throws. Texts below 2^40 bytes; no other condition but the table of sizes. What the program's own reader of frames answers for all that are left, and what it throws. Texts below 2^40 bytes; no other condition but the table of sizes. What the program's own Parse of frames answers: the frames of bytes, or what the reader threw. Texts below 2^40 bytes; no other condition but the table of sizes.
-/
import Derived.Test.YtmngpkkpkjnejaaDoorFpA
import Derived.Test.YtmngpkkpkjnejaaDoorFrRd
import Derived.Test.YtmngpkkpkjnejaaDoorVaTake
import Derived.Test.YtmngpkkpkjnejaaDoorFrRng
import Derived.Test.YtmngpkkpkjnejaaDoorAkRun
import Derived.Laws.MakeOwn
import Derived.Test.YtmngpkkpkjnejaaDoorFpC
import Derived.Test.YtmngpkkpkjnejaaDoorFrFrm
import Derived.Test.YtmngpkkpkjnejaaDoorFrRow
import Derived.Test.YtmngpkkpkjnejaaDoorFrPar
import Derived.Defers
import Derived.Recover
import Derived.Laws.Pointers
namespace Go.Proofs.YtmngpkkpkjnejaaDoor
set_option maxRecDepth 100000
open Go.RowKit Go.Sort

/-- The program's reader in a block: what is left. -/
def Rr (w : World) (R : Nat) (s : ByteArray) : Prop := Lies w R [.string s]
theorem Rr.put {w : World} {R : Nat} {s : ByteArray} (h : Rr w R s) (s' : ByteArray) : Rr (w.setCell ⟨R, 0, none⟩ (.string s')) R s' := Lies.put h 0 (by show 0 < 1; decide) _
/-- What a step of the reader comes to: what was read, and what is left; or what it throws. -/
def Aft {α : Type} (w w' : World) (R : Nat) (s : ByteArray) (p : Rd α) (V : α → Value) (e : Ending) : Prop :=
  (∃ a s', p (toL s) = .ok (a, toL s') ∧ e = .returned (V a) ∧ w' = w.setCell ⟨R, 0, none⟩ (.string s')) ∨ (∃ x, p (toL s) = .error x ∧ x ≠ 0 ∧ e = .panicked (thrown x) ∧ w' = w)
set_option maxHeartbeats 1000000 in
theorem pnum_cut (R : Nat) (s : ByteArray) (w : World) (t : VTab w) (h : Rr w R s) (hs : s.size ≤ 9223372036854775807) (hc : VCut s) :
    Calls Tryd.prog 58 #[.pointer (some ⟨R, 0, none⟩)] w fun e w' => e = .panicked (thrown 1) ∧ w' = w := by
  have G : Hid _ := get_cut s w t hs hc
  have c0 := h.cell 0 (v := .string s) rfl
  clear h hc t
  go_enter Tryd.func58, Tryd.ntmps58
  go_wp2_with fail
  refine Calls.mono G.out ?_
  rintro e w1 ⟨rfl, rfl⟩
  clear G
  go_wp2_with fail
  refine (throw_yes _ _).mono ?_
  rintro e w1 ⟨rfl, rfl⟩
  exact ⟨rfl, rfl, rfl⟩
set_option maxHeartbeats 1000000 in
theorem pnum_has (R : Nat) (s : ByteArray) (w : World) (t : VTab w) (k : Nat) (h : Rr w R s) (hs : s.size ≤ 9223372036854775807) (hk : VHas s k) :
    Calls Tryd.prog 58 #[.pointer (some ⟨R, 0, none⟩)] w fun e w' => e = .returned (.int .i64 (gva (byt s) k)) ∧ w' = w.setCell ⟨R, 0, none⟩ (.string (s.extract k s.size)) := by
  have G : Hid _ := get_has s w t k hs hk
  have hkl : k ≤ s.size := hk.2.1
  have c0 := h.cell 0 (v := .string s) rfl
  have f0 := h.free 0 (by show 0 < 1; decide)
  clear h hk t
  generalize gva (byt s) k = n at *
  go_enter Tryd.func58, Tryd.ntmps58
  go_wp2_with fail
  refine Calls.mono G.out ?_
  rintro e w1 ⟨rfl, rfl⟩
  clear G
  go_wp2_with fail
  refine (throw_no _ _).mono ?_
  rintro e w1 ⟨rfl, rfl⟩
  go_wp2_with fail
  go_ret
  exact ⟨rfl, rfl⟩
theorem pnum_ok (R : Nat) (s : ByteArray) (w : World) (t : VTab w) (h : Rr w R s) (hs : s.size ≤ 9223372036854775807) :
    Calls Tryd.prog 58 #[.pointer (some ⟨R, 0, none⟩)] w fun e w' => Aft w w' R s rInt (fun n => .int .i64 n) e := by
  rcases cut_or_has s with q | ⟨k, q⟩
  · refine (pnum_cut R s w t h hs q).mono ?_
    rintro e w' ⟨rfl, rfl⟩
    exact .inr ⟨1, by unfold rInt Rd.bind rNum; rw [link_cut q], by decide, rfl, rfl⟩
  · refine (pnum_has R s w t k h hs q).mono ?_
    rintro e w' ⟨rfl, rfl⟩
    refine .inl ⟨_, s.extract k s.size, ?_, rfl, rfl⟩
    unfold rInt Rd.bind rNum
    rw [link_has q]
    obtain ⟨_, _, m, hk, _⟩ := q
    have := (gva_bd (byt s) (byt_bd s) hk).1
    show Except.ok _ = _
    rw [toL_extract, Int.toNat_of_nonneg this]
set_option maxHeartbeats 1000000 in
theorem pdata_err (R : Nat) (s : ByteArray) (w : World) (h : Rr w R s) (G : Hid (Calls Tryd.prog 66 #[.string s] w fun e w' => e = .returned (.tuple #[.string ⟨#[]⟩, .int .i64 0, .int .i64 1]) ∧ w = w')) :
    Calls Tryd.prog 60 #[.pointer (some ⟨R, 0, none⟩)] w fun e w' => e = .panicked (thrown 1) ∧ w' = w := by
  have c0 := h.cell 0 (v := .string s) rfl
  clear h
  go_enter Tryd.func60, Tryd.ntmps60
  go_wp2_with fail
  refine Calls.mono G.out ?_
  rintro e w1 ⟨rfl, rfl⟩
  clear G
  go_wp2_with fail
  refine (throw_yes _ _).mono ?_
  rintro e w1 ⟨rfl, rfl⟩
  exact ⟨rfl, rfl, rfl⟩
set_option maxHeartbeats 1000000 in
theorem pdata_yes (R : Nat) (s t : ByteArray) (n : Nat) (w : World) (h : Rr w R s) (hn : n ≤ s.size) (G : Hid (Calls Tryd.prog 66 #[.string s] w fun e w' => e = .returned (.tuple #[.string t, .int .i64 (n : Int), .int .i64 0]) ∧ w = w')) :
    Calls Tryd.prog 60 #[.pointer (some ⟨R, 0, none⟩)] w fun e w' => e = .returned (.string t) ∧ w' = w.setCell ⟨R, 0, none⟩ (.string (s.extract n s.size)) := by
  have c0 := h.cell 0 (v := .string s) rfl
  have f0 := h.free 0 (by show 0 < 1; decide)
  clear h
  go_enter Tryd.func60, Tryd.ntmps60
  go_wp2_with fail
  refine Calls.mono G.out ?_
  rintro e w1 ⟨rfl, rfl⟩
  clear G
  go_wp2_with fail
  refine (throw_no _ _).mono ?_
  rintro e w1 ⟨rfl, rfl⟩
  go_wp2_with fail
  go_ret
  exact ⟨rfl, rfl⟩
theorem pdata_ok (R : Nat) (s : ByteArray) (w : World) (t : VTab w) (h : Rr w R s) (hs : s.size ≤ 9223372036854775807) :
    Calls Tryd.prog 60 #[.pointer (some ⟨R, 0, none⟩)] w fun e w' => Aft w w' R s rText (fun d => .string ⟨d.toArray⟩) e := by
  rcases cut_or_has s with q | ⟨k, q⟩
  · refine (pdata_err R s w h (take_cut s w t hs q)).mono ?_
    rintro e w' ⟨rfl, rfl⟩
    exact .inr ⟨1, by unfold rText Rd.bind rNum; rw [link_cut q], by decide, rfl, rfl⟩
  · have hn : rNum (toL s) = .ok ((gva (byt s) k).toNat, (toL s).drop k) := by
      unfold rNum
      rw [link_has q]
    have hg : 0 ≤ gva (byt s) k := by
      obtain ⟨_, _, m, hk, _⟩ := q
      exact (gva_bd (byt s) (byt_bd s) hk).1
    have hl := toL_len s
    have hd : ((toL s).drop k).length = s.size - k := by rw [List.length_drop, hl]
    have hq := q.2.1
    by_cases hc : k + (gva (byt s) k).toNat ≤ s.size
    · refine (pdata_yes R s _ (k + (gva (byt s) k).toNat) w h hc (take_ok s w t hs k (gva (byt s) k).toNat q (by omega) hc)).mono ?_
      rintro e w' ⟨rfl, rfl⟩
      refine .inl ⟨toL (s.extract k (k + (gva (byt s) k).toNat)), s.extract (k + (gva (byt s) k).toNat) s.size, ?_, congrArg (fun x => Ending.returned (.string x)) (toL_inj rfl), rfl⟩
      unfold rText
      rw [bind_ok hn]
      unfold rTake
      have e1 : toL (s.extract k (k + (gva (byt s) k).toNat)) = ((toL s).drop k).take (gva (byt s) k).toNat := by
        rw [toL_cut, List.drop_take]
        congr 1
        omega
      rw [if_neg (by omega), toL_extract, List.drop_drop, ← e1]
    · refine (pdata_err R s w h (take_short s w t hs k q (by omega))).mono ?_
      rintro e w' ⟨rfl, rfl⟩
      refine .inr ⟨1, ?_, by decide, rfl, rfl⟩
      unfold rText
      rw [bind_ok hn]
      unfold rTake
      rw [if_pos (by omega)]
set_option maxHeartbeats 1000000 in
theorem pflag_ok (R : Nat) (s : ByteArray) (w : World) (h : Rr w R s) (hs : s.size ≤ 9223372036854775807) :
    Calls Tryd.prog 59 #[.pointer (some ⟨R, 0, none⟩)] w fun e w' => Aft w w' R s rFin (fun b => .bool b) e := by
  have c0 := h.cell 0 (v := .string s) rfl
  have f0 := h.free 0 (by show 0 < 1; decide)
  clear h
  unfold Aft
  cases e : toL s with
  | nil =>
    have hz : s.size = 0 := by rw [← toL_len, e]; rfl
    have hE : s.toList.isEmpty = true := by
      rw [ByteArray.toList_eq]
      show (toL s).isEmpty = true
      rw [e]
      rfl
    clear e
    go_enter Tryd.func59, Tryd.ntmps59
    go_wp2_with fail
    refine (throw_yes _ _).mono ?_
    rintro e w1 ⟨rfl, rfl⟩
    exact ⟨rfl, .inr ⟨1, rfl, by decide, rfl, rfl⟩⟩
  | cons c r =>
    have hz : 0 < s.size := by rw [← toL_len, e]; simp
    have hE : s.toList.isEmpty = false := by
      rw [ByteArray.toList_eq]
      show (toL s).isEmpty = false
      rw [e]
      rfl
    have hi : s[0] = c := by
      have : (toL s)[0]? = some c := by rw [e]; rfl
      have h2 : (toL s)[0]? = some s[0] := by
        unfold toL
        rw [List.getElem?_eq_getElem (by simpa using hz)]
        rfl
      rw [h2] at this
      injection this
    have hr : toL (s.extract 1 s.size) = r := by rw [toL_extract, e]; rfl
    by_cases q : 1 < c.toNat
    · have g : decide ((1 : Int) < (s[0].toNat : Int)) = true := decide_eq_true (by rw [hi]; omega)
      have hF : Hid (rFin (c :: r) = .error 3) := by
        unfold Hid rFin
        simp [q]
      clear e hi hr q
      go_enter Tryd.func59, Tryd.ntmps59
      go_wp2_with fail
      refine (throw_no _ _).mono ?_
      rintro e w1 ⟨rfl, rfl⟩
      go_wp2_with fail
      refine (throw_yes _ _).mono ?_
      rintro e w1 ⟨rfl, rfl⟩
      exact ⟨rfl, .inr ⟨3, hF.out, by decide, rfl, rfl⟩⟩
    · have g : decide ((1 : Int) < (s[0].toNat : Int)) = false := decide_eq_false (by rw [hi]; omega)
      have hF : Hid (rFin (c :: r) = .ok (((s[0].toNat : Int) == 1), toL (s.extract 1 s.size))) := by
        unfold Hid rFin
        rw [hr, hi]
        have : (c == 1) = ((c.toNat : Int) == 1) := by
          rw [Bool.eq_iff_iff]
          simp only [beq_iff_eq]
          constructor
          · rintro rfl; rfl
          · intro h
            exact UInt8.toNat_inj.1 (by show c.toNat = 1; omega)
        simp [q, this]
      clear e hi hr q
      go_enter Tryd.func59, Tryd.ntmps59
      go_wp2_with fail
      refine (throw_no _ _).mono ?_
      rintro e w1 ⟨rfl, rfl⟩
      go_wp2_with fail
      refine (throw_no _ _).mono ?_
      rintro e w1 ⟨rfl, rfl⟩
      go_wp2_with fail
      go_ret
      exact .inl ⟨_, _, hF.out, rfl, rfl⟩
end Go.Proofs.YtmngpkkpkjnejaaDoor
namespace Go.Proofs.YtmngpkkpkjnejaaDoor
set_option maxRecDepth 100000
open Go.RowKit Go.Sort

theorem int_num {s r : L} {n : Int} (h : rInt s = .ok (n, r)) : ∃ m : Nat, n = m ∧ rNum s = .ok (m, r) := by
  obtain ⟨m, r1, h1, h2⟩ := bind_back h
  injection h2 with h2
  injection h2 with h2 h3
  exact ⟨m, h2.symm, by rw [h1, h3]⟩
theorem int_err {s : L} {x : Int} (h : rInt s = .error x) : rNum s = .error x := by
  unfold rInt Rd.bind at h
  cases q : rNum s with
  | ok y => rw [q] at h; cases h
  | error e => rw [q] at h; injection h with h; rw [h]
theorem sofar_e1 {N i : Nat} {s0 s1 : ByteArray} {m : List Rg} {x : Int} (h : Sofar N s0 i m s1 0) (hi : i < N) (h1 : rInt (toL s1) = .error x) : rMany N (toL s0) = .error x := by
  unfold Sofar at h
  rw [if_pos rfl] at h
  rw [h]
  obtain ⟨k, hk⟩ : ∃ k, N - i = k + 1 := ⟨N - i - 1, by omega⟩
  rw [hk, rMany]
  unfold Rd.bind
  rw [h1]
theorem sofar_e2 {N i : Nat} {s0 s1 s2 : ByteArray} {m : List Rg} {a x : Int} (h : Sofar N s0 i m s1 0) (hi : i < N) (h1 : rInt (toL s1) = .ok (a, toL s2)) (h2 : rInt (toL s2) = .error x) : rMany N (toL s0) = .error x := by
  unfold Sofar at h
  rw [if_pos rfl] at h
  rw [h]
  obtain ⟨k, hk⟩ : ∃ k, N - i = k + 1 := ⟨N - i - 1, by omega⟩
  rw [hk, rMany, bind_ok h1]
  unfold Rd.bind
  rw [h2]
theorem sofar_all {N : Nat} {s0 s1 : ByteArray} {m : List Rg} (h : Sofar N s0 N m s1 0) : rMany N (toL s0) = .ok (m, toL s1) := by
  unfold Sofar at h
  rw [if_pos rfl] at h
  rw [h, Nat.sub_self]
  show Except.ok (m ++ [], _) = _
  rw [List.append_nil]
/-- So many ranges of nothing. -/
def zrs (n : Nat) : List Rg := List.replicate n (0, 0)
theorem zrs_len (n : Nat) : (zrs n).length = n := List.length_replicate
theorem rgs_set2 (m r : List Rg) (x : Rg) (lo hi : Int) : ((rgs (m ++ x :: r)).set (2 * m.length + 1) (.int .i64 hi)).set (2 * m.length) (.int .i64 lo) = rgs (m ++ [(lo, hi)] ++ r) := by
  have hl := rgs_len m
  rw [rgs_append, rgs_append, rgs_append, rgs_cons, List.set_append_right _ _ (by omega), List.set_append_right _ _ (by omega)]
  rw [hl, show 2 * m.length + 1 - 2 * m.length = 1 by omega, Nat.sub_self, List.append_assoc]
  rfl
theorem made_rgs (N : Nat) : madeCells (Value.agg #[.int .i64 0, .int .i64 0]).cells (N * 2) = (rgs (zrs N)).toArray := by
  have hr : ∀ n, rgs (zrs n) = List.replicate (n * 2) (.int .i64 0) := fun n => by
    induction n with
    | zero => rfl
    | succ n ih =>
      show .int .i64 0 :: .int .i64 0 :: rgs (zrs n) = _
      rw [ih, show (n + 1) * 2 = n * 2 + 1 + 1 by omega, List.replicate_succ, List.replicate_succ]
  rw [hr]
  apply Array.ext_getElem?
  intro i
  by_cases h : i < N * 2
  · have e : (Value.agg #[.int .i64 0, .int .i64 0]).cells = #[.int .i64 0, .int .i64 0] := rfl
    rw [e]
    rcases Nat.mod_two_eq_zero_or_one i with q | q <;> simp [madeCells, h, q]
  · simp [madeCells, h]
theorem mk_rgs (N : Nat) (h : N ≤ 16) (w : World) : (Instr.makeSlice 22 (.int .i64 (N : Int)) (.int .i64 (N : Int))).run Tryd.prog w = .ok (.slice (some ⟨w.heap.size, 0, none⟩) N N) (w.alloc (.cells (rgs (zrs N)).toArray 67)) := by
  obtain ⟨i, hi, hz, h2, h3⟩ := info_rg
  have := run_make (P := Tryd.prog) w 22 67 i _ Tryd.underlying22 hi hz .i64 .i64 N N (by omega) (by omega) (by rw [h3]; omega) (by omega)
  rw [this, h2, Int.toNat_natCast, made_rgs N]
theorem lies_rgAt {w : World} {B : Nat} {l : List Rg} (h : Lies w B (rgs l)) (cap : Nat) : RgAt w (.slice (some ⟨B, 0, none⟩) l.length cap) l :=
  ⟨_, cap, rfl, .inr ⟨B, 0, rfl, fun k hk => by
    obtain ⟨h1, h2⟩ := rgs_get l k hk
    refine ⟨?_, ?_⟩
    · rw [Nat.zero_add]; exact h.cell _ h1
    · rw [Nat.zero_add]; exact h.cell _ h2⟩⟩
/-- What ranges come to. -/
def AftR (w w' : World) (R : Nat) (s : ByteArray) (e : Ending) : Prop :=
  Kept (fun k => k = R) w w' ∧ ((∃ l s' B, rRanges (toL s) = .ok (l, toL s') ∧ e = .returned (.slice (some ⟨B, 0, none⟩) l.length l.length) ∧ w.heap.size ≤ B ∧ Lies w' B (rgs l) ∧ Rr w' R s') ∨
    (∃ x, rRanges (toL s) = .error x ∧ x ≠ 0 ∧ e = .panicked (thrown x)))
theorem Rr.lt {w : World} {R : Nat} {s : ByteArray} (h : Rr w R s) : R < w.heap.size := Lies.lt h (by show 0 < 1; decide)
/-- The table of sizes lies in a block that is not the reader's. -/
theorem VTab.kept {F : Nat → Prop} {w w' : World} (t : VTab w) (k : Kept F w w') (hF : ¬ F 0) : VTab w' := by
  have e := k.block _ t.pos hF
  exact ⟨Nat.lt_of_lt_of_le t.pos k.size, (World.cell?_of_block (a := ⟨0, 0, none⟩) e).trans t.c0, (World.cell?_of_block (a := ⟨0, 1, none⟩) e).trans t.c1, (World.cell?_of_block (a := ⟨0, 2, none⟩) e).trans t.c2, (World.cell?_of_block (a := ⟨0, 3, none⟩) e).trans t.c3⟩
set_option maxHeartbeats 4000000 in
theorem pranges_ok (R : Nat) (s : ByteArray) (w : World) (t : VTab w) (hR0 : 0 ≠ R) (h : Rr w R s) (hs : s.size ≤ 9223372036854775807) :
    Calls Tryd.prog 61 #[.pointer (some ⟨R, 0, none⟩)] w fun e w' => AftR w w' R s e := by
  have N0 : Hid _ := pnum_ok R s w t h hs
  have hR : R < w.heap.size := h.lt
  replace t : Hid _ := t
  replace hR0 : Hid _ := hR0
  replace h : Hid _ := h
  go_enter Tryd.func61, Tryd.ntmps61
  go_wp2_with fail
  refine Calls.mono N0.out ?_
  rintro e w1 (⟨n, s1, hn, rfl, hw1⟩ | ⟨x, hx, hx0, rfl, rfl⟩)
  · obtain ⟨N, rfl, hN⟩ := int_num hn
    have K1 : Kept (fun k => k = R) w w1 := by rw [hw1]; exact keptR w R 0 _ (Kept.refl _ w)
    have R1 : Rr w1 R s1 := by rw [hw1]; exact Rr.put h.out s1
    have hs1 : s1.size ≤ 9223372036854775807 := Nat.le_trans (size_of_int hn) hs
    have hR1 : R < w1.heap.size := R1.lt
    replace K1 : Hid _ := K1
    replace R1 : Hid _ := R1
    replace hN : Hid _ := hN
    clear hn hw1 N0 h
    by_cases h0 : N = 0
    · subst h0
      have fin : Hid (AftR w w1 R s (.panicked (thrown 3))) := ⟨K1.out, .inr ⟨3, by unfold rRanges; rw [bind_ok hN.out]; rfl, by decide, rfl⟩⟩
      go_wp2_with fail
      refine (throw_yes _ _).mono ?_
      rintro e w2 ⟨rfl, rfl⟩
      exact ⟨rfl, fin.out⟩
    · have g0 : ((N : Int) == 0) = false := by simp; omega
      by_cases h16 : 16 < N
      · have g1 : decide ((16 : Int) < N) = true := decide_eq_true (by omega)
        have fin : Hid (AftR w w1 R s (.panicked (thrown 3))) := ⟨K1.out, .inr ⟨3, by unfold rRanges; rw [bind_ok hN.out, if_pos (.inr h16)]; rfl, by decide, rfl⟩⟩
        go_wp2_with fail
        refine (throw_yes _ _).mono ?_
        rintro e w2 ⟨rfl, rfl⟩
        exact ⟨rfl, fin.out⟩
      · have g1 : decide ((16 : Int) < N) = false := decide_eq_false (by omega)
        have hmk := fun w => mk_rgs N (by omega) w
        have hrr : Hid (rRanges (toL s) = rMany N (toL s1)) := by
          unfold Hid rRanges
          rw [bind_ok hN.out, if_neg (by omega)]
          rfl
        have al : Below w1.heap.size w1 (w1.alloc (.cells (rgs (zrs N)).toArray 67)) := (Below.refl _ _).alloc (Nat.le_refl _) _
        have K2 : Hid (Kept (fun k => k = R) w (w1.alloc (.cells (rgs (zrs N)).toArray 67))) := K1.out.add al
        have R2 : Hid (Rr (w1.alloc (.cells (rgs (zrs N)).toArray 67)) R s1) := R1.out.keep (by show 0 < 1; decide) al
        have L2 : Hid (Lies (w1.alloc (.cells (rgs (zrs N)).toArray 67)) w1.heap.size (rgs ([] ++ zrs (N - 0)))) := Lies.new w1 _ _
        have F2 : Hid (Sofar N s1 0 [] s1 0) := by
          unfold Hid Sofar
          rw [if_pos rfl, Nat.sub_zero]
          cases rMany N (toL s1) <;> rfl
        have sz : w.heap.size ≤ w1.heap.size := K1.out.size
        clear K1 R1 al hN
        go_wp2_with fail
        refine (throw_no _ _).mono ?_
        rintro e w2 ⟨rfl, rfl⟩
        go_wp2_with fail
        generalize w2.alloc (.cells (rgs (zrs N)).toArray 67) = w3 at *
        generalize w2.heap.size = B at *
        go_loopg [19] N (fun g' iv wr => ∃ (i : Nat) (m : List Rg) (s2 : ByteArray), i + g' = N ∧ iv = .int .i64 i ∧ m.length = i ∧ s2.size ≤ 9223372036854775807 ∧ Hid (Lies wr B (rgs (m ++ zrs (N - i)))) ∧ Hid (Rr wr R s2) ∧ Hid (Sofar N s1 i m s2 0) ∧ Hid (Kept (fun k => k = R) w wr))
        case atStart => exact ⟨0, [], s1, by omega, rfl, rfl, hs1, L2, R2, F2, K2⟩
        case round =>
          obtain ⟨i, m, s2, hi, rfl, hm, hs2, L, Rd', F, K⟩ := hrel
          clear K2 R2 L2 F2 hmk
          by_cases hlt : i < N
          · have gl : decide ((i : Int) < (N : Int)) = true := decide_eq_true (by omega)
            have ia := fun w' => at_rgs B 0 N N i w' hlt (i : Int) rfl (2 * i) (by omega)
            have T := t.out.kept K.out hR0.out
            have N2 : Hid _ := pnum_ok R s2 wr T Rd'.out hs2
            have len : (rgs (m ++ zrs (N - i))).length = 2 * N := by rw [rgs_len, List.length_append, zrs_len, hm]; omega
            replace len : Hid _ := len
            replace hm : Hid _ := hm
            clear T
            go_wp2_with fail
            refine Calls.mono N2.out ?_
            rintro e w4 (⟨hi', s3, e3, rfl, hw4⟩ | ⟨x, hx, hx0, rfl, rfl⟩)
            · have K4 : Kept (fun k => k = R) w w4 := by rw [hw4]; exact keptR wr R 0 _ K.out
              have R4 : Rr w4 R s3 := by rw [hw4]; exact Rr.put Rd'.out s3
              have L4 : Lies w4 B (rgs (m ++ zrs (N - i))) := by rw [hw4]; exact L.out.of_block (Below.heap_setCell _ _ _ _ (by show B ≠ R; omega))
              have hs3 : s3.size ≤ 9223372036854775807 := Nat.le_trans (size_of_int e3) hs2
              have f4 := L4.free (2 * i + 1) (by rw [len.out]; omega)
              have c4 := L4.cell (2 * i + 1) (List.getElem?_eq_getElem (by rw [len.out]; omega))
              have L5 : Lies (w4.setCell ⟨B, 2 * i + 1, none⟩ (.int .i64 hi')) B ((rgs (m ++ zrs (N - i))).set (2 * i + 1) (.int .i64 hi')) := L4.put (2 * i + 1) (by rw [len.out]; omega) _
              have R5 : Rr (w4.setCell ⟨B, 2 * i + 1, none⟩ (.int .i64 hi')) R s3 := R4.of_block (Below.heap_setCell _ _ _ _ (by show R ≠ B; omega))
              have K5 : Kept (fun k => k = R) w (w4.setCell ⟨B, 2 * i + 1, none⟩ (.int .i64 hi')) := ⟨K4.os, K4.tape, K4.output, by simpa using K4.size, fun k hk hf => (Below.heap_setCell _ _ _ _ (by show k ≠ B; omega)).trans (K4.block k hk hf)⟩
              generalize hw5 : w4.setCell ⟨B, 2 * i + 1, none⟩ (.int .i64 hi') = w5 at *
              have N5 : Hid _ := pnum_ok R s3 w5 (t.out.kept K5 hR0.out) R5 hs3
              replace L5 : Hid _ := L5
              replace R5 : Hid _ := R5
              replace K5 : Hid _ := K5
              replace e3 : Hid _ := e3
              clear hw4 K4 R4 L4 L Rd' K N2
              go_wp2_with fail
              clear hw5 f4 c4
              refine Calls.mono N5.out ?_
              rintro e w6 (⟨lo, s4, e4, rfl, hw6⟩ | ⟨x, hx, hx0, rfl, rfl⟩)
              · have K6 : Kept (fun k => k = R) w w6 := by rw [hw6]; exact keptR w5 R 0 _ K5.out
                have R6 : Rr w6 R s4 := by rw [hw6]; exact Rr.put R5.out s4
                have L6 : Lies w6 B ((rgs (m ++ zrs (N - i))).set (2 * i + 1) (.int .i64 hi')) := by rw [hw6]; exact L5.out.of_block (Below.heap_setCell _ _ _ _ (by show B ≠ R; omega))
                have hs4 : s4.size ≤ 9223372036854775807 := Nat.le_trans (size_of_int e4) hs3
                have f6 := L6.free (2 * i) (by rw [List.length_set, len.out]; omega)
                have c6 := L6.cell (2 * i) (List.getElem?_eq_getElem (by rw [List.length_set, len.out]; omega))
                have L7 : Hid (Lies (w6.setCell ⟨B, 2 * i, none⟩ (.int .i64 lo)) B (rgs ((m ++ [(lo, hi')]) ++ zrs (N - (i + 1))))) := by
                  have := L6.put (2 * i) (by rw [List.length_set, len.out]; omega) (.int .i64 lo)
                  rw [show zrs (N - i) = (0, 0) :: zrs (N - (i + 1)) by unfold zrs; rw [show N - i = N - (i + 1) + 1 by omega, List.replicate_succ]] at this
                  rw [← hm.out, rgs_set2, hm.out] at this
                  exact this
                have R7 : Hid (Rr (w6.setCell ⟨B, 2 * i, none⟩ (.int .i64 lo)) R s4) := R6.of_block (Below.heap_setCell _ _ _ _ (by show R ≠ B; omega))
                have K7 : Hid (Kept (fun k => k = R) w (w6.setCell ⟨B, 2 * i, none⟩ (.int .i64 lo))) := ⟨K6.os, K6.tape, K6.output, by simpa using K6.size, fun k hk hf => (Below.heap_setCell _ _ _ _ (by show k ≠ B; omega)).trans (K6.block k hk hf)⟩
                have F7 : Hid (Sofar N s1 (i + 1) (m ++ [(lo, hi')]) s4 0) := sofar_yes F.out hlt e3.out e4
                replace e4 : Hid _ := e4
                clear hw6 K6 R6 L6 K5 R5 L5 N5 F
                go_wp2
                go_roundg (N - (i + 1))
                case measure => omega
                case rel => exact ⟨i + 1, m ++ [(lo, hi')], s4, by omega, by go_num, by simp [hm.out], hs4, L7, R7, F7, K7⟩
              · exact ⟨rfl, K5.out, .inr ⟨x, by rw [hrr.out]; exact sofar_e2 F.out hlt e3.out hx, hx0, rfl⟩⟩
            · exact ⟨rfl, K.out, .inr ⟨x, by rw [hrr.out]; exact sofar_e1 F.out hlt hx, hx0, rfl⟩⟩
          · have gl : decide ((i : Int) < (N : Int)) = false := decide_eq_false (by omega)
            obtain rfl : i = N := by omega
            have fin : Hid (AftR w wr R s (.returned (.slice (some ⟨B, 0, none⟩) i i))) := by
              refine ⟨K.out, .inl ⟨m, s2, B, by rw [hrr.out]; exact sofar_all F.out, by rw [hm], sz, ?_, Rd'.out⟩⟩
              have := L.out
              rw [Nat.sub_self, show zrs 0 = [] from rfl, List.append_nil] at this
              exact this
            clear K L Rd' F hm hrr
            go_wp2
            go_ret
            exact fin.out
  · exact ⟨rfl, Kept.refl _ _, .inr ⟨x, by unfold rRanges Rd.bind; rw [int_err hx], hx0, rfl⟩⟩
end Go.Proofs.YtmngpkkpkjnejaaDoor
namespace Go.Proofs.YtmngpkkpkjnejaaDoor
set_option maxRecDepth 100000
open Go.RowKit Go.Sort

/-! ### A kind's fields, letter by letter -/
def rLt (g : Fr) : Lt → Rd Fr
  | .inl () => rInt.bind fun n => Rd.pure { g with id := n }
  | .inr (.inl ()) => rInt.bind fun n => Rd.pure { g with off := n }
  | .inr (.inr (.inl ())) => rFin.bind fun b => Rd.pure { g with fin := b }
  | .inr (.inr (.inr (.inl ()))) => rInt.bind fun n => Rd.pure { g with code := n }
  | .inr (.inr (.inr (.inr (.inl ())))) => rText.bind fun d => Rd.pure { g with data := d }
  | .inr (.inr (.inr (.inr (.inr ())))) => rRanges.bind fun l => Rd.pure { g with rg := l }
def rSeq : List Lt → Fr → Rd Fr
  | [], g => Rd.pure g
  | x :: l, g => (rLt g x).bind (rSeq l)
theorem bind_assoc {α β γ : Type} (p : Rd α) (q : α → Rd β) (r : β → Rd γ) : (p.bind q).bind r = p.bind fun a => (q a).bind r := by
  funext s
  unfold Rd.bind
  cases p s <;> rfl
theorem bind_err {α β : Type} {p : Rd α} {q : α → Rd β} {s : L} {x : Int} (h : p s = .error x) : p.bind q s = .error x := by unfold Rd.bind; rw [h]
theorem pure_bind {α β : Type} (a : α) (q : α → Rd β) : (Rd.pure a).bind q = q a := rfl
def fr00 (k : Int) : Fr := ⟨k, 0, 0, false, 0, [], []⟩
theorem fields_seq (k : Int) : rFields k = rSeq (fl k) (fr00 k) := by
  unfold rFields fl
  split
  · simp only [rSeq, rLt, bind_assoc, pure_bind]; rfl
  · split
    · simp only [rSeq, rLt, bind_assoc, pure_bind]; rfl
    · split
      · simp only [rSeq, rLt, bind_assoc, pure_bind]; rfl
      · split
        · simp only [rSeq, rLt, bind_assoc, pure_bind]; rfl
        · split
          · simp only [rSeq, rLt, bind_assoc, pure_bind]; rfl
          · split
            · simp only [rSeq, rLt, bind_assoc, pure_bind]; rfl
            · rfl
theorem seq_step {l : List Lt} {j : Nat} {x : Lt} (h : l[j]? = some x) (g : Fr) : rSeq (l.drop j) g = (rLt g x).bind (rSeq (l.drop (j + 1))) := by
  have hj : j < l.length := by
    rcases Nat.lt_or_ge j l.length with q | q
    · exact q
    · rw [List.getElem?_eq_none q] at h; cases h
  rw [List.getElem?_eq_getElem hj] at h
  injection h with h
  rw [List.drop_eq_getElem_cons hj, h]
  rfl
theorem good_size {α : Type} {p : Rd α} (hp : Good p) {s s' : ByteArray} {a : α} (h : p (toL s) = .ok (a, toL s')) : s'.size ≤ s.size := by
  obtain ⟨u, e, -, -⟩ := hp.ok _ _ _ h
  have := congrArg List.length e
  rw [List.length_append, toL_len, toL_len] at this
  omega
theorem many_in (n : Nat) : ∀ {s r : L} {l : List Rg}, rMany n s = .ok (l, r) → ∀ x ∈ l, (0 ≤ x.1 ∧ x.1 ≤ 4611686018427387903) ∧ 0 ≤ x.2 ∧ x.2 ≤ 4611686018427387903 := by
  induction n with
  | zero =>
    intro s r l h x hx
    have := (pure_back h).1
    subst this
    cases hx
  | succ n ih =>
    intro s r l h x hx
    obtain ⟨a, r1, h1, h⟩ := bind_back h
    obtain ⟨b, r2, h2, h⟩ := bind_back h
    obtain ⟨m, r3, h3, h⟩ := bind_back h
    have := (pure_back h).1
    subst this
    rcases List.mem_cons.1 hx with rfl | hx
    · exact ⟨(int_back h2).1, (int_back h1).1⟩
    · exact ih h3 x hx
theorem ranges_in {s r : L} {l : List Rg} (h : rRanges s = .ok (l, r)) : ∀ x ∈ l, (0 ≤ x.1 ∧ x.1 ≤ 4611686018427387903) ∧ 0 ≤ x.2 ∧ x.2 ≤ 4611686018427387903 := by
  obtain ⟨n, t, -, h⟩ := bind_back h
  obtain ⟨u, t2, -, h⟩ := bind_back h
  exact many_in n h
/-- What a frame that is read can be, so far. -/
structure Gb (g : Fr) : Prop where
  data : g.data.length < 1099511627776
  rgl : g.rg.length ≤ 16
  rg : ∀ x ∈ g.rg, (0 ≤ x.1 ∧ x.1 ≤ 4611686018427387903) ∧ 0 ≤ x.2 ∧ x.2 ≤ 4611686018427387903

/-! ### The walk's own book -/
def zc : List Value := [.int .i64 0, .int .i64 0, .int .i64 0, .bool false, .int .i64 0, .string ⟨#[]⟩, .slice none 0 0]
structure Fs (w wr : World) (R : Nat) (s : ByteArray) (l : List Lt) (j : Nat) (g : Fr) (d : ByteArray) (a : Option Addr) (cp : Nat) : Prop where
  rr : Rr wr R s
  z : Lies wr w.heap.size zc
  bi : Bi wr (w.heap.size + 1) (w.heap.size + 2) l j (fc g d (.slice a g.rg.length cp))
  dat : toL d = g.data
  rg : RgAt wr (.slice a g.rg.length cp) g.rg
  new : ∀ p, a = some p → w.heap.size + 2 < p.block
  kp : Kept (fun k => k = R) w wr
  hR : R < w.heap.size
theorem Fs.of {w wr w' : World} {R : Nat} {s s' : ByteArray} {l : List Lt} {j : Nat} {g : Fr} {d : ByteArray} {a : Option Addr} {cp : Nat} (h : Fs w wr R s l j g d a cp) (k : Kept (fun k => k = R) wr w') (r : Rr w' R s') : Fs w w' R s' l j g d a cp := by
  have hR := h.hR
  have lz : w.heap.size < wr.heap.size := h.z.lt (by show 0 < 7; decide)
  have lb : w.heap.size + 1 < wr.heap.size := h.bi.box.lt (by show 0 < 7; decide)
  have li := heap_lt h.bi.it
  refine ⟨r, h.z.of_block (k.block _ lz (by omega)), h.bi.of (k.block _ lb (by omega)) (k.block _ li (by omega)), h.dat, h.rg.move fun hl p hp => ?_, h.new, h.kp.trans k, hR⟩
  obtain ⟨g', o', e, hg⟩ := h.rg.lt hl
  have := h.new p hp
  rw [hp] at e
  injection e with e
  subst e
  exact k.block _ hg (by show ¬ g' = R; simp at this; omega)
theorem Fs.put {w wr : World} {R : Nat} {s : ByteArray} {l : List Lt} {j : Nat} {g : Fr} {d : ByteArray} {a : Option Addr} {cp : Nat} (h : Fs w wr R s l j g d a cp) (s' : ByteArray) : Fs w (wr.setCell ⟨R, 0, none⟩ (.string s')) R s' l j g d a cp :=
  h.of (keptR wr R 0 _ (Kept.refl _ wr)) (Rr.put h.rr s')
theorem Fs.next {w wr : World} {R : Nat} {s : ByteArray} {l : List Lt} {j : Nat} {g : Fr} {d : ByteArray} {a : Option Addr} {cp : Nat} (h : Fs w wr R s l j g d a cp) : Fs w (itW wr (w.heap.size + 2) (lts l) (j + 1)) R s l (j + 1) g d a cp := by
  have hR := h.hR
  refine ⟨h.rr.of_block (itW_other (by omega)), h.z.of_block (itW_other (by omega)), h.bi.next, h.dat, h.rg.move fun hl p hp => itW_other (by have := h.new p hp; omega), h.new, ⟨h.kp.os, h.kp.tape, h.kp.output, by rw [itW_size]; exact h.kp.size, fun k hk hf => (itW_other (by omega)).trans (h.kp.block k hk hf)⟩, hR⟩
theorem Fs.store {w wr : World} {R : Nat} {s : ByteArray} {l : List Lt} {j : Nat} {g g' : Fr} {d d' : ByteArray} {a a' : Option Addr} {cp cp' : Nat} (h : Fs w wr R s l j g d a cp) (k : Nat) (hk : k < 7) (v : Value) (e : (fc g d (.slice a g.rg.length cp)).set k v = fc g' d' (.slice a' g'.rg.length cp')) (hd : toL d' = g'.data) (hr : RgAt wr (.slice a' g'.rg.length cp') g'.rg) (hn : ∀ p, a' = some p → w.heap.size + 2 < p.block) :
    Fs w (wr.setCell ⟨w.heap.size + 1, k, none⟩ v) R s l j g' d' a' cp' := by
  have hR := h.hR
  have ot : ∀ q, q ≠ w.heap.size + 1 → (wr.setCell ⟨w.heap.size + 1, k, none⟩ v).heap[q]? = wr.heap[q]? := fun q hq => Below.heap_setCell _ _ _ _ hq
  exact ⟨h.rr.of_block (ot _ (by omega)), h.z.of_block (ot _ (by omega)), h.bi.put k hk v e, hd, hr.move fun hl p hp => ot _ (by have := hn p hp; omega), hn, ⟨h.kp.os, h.kp.tape, h.kp.output, by simpa using h.kp.size, fun q hq hf => (ot _ (by omega)).trans (h.kp.block q hq hf)⟩, hR⟩
/-- The frame is put into the result. -/
theorem Fs.out {w wr : World} {R : Nat} {s : ByteArray} {l : List Lt} {j : Nat} {f : Fr} {d : ByteArray} {a : Option Addr} {cp : Nat} (h : Fs w wr R s l j f d a cp) (W : World) (ho : W.os = wr.os) (ht : W.tape = wr.tape) (hp : W.output = wr.output) (hz : W.heap.size = wr.heap.size) (hk : ∀ k, k ≠ w.heap.size → W.heap[k]? = wr.heap[k]?) :
    Kept (fun k => k = R) w W ∧ RgAt W (.slice a f.rg.length cp) f.rg ∧ Rr W R s := by
  have hR := h.hR
  exact ⟨⟨ho.trans h.kp.os, ht.trans h.kp.tape, hp.trans h.kp.output, by rw [hz]; exact h.kp.size, fun k hk' hf => (hk k (by omega)).trans (h.kp.block k hk' hf)⟩, h.rg.move fun hl p hp => hk _ (by have := h.new p hp; omega), h.rr.of_block (hk _ (by omega))⟩
def set7w (W : World) (C : Nat) (a b c d e f g : Value) : World := ((((((W.setCell ⟨C, 0, none⟩ a).setCell ⟨C, 1, none⟩ b).setCell ⟨C, 2, none⟩ c).setCell ⟨C, 3, none⟩ d).setCell ⟨C, 4, none⟩ e).setCell ⟨C, 5, none⟩ f).setCell ⟨C, 6, none⟩ g
theorem set7w_kept (W : World) (C : Nat) (a b c d e f g : Value) : Kept (fun k => k = C) W (set7w W C a b c d e f g) :=
  keptR _ C 6 _ (keptR _ C 5 _ (keptR _ C 4 _ (keptR _ C 3 _ (keptR _ C 2 _ (keptR _ C 1 _ (keptR _ C 0 _ (Kept.refl _ W)))))))
theorem set7w_size (W : World) (C : Nat) (a b c d e f g : Value) : (set7w W C a b c d e f g).heap.size = W.heap.size := by simp [set7w]
theorem set7w_other (W : World) (C : Nat) (a b c d e f g : Value) (k : Nat) (hk : k ≠ C) : (set7w W C a b c d e f g).heap[k]? = W.heap[k]? :=
  (Below.heap_setCell _ _ _ _ hk).trans ((Below.heap_setCell _ _ _ _ hk).trans ((Below.heap_setCell _ _ _ _ hk).trans ((Below.heap_setCell _ _ _ _ hk).trans ((Below.heap_setCell _ _ _ _ hk).trans ((Below.heap_setCell _ _ _ _ hk).trans (Below.heap_setCell _ _ _ _ hk))))))
/-- What a frame comes to. -/
def AftF (w w' : World) (R : Nat) (s : ByteArray) (e : Ending) : Prop :=
  Kept (fun k => k = R) w w' ∧ ((∃ f s' v, rFrame (toL s) = .ok (f, toL s') ∧ e = .returned v ∧ FrNew w w' v f ∧ Rr w' R s') ∨
    (∃ x, rFrame (toL s) = .error x ∧ x ≠ 0 ∧ e = .panicked (thrown x)))
theorem fs_fin {w wr : World} {R : Nat} {s : ByteArray} {l : List Lt} {j : Nat} {f : Fr} {d : ByteArray} {a : Option Addr} {cp : Nat} (h : Fs w wr R s l j f d a cp) {s0 : ByteArray} (hf : rFrame (toL s0) = .ok (f, toL s)) (v0 v1 v2 v3 v4 v5 v6 : Value) :
    AftF w (set7w wr w.heap.size v0 v1 v2 v3 v4 v5 v6) R s0 (.returned (frV f d (.slice a f.rg.length cp))) := by
  obtain ⟨o1, o2, o3⟩ := h.out (set7w wr w.heap.size v0 v1 v2 v3 v4 v5 v6) (set7w_kept ..).os (set7w_kept ..).tape (set7w_kept ..).output (set7w_size ..) (fun k hk => set7w_other _ _ _ _ _ _ _ _ _ k hk)
  exact ⟨o1, .inl ⟨f, s, _, hf, rfl, ⟨d, a, cp, rfl, h.dat, o2, fun p hp => by have := h.new p hp; omega⟩, o3⟩⟩
set_option maxHeartbeats 8000000 in
theorem pframe_ok (R : Nat) (s : ByteArray) (w : World) (t : VTab w) (hR0 : 0 ≠ R) (h : Rr w R s) (hs : s.size < 1099511627776) :
    Calls Tryd.prog 47 #[.pointer (some ⟨R, 0, none⟩)] w fun e w' => AftF w w' R s e := by
  have hR : R < w.heap.size := h.lt
  have al : Below w.heap.size w (w.alloc (.cells #[.int .i64 0, .int .i64 0, .int .i64 0, .bool false, .int .i64 0, .string ⟨#[]⟩, .slice none 0 0] 24)) := (Below.refl _ _).alloc (Nat.le_refl _) _
  have h1 : Rr (w.alloc (.cells #[.int .i64 0, .int .i64 0, .int .i64 0, .bool false, .int .i64 0, .string ⟨#[]⟩, .slice none 0 0] 24)) R s := Lies.keep h (by show 0 < 1; decide) al
  have N0 : Hid _ := pnum_ok R s (w.alloc (.cells #[.int .i64 0, .int .i64 0, .int .i64 0, .bool false, .int .i64 0, .string ⟨#[]⟩, .slice none 0 0] 24)) (t.below al) h1 (by omega)
  have K0 : Hid (Kept (fun k => k = R) w (w.alloc (.cells #[.int .i64 0, .int .i64 0, .int .i64 0, .bool false, .int .i64 0, .string ⟨#[]⟩, .slice none 0 0] 24))) := .of _ al
  have z0 : Hid (Lies (w.alloc (.cells #[.int .i64 0, .int .i64 0, .int .i64 0, .bool false, .int .i64 0, .string ⟨#[]⟩, .slice none 0 0] 24)) w.heap.size zc) := Lies.new w zc 24
  have sz : (w.alloc (.cells #[.int .i64 0, .int .i64 0, .int .i64 0, .bool false, .int .i64 0, .string ⟨#[]⟩, .slice none 0 0] 24)).heap.size = w.heap.size + 1 := by simp
  replace sz : Hid _ := sz
  replace t : Hid _ := t
  replace hR0 : Hid _ := hR0
  replace h1 : Hid _ := h1
  clear al h
  go_enter Tryd.func47, Tryd.ntmps47
  go_wp2_with fail
  generalize w.alloc (.cells #[.int .i64 0, .int .i64 0, .int .i64 0, .bool false, .int .i64 0, .string ⟨#[]⟩, .slice none 0 0] 24) = w0 at *
  refine Calls.mono N0.out ?_
  rintro e w1 (⟨kd, s1, hn, rfl, hw1⟩ | ⟨x, hx, hx0, rfl, rfl⟩)
  · have K1 : Kept (fun k => k = R) w w1 := by rw [hw1]; exact keptR w0 R 0 _ K0.out
    have R1 : Rr w1 R s1 := by rw [hw1]; exact Rr.put h1.out s1
    have z1 : Lies w1 w.heap.size zc := by rw [hw1]; exact z0.out.of_block (Below.heap_setCell _ _ _ _ (by show w.heap.size ≠ R; omega))
    have sz1 : w1.heap.size = w.heap.size + 1 := by rw [hw1]; simpa using sz.out
    have hs1 := size_of_int hn
    have FO : Hid (∀ w, Calls Tryd.prog 22 #[.int .i64 kd] w fun e w' => e = .returned (.tuple #[.string (lts (fl kd)), .bool (kindB kd)]) ∧ w' = w) := fun w => fieldsOf_ok kd w
    replace hn : Hid _ := hn
    clear hw1 N0 h1 K0 z0 sz
    cases hb : kindB kd
    · rw [hb] at FO
      have fin : Hid (AftF w w1 R s (.panicked (thrown 5))) := ⟨K1, .inr ⟨5, frame_bad hn.out hb, by decide, rfl⟩⟩
      clear K1 R1 z1 hn hb
      replace sz1 : Hid _ := sz1
      go_wp2_with fail
      refine Calls.mono (FO.out _) ?_
      rintro _ w2 ⟨rfl, rfl⟩
      go_wp2_with fail
      refine (throw_yes _ _).mono ?_
      rintro e w3 ⟨rfl, rfl⟩
      exact ⟨rfl, fin.out⟩
    · rw [hb] at FO
      have fr : Hid (rFrame (toL s) = ((rSeq (fl kd) (fr00 kd)).bind fun f => (Rd.test (chkF f)).bind fun _ => Rd.pure f) (toL s1)) := by
        rw [Hid, ← fields_seq]
        unfold rFrame
        rw [bind_ok hn.out, hb]
        rfl
      have al2 : Below w1.heap.size w1 ((w1.alloc (.cells #[.int .i64 kd, .int .i64 0, .int .i64 0, .bool false, .int .i64 0, .string ⟨#[]⟩, .slice none 0 0] 24)).iter (lts (fl kd)) 0) := ((Below.refl _ _).alloc (Nat.le_refl _) _).alloc (by simp) _
      have S0 : Hid (Fs w ((w1.alloc (.cells #[.int .i64 kd, .int .i64 0, .int .i64 0, .bool false, .int .i64 0, .string ⟨#[]⟩, .slice none 0 0] 24)).iter (lts (fl kd)) 0) R s1 (fl kd) 0 (fr00 kd) ⟨#[]⟩ none 0) := by
        have e1 : (w1.alloc (.cells #[.int .i64 kd, .int .i64 0, .int .i64 0, .bool false, .int .i64 0, .string ⟨#[]⟩, .slice none 0 0] 24)).heap.size = w.heap.size + 2 := by simp; omega
        have b1 := Lies.new w1 (fc (fr00 kd) ⟨#[]⟩ (.slice none 0 0)) 24
        rw [sz1] at b1
        refine ⟨Lies.keep R1 (by show 0 < 1; decide) al2, z1.keep (by show 0 < 7; decide) al2, ⟨b1.of_block (((Below.refl _ _).alloc (Nat.le_refl _) _).block _ (by rw [e1]; omega)), ?_, by omega⟩, rfl, rgAt_nil _, (fun p hp => by cases hp), K1.add al2, hR⟩
        have := World.iter_heap (w1.alloc (.cells #[.int .i64 kd, .int .i64 0, .int .i64 0, .bool false, .int .i64 0, .string ⟨#[]⟩, .slice none 0 0] 24)) (lts (fl kd)) 0
        rw [e1] at this
        exact this
      clear al2 K1 R1 z1 hn hb
      go_wp2_with fail
      refine Calls.mono (FO.out _) ?_
      rintro _ w2 ⟨rfl, rfl⟩
      go_wp2_with fail
      refine (throw_no _ _).mono ?_
      rintro e w3 ⟨rfl, rfl⟩
      clear FO
      go_wp2_with fail
      replace sz1 : Hid _ := sz1
      generalize (w3.alloc (.cells #[.int .i64 kd, .int .i64 0, .int .i64 0, .bool false, .int .i64 0, .string ⟨#[]⟩, .slice none 0 0] 24)).iter (lts (fl kd)) 0 = w4 at *
      go_loopg [] (fl kd).length (fun g' wr => ∃ (j : Nat) (g : Fr) (s2 d1 : ByteArray) (a1 : Option Addr) (c1 : Nat), j + g' = (fl kd).length ∧ s2.size ≤ 9223372036854775807 ∧ Hid (s2.size < 1099511627776) ∧ Hid (Fs w wr R s2 (fl kd) j g d1 a1 c1) ∧ Hid (Gb g) ∧ Hid (rSeq (fl kd) (fr00 kd) (toL s1) = rSeq ((fl kd).drop j) g (toL s2)))
      case atStart => exact ⟨0, fr00 kd, s1, ⟨#[]⟩, none, 0, by omega, by omega, by unfold Hid; omega, S0, ⟨by show 0 < _; decide, by show 0 ≤ _; decide, fun x hx => by cases hx⟩, rfl⟩
      case round =>
        obtain ⟨j, g, s2, d1, a1, c1, hj, hs2, hs2b, F, G2, sq⟩ := hrel
        clear S0
        rcases Nat.lt_or_ge j (fl kd).length with hlt | hge
        · have hx : (fl kd)[j]? = some (fl kd)[j] := List.getElem?_eq_getElem hlt
          have F2 := F.out.next
          have hnx0 := fun ty => next_at (P := Tryd.prog) wr (w.heap.size + 2) (fl kd) j (fl kd)[j] ty F.out.bi.it hx
          replace hj : Hid _ := hj
          clear F
          generalize itW wr (w.heap.size + 2) (lts (fl kd)) (j + 1) = w2 at *
          generalize (fl kd)[j] = x at *
          replace hx : Hid _ := hx
          replace F2 : Hid _ := F2
          rcases x with ⟨⟨⟩⟩ | ⟨⟨⟩⟩ | ⟨⟨⟩⟩ | ⟨⟨⟩⟩ | ⟨⟨⟩⟩ | ⟨⟨⟩⟩
          · have hnx : ∀ ty, _ := fun ty => hnx0 ty
            simp only [Lt.n] at hnx
            clear hnx0
            have C : Hid _ := pnum_ok R s2 w2 (t.out.kept F2.out.kp hR0.out) F2.out.rr hs2
            go_wp2_with fail
            refine Calls.mono C.out ?_
            rintro e w3 (⟨y, s3, hy, rfl, hw3⟩ | ⟨z, hz, hz0, rfl, rfl⟩)
            · have F3 : Fs w w3 R s3 (fl kd) (j + 1) g d1 a1 c1 := by rw [hw3]; exact F2.out.put s3
              have hs3 := good_size good_int hy
              have sq3 : Hid (rSeq (fl kd) (fr00 kd) (toL s1) = rSeq ((fl kd).drop (j + 1)) { g with id := y } (toL s3)) := by
                rw [Hid, sq.out, seq_step hx.out g]
                have e : rLt g Lt.i (toL s2) = .ok ({ g with id := y }, toL s3) := (bind_ok hy).trans rfl
                exact bind_ok e
              have G3 : Hid (Gb { g with id := y }) := ⟨G2.out.data, G2.out.rgl, G2.out.rg⟩
              have f3 := F3.bi.box.free 1 (by show 1 < 7; decide)
              have c3 := F3.bi.box.cell 1 (v := .int .i64 g.id) rfl
              have F4 : Hid (Fs w (w3.setCell ⟨w.heap.size + 1, 1, none⟩ (.int .i64 y)) R s3 (fl kd) (j + 1) { g with id := y } d1 a1 c1) := F3.store 1 (by decide) _ rfl F3.dat F3.rg F3.new
              clear hw3 F3 F2 G2 sq C hy
              go_wp2
              go_roundg ((fl kd).length - (j + 1))
              case measure => have := hj.out; omega
              case rel => exact ⟨j + 1, _, s3, d1, a1, c1, by have := hj.out; omega, by omega, by unfold Hid; have := hs2b.out; omega, F4, G3, sq3⟩
            · refine ⟨rfl, F2.out.kp, .inr ⟨z, ?_, hz0, rfl⟩⟩
              rw [fr.out]
              exact bind_err (by rw [sq.out, seq_step hx.out g]; exact bind_err (bind_err hz))
          · have hnx : ∀ ty, _ := fun ty => hnx0 ty
            simp only [Lt.n] at hnx
            clear hnx0
            have C : Hid _ := pnum_ok R s2 w2 (t.out.kept F2.out.kp hR0.out) F2.out.rr hs2
            go_wp2_with fail
            refine Calls.mono C.out ?_
            rintro e w3 (⟨y, s3, hy, rfl, hw3⟩ | ⟨z, hz, hz0, rfl, rfl⟩)
            · have F3 : Fs w w3 R s3 (fl kd) (j + 1) g d1 a1 c1 := by rw [hw3]; exact F2.out.put s3
              have hs3 := good_size good_int hy
              have sq3 : Hid (rSeq (fl kd) (fr00 kd) (toL s1) = rSeq ((fl kd).drop (j + 1)) { g with off := y } (toL s3)) := by
                rw [Hid, sq.out, seq_step hx.out g]
                have e : rLt g Lt.o (toL s2) = .ok ({ g with off := y }, toL s3) := (bind_ok hy).trans rfl
                exact bind_ok e
              have G3 : Hid (Gb { g with off := y }) := ⟨G2.out.data, G2.out.rgl, G2.out.rg⟩
              have f3 := F3.bi.box.free 2 (by show 2 < 7; decide)
              have c3 := F3.bi.box.cell 2 (v := .int .i64 g.off) rfl
              have F4 : Hid (Fs w (w3.setCell ⟨w.heap.size + 1, 2, none⟩ (.int .i64 y)) R s3 (fl kd) (j + 1) { g with off := y } d1 a1 c1) := F3.store 2 (by decide) _ rfl F3.dat F3.rg F3.new
              clear hw3 F3 F2 G2 sq C hy
              go_wp2
              go_roundg ((fl kd).length - (j + 1))
              case measure => have := hj.out; omega
              case rel => exact ⟨j + 1, _, s3, d1, a1, c1, by have := hj.out; omega, by omega, by unfold Hid; have := hs2b.out; omega, F4, G3, sq3⟩
            · refine ⟨rfl, F2.out.kp, .inr ⟨z, ?_, hz0, rfl⟩⟩
              rw [fr.out]
              exact bind_err (by rw [sq.out, seq_step hx.out g]; exact bind_err (bind_err hz))
          · have hnx : ∀ ty, _ := fun ty => hnx0 ty
            simp only [Lt.n] at hnx
            clear hnx0
            have C : Hid _ := pflag_ok R s2 w2 F2.out.rr hs2
            go_wp2_with fail
            refine Calls.mono C.out ?_
            rintro e w3 (⟨y, s3, hy, rfl, hw3⟩ | ⟨z, hz, hz0, rfl, rfl⟩)
            · have F3 : Fs w w3 R s3 (fl kd) (j + 1) g d1 a1 c1 := by rw [hw3]; exact F2.out.put s3
              have hs3 := good_size good_fin hy
              have sq3 : Hid (rSeq (fl kd) (fr00 kd) (toL s1) = rSeq ((fl kd).drop (j + 1)) { g with fin := y } (toL s3)) := by
                rw [Hid, sq.out, seq_step hx.out g]
                have e : rLt g Lt.f (toL s2) = .ok ({ g with fin := y }, toL s3) := (bind_ok hy).trans rfl
                exact bind_ok e
              have G3 : Hid (Gb { g with fin := y }) := ⟨G2.out.data, G2.out.rgl, G2.out.rg⟩
              have f3 := F3.bi.box.free 3 (by show 3 < 7; decide)
              have c3 := F3.bi.box.cell 3 (v := .bool g.fin) rfl
              have F4 : Hid (Fs w (w3.setCell ⟨w.heap.size + 1, 3, none⟩ (.bool y)) R s3 (fl kd) (j + 1) { g with fin := y } d1 a1 c1) := F3.store 3 (by decide) _ rfl F3.dat F3.rg F3.new
              clear hw3 F3 F2 G2 sq C hy
              go_wp2
              go_roundg ((fl kd).length - (j + 1))
              case measure => have := hj.out; omega
              case rel => exact ⟨j + 1, _, s3, d1, a1, c1, by have := hj.out; omega, by omega, by unfold Hid; have := hs2b.out; omega, F4, G3, sq3⟩
            · refine ⟨rfl, F2.out.kp, .inr ⟨z, ?_, hz0, rfl⟩⟩
              rw [fr.out]
              exact bind_err (by rw [sq.out, seq_step hx.out g]; exact bind_err (bind_err hz))
          · have hnx : ∀ ty, _ := fun ty => hnx0 ty
            simp only [Lt.n] at hnx
            clear hnx0
            have C : Hid _ := pnum_ok R s2 w2 (t.out.kept F2.out.kp hR0.out) F2.out.rr hs2
            go_wp2_with fail
            refine Calls.mono C.out ?_
            rintro e w3 (⟨y, s3, hy, rfl, hw3⟩ | ⟨z, hz, hz0, rfl, rfl⟩)
            · have F3 : Fs w w3 R s3 (fl kd) (j + 1) g d1 a1 c1 := by rw [hw3]; exact F2.out.put s3
              have hs3 := good_size good_int hy
              have sq3 : Hid (rSeq (fl kd) (fr00 kd) (toL s1) = rSeq ((fl kd).drop (j + 1)) { g with code := y } (toL s3)) := by
                rw [Hid, sq.out, seq_step hx.out g]
                have e : rLt g Lt.c (toL s2) = .ok ({ g with code := y }, toL s3) := (bind_ok hy).trans rfl
                exact bind_ok e
              have G3 : Hid (Gb { g with code := y }) := ⟨G2.out.data, G2.out.rgl, G2.out.rg⟩
              have f3 := F3.bi.box.free 4 (by show 4 < 7; decide)
              have c3 := F3.bi.box.cell 4 (v := .int .i64 g.code) rfl
              have F4 : Hid (Fs w (w3.setCell ⟨w.heap.size + 1, 4, none⟩ (.int .i64 y)) R s3 (fl kd) (j + 1) { g with code := y } d1 a1 c1) := F3.store 4 (by decide) _ rfl F3.dat F3.rg F3.new
              clear hw3 F3 F2 G2 sq C hy
              go_wp2
              go_roundg ((fl kd).length - (j + 1))
              case measure => have := hj.out; omega
              case rel => exact ⟨j + 1, _, s3, d1, a1, c1, by have := hj.out; omega, by omega, by unfold Hid; have := hs2b.out; omega, F4, G3, sq3⟩
            · refine ⟨rfl, F2.out.kp, .inr ⟨z, ?_, hz0, rfl⟩⟩
              rw [fr.out]
              exact bind_err (by rw [sq.out, seq_step hx.out g]; exact bind_err (bind_err hz))
          · have hnx : ∀ ty, _ := fun ty => hnx0 ty
            simp only [Lt.n] at hnx
            clear hnx0
            have C : Hid _ := pdata_ok R s2 w2 (t.out.kept F2.out.kp hR0.out) F2.out.rr hs2
            go_wp2_with fail
            refine Calls.mono C.out ?_
            rintro e w3 (⟨y, s3, hy, rfl, hw3⟩ | ⟨z, hz, hz0, rfl, rfl⟩)
            · have F3 : Fs w w3 R s3 (fl kd) (j + 1) g d1 a1 c1 := by rw [hw3]; exact F2.out.put s3
              have hs3 := good_size good_text hy
              have sq3 : Hid (rSeq (fl kd) (fr00 kd) (toL s1) = rSeq ((fl kd).drop (j + 1)) { g with data := y } (toL s3)) := by
                rw [Hid, sq.out, seq_step hx.out g]
                have e : rLt g Lt.d (toL s2) = .ok ({ g with data := y }, toL s3) := (bind_ok hy).trans rfl
                exact bind_ok e
              have G3 : Hid (Gb { g with data := y }) := ⟨by have := text_back hy; rw [toL_len, toL_len, List.length_append] at this; show y.length < _; have := hs2b.out; omega, G2.out.rgl, G2.out.rg⟩
              have f3 := F3.bi.box.free 5 (by show 5 < 7; decide)
              have c3 := F3.bi.box.cell 5 (v := .string d1) rfl
              have F4 : Hid (Fs w (w3.setCell ⟨w.heap.size + 1, 5, none⟩ (.string ⟨y.toArray⟩)) R s3 (fl kd) (j + 1) { g with data := y } ⟨y.toArray⟩ a1 c1) := F3.store 5 (by decide) _ rfl rfl F3.rg F3.new
              clear hw3 F3 F2 G2 sq C hy
              go_wp2
              go_roundg ((fl kd).length - (j + 1))
              case measure => have := hj.out; omega
              case rel => exact ⟨j + 1, _, s3, ⟨y.toArray⟩, a1, c1, by have := hj.out; omega, by omega, by unfold Hid; have := hs2b.out; omega, F4, G3, sq3⟩
            · refine ⟨rfl, F2.out.kp, .inr ⟨z, ?_, hz0, rfl⟩⟩
              rw [fr.out]
              exact bind_err (by rw [sq.out, seq_step hx.out g]; exact bind_err (bind_err hz))
          · have hnx : ∀ ty, _ := fun ty => hnx0 ty
            simp only [Lt.n] at hnx
            clear hnx0
            have C : Hid _ := pranges_ok R s2 w2 (t.out.kept F2.out.kp hR0.out) hR0.out F2.out.rr hs2
            go_wp2_with fail
            refine Calls.mono C.out ?_
            rintro e w3 ⟨k3, ⟨y, s3, B, hy, rfl, hB, hL, hr3⟩ | ⟨z, hz, hz0, rfl⟩⟩
            · have F3 : Fs w w3 R s3 (fl kd) (j + 1) g d1 a1 c1 := F2.out.of k3 hr3
              have hs3 := good_size good_ranges hy
              have hI := heap_lt F2.out.bi.it
              have sq3 : Hid (rSeq (fl kd) (fr00 kd) (toL s1) = rSeq ((fl kd).drop (j + 1)) { g with rg := y } (toL s3)) := by
                rw [Hid, sq.out, seq_step hx.out g]
                have e : rLt g Lt.r (toL s2) = .ok ({ g with rg := y }, toL s3) := (bind_ok hy).trans rfl
                exact bind_ok e
              have G3 : Hid (Gb { g with rg := y }) := ⟨G2.out.data, ranges_len hy, ranges_in hy⟩
              have f3 := F3.bi.box.free 6 (by show 6 < 7; decide)
              have c3 := F3.bi.box.cell 6 (v := .slice a1 g.rg.length c1) rfl
              have F4 : Hid (Fs w (w3.setCell ⟨w.heap.size + 1, 6, none⟩ (.slice (some ⟨B, 0, none⟩) y.length y.length)) R s3 (fl kd) (j + 1) { g with rg := y } d1 (some ⟨B, 0, none⟩) y.length) := F3.store 6 (by decide) _ rfl F3.dat (lies_rgAt hL _) (fun p hp => by injection hp with hp; subst hp; show _ < B; omega)
              clear k3 hB hL hr3 F3 F2 G2 sq C hy hI
              go_wp2
              go_roundg ((fl kd).length - (j + 1))
              case measure => have := hj.out; omega
              case rel => exact ⟨j + 1, _, s3, d1, some ⟨B, 0, none⟩, y.length, by have := hj.out; omega, by omega, by unfold Hid; have := hs2b.out; omega, F4, G3, sq3⟩
            · refine ⟨rfl, F2.out.kp.trans k3, .inr ⟨z, ?_, hz0, rfl⟩⟩
              rw [fr.out]
              exact bind_err (by rw [sq.out, seq_step hx.out g]; exact bind_err (bind_err hz))
        · obtain rfl : j = (fl kd).length := by omega
          have hnx := fun ty => next_end (P := Tryd.prog) wr (w.heap.size + 2) (fl kd) ty F.out.bi.it
          have sq9 : Hid (rSeq (fl kd) (fr00 kd) (toL s1) = .ok (g, toL s2)) := by
            rw [Hid, sq.out, List.drop_length]
            rfl
          have CK : Hid (Calls Tryd.prog 9 #[.agg #[.int .i64 g.kind, .int .i64 g.id, .int .i64 g.off, .bool g.fin, .int .i64 g.code, .string d1, .slice a1 g.rg.length c1]] wr fun e w' => e = .returned (.int .i64 (chkF g)) ∧ Below wr.heap.size wr w') := fcheck_own ⟨d1, a1, c1, rfl, F.out.dat, F.out.rg⟩ (by have := G2.out.data; omega) (by have := G2.out.rgl; omega) (fun x hx => by have := G2.out.rg x hx; omega)
          have q0 := F.out.bi.box.cell 0 (v := .int .i64 g.kind) rfl
          have q1 := F.out.bi.box.cell 1 (v := .int .i64 g.id) rfl
          have q2 := F.out.bi.box.cell 2 (v := .int .i64 g.off) rfl
          have q3 := F.out.bi.box.cell 3 (v := .bool g.fin) rfl
          have q4 := F.out.bi.box.cell 4 (v := .int .i64 g.code) rfl
          have q5 := F.out.bi.box.cell 5 (v := .string d1) rfl
          have q6 := F.out.bi.box.cell 6 (v := .slice a1 g.rg.length c1) rfl
          clear sq hj hge G2
          go_wp2_with fail
          refine Calls.mono CK.out ?_
          rintro _ w5 ⟨rfl, b5⟩
          have F5 : Fs w w5 R s2 (fl kd) (fl kd).length g d1 a1 c1 := F.out.of (.of _ b5) (Lies.keep F.out.rr (by show 0 < 1; decide) b5)
          clear b5 CK F q0 q1 q2 q3 q4 q5 q6 hnx
          by_cases hc : chkF g = 0
          · have fin : Hid (rFrame (toL s) = .ok (g, toL s2)) := by
              rw [Hid, fr.out, bind_ok sq9.out, hc]
              rfl
            rw [hc]
            clear hc sq9 fr
            have q0 := F5.bi.box.cell 0 (v := .int .i64 g.kind) rfl
            have q1 := F5.bi.box.cell 1 (v := .int .i64 g.id) rfl
            have q2 := F5.bi.box.cell 2 (v := .int .i64 g.off) rfl
            have q3 := F5.bi.box.cell 3 (v := .bool g.fin) rfl
            have q4 := F5.bi.box.cell 4 (v := .int .i64 g.code) rfl
            have q5 := F5.bi.box.cell 5 (v := .string d1) rfl
            have q6 := F5.bi.box.cell 6 (v := .slice a1 g.rg.length c1) rfl
            have Y := F5.z
            have y0 := Y.cell 0 (v := .int .i64 0) rfl
            have v0 := Y.free 0 (by show 0 < 7; decide)
            have y1 := Y.cell 1 (v := .int .i64 0) rfl
            have v1 := Y.free 1 (by show 1 < 7; decide)
            have y2 := Y.cell 2 (v := .int .i64 0) rfl
            have v2 := Y.free 2 (by show 2 < 7; decide)
            have y3 := Y.cell 3 (v := .bool false) rfl
            have v3 := Y.free 3 (by show 3 < 7; decide)
            have y4 := Y.cell 4 (v := .int .i64 0) rfl
            have v4 := Y.free 4 (by show 4 < 7; decide)
            have y5 := Y.cell 5 (v := .string ⟨#[]⟩) rfl
            have v5 := Y.free 5 (by show 5 < 7; decide)
            have y6 := Y.cell 6 (v := .slice none 0 0) rfl
            have v6 := Y.free 6 (by show 6 < 7; decide)
            replace Y : Hid _ := Y
            have FIN : Hid (AftF w (((((((w5.setCell ⟨w.heap.size, 0, none⟩ (.int .i64 g.kind)).setCell ⟨w.heap.size, 1, none⟩ (.int .i64 g.id)).setCell ⟨w.heap.size, 2, none⟩ (.int .i64 g.off)).setCell ⟨w.heap.size, 3, none⟩ (.bool g.fin)).setCell ⟨w.heap.size, 4, none⟩ (.int .i64 g.code)).setCell ⟨w.heap.size, 5, none⟩ (.string d1)).setCell ⟨w.heap.size, 6, none⟩ (.slice a1 g.rg.length c1)) R s (.returned (.agg #[.int .i64 g.kind, .int .i64 g.id, .int .i64 g.off, .bool g.fin, .int .i64 g.code, .string d1, .slice a1 g.rg.length c1]))) := fs_fin F5 fin.out _ _ _ _ _ _ _
            have L7 := (((((((Y.out.put 0 (by show 0 < 7; decide) (.int .i64 g.kind)).put 1 (by show 1 < 7; decide) (.int .i64 g.id)).put 2 (by show 2 < 7; decide) (.int .i64 g.off)).put 3 (by show 3 < 7; decide) (.bool g.fin)).put 4 (by show 4 < 7; decide) (.int .i64 g.code)).put 5 (by show 5 < 7; decide) (.string d1)).put 6 (by show 6 < 7; decide) (.slice a1 g.rg.length c1))
            have r70 := L7.cell 0 (v := .int .i64 g.kind) rfl
            have r71 := L7.cell 1 (v := .int .i64 g.id) rfl
            have r72 := L7.cell 2 (v := .int .i64 g.off) rfl
            have r73 := L7.cell 3 (v := .bool g.fin) rfl
            have r74 := L7.cell 4 (v := .int .i64 g.code) rfl
            have r75 := L7.cell 5 (v := .string d1) rfl
            have r76 := L7.cell 6 (v := .slice a1 g.rg.length c1) rfl
            clear L7 Y fin
            clear F5
            go_wp2_with fail
            refine (throw_no _ _).mono ?_
            rintro e w6 ⟨rfl, rfl⟩
            go_wp2_with fail
            refine bodyPost_ret (v := .agg #[.int .i64 g.kind, .int .i64 g.id, .int .i64 g.off, .bool g.fin, .int .i64 g.code, .string d1, .slice a1 g.rg.length c1]) (by simp [results, Tryd.results47, go_sem, r70, r71, r72, r73, r74, r75, r76]) rfl FIN.out
          · have fin : Hid (rFrame (toL s) = .error (chkF g)) := by
              rw [Hid, fr.out, bind_ok sq9.out]
              unfold Rd.bind Rd.test
              rw [if_neg hc]
            have gx : (chkF g != 0) = true := by simp [hc]
            have kp : Hid _ := F5.kp
            generalize chkF g = y at *
            replace hc : Hid _ := hc
            clear F5 sq9 fr
            go_wp2_with fail
            refine (throw_yes _ _).mono ?_
            rintro e w6 ⟨rfl, rfl⟩
            exact ⟨rfl, kp.out, .inr ⟨y, fin.out, hc.out, rfl⟩⟩
  · exact ⟨rfl, K0.out, .inr ⟨x, frame_no hx, hx0, rfl⟩⟩
end Go.Proofs.YtmngpkkpkjnejaaDoor
namespace Go.Proofs.YtmngpkkpkjnejaaDoor
set_option maxRecDepth 100000
open Go.RowKit Go.Sort

/-- One frame more behind a row. -/
theorem frow_moreN {w4 w5 : World} {base n : Nat} {lv lv' : Value} {xs : List FX} {x : FX} (h : FRow w4 base lv xs (fun k => k < n ∨ lv.ownBlock = some k)) (hx : FG w4 (fun k => k < n ∨ lv.ownBlock = some k) x) (ho : w5.ownsRow base 24 7 lv' (xs.length + 1) (fcells xs ++ fcell x)) (hg : w4.grownBy w5 lv.ownBlock) (hp : lv'.ownBlock = lv.ownBlock ∨ lv'.ownBlock = some w4.heap.size) :
    FRow w5 base lv' (xs ++ [x]) (fun k => k < n ∨ lv'.ownBlock = some k) := by
  have mv : ∀ y : FX, FG w4 (fun k => k < n ∨ lv.ownBlock = some k) y → FG w5 (fun k => k < n ∨ lv'.ownBlock = some k) y := fun y hy => hy.move (fun b hb hn => hg.block b hb fun e => hn (.inr e.symm)) fun b hb hn => by
    rcases hn with q | q
    · exact .inl q
    · rcases hp with e | e
      · exact .inr (e ▸ q)
      · rw [e] at q
        injection q with q
        omega
  refine ⟨by rw [List.length_append, fcells_snoc]; exact ho, fun y hy => ?_⟩
  rcases List.mem_append.1 hy with q | q
  · exact mv y (h.2 y q)
  · rw [List.mem_singleton.1 q]
    exact mv x hx
/-- What the frames come to. -/
def AftL (w w' : World) (R : Nat) (s : ByteArray) (e : Ending) : Prop :=
  Kept (fun k => k = R) w w' ∧ ((∃ xs v, parse (toL s) 0 = .ok (xs.map (·.1)) ∧ e = .returned v ∧ FRow w' w.heap.size v xs (fun k => k < w.heap.size ∨ v.ownBlock = some k)) ∨
    (∃ x, parse (toL s) 0 = .error x ∧ x ≠ 0 ∧ e = .panicked (thrown x)))
set_option maxHeartbeats 8000000 in
theorem pframes_ok (R : Nat) (s : ByteArray) (w : World) (t : VTab w) (hR0 : 0 ≠ R) (h : Rr w R s) (hs : s.size < 1099511627776) :
    Calls Tryd.prog 35 #[.pointer (some ⟨R, 0, none⟩)] w fun e w' => AftL w w' R s e := by
  obtain ⟨i0, hi0, hz0, hz1, hz2⟩ := info_fr
  have hR : R < w.heap.size := h.lt
  have p0 : Hid (PSo s s []) := by
    unfold Hid PSo
    rw [List.length_nil]
    cases parse (toL s) 0 <;> rfl
  replace t : Hid _ := t
  replace hR0 : Hid _ := hR0
  replace h : Hid _ := h
  go_enter Tryd.func35, Tryd.ntmps35
  go_wp2
  go_loopg [3] s.size (fun g lv wr => ∃ (s1 : ByteArray) (xs : List FX), g = s1.size ∧ s1.size ≤ s.size ∧ xs.length ≤ 64 ∧ Hid (Rr wr R s1) ∧ Hid (FRow wr w.heap.size lv xs (fun k => k < w.heap.size ∨ lv.ownBlock = some k)) ∧ Hid (PSo s s1 (xs.map (·.1))) ∧ Hid (Kept (fun k => k = R) w wr))
  case atStart => exact ⟨s, [], rfl, Nat.le_refl _, by simp, h, FRow.nil _ _ _, p0, Kept.refl _ _⟩
  case round =>
    obtain ⟨s1, xs, rfl, hle, h64, rd, row, pso, kpt⟩ := hrel
    clear h p0
    obtain ⟨la, lc, rfl⟩ := own_len row.out.1
    have d0 := rd.out.cell 0 (v := .string s1) rfl
    cases e : toL s1 with
    | nil =>
      have hE : s1.toList.isEmpty = true := by
        rw [ByteArray.toList_eq]
        show (toL s1).isEmpty = true
        rw [e]
        rfl
      have fin : Hid (AftL w wr R s (.returned (.slice la xs.length lc))) := ⟨kpt.out, .inl ⟨xs, _, pso_done pso.out e, rfl, row.out⟩⟩
      clear e rd row pso kpt
      go_wp2
      go_ret
      exact fin.out
    | cons c r =>
      have hne : Hid (toL s1 ≠ []) := by rw [e]; exact List.cons_ne_nil _ _
      have hE : s1.toList.isEmpty = false := by
        rw [ByteArray.toList_eq]
        show (toL s1).isEmpty = false
        rw [e]
        rfl
      clear e
      have FR : Hid _ := pframe_ok R s1 wr (t.out.kept kpt.out hR0.out) hR0.out rd.out (by omega)
      go_wp2_with fail
      refine Calls.mono FR.out ?_
      rintro e2 w2 ⟨kp, ⟨f, s2, v, hf, rfl, ⟨d, a, cp, hv, hd, hr, hnew⟩, rd2⟩ | ⟨x, hf, hx, rfl⟩⟩
      · unfold frV at hv
        subst hv
        clear FR
        have hlt2 := frame_less hf
        rw [toL_len, toL_len] at hlt2
        have hsw := kpt.out.size
        have hown : ∀ b, (Value.slice la xs.length lc).ownBlock = some b → b < wr.heap.size ∧ b ≠ R := fun b hb => ⟨(row.out.1.lt b hb).2, by have := (row.out.1.lt b hb).1; omega⟩
        have row2 : FRow w2 w.heap.size (.slice la xs.length lc) xs (fun k => k < w.heap.size ∨ (Value.slice la xs.length lc).ownBlock = some k) := row.out.move (fun b hb hn => kp.block b hb fun q => hn (.inl (by omega))) (fun _ _ q => q) fun b hb => kp.block b (hown b hb).1 (hown b hb).2
        have fg2 : FG w2 (fun k => k < w.heap.size ∨ (Value.slice la xs.length lc).ownBlock = some k) ((f, d, Value.slice a f.rg.length cp) : FX) := ⟨hd, a, cp, rfl, hr, fun _ p hp q => by
          have := hnew p hp
          rcases q with q | q
          · omega
          · have := (hown _ q).1
            omega⟩
        have K2 := kpt.out.trans kp
        have al : ∀ (W : World) (o : Obj), ∀ b, b < W.heap.size → (W.alloc o).heap[b]? = W.heap[b]? := fun W o b hb => ((Below.refl W.heap.size W).alloc (Nat.le_refl _) o).block b hb
        have hR2 : R < w2.heap.size := rd2.lt
        have K3 : Kept (fun k => k = R) w (w2.alloc (.cells #[.int .i64 f.kind, .int .i64 f.id, .int .i64 f.off, .bool f.fin, .int .i64 f.code, .string d, .slice a f.rg.length cp] 24)) := K2.add ((Below.refl _ _).alloc (Nat.le_refl _) _)
        have rd3 : Rr (w2.alloc (.cells #[.int .i64 f.kind, .int .i64 f.id, .int .i64 f.off, .bool f.fin, .int .i64 f.code, .string d, .slice a f.rg.length cp] 24)) R s2 := Lies.of_block rd2 (al _ _ _ hR2)
        have row3 : FRow (w2.alloc (.cells #[.int .i64 f.kind, .int .i64 f.id, .int .i64 f.off, .bool f.fin, .int .i64 f.code, .string d, .slice a f.rg.length cp] 24)) w.heap.size (.slice la xs.length lc) xs (fun k => k < w.heap.size ∨ (Value.slice la xs.length lc).ownBlock = some k) := row2.move (fun b hb _ => al _ _ b hb) (fun _ _ q => q) fun b hb => al _ _ b (row2.1.lt b hb).2
        by_cases h0 : f.kind = 0
        · have g0 : (f.kind == 0) = true := by simp [h0]
          have ps3 := pso_skip pso.out (by simpa using h64) hf h0
          replace rd3 : Hid _ := rd3
          replace row3 : Hid _ := row3
          replace K3 : Hid _ := K3
          replace ps3 : Hid (PSo s s2 (xs.map (·.1))) := ps3
          clear rd row pso kpt rd2 row2 fg2 K2 hf hd hr hnew kp hown al hne h0
          go_wp2
          go_roundg s2.size
          case measure => omega
          case rel => exact ⟨s2, xs, rfl, by omega, h64, rd3, row3, ps3, K3⟩
        · have g0 : (f.kind == 0) = false := by simp [h0]
          by_cases h6 : xs.length = 64
          · have g6 : ((xs.length : Int) == 64) = true := by simp [h6]
            have pe := pso_full pso.out (by rw [List.length_map]; exact h6) hf h0
            have fin : Hid (AftL w (w2.alloc (.cells #[.int .i64 f.kind, .int .i64 f.id, .int .i64 f.off, .bool f.fin, .int .i64 f.code, .string d, .slice a f.rg.length cp] 24)) R s (.panicked (thrown 8))) := ⟨K3, .inr ⟨8, pe, by decide, rfl⟩⟩
            clear rd row pso kpt rd2 row2 fg2 K2 hf hd hr hnew kp hown al hne h0 rd3 row3 K3 pe
            go_wp2_with fail
            refine (throw_yes _ _).mono ?_
            rintro e w6 ⟨rfl, rfl⟩
            exact ⟨rfl, fin.out⟩
          · have g6 : ((xs.length : Int) == 64) = false := by simp; omega
            have ps3 : Hid (PSo s s2 ((xs ++ [((f, d, Value.slice a f.rg.length cp) : FX)]).map (·.1))) := by
              unfold Hid
              rw [List.map_append]
              exact pso_more pso.out (by rw [List.length_map]; omega) hf h0
            have K4 : Kept (fun k => k = R) w ((w2.alloc (.cells #[.int .i64 f.kind, .int .i64 f.id, .int .i64 f.off, .bool f.fin, .int .i64 f.code, .string d, .slice a f.rg.length cp] 24)).alloc (.cells #[.int .i64 f.kind, .int .i64 f.id, .int .i64 f.off, .bool f.fin, .int .i64 f.code, .string d, .slice a f.rg.length cp] 24)) := K3.add ((Below.refl _ _).alloc (Nat.le_refl _) _)
            have rd4 : Rr ((w2.alloc (.cells #[.int .i64 f.kind, .int .i64 f.id, .int .i64 f.off, .bool f.fin, .int .i64 f.code, .string d, .slice a f.rg.length cp] 24)).alloc (.cells #[.int .i64 f.kind, .int .i64 f.id, .int .i64 f.off, .bool f.fin, .int .i64 f.code, .string d, .slice a f.rg.length cp] 24)) R s2 := Lies.of_block rd3 (al _ _ _ (by simp; omega))
            have row4 : FRow ((w2.alloc (.cells #[.int .i64 f.kind, .int .i64 f.id, .int .i64 f.off, .bool f.fin, .int .i64 f.code, .string d, .slice a f.rg.length cp] 24)).alloc (.cells #[.int .i64 f.kind, .int .i64 f.id, .int .i64 f.off, .bool f.fin, .int .i64 f.code, .string d, .slice a f.rg.length cp] 24)) w.heap.size (.slice la xs.length lc) xs (fun k => k < w.heap.size ∨ (Value.slice la xs.length lc).ownBlock = some k) := row3.move (fun b hb _ => al _ _ b hb) (fun _ _ q => q) fun b hb => al _ _ b (row3.1.lt b hb).2
            have fg4 : FG ((w2.alloc (.cells #[.int .i64 f.kind, .int .i64 f.id, .int .i64 f.off, .bool f.fin, .int .i64 f.code, .string d, .slice a f.rg.length cp] 24)).alloc (.cells #[.int .i64 f.kind, .int .i64 f.id, .int .i64 f.off, .bool f.fin, .int .i64 f.code, .string d, .slice a f.rg.length cp] 24)) (fun k => k < w.heap.size ∨ (Value.slice la xs.length lc).ownBlock = some k) ((f, d, Value.slice a f.rg.length cp) : FX) := fg2.move (fun b hb _ => (al _ _ b (by simp; omega)).trans (al _ _ b hb)) (fun _ _ q => q)
            have hnews : Hid (∀ j u, (fcell ((f, d, Value.slice a f.rg.length cp) : FX))[j]? = some u → ((w2.alloc (.cells #[.int .i64 f.kind, .int .i64 f.id, .int .i64 f.off, .bool f.fin, .int .i64 f.code, .string d, .slice a f.rg.length cp] 24)).alloc (.cells #[.int .i64 f.kind, .int .i64 f.id, .int .i64 f.off, .bool f.fin, .int .i64 f.code, .string d, .slice a f.rg.length cp] 24)).cell? ((⟨w2.heap.size + 1, 0, none⟩ : Addr).add j) = some u) := fun j u hj => by
              have z3 : (w2.alloc (.cells #[.int .i64 f.kind, .int .i64 f.id, .int .i64 f.off, .bool f.fin, .int .i64 f.code, .string d, .slice a f.rg.length cp] 24)).heap.size = w2.heap.size + 1 := by simp
              have := (Lies.new (w2.alloc (.cells #[.int .i64 f.kind, .int .i64 f.id, .int .i64 f.off, .bool f.fin, .int .i64 f.code, .string d, .slice a f.rg.length cp] 24)) (fcell ((f, d, Value.slice a f.rg.length cp) : FX)) 24).r j u hj
              rw [z3] at this
              rw [Addr.add_lit]
              exact this
            have h1c : ∀ u ∈ fcell ((f, d, Value.slice a f.rg.length cp) : FX), u.oneCell' = true := fun u hu => by
              simp [fcell] at hu
              rcases hu with rfl | rfl | rfl | rfl | rfl | rfl | rfl <;> rfl
            have fin : Hid (∀ v' w5, w5.ownsRow w.heap.size 24 7 v' (xs.length + 1) (fcells xs ++ fcell ((f, d, Value.slice a f.rg.length cp) : FX)) → ((w2.alloc (.cells #[.int .i64 f.kind, .int .i64 f.id, .int .i64 f.off, .bool f.fin, .int .i64 f.code, .string d, .slice a f.rg.length cp] 24)).alloc (.cells #[.int .i64 f.kind, .int .i64 f.id, .int .i64 f.off, .bool f.fin, .int .i64 f.code, .string d, .slice a f.rg.length cp] 24)).grownBy w5 (Value.slice la xs.length lc).ownBlock → (v'.ownBlock = (Value.slice la xs.length lc).ownBlock ∨ v'.ownBlock = some ((w2.alloc (.cells #[.int .i64 f.kind, .int .i64 f.id, .int .i64 f.off, .bool f.fin, .int .i64 f.code, .string d, .slice a f.rg.length cp] 24)).alloc (.cells #[.int .i64 f.kind, .int .i64 f.id, .int .i64 f.off, .bool f.fin, .int .i64 f.code, .string d, .slice a f.rg.length cp] 24)).heap.size) → Hid (Rr w5 R s2) ∧ Hid (FRow w5 w.heap.size v' (xs ++ [((f, d, Value.slice a f.rg.length cp) : FX)]) (fun k => k < w.heap.size ∨ v'.ownBlock = some k)) ∧ Hid (Kept (fun k => k = R) w w5)) := fun v' w5 q1 q2 q3 => by
              have hz4 : R < ((w2.alloc (.cells #[.int .i64 f.kind, .int .i64 f.id, .int .i64 f.off, .bool f.fin, .int .i64 f.code, .string d, .slice a f.rg.length cp] 24)).alloc (.cells #[.int .i64 f.kind, .int .i64 f.id, .int .i64 f.off, .bool f.fin, .int .i64 f.code, .string d, .slice a f.rg.length cp] 24)).heap.size := by simp; omega
              exact ⟨Lies.of_block rd4 (q2.block _ hz4 fun q => (hown R q.symm).2 rfl), frow_moreN row4 fg4 q1 q2 q3, K4.grown q2 (fun k hk hlt => by have := (row4.1.lt k hk).1; omega)⟩
            have o4 : Hid (((w2.alloc (.cells #[.int .i64 f.kind, .int .i64 f.id, .int .i64 f.off, .bool f.fin, .int .i64 f.code, .string d, .slice a f.rg.length cp] 24)).alloc (.cells #[.int .i64 f.kind, .int .i64 f.id, .int .i64 f.off, .bool f.fin, .int .i64 f.code, .string d, .slice a f.rg.length cp] 24)).ownsRow w.heap.size 24 7 (.slice la xs.length lc) xs.length (fcells xs)) := row4.1
            have hsz2 : w.heap.size ≤ w2.heap.size := K2.size
            clear rd row pso kpt rd2 row2 fg2 K2 hf hd hr hnew kp hown al hne h0 rd3 row3 K3 K4 rd4 row4 fg4
            go_wp2_with fail
            refine (throw_no _ _).mono ?_
            rintro e w6 ⟨rfl, hw6⟩
            subst hw6
            go_wp2_with (at_builtin; refine wpList_append_own_at _ rfl _ _ 29 rfl w.heap.size 24 i0 (.agg #[.int .i64 0, .int .i64 0, .int .i64 0, .bool false, .int .i64 0, .string ⟨#[]⟩, .slice none 0 0]) 7 80 Tryd.underlying29 hi0 hz0 hz1 hz2 rfl (by decide) (.slice la xs.length lc) xs.length (fcells xs) rfl o4.out ⟨w2.heap.size + 1, 0, none⟩ 1 1 (fcell ((f, d, Value.slice a f.rg.length cp) : FX)) rfl rfl hnews.out h1c (by unfold maxLen; omega) (by omega) (by simp; omega) ?_; intro v' w5 q1 q2 q3 q4; obtain ⟨R1, R2, R4⟩ := fin.out v' w5 q1 q2 q4; clear q1 q2 q3 q4)
            go_roundg s2.size
            case measure => omega
            case rel => exact ⟨s2, xs ++ [((f, d, Value.slice a f.rg.length cp) : FX)], rfl, by omega, by simp; omega, R1, R2, ps3, R4⟩
      · exact ⟨rfl, kpt.out.trans kp, .inr ⟨x, pso_err pso.out hne.out hf, hx, rfl⟩⟩
end Go.Proofs.YtmngpkkpkjnejaaDoor
namespace Go.Proofs.YtmngpkkpkjnejaaDoor
set_option maxRecDepth 100000
open Go.RowKit Go.Sort

set_option maxHeartbeats 1000000 in
theorem catch_idle (p q : Addr) (w : World) :
    CallsD Tryd.prog 34 #[.pointer (some p), .pointer (some q)] .returning w fun e u' w' => e = .returned (.tuple #[]) ∧ u' = .returning ∧ w' = w := by
  refine callsD_of_wpS Tryd.func34 rfl fun c₀ cs hu => ?_
  apply wpS_seq
  apply wpS_region
  simp [wpOpsS, go_sem, recoverD, hu, Tryd.ntmps34, Exit.thenS]
  refine wpS_of_wp ?_
  change Code.wp _ _ _ { tmps := #[.pointer (some p), .pointer (some q), .nilIface, undef, undef, .nilIface, undef, undef, undef, undef, undef, undef, undef, undef, undef, undef, undef], defers := [] } w
  go_wp2
  cases c₀
  simp_all [bodyPostS, results, Tryd.results34]
set_option maxHeartbeats 1000000 in
theorem catch_thrown (A E : Nat) (x : Int) (v : Value) (y : Int) (older : List PanicEntry) (w : World) (hA : Lies w A [v]) (hv : ∃ a n c, v = .slice a n c) (hE : Lies w E [.int .i64 y]) (hne : E ≠ A) :
    CallsD Tryd.prog 34 #[.pointer (some ⟨A, 0, none⟩), .pointer (some ⟨E, 0, none⟩)] (.panicking ({ v := .iface 25 (.int .i64 x), recovered := false } :: older)) w fun e u' w' =>
      e = .returned (.tuple #[]) ∧ u' = .panicking ({ v := .iface 25 (.int .i64 x), recovered := true } :: older) ∧ w'.cell? ⟨A, 0, none⟩ = some (.slice none 0 0) ∧ w'.cell? ⟨E, 0, none⟩ = some (.int .i64 x) ∧ ∀ n, n ≤ A → n ≤ E → Below n w w' := by
  refine callsD_of_wpS Tryd.func34 rfl fun c₀ cs hu => ?_
  apply wpS_seq
  apply wpS_region
  simp [wpOpsS, go_sem, recoverD, hu, Tryd.ntmps34, Exit.thenS]
  refine wpS_of_wp ?_
  change Code.wp _ _ _ { tmps := #[.pointer (some ⟨A, 0, none⟩), .pointer (some ⟨E, 0, none⟩), .iface 25 (.int .i64 x), undef, undef, .iface 25 (.int .i64 x), undef, undef, undef, undef, undef, undef, undef, undef, undef, undef, undef], defers := [] } w
  obtain ⟨a, n, c, rfl⟩ := hv
  have a0 := hA.cell 0 (v := .slice a n c) rfl
  have a1 := hA.free 0 (by show 0 < 1; decide)
  have e0 := hE.cell 0 (v := .int .i64 y) rfl
  have e1 := hE.free 0 (by show 0 < 1; decide)
  have L1 := (hA.put 0 (by show 0 < 1; decide) (.slice none 0 0)).cell 0 (v := .slice none 0 0) rfl
  clear hA hE
  have hta : ∀ w, (Instr.typeAssert (.iface 25 (.int .i64 x)) 20 25 true).run Tryd.prog w = .ok (.tuple #[.int .i64 x, .bool true]) w := fun _ => by kernel_rfl
  have hne' : ¬ A = E := fun e => hne e.symm
  go_wp2
  refine ⟨rfl, _, rfl, .tuple #[], ?_, rfl, rfl, ?_, ?_, fun n hn he => ?_⟩
  · simp [results, Tryd.results34]
  · simp [go_sem, *]
  · simp [go_sem, *]
  · exact ((Below.refl n w).setCell (p := ⟨A, 0, none⟩) hn _).setCell (p := ⟨E, 0, none⟩) he _
theorem own_low {w : World} {b b' size n : Nat} {t : TypeId} {v : Value} {xs : List Value} (h : w.ownsRow b t size v n xs) (hb : b' ≤ b) : w.ownsRow b' t size v n xs := by
  refine ⟨h.1, ?_⟩
  rcases h.2 with q | ⟨g, cap, cur, e, q, r⟩
  · exact .inl q
  · exact .inr ⟨g, cap, cur, e, Nat.le_trans hb q, r⟩
set_option maxHeartbeats 2000000 in
theorem pparse_ok (s : ByteArray) (w : World) (t : VTab w) (hs : s.size < 1099511627776) :
    Calls Tryd.prog 19 #[.string s] w fun e w' => AfterP w w' s e := by
  have hmf : ∀ (fn : Fn) (first cap : Array Value) (w : World), (Instr.makeFunc fn first cap).run Tryd.prog w = .ok (.func fn first cap) w := fun _ _ _ _ => rfl
  have t0 : 0 < w.heap.size := t.pos
  have b1 : Below w.heap.size w (w.alloc (.cells #[.slice none 0 0] 29)) := (Below.refl _ _).alloc (Nat.le_refl _) _
  have s1 : (w.alloc (.cells #[.slice none 0 0] 29)).heap.size = w.heap.size + 1 := by simp
  have s2 : ((w.alloc (.cells #[.slice none 0 0] 29)).alloc (.cells #[.int .i64 0] 25)).heap.size = w.heap.size + 2 := by simp
  have b2 : Below (w.heap.size + 1) (w.alloc (.cells #[.slice none 0 0] 29)) ((w.alloc (.cells #[.slice none 0 0] 29)).alloc (.cells #[.int .i64 0] 25)) := (Below.refl _ _).alloc (by rw [s1]; exact Nat.le_refl _) _
  have b3 : Below (w.heap.size + 2) ((w.alloc (.cells #[.slice none 0 0] 29)).alloc (.cells #[.int .i64 0] 25)) (((w.alloc (.cells #[.slice none 0 0] 29)).alloc (.cells #[.int .i64 0] 25)).alloc (.cells #[.string s] 60)) := (Below.refl _ _).alloc (by rw [s2]; exact Nat.le_refl _) _
  have bel : Below w.heap.size w (((w.alloc (.cells #[.slice none 0 0] 29)).alloc (.cells #[.int .i64 0] 25)).alloc (.cells #[.string s] 60)) := b1.trans ((b2.mono (by omega)).trans (b3.mono (by omega)))
  have LA := Lies.new w [.slice none 0 0] 29
  have LE := Lies.new (w.alloc (.cells #[.slice none 0 0] 29)) [.int .i64 0] 25
  have LR : Rr _ _ s := Lies.new ((w.alloc (.cells #[.slice none 0 0] 29)).alloc (.cells #[.int .i64 0] 25)) [.string s] 60
  rw [s1] at LE
  rw [s2] at LR
  have LA3 := (LA.of_block (b2.block w.heap.size (by omega))).of_block (b3.block w.heap.size (by omega))
  have LE3 := LE.of_block (b3.block (w.heap.size + 1) (by omega))
  have s3 : (((w.alloc (.cells #[.slice none 0 0] 29)).alloc (.cells #[.int .i64 0] 25)).alloc (.cells #[.string s] 60)).heap.size = w.heap.size + 3 := by simp
  have FR : Hid _ := pframes_ok (w.heap.size + 2) s _ (t.below bel) (by omega) LR hs
  replace LA3 : Hid _ := LA3
  replace LE3 : Hid _ := LE3
  replace bel : Hid _ := bel
  replace s3 : Hid _ := s3
  clear LA LE LR b1 b2 b3 s1 s2 t
  go_enter_defers Tryd.func19, Tryd.ntmps19
  go_wp2_with fail
  generalize ((w.alloc (.cells #[.slice none 0 0] 29)).alloc (.cells #[.int .i64 0] 25)).alloc (.cells #[.string s] 60) = w3 at *
  refine Calls.mono FR.out ?_
  rintro e w4 ⟨kp, ⟨xs, v, hp, rfl, row⟩ | ⟨x, hp, hx, rfl⟩⟩
  · have hz3 := s3.out
    have LA4 := LA3.out.of_block (kp.block w.heap.size (by omega) (by omega))
    have LE4 := LE3.out.of_block (kp.block (w.heap.size + 1) (by omega) (by omega))
    obtain ⟨va, vc, rfl⟩ := own_len row.1
    have a0 := LA4.cell 0 (v := .slice none 0 0) rfl
    have a1 := LA4.free 0 (by show 0 < 1; decide)
    have LE5 := LE4.of_block (w' := w4.setCell ⟨w.heap.size, 0, none⟩ (.slice va xs.length vc)) (Below.heap_setCell _ _ _ _ (by show w.heap.size + 1 ≠ w.heap.size; omega))
    have LA5 := LA4.put 0 (by show 0 < 1; decide) (.slice va xs.length vc)
    have e0 := LE5.cell 0 (v := .int .i64 0) rfl
    have e1 := LE5.free 0 (by show 0 < 1; decide)
    have LE6 := LE5.put 0 (by show 0 < 1; decide) (.int .i64 0)
    have LA6 := LA5.of_block (w' := (w4.setCell ⟨w.heap.size, 0, none⟩ (.slice va xs.length vc)).setCell ⟨w.heap.size + 1, 0, none⟩ (.int .i64 0)) (Below.heap_setCell _ _ _ _ (by show w.heap.size ≠ w.heap.size + 1; omega))
    have ot : ∀ k, k ≠ w.heap.size → k ≠ w.heap.size + 1 → ((w4.setCell ⟨w.heap.size, 0, none⟩ (.slice va xs.length vc)).setCell ⟨w.heap.size + 1, 0, none⟩ (.int .i64 0)).heap[k]? = w4.heap[k]? := fun k h1 h2 => (Below.heap_setCell _ _ _ _ h2).trans (Below.heap_setCell _ _ _ _ h1)
    have bel4 : Below w.heap.size w w4 := bel.out.trans (kp.below (by omega) (fun k q => by omega))
    have bel6 : Below w.heap.size w ((w4.setCell ⟨w.heap.size, 0, none⟩ (.slice va xs.length vc)).setCell ⟨w.heap.size + 1, 0, none⟩ (.int .i64 0)) := (bel4.setCell (p := ⟨w.heap.size, 0, none⟩) (Nat.le_refl _) _).setCell (p := ⟨w.heap.size + 1, 0, none⟩) (Nat.le_succ _) _
    have row6 : FRow ((w4.setCell ⟨w.heap.size, 0, none⟩ (.slice va xs.length vc)).setCell ⟨w.heap.size + 1, 0, none⟩ (.int .i64 0)) w3.heap.size (.slice va xs.length vc) xs (fun k => (Value.slice va xs.length vc).ownBlock = some k) := row.move (fun b hb hn => ot b (fun q => hn (.inl (by omega))) (fun q => hn (.inl (by omega)))) (fun _ _ q => .inr q) (fun b hb => ot b (by have := (row.1.lt b hb).1; omega) (by have := (row.1.lt b hb).1; omega))
    have fin : Hid (AfterP w ((w4.setCell ⟨w.heap.size, 0, none⟩ (.slice va xs.length vc)).setCell ⟨w.heap.size + 1, 0, none⟩ (.int .i64 0)) s (.returned (.tuple #[.slice va xs.length vc, .int .i64 0]))) := ⟨bel6, .inl ⟨xs, _, hp, rfl, own_low row6.1 (by omega), row6.2⟩⟩
    have r0 := LA6.cell 0 (v := .slice va xs.length vc) rfl
    have r1 := LE6.cell 0 (v := .int .i64 0) rfl
    have hne : ¬ (w.heap.size + 1 = w.heap.size) := by omega
    clear LA6 LE6 LA5 LE5 LA4 LE4 ot bel4 bel6 row6 row kp hp FR LA3 LE3 bel hz3
    go_wp2
    generalize (w4.setCell ⟨w.heap.size, 0, none⟩ (.slice va xs.length vc)).setCell ⟨w.heap.size + 1, 0, none⟩ (.int .i64 0) = w6 at *
    refine leaves_cons (f := 34) (args := #[.pointer (some ⟨w.heap.size, 0, none⟩), .pointer (some ⟨w.heap.size + 1, 0, none⟩)]) (by simp) (by simp [go_sem]) ?_
    refine (catch_idle _ _ _).mono ?_
    rintro e u' w7 ⟨rfl, rfl, rfl⟩
    refine ⟨.tuple #[.slice va xs.length vc, .int .i64 0], ?_, fin.out⟩
    simp [results, Tryd.results19, go_sem, r0, r1]
  · have hz3 := s3.out
    have LA4 := LA3.out.of_block (kp.block w.heap.size (by omega) (by omega))
    have LE4 := LE3.out.of_block (kp.block (w.heap.size + 1) (by omega) (by omega))
    have bel4 : Below w.heap.size w w4 := bel.out.trans (kp.below (by omega) (fun k q => by omega))
    refine leaves_cons (f := 34) (args := #[.pointer (some ⟨w.heap.size, 0, none⟩), .pointer (some ⟨w.heap.size + 1, 0, none⟩)]) (by simp) (by simp [go_sem]) ?_
    refine (catch_thrown w.heap.size (w.heap.size + 1) x _ 0 [] w4 LA4 ⟨_, _, _, rfl⟩ LE4 (by omega)).mono ?_
    rintro e u' w5 ⟨rfl, rfl, c0, c1, bl⟩
    refine ⟨.tuple #[.slice none 0 0, .int .i64 x], ?_, bel4.trans (bl w.heap.size (Nat.le_refl _) (Nat.le_succ _)), .inr ⟨x, hp, hx, rfl⟩⟩
    simp [results, Tryd.results19, go_sem, c0, c1]
end Go.Proofs.YtmngpkkpkjnejaaDoor
