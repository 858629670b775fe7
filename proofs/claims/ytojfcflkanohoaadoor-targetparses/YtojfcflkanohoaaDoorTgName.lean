/-
  What the program's isName, isValue, checkField and Check answer. Names and values that are looked at have at most 256 bytes; no other condition.
-/
import Derived.Test.YtojfcflkanohoaaDoorTgGet
import Derived.Lib.ConvBytes
namespace Go.Proofs.YtojfcflkanohoaaDoor
set_option maxRecDepth 100000
open Go.RowKit Go.Sort

theorem bl_conv (w : World) (a : L) (k : Nat) (hs : a.length = k) :
    (convert 9 65 (.string (strL a))).run Tryd.prog w = .ok (.slice (some ⟨w.heap.size, 0, none⟩) k (grownCap w k 0 5)) (Lib.bytesWorld w 5 (strL a)) := by
  subst hs
  rw [← strL_size]
  exact Lib.run_convert_string_bytes w 9 65 5 (strL a) Tryd.underlying9 Tryd.underlying65 Tryd.underlying5
theorem bl_cell (w : World) (a : L) (j : Nat) (h : j < a.length) : (Lib.bytesWorld w 5 (strL a)).cell? ⟨w.heap.size, j, none⟩ = some (.int .u8 ((a.getD j 0).toNat : Int)) := by
  rw [Lib.bytesWorld_cell w 5 _ j (by rw [strL_size]; exact h)]
  rfl
theorem bl_below (w : World) (s : ByteArray) : Below w.heap.size w (Lib.bytesWorld w 5 s) := by
  refine ⟨rfl, rfl, rfl, ?_, fun k hk => Lib.bytesWorld_at_old w 5 s k hk⟩
  rw [Lib.bytesWorld_size]; omega
theorem at_u8s (B N cap i : Nat) (w : World) (h : i < N) (z : Int) (hz : z = i) :
    (Instr.indexAt 65 (.slice (some ⟨B, 0, none⟩) N cap) (.int .i64 z)).run Tryd.prog w = .ok (.pointer (some ⟨B, i, none⟩)) w := by
  subst hz
  have e : Tryd.prog.elem 65 = 5 := by kernel_rfl
  rw [run_indexAt_slice (P := Tryd.prog) w 65 ⟨B, 0, none⟩ N cap .i64 i (by rw [e]; exact Tryd.underlying65), if_pos (by omega), e]
  have s : (sizeOf 5).run Tryd.prog w = .ok 1 w := Tryd.sizeOf5 w
  rw [s]
  simp [Addr.add_mid]
set_option maxHeartbeats 8000000 in
theorem isName_ok (a : L) (w : World) (h : a.length ≤ 256) : Calls Tryd.prog 46 #[.string (strL a)] w fun e w' => e = .returned (.bool (!a.isEmpty && a.all okN)) ∧ Below w.heap.size w w' := by
  have hla := ldN_le okN a
  have ya := Lib.hid (ldN_yes okN a)
  have na := Lib.hid (ldN_no okN a)
  have em := emp_strL a
  obtain ⟨E, hE⟩ : ∃ E, E = (!a.isEmpty && a.all okN) := ⟨_, rfl⟩
  rw [← hE]
  rw [ldN_all] at hE
  obtain ⟨A, hA⟩ : ∃ A, A = ldN okN a := ⟨_, rfl⟩
  rw [← hA] at hla ya na hE
  clear hA
  obtain ⟨m, hm⟩ : ∃ m, m = a.length := ⟨_, rfl⟩
  have cv := bl_conv w a m hm.symm
  have cc := Lib.hid (bl_cell w a)
  have BB := Lib.hid (bl_below w (strL a))
  rw [← hm] at cc hla na h hE
  replace hE := Lib.hid hE
  obtain ⟨e0, he0⟩ : ∃ e0, e0 = a.isEmpty := ⟨_, rfl⟩
  rw [← he0] at em hE
  clear hm he0
  obtain ⟨B, hB⟩ : ∃ B, B = w.heap.size := ⟨_, rfl⟩
  rw [← hB] at cv cc BB ⊢
  replace hB := Lib.hid hB
  generalize Lib.bytesWorld w 5 (strL a) = wb at *
  generalize grownCap w m 0 5 = cp at *
  go_enter Tryd.func46, Tryd.ntmps46
  go_wp2_with fail
  go_loopg [10] A (fun g' iv wr => ∃ k : Nat, k + g' = A ∧ iv = .int .i64 k ∧ wb = wr)
  case atStart => exact ⟨0, by omega, rfl, rfl⟩
  case round =>
    clear cv
    obtain ⟨k, hk, rfl, rfl⟩ := hrel
    by_cases hlt : k < A
    · have g1 : decide ((k : Int) < (m : Int)) = true := decide_eq_true (by omega)
      have g1' : decide (k < m) = true := decide_eq_true (by omega)
      have c0 := cc.out k (by omega)
      have ia := fun w' => at_u8s B m cp k w' (by omega) (k : Int) rfl
      have hv := ya.out k hlt
      have hb := (a.getD k 0).toNat_lt
      generalize a.getD k 0 = c at *
      unfold okN at hv
      simp only [Bool.or_eq_true, Bool.and_eq_true, decide_eq_true_eq] at hv
      obtain ⟨x, hx⟩ : ∃ x, x = c.toNat := ⟨_, rfl⟩
      rw [← hx] at hv c0 hb
      clear hx
      rcases hv with ((⟨v1, v2⟩ | ⟨v1, v2⟩) | v1) | v1
      · have e1 : decide ((97 : Int) ≤ (x : Int)) = true := decide_eq_true (by omega)
        have e2 : decide ((x : Int) ≤ 122) = true := decide_eq_true (by omega)
        have e3 : decide ((48 : Int) ≤ (x : Int)) = true := decide_eq_true (by omega)
        have e4 : decide ((x : Int) ≤ 57) = false := decide_eq_false (by omega)
        clear v1 v2
        go_wp2_with fail
        go_roundg (A - (k + 1))
        case measure => omega
        case rel => exact ⟨k + 1, by omega, by go_num, rfl⟩
      · have e1 : decide ((97 : Int) ≤ (x : Int)) = false := decide_eq_false (by omega)
        have e3 : decide ((48 : Int) ≤ (x : Int)) = true := decide_eq_true (by omega)
        have e4 : decide ((x : Int) ≤ 57) = true := decide_eq_true (by omega)
        clear v1 v2
        go_wp2_with fail
        go_roundg (A - (k + 1))
        case measure => omega
        case rel => exact ⟨k + 1, by omega, by go_num, rfl⟩
      · subst v1
        go_wp2_with fail
        go_roundg (A - (k + 1))
        case measure => omega
        case rel => exact ⟨k + 1, by omega, by go_num, rfl⟩
      · subst v1
        go_wp2_with fail
        go_roundg (A - (k + 1))
        case measure => omega
        case rel => exact ⟨k + 1, by omega, by go_num, rfl⟩
    · obtain rfl : k = A := by omega
      by_cases hin : k < m
      · have g1 : decide ((k : Int) < (m : Int)) = true := decide_eq_true (by omega)
        have g1' : decide (k < m) = true := decide_eq_true hin
        have c0 := cc.out k hin
        have ia := fun w' => at_u8s B m cp k w' hin (k : Int) rfl
        have hv := na.out hin
        have hb := (a.getD k 0).toNat_lt
        generalize a.getD k 0 = c at *
        unfold okN at hv
        simp only [Bool.or_eq_false_iff, Bool.and_eq_false_iff, decide_eq_false_iff_not] at hv
        obtain ⟨x, hx⟩ : ∃ x, x = c.toNat := ⟨_, rfl⟩
        rw [← hx] at hv c0 hb
        clear hx
        have E0 : Hid (E = false) := by
          unfold Hid
          rw [hE.out, decide_eq_false (by omega), Bool.and_false]
        clear hE
        obtain ⟨⟨⟨v1, v2⟩, v3⟩, v4⟩ := hv
        have e5 : ((x : Int) != 45) = true := by rw [bne_iff_ne]; omega
        have e6 : ((x : Int) != 58) = true := by rw [bne_iff_ne]; omega
        by_cases u1 : x < 48
        · have e1 : decide ((97 : Int) ≤ (x : Int)) = false := decide_eq_false (by omega)
          have e3 : decide ((48 : Int) ≤ (x : Int)) = false := decide_eq_false (by omega)
          clear v1 v2 v3 v4 u1
          go_wp2_with fail
          go_ret
          exact ⟨by rw [E0.out]; rfl, BB.out⟩
        · have e3 : decide ((48 : Int) ≤ (x : Int)) = true := decide_eq_true (by omega)
          have e4 : decide ((x : Int) ≤ 57) = false := decide_eq_false (by omega)
          by_cases u2 : x < 97
          · have e1 : decide ((97 : Int) ≤ (x : Int)) = false := decide_eq_false (by omega)
            clear v1 v2 v3 v4 u1 u2
            go_wp2_with fail
            go_ret
            exact ⟨by rw [E0.out]; rfl, BB.out⟩
          · have e1 : decide ((97 : Int) ≤ (x : Int)) = true := decide_eq_true (by omega)
            have e2 : decide ((x : Int) ≤ 122) = false := decide_eq_false (by omega)
            clear v1 v2 v3 v4 u1 u2
            go_wp2_with fail
            go_ret
            exact ⟨by rw [E0.out]; rfl, BB.out⟩
      · have g1 : decide ((k : Int) < (m : Int)) = false := decide_eq_false (by omega)
        have g1' : decide (k < m) = false := decide_eq_false hin
        have E0 : Hid (E = !e0) := by
          unfold Hid
          rw [hE.out, decide_eq_true (by omega), Bool.and_true]
        clear hE
        cases e0
        · go_wp2_with fail
          go_ret
          exact ⟨by rw [E0.out]; rfl, BB.out⟩
        · go_wp2_with fail
          go_ret
          exact ⟨by rw [E0.out]; rfl, BB.out⟩
set_option maxHeartbeats 8000000 in
theorem isValue_ok (a : L) (w : World) (h : a.length ≤ 256) : Calls Tryd.prog 47 #[.string (strL a)] w fun e w' => e = .returned (.bool (a.all okV)) ∧ Below w.heap.size w w' := by
  have hla := ldN_le okV a
  have ya := Lib.hid (ldN_yes okV a)
  have na := Lib.hid (ldN_no okV a)
  obtain ⟨E, hE⟩ : ∃ E, E = a.all okV := ⟨_, rfl⟩
  rw [← hE]
  rw [ldN_all] at hE
  obtain ⟨A, hA⟩ : ∃ A, A = ldN okV a := ⟨_, rfl⟩
  rw [← hA] at hla ya na hE
  clear hA
  obtain ⟨m, hm⟩ : ∃ m, m = a.length := ⟨_, rfl⟩
  have cv := bl_conv w a m hm.symm
  have cc := Lib.hid (bl_cell w a)
  have BB := Lib.hid (bl_below w (strL a))
  rw [← hm] at cc hla na h hE
  replace hE := Lib.hid hE
  clear hm
  obtain ⟨B, hB⟩ : ∃ B, B = w.heap.size := ⟨_, rfl⟩
  rw [← hB] at cv cc BB ⊢
  replace hB := Lib.hid hB
  generalize Lib.bytesWorld w 5 (strL a) = wb at *
  generalize grownCap w m 0 5 = cp at *
  go_enter Tryd.func47, Tryd.ntmps47
  go_wp2_with fail
  go_loopg [8] A (fun g' iv wr => ∃ k : Nat, k + g' = A ∧ iv = .int .i64 k ∧ wb = wr)
  case atStart => exact ⟨0, by omega, rfl, rfl⟩
  case round =>
    clear cv
    obtain ⟨k, hk, rfl, rfl⟩ := hrel
    by_cases hlt : k < A
    · have g1 : decide ((k : Int) < (m : Int)) = true := decide_eq_true (by omega)
      have g1' : decide (k < m) = true := decide_eq_true (by omega)
      have c0 := cc.out k (by omega)
      have ia := fun w' => at_u8s B m cp k w' (by omega) (k : Int) rfl
      have hv := ya.out k hlt
      have hb := (a.getD k 0).toNat_lt
      generalize a.getD k 0 = c at *
      unfold okV at hv
      simp only [Bool.and_eq_true, decide_eq_true_eq] at hv
      obtain ⟨x, hx⟩ : ∃ x, x = c.toNat := ⟨_, rfl⟩
      rw [← hx] at hv c0 hb
      clear hx
      obtain ⟨v1, v2⟩ := hv
      have e1 : decide ((x : Int) < 32) = false := decide_eq_false (by omega)
      have e2 : decide ((126 : Int) < (x : Int)) = false := decide_eq_false (by omega)
      clear v1 v2
      go_wp2_with fail
      go_roundg (A - (k + 1))
      case measure => omega
      case rel => exact ⟨k + 1, by omega, by go_num, rfl⟩
    · obtain rfl : k = A := by omega
      by_cases hin : k < m
      · have g1 : decide ((k : Int) < (m : Int)) = true := decide_eq_true (by omega)
        have g1' : decide (k < m) = true := decide_eq_true hin
        have c0 := cc.out k hin
        have ia := fun w' => at_u8s B m cp k w' hin (k : Int) rfl
        have hv := na.out hin
        have hb := (a.getD k 0).toNat_lt
        generalize a.getD k 0 = c at *
        unfold okV at hv
        simp only [Bool.and_eq_false_iff, decide_eq_false_iff_not] at hv
        obtain ⟨x, hx⟩ : ∃ x, x = c.toNat := ⟨_, rfl⟩
        rw [← hx] at hv c0 hb
        clear hx
        have E0 : Hid (E = false) := hE.out.trans (decide_eq_false (by omega))
        clear hE
        by_cases u1 : x < 32
        · have e1 : decide ((x : Int) < 32) = true := decide_eq_true (by omega)
          clear hv u1
          go_wp2_with fail
          go_ret
          exact ⟨by rw [E0.out]; rfl, BB.out⟩
        · have e1 : decide ((x : Int) < 32) = false := decide_eq_false (by omega)
          have e2 : decide ((126 : Int) < (x : Int)) = true := decide_eq_true (by omega)
          clear hv u1
          go_wp2_with fail
          go_ret
          exact ⟨by rw [E0.out]; rfl, BB.out⟩
      · have g1 : decide ((k : Int) < (m : Int)) = false := decide_eq_false (by omega)
        have g1' : decide (k < m) = false := decide_eq_false hin
        have E0 : Hid (E = true) := hE.out.trans (decide_eq_true (by omega))
        clear hE
        go_wp2_with fail
        go_ret
        exact ⟨by rw [E0.out]; rfl, BB.out⟩
theorem rt_is {a b : L} (h1 : ¬ (256 < a.length ∨ 256 < b.length)) : rtE (a, b) = if (!a.isEmpty && a.all okN) = true then (if b.all okV = true then 0 else 3) else 3 := by
  unfold rtE
  simp only
  rw [if_neg h1]
  cases a with
  | nil => simp
  | cons c a =>
    rw [if_neg (by simp)]
    by_cases q : (c :: a).all okN = true
    · rw [q]
      simp
    · rw [if_neg (fun x => q x.1)]
      have : (c :: a).all okN = false := by simpa using q
      rw [this]
      simp
set_option maxHeartbeats 8000000 in
theorem cfield_ok (f : Fd) (w : World) : Calls Tryd.prog 37 #[fbV f] w fun e w' => e = .returned (.int .i64 (rtE f)) ∧ Below w.heap.size w w' := by
  obtain ⟨a, b⟩ := f
  obtain ⟨E, hE⟩ : ∃ E, E = rtE (a, b) := ⟨_, rfl⟩
  rw [← hE]
  replace hE := Lib.hid hE
  unfold fbV
  simp only
  have sa := strL_size a
  have sb := strL_size b
  have BA : Hid (Below w.heap.size w (w.alloc (.cells #[.string (strL a), .string (strL b)] 35))) := (Below.refl _ _).alloc (Nat.le_refl _) _
  by_cases q1 : 256 < a.length ∨ 256 < b.length
  · have E0 : Hid (E = 8) := by unfold Hid; rw [hE.out]; unfold rtE; exact if_pos q1
    by_cases q2 : 256 < a.length
    · have z1 : decide ((256 : Int) < ((strL a).size : Int)) = true := decide_eq_true (by omega)
      have z1' : decide (256 < (strL a).size) = true := decide_eq_true (by omega)
      clear sa sb hE
      go_enter Tryd.func37, Tryd.ntmps37
      go_wp2_with fail
      go_ret
      exact ⟨by rw [E0.out]; rfl, BA.out⟩
    · have z1 : decide ((256 : Int) < ((strL a).size : Int)) = false := decide_eq_false (by omega)
      have z1' : decide (256 < (strL a).size) = false := decide_eq_false (by omega)
      have z2 : decide ((256 : Int) < ((strL b).size : Int)) = true := decide_eq_true (by omega)
      have z2' : decide (256 < (strL b).size) = true := decide_eq_true (by omega)
      clear sa sb hE
      go_enter Tryd.func37, Tryd.ntmps37
      go_wp2_with fail
      go_ret
      exact ⟨by rw [E0.out]; rfl, BA.out⟩
  · have z1 : decide ((256 : Int) < ((strL a).size : Int)) = false := decide_eq_false (by omega)
    have z1' : decide (256 < (strL a).size) = false := decide_eq_false (by omega)
    have z2 : decide ((256 : Int) < ((strL b).size : Int)) = false := decide_eq_false (by omega)
    have z2' : decide (256 < (strL b).size) = false := decide_eq_false (by omega)
    have ri := rt_is q1
    have N : Hid (∀ w, _) := fun w => isName_ok a w (by omega)
    have V : Hid (∀ w, _) := fun w => isValue_ok b w (by omega)
    obtain ⟨wa, hwa⟩ : ∃ wa, wa = w.alloc (.cells #[.string (strL a), .string (strL b)] 35) := ⟨_, rfl⟩
    have lA : Lies wa w.heap.size [.string (strL a), .string (strL b)] := by rw [hwa]; exact Lies.new w _ _
    rw [← hwa] at BA
    obtain ⟨K, hK⟩ : ∃ K, K = w.heap.size := ⟨_, rfl⟩
    rw [← hK] at lA BA ⊢
    have c0 := lA.cell 0 (v := .string (strL a)) rfl
    have c1 := lA.cell 1 (v := .string (strL b)) rfl
    have LA := Lib.hid lA
    clear lA sa sb q1
    obtain ⟨p, hp⟩ : ∃ p, p = (!a.isEmpty && a.all okN) := ⟨_, rfl⟩
    obtain ⟨q, hq⟩ : ∃ q, q = b.all okV := ⟨_, rfl⟩
    rw [← hp] at N ri
    rw [← hq] at V ri
    rw [ri] at hE
    clear ri hp hq
    have hKw : Hid (w.heap.size ≤ wa.heap.size) := BA.out.size
    go_enter Tryd.func37, Tryd.ntmps37
    go_wp2_with fail
    rw [← hwa, ← hK]
    clear hwa
    have hKw2 : Hid (K ≤ wa.heap.size) := by unfold Hid; rw [hK]; exact hKw.out
    replace hK := Lib.hid hK
    refine (N.out wa).mono ?_
    rintro e w1 ⟨rfl, b1⟩
    have L1 := LA.out.keep (by show 0 < 2; decide) b1
    have B1 : Hid (Below K w w1) := BA.out.trans (b1.mono hKw2.out)
    have hK1 : Hid (K ≤ w1.heap.size) := Nat.le_trans hKw2.out b1.size
    clear c0 c1 LA b1 N BA
    have c1 := L1.cell 1 (v := .string (strL b)) rfl
    clear L1
    cases p
    · have E0 : Hid (E = 3) := by unfold Hid; rw [hE.out]; rfl
      clear hE
      go_wp2_with fail
      go_ret
      exact ⟨by rw [E0.out]; rfl, B1.out⟩
    · go_wp2_with fail
      refine (V.out w1).mono ?_
      rintro e w2 ⟨rfl, b2⟩
      have B2 : Hid (Below K w w2) := B1.out.trans (b2.mono hK1.out)
      clear b2 B1 V c1
      cases q
      · have E0 : Hid (E = 3) := by unfold Hid; rw [hE.out]; rfl
        clear hE
        go_wp2_with fail
        go_ret
        exact ⟨by rw [E0.out]; rfl, B2.out⟩
      · have E0 : Hid (E = 0) := by unfold Hid; rw [hE.out]; rfl
        clear hE
        go_wp2_with fail
        go_ret
        exact ⟨by rw [E0.out]; rfl, B2.out⟩
end Go.Proofs.YtojfcflkanohoaaDoor
