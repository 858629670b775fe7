/-
  What the document's own right answers of a field. No condition.
-/
import Derived.Test.YtojfcflkanohoaaDoorTgFd
import Derived.Test.YtojfcflkanohoaaDoorObCells
import Derived.Deep.LoopGhost
import Derived.Lib.QuietBelow
import Derived.BigQuiet
import Derived.RegionTactic
namespace Go.Proofs.YtojfcflkanohoaaDoor
set_option maxRecDepth 100000
open Go.RowKit Go.Sort

/-- How many stand at the front of which something holds. -/
def ldN (p : UInt8 → Bool) : L → Nat
  | [] => 0
  | c :: l => if p c = true then ldN p l + 1 else 0
theorem ldN_le (p : UInt8 → Bool) : ∀ l, ldN p l ≤ l.length
  | [] => Nat.le_refl _
  | c :: l => by
    unfold ldN
    have := ldN_le p l
    split
    · rw [List.length_cons]; omega
    · omega
theorem ldN_yes (p : UInt8 → Bool) : ∀ (l : L) (i : Nat), i < ldN p l → p (l.getD i 0) = true
  | [], i, h => by simp [ldN] at h
  | c :: l, i, h => by
    unfold ldN at h
    split at h
    · rename_i q
      cases i with
      | zero => simpa using q
      | succ i => simpa using ldN_yes p l i (by omega)
    · omega
theorem ldN_no (p : UInt8 → Bool) : ∀ l : L, ldN p l < l.length → p (l.getD (ldN p l) 0) = false
  | [], h => by simp at h
  | c :: l, h => by
    unfold ldN at h ⊢
    split
    · rename_i q
      rw [if_pos q] at h
      simpa using ldN_no p l (by simpa using h)
    · rename_i q
      simpa using q
theorem ldN_all (p : UInt8 → Bool) : ∀ l : L, l.all p = decide (ldN p l = l.length)
  | [] => rfl
  | c :: l => by
    unfold ldN
    rw [List.all_cons, ldN_all p l]
    by_cases q : p c = true
    · rw [if_pos q, q]
      simp
    · rw [if_neg q]
      have : p c = false := by simpa using q
      rw [this]
      simp
theorem at_strL (l : L) (i : Nat) (w : World) (h : i < l.length) (z : Int) (hz : z = i) :
    (Instr.index 9 (.string (strL l)) (.int .i64 z)).run Tryd.prog w = .ok (.int .u8 ((l.getD i 0).toNat : Int)) w := by
  subst hz
  have hs : i < (strL l).size := by rw [strL_size]; exact h
  rw [run_index_string (P := Tryd.prog) w 9 (strL l) .i64 i Tryd.underlying9]
  have h1 : (i : Int) < (strL l).size := by omega
  have hx : (strL l)[i] = l.getD i 0 := by
    have e : l.getD i 0 = l[i] := by rw [List.getD, List.getElem?_eq_getElem h]; rfl
    rw [e]
    rfl
  simp [h1, hx]
def fbV (f : Fd) : Value := .agg #[.string (strL f.1), .string (strL f.2)]
theorem emp_strL (l : L) : (strL l).toList.isEmpty = l.isEmpty := by
  rw [ByteArray.toList_eq]
  rfl
set_option maxHeartbeats 8000000 in
theorem rright_ok (f : Fd) (w : World) : Calls Tryd.prog 27 #[fbV f] w fun e w' => e = .returned (.int .i64 (rtE f)) ∧ Below w.heap.size w w' := by
  obtain ⟨a, b⟩ := f
  unfold fbV rtE
  simp only
  have sa := strL_size a
  have sb := strL_size b
  have BA : Hid (Below w.heap.size w (w.alloc (.cells #[.string (strL a), .string (strL b)] 35))) := (Below.refl _ _).alloc (Nat.le_refl _) _
  by_cases q1 : 256 < a.length ∨ 256 < b.length
  · rw [if_pos q1]
    by_cases q2 : 256 < a.length
    · have z1 : decide ((256 : Int) < ((strL a).size : Int)) = true := decide_eq_true (by omega)
      have z1' : decide (256 < (strL a).size) = true := decide_eq_true (by omega)
      clear sa sb
      go_enter Tryd.func27, Tryd.ntmps27
      go_wp2_with fail
      go_ret
      exact ⟨rfl, BA.out⟩
    · have z1 : decide ((256 : Int) < ((strL a).size : Int)) = false := decide_eq_false (by omega)
      have z1' : decide (256 < (strL a).size) = false := decide_eq_false (by omega)
      have z2 : decide ((256 : Int) < ((strL b).size : Int)) = true := decide_eq_true (by omega)
      have z2' : decide (256 < (strL b).size) = true := decide_eq_true (by omega)
      clear sa sb
      go_enter Tryd.func27, Tryd.ntmps27
      go_wp2_with fail
      go_ret
      exact ⟨rfl, BA.out⟩
  · rw [if_neg q1]
    have z1 : decide ((256 : Int) < ((strL a).size : Int)) = false := decide_eq_false (by omega)
    have z1' : decide (256 < (strL a).size) = false := decide_eq_false (by omega)
    have z2 : decide ((256 : Int) < ((strL b).size : Int)) = false := decide_eq_false (by omega)
    have z2' : decide (256 < (strL b).size) = false := decide_eq_false (by omega)
    by_cases q3 : a = []
    · rw [if_pos q3]
      have z3 : (strL a).toList.isEmpty = true := by rw [emp_strL, q3]; rfl
      replace q3 := Lib.hid q3
      clear sa sb
      go_enter Tryd.func27, Tryd.ntmps27
      go_wp2_with fail
      go_ret
      exact ⟨rfl, BA.out⟩
    · rw [if_neg q3, ldN_all, ldN_all]
      have z3 : (strL a).toList.isEmpty = false := by
        rw [emp_strL]
        cases a with
        | nil => exact absurd rfl q3
        | cons => rfl
      have hla := ldN_le okN a
      have hlb := ldN_le okV b
      have ya := Lib.hid (ldN_yes okN a)
      have na := Lib.hid (ldN_no okN a)
      have yb := Lib.hid (ldN_yes okV b)
      have nb := Lib.hid (ldN_no okV b)
      obtain ⟨A, hA⟩ : ∃ A, A = ldN okN a := ⟨_, rfl⟩
      obtain ⟨C, hC⟩ : ∃ C, C = ldN okV b := ⟨_, rfl⟩
      rw [← hA] at hla ya na ⊢
      rw [← hC] at hlb yb nb ⊢
      clear hA hC q3
      obtain ⟨m, hm⟩ : ∃ m, m = a.length := ⟨_, rfl⟩
      obtain ⟨n, hn⟩ : ∃ n, n = b.length := ⟨_, rfl⟩
      have am := fun i w' h => at_strL a i w' h (i : Int) rfl
      have bm := fun i w' h => at_strL b i w' h (i : Int) rfl
      rw [← hm] at am hla na sa q1 ⊢
      rw [← hn] at bm hlb nb sb q1 ⊢
      replace am := Lib.hid am
      replace bm := Lib.hid bm
      have sa' : ((strL a).size : Int) = (m : Int) := by omega
      have sb' : ((strL b).size : Int) = (n : Int) := by omega
      obtain ⟨wa, hwa⟩ : ∃ wa, wa = w.alloc (.cells #[.string (strL a), .string (strL b)] 35) := ⟨_, rfl⟩
      have lA : Lies wa w.heap.size [.string (strL a), .string (strL b)] := by rw [hwa]; exact Lies.new w _ _
      have c0 := lA.cell 0 (v := .string (strL a)) rfl
      have c1 := lA.cell 1 (v := .string (strL b)) rfl
      rw [← hwa] at BA
      obtain ⟨K, hK⟩ : ∃ K, K = w.heap.size := ⟨_, rfl⟩
      rw [← hK] at c0 c1 BA ⊢
      obtain ⟨E, hE⟩ : ∃ E : Int, E = if decide (A = m) = true ∧ decide (C = n) = true then 0 else 3 := ⟨_, rfl⟩
      rw [← hE]
      replace hE := Lib.hid hE
      have h256 : m ≤ 256 ∧ n ≤ 256 := by omega
      obtain ⟨hm256, hn256⟩ := h256
      clear lA q1 hm hn
      go_enter Tryd.func27, Tryd.ntmps27
      go_wp2_with fail
      rw [← hwa, ← hK]
      clear hwa
      replace hK := Lib.hid hK
      go_loopg [3] A (fun g' iv wr => ∃ k : Nat, k + g' = A ∧ iv = .int .i64 k ∧ wa = wr)
      case atStart => exact ⟨0, by omega, rfl, rfl⟩
      case round =>
        obtain ⟨k, hk, rfl, rfl⟩ := hrel
        by_cases hlt : k < A
        · have g1 : decide ((k : Int) < (m : Int)) = true := decide_eq_true (by omega)
          have g1' : decide (k < m) = true := decide_eq_true (by omega)
          have ia := fun w' => am.out k w' (by omega)
          have hv := ya.out k hlt
          have hb := (a.getD k 0).toNat_lt
          generalize a.getD k 0 = c at *
          unfold okN at hv
          simp only [Bool.or_eq_true, Bool.and_eq_true, decide_eq_true_eq] at hv
          obtain ⟨x, hx⟩ : ∃ x, x = c.toNat := ⟨_, rfl⟩
          rw [← hx] at hv ia hb
          clear hx
          rcases hv with ((⟨v1, v2⟩ | ⟨v1, v2⟩) | v1) | v1
          · have e1 : decide ((x : Int) < 97) = false := decide_eq_false (by omega)
            have e2 : decide ((122 : Int) < (x : Int)) = false := decide_eq_false (by omega)
            clear v1 v2
            go_wp2_with fail
            go_roundg (A - (k + 1))
            case measure => omega
            case rel => exact ⟨k + 1, by omega, by go_num, rfl⟩
          · have e1 : decide ((x : Int) < 97) = true := decide_eq_true (by omega)
            have e2 : decide ((x : Int) < 48) = false := decide_eq_false (by omega)
            have e3 : decide ((57 : Int) < (x : Int)) = false := decide_eq_false (by omega)
            clear v1 v2
            go_wp2_with fail
            go_roundg (A - (k + 1))
            case measure => omega
            case rel => exact ⟨k + 1, by omega, by go_num, rfl⟩
          · subst v1
            go_wp2_with fail
            go_roundg (A - (k + 1))
            case measure => omega
            case rel => exact ⟨k + 1, by omega, by go_num, rfl⟩
          · subst v1
            go_wp2_with fail
            go_roundg (A - (k + 1))
            case measure => omega
            case rel => exact ⟨k + 1, by omega, by go_num, rfl⟩
        · obtain rfl : k = A := by omega
          by_cases hin : k < m
          · have g1 : decide ((k : Int) < (m : Int)) = true := decide_eq_true (by omega)
            have g1' : decide (k < m) = true := decide_eq_true hin
            have ia := fun w' => am.out k w' hin
            have hv := na.out hin
            have hb := (a.getD k 0).toNat_lt
            generalize a.getD k 0 = c at *
            unfold okN at hv
            simp only [Bool.or_eq_false_iff, Bool.and_eq_false_iff, decide_eq_false_iff_not] at hv
            obtain ⟨x, hx⟩ : ∃ x, x = c.toNat := ⟨_, rfl⟩
            rw [← hx] at hv ia hb
            clear hx
            have E0 : Hid (E = 3) := hE.out.trans (if_neg (fun q => by have := of_decide_eq_true q.1; omega))
            clear hE
            obtain ⟨⟨⟨v1, v2⟩, v3⟩, v4⟩ := hv
            have e5 : ((x : Int) != 45) = true := by rw [bne_iff_ne]; omega
            have e6 : ((x : Int) != 58) = true := by rw [bne_iff_ne]; omega
            by_cases u1 : x < 48
            · have e1 : decide ((x : Int) < 97) = true := decide_eq_true (by omega)
              have e2 : decide ((x : Int) < 48) = true := decide_eq_true (by omega)
              clear v1 v2 v3 v4 u1
              go_wp2_with fail
              go_ret
              exact ⟨by rw [E0.out]; rfl, BA.out⟩
            · by_cases u2 : x < 97
              · have e1 : decide ((x : Int) < 97) = true := decide_eq_true (by omega)
                have e2 : decide ((x : Int) < 48) = false := decide_eq_false (by omega)
                have e3 : decide ((57 : Int) < (x : Int)) = true := decide_eq_true (by omega)
                clear v1 v2 v3 v4 u1 u2
                go_wp2_with fail
                go_ret
                exact ⟨by rw [E0.out]; rfl, BA.out⟩
              · have e1 : decide ((x : Int) < 97) = false := decide_eq_false (by omega)
                have e2 : decide ((122 : Int) < (x : Int)) = true := decide_eq_true (by omega)
                have e3 : decide ((x : Int) < 48) = false := decide_eq_false (by omega)
                have e4 : decide ((57 : Int) < (x : Int)) = true := decide_eq_true (by omega)
                clear v1 v2 v3 v4 u1 u2
                go_wp2_with fail
                go_ret
                exact ⟨by rw [E0.out]; rfl, BA.out⟩
          · have g1 : decide ((k : Int) < (m : Int)) = false := decide_eq_false (by omega)
            have g1' : decide (k < m) = false := decide_eq_false hin
            have eKM : Hid (E = if C = n then 0 else 3) := by
              unfold Hid
              rw [hE.out, decide_eq_true (show k = m by omega)]
              by_cases q : C = n
              · rw [if_pos q, if_pos ⟨rfl, decide_eq_true q⟩]
              · rw [if_neg q, if_neg (fun c => q (of_decide_eq_true c.2))]
            clear hE
            go_wp2_with fail
            go_loopg [5] C (fun g' iv wr => ∃ j : Nat, j + g' = C ∧ iv = .int .i64 j ∧ wa = wr)
            case atStart => exact ⟨0, by omega, rfl, rfl⟩
            case round =>
              clear ya na am
              obtain ⟨j, hj, rfl, rfl⟩ := hrel
              by_cases hlj : j < C
              · have g2 : decide ((j : Int) < (n : Int)) = true := decide_eq_true (by omega)
                have g2' : decide (j < n) = true := decide_eq_true (by omega)
                have ib := fun w' => bm.out j w' (by omega)
                have hv := yb.out j hlj
                have hb := (b.getD j 0).toNat_lt
                generalize b.getD j 0 = c at *
                unfold okV at hv
                simp only [Bool.and_eq_true, decide_eq_true_eq] at hv
                obtain ⟨x, hx⟩ : ∃ x, x = c.toNat := ⟨_, rfl⟩
                rw [← hx] at hv ib hb
                clear hx
                obtain ⟨v1, v2⟩ := hv
                have e1 : decide ((x : Int) < 32) = false := decide_eq_false (by omega)
                have e2 : decide ((126 : Int) < (x : Int)) = false := decide_eq_false (by omega)
                clear v1 v2
                go_wp2_with fail
                go_roundg (C - (j + 1))
                case measure => omega
                case rel => exact ⟨j + 1, by omega, by go_num, rfl⟩
              · obtain rfl : j = C := by omega
                by_cases hin2 : j < n
                · have g2 : decide ((j : Int) < (n : Int)) = true := decide_eq_true (by omega)
                  have g2' : decide (j < n) = true := decide_eq_true hin2
                  have ib := fun w' => bm.out j w' hin2
                  have hv := nb.out hin2
                  have hb := (b.getD j 0).toNat_lt
                  generalize b.getD j 0 = c at *
                  unfold okV at hv
                  simp only [Bool.and_eq_false_iff, decide_eq_false_iff_not] at hv
                  obtain ⟨x, hx⟩ : ∃ x, x = c.toNat := ⟨_, rfl⟩
                  rw [← hx] at hv ib hb
                  clear hx
                  have E0 : Hid (E = 3) := eKM.out.trans (if_neg (by omega))
                  clear eKM
                  by_cases u1 : x < 32
                  · have e1 : decide ((x : Int) < 32) = true := decide_eq_true (by omega)
                    clear hv u1
                    go_wp2_with fail
                    go_ret
                    exact ⟨by rw [E0.out]; rfl, BA.out⟩
                  · have e1 : decide ((x : Int) < 32) = false := decide_eq_false (by omega)
                    have e2 : decide ((126 : Int) < (x : Int)) = true := decide_eq_true (by omega)
                    clear hv u1
                    go_wp2_with fail
                    go_ret
                    exact ⟨by rw [E0.out]; rfl, BA.out⟩
                · have g2 : decide ((j : Int) < (n : Int)) = false := decide_eq_false (by omega)
                  have g2' : decide (j < n) = false := decide_eq_false hin2
                  have E0 : Hid (E = 0) := eKM.out.trans (if_pos (by omega))
                  clear eKM
                  go_wp2_with fail
                  go_ret
                  exact ⟨by rw [E0.out]; rfl, BA.out⟩
end Go.Proofs.YtojfcflkanohoaaDoor
