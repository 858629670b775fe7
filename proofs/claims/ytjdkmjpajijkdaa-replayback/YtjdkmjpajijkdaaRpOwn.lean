/-
  What the program's own New, Check, See and Top of a window answer, and what they leave. No condition.
-/
import Derived.Test.YtjdkmjpajijkdaaRpBits
import Derived.Test.YtjdkmjpajijkdaaObCells
import Derived.RegionTactic
import Derived.Deep.QuietTactic
import Derived.BigQuiet
namespace Go.Proofs.Ytjdkmjpajijkdaa
set_option maxRecDepth 100000
open Go.RowKit

/-- The program's window in a block: the numbers l were seen. -/
def WinIs (w : World) (B : Nat) (l : List Int) : Prop := ∃ (t : Int) (b : Nat), Lies w B [.int .i64 t, .int .u64 (b : Int)] ∧ Bits l t b
theorem WinIs.of_block {w w' : World} {B : Nat} {l : List Int} (h : WinIs w B l) (e : w'.heap[B]? = w.heap[B]?) : WinIs w' B l := by
  obtain ⟨t, b, h, hb⟩ := h
  exact ⟨t, b, h.of_block e, hb⟩
theorem WinIs.lt {w : World} {B : Nat} {l : List Int} (h : WinIs w B l) : B < w.heap.size := by
  obtain ⟨t, b, h, _⟩ := h
  exact h.lt (by show 0 < 2; decide)
theorem WinIs.inr {w : World} {B : Nat} {l : List Int} (h : WinIs w B l) : InR l := by
  obtain ⟨t, b, _, h⟩ := h
  exact h.inr
theorem wnew_ok (w : World) :
    Calls Try.prog 7 #[] w fun e w' => ∃ B, e = .returned (.pointer (some ⟨B, 0, none⟩)) ∧ WinIs w' B [] ∧ w.heap.size ≤ B ∧ B < w'.heap.size ∧ Below w.heap.size w w' := by
  go_enter Try.func7, Try.ntmps7
  go_wp2
  go_ret
  exact ⟨w.heap.size, rfl, ⟨0, 0, Lies.new w [.int .i64 0, .int .u64 0] 43, Bits.none⟩, Nat.le_refl _, by simp, (Below.refl _ _).alloc (Nat.le_refl _) _⟩
theorem drewNB (B : Nat) (w : World) (k : Nat) : Below B w (w.drewN k) := ⟨rfl, rfl, rfl, Nat.le_refl _, fun _ _ => rfl⟩
theorem Bits.nil' {l : List Int} {t : Int} {b : Nat} (h : Bits l t b) (e : b = 0) : t = 0 := by
  rw [h.tp, h.pos.1 e]
  rfl
theorem shr_bit (b d : Nat) (hb : b < 18446744073709551616) : (bits .and .u64 ((b : Int) / 2 ^ d) 1 == 1) = b.testBit d := by
  have h0 : (b : Int) / 2 ^ d = ((b / 2 ^ d : Nat) : Int) := by simp
  have h1 : bits .and .u64 ((b / 2 ^ d : Nat) : Int) 1 = (((b / 2 ^ d) &&& 1 : Nat) : Int) := u64_and_nat (b / 2 ^ d) 1 (Nat.lt_of_le_of_lt (Nat.div_le_self _ _) hb) (by decide)
  rw [h0, h1, Nat.testBit, Nat.shiftRight_eq_div_pow, Nat.and_comm]
  have : 1 &&& b / 2 ^ d = 0 ∨ 1 &&& b / 2 ^ d = 1 := by rw [Nat.and_comm, Nat.and_one_is_mod]; omega
  rcases this with e | e <;> rw [e] <;> rfl
set_option maxHeartbeats 4000000 in
theorem isOld_far (B : Nat) (d : Int) (w : World) (hd : 64 ≤ d) :
    Calls Try.prog 15 #[.pointer (some ⟨B, 0, none⟩), .int .i64 d] w fun e w' => e = .returned (.bool true) ∧ w' = w := by
  go_enter Try.func15, Try.ntmps15
  go_wp2
  go_ret
  exact ⟨rfl, rfl⟩
set_option maxHeartbeats 4000000 in
theorem isOld_near (B : Nat) (t : Int) (b d : Nat) (w : World) (h : Lies w B [.int .i64 t, .int .u64 (b : Int)]) (hlt : b < 18446744073709551616) (hd : d < 64) :
    Calls Try.prog 15 #[.pointer (some ⟨B, 0, none⟩), .int .i64 (d : Int)] w fun e w' => e = .returned (.bool (b.testBit d)) ∧ w' = w := by
  have c1 := h.cell 1 (v := .int .u64 (b : Int)) rfl
  have hs := shr_bit b d hlt
  have g64 : decide (64 ≤ (d : Int)) = false := decide_eq_false (by omega)
  clear h
  go_enter Try.func15, Try.ntmps15
  go_wp2
  go_ret
  exact ⟨rfl, rfl⟩
set_option maxHeartbeats 4000000 in
theorem wcheck_ok (B : Nat) (l : List Int) (n : Int) (w : World) (h : WinIs w B l) :
    Calls Try.prog 8 #[.pointer (some ⟨B, 0, none⟩), .int .i64 n] w fun e w' => e = .returned (.int .i64 (chk l n)) ∧ Below w.heap.size w w' := by
  by_cases hn : n < 0
  · rw [chk_range (.inl hn)]
    clear h
    go_enter Try.func8, Try.ntmps8
    go_wp2
    go_ret
    exact ⟨rfl, Below.refl _ _⟩
  by_cases hm : 4611686018427387903 < n
  · rw [chk_range (.inr hm)]
    clear h
    go_enter Try.func8, Try.ntmps8
    go_wp2
    go_ret
    exact ⟨rfl, Below.refl _ _⟩
  obtain ⟨t, b, h, hb⟩ := h
  have c0 := h.cell 0 (v := .int .i64 t) rfl
  have ht0 := top_nonneg l
  have ht1 := top_le hb.inr
  rw [← hb.tp] at ht0 ht1
  have hlt := hb.lt
  by_cases hg : t < n
  · rw [hb.free (by omega) (by omega) (.inr hg)]
    have q : decide (n ≤ t) = false := decide_eq_false (by omega)
    clear h hb
    go_enter Try.func8, Try.ntmps8
    go_wp2
    go_quiet (fail)
    go_wp2
    go_ret
    exact ⟨rfl, drewNB _ _ _⟩
  have q : decide (n ≤ t) = true := decide_eq_true (by omega)
  by_cases h64 : 64 ≤ t - n
  · have hz : b ≠ 0 := by
      intro e
      have := hb.nil' e
      omega
    have S : Hid (∀ k, _) := fun k => isOld_far B (t - n) (w.drewN k) h64
    rw [hb.old (by omega) (by omega) hz h64]
    clear h hb
    go_enter Try.func8, Try.ntmps8
    go_wp2
    go_quiet ((go_at_call 15; exact Calls.quiet_of_same (S.out _)))
    go_wp2
    go_ret
    exact ⟨rfl, drewNB _ _ _⟩
  obtain ⟨d, hd⟩ : ∃ d : Nat, (d : Int) = t - n := ⟨(t - n).toNat, by omega⟩
  have hd64 : d < 64 := by omega
  have e : chk l n = if b.testBit d then 11 else 0 := by
    by_cases hz : b = 0
    · rw [hb.free (by omega) (by omega) (.inl hz), hz]
      simp
    · exact hb.seen (by omega) (by omega) hz d hd hd64
  rw [e]
  have S : Hid (∀ k, _) := fun k => isOld_near B t b d (w.drewN k) (h.of_block rfl) hlt hd64
  have hdi : t - n = (d : Int) := hd.symm
  clear e h hb hd
  cases hbit : b.testBit d
  · rw [hbit] at S
    go_enter Try.func8, Try.ntmps8
    go_wp2
    go_quiet ((go_at_call 15; exact Calls.quiet_of_same (S.out _)))
    go_wp2
    go_ret
    exact ⟨rfl, drewNB _ _ _⟩
  · rw [hbit] at S
    go_enter Try.func8, Try.ntmps8
    go_wp2
    go_quiet ((go_at_call 15; exact Calls.quiet_of_same (S.out _)))
    go_wp2
    go_ret
    exact ⟨rfl, drewNB _ _ _⟩
theorem kept1 (w : World) (B j : Nat) (v : Value) : Kept (fun k => k = B) w (w.setCell ⟨B, j, none⟩ v) := Kept.set (F := fun k => k = B) (Kept.refl _ w) ⟨B, j, none⟩ rfl v
theorem or_u64 (x y : Nat) (hx : x < 18446744073709551616) (hy : y < 18446744073709551616) : bits .or .u64 (x : Int) (y : Int) = ((x ||| y : Nat) : Int) := u64_or_nat x y hx hy
theorem u64_wrap (x : Int) : IntKind.u64.wrap x = x % 18446744073709551616 := by simp [IntKind.wrap, IntKind.bits, IntKind.signed]
theorem shl_or (b s : Nat) : bits .or .u64 (IntKind.u64.wrap ((b : Int) * 2 ^ min s 64)) 1 = (((b * 2 ^ s) % 18446744073709551616 ||| 1 : Nat) : Int) := by
  have h : IntKind.u64.wrap ((b : Int) * 2 ^ min s 64) = (((b * 2 ^ s) % 18446744073709551616 : Nat) : Int) := by
    rw [u64_wrap]
    have e : ((b : Int) * 2 ^ min s 64) = ((b * 2 ^ min s 64 : Nat) : Int) := by simp
    rw [e]
    have e2 : (b * 2 ^ min s 64) % 18446744073709551616 = (b * 2 ^ s) % 18446744073709551616 := by
      by_cases q : s ≤ 64
      · rw [Nat.min_eq_left q]
      · rw [Nat.min_eq_right (by omega)]
        have h1 : b * 2 ^ s = (b * 2 ^ (s - 64)) * 18446744073709551616 := by
          rw [show (18446744073709551616 : Nat) = 2 ^ 64 from rfl, Nat.mul_assoc, ← Nat.pow_add]
          congr 2
          omega
        rw [h1, show b * 2 ^ 64 = b * 18446744073709551616 from rfl, Nat.mul_mod_left, Nat.mul_mod_left]
    omega
  rw [h]
  exact or_u64 _ 1 (Nat.mod_lt _ (by decide)) (by decide)
theorem or_shl (b s : Nat) (hb : b < 18446744073709551616) (hs : s < 64) : bits .or .u64 (b : Int) (IntKind.u64.wrap (2 ^ s)) = ((b ||| 2 ^ s : Nat) : Int) := by
  have h2 : 2 ^ s < 18446744073709551616 := Nat.pow_lt_pow_right (by decide) hs
  have h : IntKind.u64.wrap (2 ^ s) = ((2 ^ s : Nat) : Int) := by
    rw [u64_wrap]
    have e : (2 : Int) ^ s = ((2 ^ s : Nat) : Int) := by simp
    rw [e]
    exact Int.emod_eq_of_lt (Int.natCast_nonneg _) (Int.ofNat_lt.2 h2)
  rw [h]
  exact or_u64 _ _ hb h2
theorem one_shl (b : Nat) (hb : b < 18446744073709551616) : bits .or .u64 (b : Int) 1 = ((b ||| 1 : Nat) : Int) := or_u64 b 1 hb (by decide)
theorem shl_all (b s : Nat) : IntKind.u64.wrap ((b : Int) * 2 ^ min s 64) = (((b * 2 ^ s) % 18446744073709551616 : Nat) : Int) := by
  rw [u64_wrap]
  have e : ((b : Int) * 2 ^ min s 64) = ((b * 2 ^ min s 64 : Nat) : Int) := by simp
  rw [e]
  have e2 : (b * 2 ^ min s 64) % 18446744073709551616 = (b * 2 ^ s) % 18446744073709551616 := by
    by_cases q : s ≤ 64
    · rw [Nat.min_eq_left q]
    · rw [Nat.min_eq_right (by omega)]
      have h1 : b * 2 ^ s = (b * 2 ^ (s - 64)) * 18446744073709551616 := by
        rw [show (18446744073709551616 : Nat) = 2 ^ 64 from rfl, Nat.mul_assoc, ← Nat.pow_add]
        congr 2
        omega
      rw [h1, show b * 2 ^ 64 = b * 18446744073709551616 from rfl, Nat.mul_mod_left, Nat.mul_mod_left]
  omega
set_option maxHeartbeats 4000000 in
theorem note_ok (B : Nat) (l : List Int) (t : Int) (b : Nat) (n : Int) (w : World) (h : Lies w B [.int .i64 t, .int .u64 (b : Int)]) (hb : Bits l t b) (hc : chk l n = 0) :
    Calls Try.prog 16 #[.pointer (some ⟨B, 0, none⟩), .int .i64 n] w fun e w' => e = .returned (.tuple #[]) ∧ WinIs w' B (l ++ [n]) ∧ Kept (fun k => k = B) w w' := by
  have c0 := h.cell 0 (v := .int .i64 t) rfl
  have c1 := h.cell 1 (v := .int .u64 (b : Int)) rfl
  have f0 := h.free 0 (by show 0 < 2; decide)
  have f1 := h.free 1 (by show 1 < 2; decide)
  have H0 : Hid (Lies w B [.int .i64 t, .int .u64 (b : Int)]) := h
  have ht0 := top_nonneg l
  have ht1 := top_le hb.inr
  rw [← hb.tp] at ht0 ht1
  have hlt := hb.lt
  obtain ⟨⟨h0, h1⟩, hw, hni⟩ := chk_zero.1 hc
  clear h hc
  by_cases hg : t < n
  · obtain ⟨s, hs⟩ : ∃ s : Nat, (s : Int) = n - t := ⟨(n - t).toNat, by omega⟩
    have BT : Hid (Bits (l ++ [n]) n ((b * 2 ^ s) % 18446744073709551616 ||| 1)) := by
      by_cases hz : b = 0
      · have := hb.first h0 h1 hz
        rw [hz, Nat.zero_mul]
        exact this
      · exact hb.great h0 h1 hz s hs (by omega)
    have hsi : n - t = (s : Int) := hs.symm
    have hv := shl_all b s
    have hyl : (b * 2 ^ s) % 18446744073709551616 < 18446744073709551616 := Nat.mod_lt _ (by decide)
    clear hs hb hw hni
    generalize (b * 2 ^ s) % 18446744073709551616 = y at *
    have hy := one_shl y hyl
    have H1 : Hid (Lies (w.setCell ⟨B, 1, none⟩ (.int .u64 (y : Int))).drew B [.int .i64 t, .int .u64 (y : Int)]) := (H0.out.put 1 (by show 1 < 2; decide) (.int .u64 (y : Int))).of_block rfl
    have d0 := H1.out.cell 0 (v := .int .i64 t) rfl
    have k0 := H1.out.free 0 (by show 0 < 2; decide)
    have H2 : Hid (Lies ((w.setCell ⟨B, 1, none⟩ (.int .u64 (y : Int))).drew.setCell ⟨B, 0, none⟩ (.int .i64 n)) B [.int .i64 n, .int .u64 (y : Int)]) := H1.out.put 0 (by show 0 < 2; decide) (.int .i64 n)
    have K2 : Hid (Kept (fun k => k = B) w ((w.setCell ⟨B, 1, none⟩ (.int .u64 (y : Int))).drew.setCell ⟨B, 0, none⟩ (.int .i64 n))) := (kept1 w B 1 _).drew.set _ rfl _
    go_enter Try.func16, Try.ntmps16
    go_wp2
    go_region
    clear c0 c1 f0 f1 H0 hv
    generalize (w.setCell ⟨B, 1, none⟩ (.int .u64 (y : Int))).drew = w1 at *
    go_wp2
    clear d0 k0 H1
    generalize w1.setCell ⟨B, 0, none⟩ (.int .i64 n) = w2 at *
    have c0 := H2.out.cell 0 (v := .int .i64 n) rfl
    have c1 := H2.out.cell 1 (v := .int .u64 (y : Int)) rfl
    have f1 := H2.out.free 1 (by show 1 < 2; decide)
    go_region
    first | go_end0 | refine bodyPost_ret (results_none rfl _ _ _) rfl ?_
    exact ⟨rfl, ⟨n, y ||| 1, (H2.out.put 1 (by show 1 < 2; decide) (.int .u64 ((y ||| 1 : Nat) : Int))).of_block rfl, BT.out⟩, K2.out.trans ((kept1 w2 B 1 _).drew)⟩
  · obtain ⟨s, hs⟩ : ∃ s : Nat, (s : Int) = t - n := ⟨(t - n).toNat, by omega⟩
    have hs64 : s < 64 := by
      by_cases hz : b = 0
      · have := hb.nil' hz
        omega
      · have := hw (fun e => hz (hb.nil e)); rw [← hb.tp] at this; omega
    have BT : Hid (Bits (l ++ [n]) t (b ||| 2 ^ s)) := by
      by_cases hz : b = 0
      · have e1 := hb.nil' hz
        have e2 : s = 0 := by omega
        have e3 : t = n := by omega
        rw [hz, e2, e3]
        exact hb.first h0 h1 hz
      · exact hb.less h0 h1 hz s hs hs64
    have hsi : t - n = (s : Int) := hs.symm
    have hv := or_shl b s hlt hs64
    clear hs hb hw hni
    generalize b ||| 2 ^ s = z at *
    have E : Hid (Lies (w.setCell ⟨B, 1, none⟩ (.int .u64 (z : Int))).drew B [.int .i64 t, .int .u64 (z : Int)]) := (H0.out.put 1 (by show 1 < 2; decide) (.int .u64 (z : Int))).of_block rfl
    have K : Hid (Kept (fun k => k = B) w (w.setCell ⟨B, 1, none⟩ (.int .u64 (z : Int))).drew) := (kept1 w B 1 _).drew
    go_enter Try.func16, Try.ntmps16
    go_wp2
    go_region
    clear c0 c1 f0 f1 hv
    generalize (w.setCell ⟨B, 1, none⟩ (.int .u64 (z : Int))).drew = w1 at *
    go_wp2
    first | go_end0 | refine bodyPost_ret (results_none rfl _ _ _) rfl ?_
    exact ⟨rfl, ⟨t, z, E.out, BT.out⟩, K.out⟩
set_option maxHeartbeats 4000000 in
theorem wsee_ok (B : Nat) (l : List Int) (n : Int) (w : World) (h : WinIs w B l) :
    Calls Try.prog 10 #[.pointer (some ⟨B, 0, none⟩), .int .i64 n] w fun e w' => e = .returned (.int .i64 (chk l n)) ∧ WinIs w' B (nxt l n) ∧ Kept (fun k => k = B) w w' := by
  have CK : Hid (∀ _ : Unit, _) := fun _ => wcheck_ok B l n w h
  have hBlt := h.lt
  have H0 : Hid (WinIs w B l) := h
  clear h
  by_cases hc : chk l n = 0
  · have e1 : nxt l n = l ++ [n] := if_pos hc
    rw [e1, hc]
    rw [hc] at CK
    have MK : Hid (∀ w', WinIs w' B l → Calls Try.prog 16 #[.pointer (some ⟨B, 0, none⟩), .int .i64 n] w' fun e w'' => e = .returned (.tuple #[]) ∧ WinIs w'' B (l ++ [n]) ∧ Kept (fun k => k = B) w' w'') := fun w' h => by
      obtain ⟨t, b, h, hb⟩ := h
      exact note_ok B l t b n w' h hb hc
    clear e1 hc
    go_enter Try.func10, Try.ntmps10
    go_wp2_with fail
    refine (CK.out ()).mono ?_
    rintro e w1 ⟨rfl, b1⟩
    have H1 : Hid (WinIs w1 B l) := H0.out.of_block (b1.block B hBlt)
    have K1 : Hid (Kept (fun k => k = B) w w1) := .of _ b1
    clear b1 CK H0
    go_wp2_with fail
    refine (MK.out _ H1.out).mono ?_
    rintro e w2 ⟨rfl, h2, k2⟩
    have H2 : Hid (WinIs w2 B (l ++ [n])) := h2
    have K2 : Hid (Kept (fun k => k = B) w w2) := K1.out.trans k2
    clear h2 k2 MK H1 K1
    go_wp2
    go_ret
    exact ⟨rfl, H2.out, K2.out⟩
  · have e1 : nxt l n = l := if_neg hc
    rw [e1]
    have g1 : (chk l n == 0) = false := by simpa using hc
    clear e1
    generalize chk l n = A at *
    go_enter Try.func10, Try.ntmps10
    go_wp2_with fail
    refine (CK.out ()).mono ?_
    rintro e w1 ⟨rfl, b1⟩
    have H1 : Hid (WinIs w1 B l) := H0.out.of_block (b1.block B hBlt)
    have K1 : Hid (Kept (fun k => k = B) w w1) := .of _ b1
    clear b1 CK H0
    go_wp2
    go_ret
    exact ⟨rfl, H1.out, K1.out⟩
set_option maxHeartbeats 4000000 in
theorem wtop_ok (B : Nat) (l : List Int) (w : World) (h : WinIs w B l) :
    Calls Try.prog 12 #[.pointer (some ⟨B, 0, none⟩)] w fun e w' => e = .returned (.tuple #[.int .i64 (top l), .bool (decide (0 < l.length))]) ∧ Below w.heap.size w w' := by
  obtain ⟨t, b, h, hb⟩ := h
  have c0 := h.cell 0 (v := .int .i64 t) rfl
  have c1 := h.cell 1 (v := .int .u64 (b : Int)) rfl
  have e : decide (0 < l.length) = ((b : Int) != 0) := by
    by_cases q : l = []
    · rw [(hb.pos).2 q, q]; rfl
    · have h1 : 0 < l.length := List.length_pos_iff.2 q
      have h2 : b ≠ 0 := fun e => q (hb.pos.1 e)
      rw [decide_eq_true h1]
      simp [h2]
  rw [e, ← hb.tp]
  clear e h hb
  go_enter Try.func12, Try.ntmps12
  go_wp2
  go_region
  go_wp2
  go_ret2
  exact ⟨rfl, drewB _ _⟩
end Go.Proofs.Ytjdkmjpajijkdaa
