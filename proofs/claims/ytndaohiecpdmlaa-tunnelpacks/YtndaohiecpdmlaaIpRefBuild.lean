/-
  What the document's own Bytes, b, header and Build answer, for every header. The numbers are int's and uint32's; no other condition.
-/
import Derived.Test.YtndaohiecpdmlaaIpBuildB
import Derived.Test.YtndaohiecpdmlaaIpRefSum
import Derived.Lib.ConvBytes
namespace Go.Proofs.Ytndaohiecpdmlaa
set_option maxRecDepth 100000
open Go.RowKit Go.Sort

def digs : Int → Nat → List Int
  | _, 0 => []
  | n, k + 1 => digs (n / 256) k ++ [n % 256]
theorem digs_length (n : Int) (k : Nat) : (digs n k).length = k := by
  induction k generalizing n with
  | zero => rfl
  | succ k ih => simp [digs, ih]
set_option maxHeartbeats 400000 in
theorem rbytes0 (n : Int) (w : World) :
    Calls Try.prog 21 #[.int .i64 n, .int .i64 0] w fun e w' => e = .returned (.string (strOfNums [])) ∧ Below w.heap.size w w' := by
  go_enter Try.func21, Try.ntmps21
  go_wp2
  go_ret
  exact ⟨rfl, Below.refl _ _⟩
theorem strOfNums_append (a b : List Int) : strOfNums a ++ strOfNums b = strOfNums (a ++ b) := by
  unfold strOfNums
  rw [ByteArray.mk_append_mk, List.map_append]
theorem ret_digs (n : Int) (k : Nat) : Ending.returned (.string (strOfNums (digs (n / 256) k) ++ strOfNums [n % 256])) = .returned (.string (strOfNums (digs n (k + 1)))) := by
  rw [strOfNums_append]; rfl
/-- 'string(b)' of one byte that was made ahead, in whatever world came behind. -/
theorem conv1_later {w1 : World} {B : Nat} {x : Int} {c : Nat} (h : w1.cell? ⟨B, 0, none⟩ = some (.int .u8 x)) :
    (convert 49 9 (.slice (some ⟨B, 0, none⟩) 1 c)).run Try.prog w1 = .ok (.string (strOfNums [x])) w1 :=
  run_convert_bytes_arg (P := Try.prog) _ 49 5 Try.underlying49 Try.underlying5 B 0 1 c [x] rfl (fun i hi => by
    obtain rfl : i = 0 := by omega
    simpa using h) 9 Try.underlying9
theorem conv_after {w w1 : World} {x : Int} (h : Below (w.alloc (.cells #[.int .u8 x] 5)).drew.heap.size (w.alloc (.cells #[.int .u8 x] 5)).drew w1) :
    (convert 49 9 (.slice (some ⟨w.heap.size, 0, none⟩) 1 1)).run Try.prog w1 = .ok (.string (strOfNums [x])) w1 :=
  conv1_later (by rw [h.cell (by simp)]; exact World.cell?_alloc_mark w _ 5 (0, 0) 0)
set_option maxHeartbeats 400000 in
theorem rbytesS (k : Nat) (ih : Hid (∀ (n : Int) (w : World), 0 ≤ n → n < 9223372036854775808 → Calls Try.prog 21 #[.int .i64 n, .int .i64 k] w fun e w' => e = .returned (.string (strOfNums (digs n k))) ∧ Below w.heap.size w w')) (n : Int) (w : World) (h : 0 ≤ n) (hn : n < 9223372036854775808) (hk : k < 8) :
    Calls Try.prog 21 #[.int .i64 n, .int .i64 (k + 1)] w fun e w' => e = .returned (.string (strOfNums (digs n (k + 1)))) ∧ Below w.heap.size w w' := by
  have hb : ((k : Int) + 1 == 0) = false := by simp; omega
  have e1 : IntKind.i64.wrap (n.tdiv 256) = n / 256 := by rw [Int.tdiv_eq_ediv_of_nonneg h]; simp [IntKind.wrap, IntKind.bits, IntKind.signed]; omega
  have e2 : IntKind.i64.wrap (k : Int) = k := by simp [IntKind.wrap, IntKind.bits, IntKind.signed]; omega
  have e3 : IntKind.u8.wrap (n.tmod 256) = n % 256 := by rw [Int.tmod_eq_emod_of_nonneg h]; simp [IntKind.wrap, IntKind.bits, IntKind.signed]
  have hcv : ∀ (w : World) (a : Int), (convert 49 9 (.slice (some ⟨w.heap.size, 0, none⟩) 1 1)).run Try.prog (w.alloc (.cells #[.int .u8 a] 5)) = .ok (.string (strOfNums [a])) (w.alloc (.cells #[.int .u8 a] 5)) := fun w a => conv1_later (World.cell?_alloc_new _ _ _ 0)
  have hcvd : ∀ (w : World) (a : Int), (convert 49 9 (.slice (some ⟨w.heap.size, 0, none⟩) 1 1)).run Try.prog (w.alloc (.cells #[.int .u8 a] 5)).drew = .ok (.string (strOfNums [a])) (w.alloc (.cells #[.int .u8 a] 5)).drew := fun w a => conv1_later (World.cell?_alloc_mark w _ 5 (0, 0) 0)
  have z1 : (strOfNums (digs (n / 256) k)).size = k := by rw [strOfNums_size, digs_length]
  have z2 : (strOfNums [n % 256]).size = 1 := strOfNums_size _
  go_enter Try.func21, Try.ntmps21
  go_wp2
  go_region_with (go_at_call 21; refine (ih.out (n / 256) _ ?_ ?_).mono ?_; omega; omega; rintro e w1 ⟨rfl, hb1⟩; first | (have hcv1 := conv_after (w := w) (x := n % 256) hb1) | skip)
  all_goals
    go_wp2
    go_ret
  · exact ⟨ret_digs n k, Below.alloc (w := w1) ((Below.refl _ _).drew.trans hb1) hb1.size _⟩
  · exact ⟨ret_digs n k, (((Below.refl _ _).alloc (Nat.le_refl _) _).drew.trans (hb1.mono (by simp)))⟩
  · exact ⟨ret_digs n k, (((Below.refl _ _).alloc (Nat.le_refl _) _).drew.trans (hb1.mono (by simp)))⟩
theorem rbytes : ∀ (k : Nat) (_hk : k ≤ 8) (n : Int) (w : World), 0 ≤ n → n < 9223372036854775808 →
    Calls Try.prog 21 #[.int .i64 n, .int .i64 k] w fun e w' => e = .returned (.string (strOfNums (digs n k))) ∧ Below w.heap.size w w'
  | 0, _, n, w, _, _ => rbytes0 n w
  | k + 1, hk, n, w, h, hn => rbytesS k (fun n w h hn => rbytes k (by omega) n w h hn) n w h hn (by omega)

set_option maxHeartbeats 400000 in
theorem b_ok (n : Int) (k : Nat) (w : World) (hk : k ≤ 8) (h0 : 0 ≤ n) (h : n < 9223372036854775808) :
    Calls Try.prog 47 #[.int .i64 n, .int .i64 k] w fun e w' => e = .returned (.string (strOfNums (digs n k))) ∧ RowKit.Below w.heap.size w w' := by
  have R : Hid (∀ w, _) := fun w => rbytes k hk n w h0 h
  go_enter Try.func47, Try.ntmps47
  go_wp2_with (go_at_call 21; refine (R.out _).mono ?_; rintro e w' ⟨rfl, hb⟩)
  go_ret
  exact ⟨rfl, hb⟩
theorem join_hb (tos len id frag ttl proto sum src dst : Int) (s0 : 0 ≤ src) (s1 : src < 4294967296) (d0 : 0 ≤ dst) (d1 : dst < 4294967296) :
    ByteArray.mk #[69] ++ strOfNums (digs tos 1) ++ strOfNums (digs len 2) ++ strOfNums (digs id 2) ++ strOfNums (digs frag 2) ++ strOfNums (digs ttl 1) ++ strOfNums (digs proto 1) ++ strOfNums (digs sum 2) ++ strOfNums (digs src 4) ++ strOfNums (digs dst 4) = strOfNums (hb tos len id frag ttl proto sum src dst) := by
  have e0 : ByteArray.mk #[69] = strOfNums [69] := rfl
  have es : src / 16777216 = src / 256 / 256 / 256 % 256 := by omega
  have es2 : src / 65536 % 256 = src / 256 / 256 % 256 := by omega
  have ed : dst / 16777216 = dst / 256 / 256 / 256 % 256 := by omega
  have ed2 : dst / 65536 % 256 = dst / 256 / 256 % 256 := by omega
  rw [e0]
  simp only [strOfNums_append]
  unfold hb
  rw [es, es2, ed, ed2]
  rfl
set_option maxHeartbeats 2000000 in
theorem rheader_ok (tos id frag ttl proto src dst sum : Int) (data : ByteArray) (w : World) (hk : HOK tos id frag ttl proto) (hd : data.size ≤ 65515) (m0 : 0 ≤ sum) (m1 : sum ≤ 65535) (s0 : 0 ≤ src) (s1 : src < 4294967296) (d0 : 0 ≤ dst) (d1 : dst < 4294967296) :
    Calls Try.prog 39 #[hv tos id frag ttl proto src dst data, .int .i64 sum] w fun e w' => e = .returned (.string (strOfNums (hb tos (20 + data.size) id frag ttl proto sum src dst))) ∧ RowKit.Below w.heap.size w w' := by
  obtain ⟨h1, h2, h3, h4, h5⟩ := hk
  rw [← join_hb tos (20 + data.size) id frag ttl proto sum src dst s0 s1 d0 d1]
  have zc : (ByteArray.mk #[69]).size = 1 := rfl
  have sz : ∀ n k, (strOfNums (digs n k)).size = k := fun n k => by rw [strOfNums_size, digs_length]
  have A1 : Hid (∀ w, _) := fun w => b_ok tos 1 w (by decide) (by omega) (by omega)
  have A2 : Hid (∀ w, _) := fun w => b_ok (20 + data.size) 2 w (by decide) (by omega) (by omega)
  have A3 : Hid (∀ w, _) := fun w => b_ok id 2 w (by decide) (by omega) (by omega)
  have A4 : Hid (∀ w, _) := fun w => b_ok frag 2 w (by decide) (by omega) (by omega)
  have A5 : Hid (∀ w, _) := fun w => b_ok ttl 1 w (by decide) (by omega) (by omega)
  have A6 : Hid (∀ w, _) := fun w => b_ok proto 1 w (by decide) (by omega) (by omega)
  have A7 : Hid (∀ w, _) := fun w => b_ok sum 2 w (by decide) (by omega) (by omega)
  have A8 : Hid (∀ w, _) := fun w => b_ok src 4 w (by decide) (by omega) (by omega)
  have A9 : Hid (∀ w, _) := fun w => b_ok dst 4 w (by decide) (by omega) (by omega)
  have z1 := sz tos 1; have z2 := sz (20 + data.size) 2; have z3 := sz id 2; have z4 := sz frag 2; have z5 := sz ttl 1; have z6 := sz proto 1; have z7 := sz sum 2; have z8 := sz src 4; have z9 := sz dst 4
  clear sz
  generalize strOfNums (digs tos 1) = S1 at *
  generalize strOfNums (digs (20 + data.size) 2) = S2 at *
  generalize strOfNums (digs id 2) = S3 at *
  generalize strOfNums (digs frag 2) = S4 at *
  generalize strOfNums (digs ttl 1) = S5 at *
  generalize strOfNums (digs proto 1) = S6 at *
  generalize strOfNums (digs sum 2) = S7 at *
  generalize strOfNums (digs src 4) = S8 at *
  generalize strOfNums (digs dst 4) = S9 at *
  have w20 : IntKind.i64.wrap (20 + (data.size : Int)) = 20 + data.size := by simp [IntKind.wrap, IntKind.bits, IntKind.signed]; omega
  have wsrc : IntKind.i64.wrap src = src := by simp [IntKind.wrap, IntKind.bits, IntKind.signed]; omega
  have wdst : IntKind.i64.wrap dst = dst := by simp [IntKind.wrap, IntKind.bits, IntKind.signed]; omega
  unfold hv
  have X := box_new w tos id frag ttl proto src dst data
  have k0 := cell_regrown X.c0; have k1 := cell_regrown X.c1; have k2 := cell_regrown X.c2; have k3 := cell_regrown X.c3; have k4 := cell_regrown X.c4; have k5 := cell_regrown X.c5; have k6 := cell_regrown X.c6; have k7 := cell_regrown X.c7
  clear X h1 h2 h3 h4 h5
  go_enter Try.func39, Try.ntmps39
  go_wp2
  refine wp_region_quiet_below (by kernel_rfl) (by kernel_rfl) ?_
  repeat (quiet_step (first
    | (go_at_call_of 47 tos; exact Calls.regrown_of (A1.out _))
    | (go_at_call_of 47 (data.size : Int); exact Calls.regrown_of (A2.out _))
    | (go_at_call_of 47 id; exact Calls.regrown_of (A3.out _))
    | (go_at_call_of 47 frag; exact Calls.regrown_of (A4.out _))
    | (go_at_call_of 47 ttl; exact Calls.regrown_of (A5.out _))
    | (go_at_call_of 47 proto; exact Calls.regrown_of (A6.out _))
    | (go_at_call_of 47 sum; exact Calls.regrown_of (A7.out _))
    | (go_at_call_of 47 src; exact Calls.regrown_of (A8.out _))
    | (go_at_call_of 47 dst; exact Calls.regrown_of (A9.out _))))
  refine wpQuiet_nil ?_
  intro _ hw'
  obtain ⟨⟨dq, osq⟩, hw''⟩ := hw'
  subst hw''
  go_wp2
  go_ret
  exact ⟨rfl, ((Below.refl _ _).alloc (Nat.le_refl _) _).trans ((below_regrown _ dq osq).mono (by simp))⟩
end Go.Proofs.Ytndaohiecpdmlaa
