/-
  What the document's own Bytes answers, for every number that is not negative and up to eight bytes. No other condition.
-/
import Derived.Test.YtihkbakbciejiaaDoorVaMath
import Derived.WalkSpells
import Derived.WalkLawsBesides
import Derived.Handy
import Derived.Lib.QuietBelow
import Derived.Lib.ConvBytes
import Derived.Deep.RegionWith
namespace Go.Proofs.YtihkbakbciejiaaDoor
set_option maxRecDepth 100000
open Go.RowKit Go.Sort

set_option maxHeartbeats 400000 in
theorem rbytes0 (n : Int) (w : World) :
    Calls Tryd.prog 52 #[.int .i64 n, .int .i64 0] w fun e w' => e = .returned (.string (strOfNums [])) ∧ Below w.heap.size w w' := by
  go_enter Tryd.func52, Tryd.ntmps52
  go_wp2
  go_ret
  exact ⟨rfl, Below.refl _ _⟩
theorem strOfNums_append (a b : List Int) : strOfNums a ++ strOfNums b = strOfNums (a ++ b) := by
  unfold strOfNums
  rw [ByteArray.mk_append_mk, List.map_append]
theorem ret_digs (n : Int) (k : Nat) : Ending.returned (.string (strOfNums (digs (n / 256) k) ++ strOfNums [n % 256])) = .returned (.string (strOfNums (digs n (k + 1)))) := by
  rw [strOfNums_append]; rfl
/-- 'string(b)' of one byte that was made ahead, in whatever world came behind. -/
theorem conv1_later {w1 : World} {B : Nat} {x : Int} {c : Nat} (h : w1.cell? ⟨B, 0, none⟩ = some (.int .u8 x)) :
    (convert 80 9 (.slice (some ⟨B, 0, none⟩) 1 c)).run Tryd.prog w1 = .ok (.string (strOfNums [x])) w1 :=
  run_convert_bytes_arg (P := Tryd.prog) _ 80 5 Tryd.underlying80 Tryd.underlying5 B 0 1 c [x] rfl (fun i hi => by
    obtain rfl : i = 0 := by omega
    simpa using h) 9 Tryd.underlying9
theorem conv_after {w w1 : World} {x : Int} (h : Below (w.alloc (.cells #[.int .u8 x] 5)).drew.heap.size (w.alloc (.cells #[.int .u8 x] 5)).drew w1) :
    (convert 80 9 (.slice (some ⟨w.heap.size, 0, none⟩) 1 1)).run Tryd.prog w1 = .ok (.string (strOfNums [x])) w1 :=
  conv1_later (by rw [h.cell (by simp)]; exact World.cell?_alloc_mark w _ 5 (0, 0) 0)
set_option maxHeartbeats 400000 in
theorem rbytesS (k : Nat) (ih : Hid (∀ (n : Int) (w : World), 0 ≤ n → n < 9223372036854775808 → Calls Tryd.prog 52 #[.int .i64 n, .int .i64 k] w fun e w' => e = .returned (.string (strOfNums (digs n k))) ∧ Below w.heap.size w w')) (n : Int) (w : World) (h : 0 ≤ n) (hn : n < 9223372036854775808) (hk : k < 8) :
    Calls Tryd.prog 52 #[.int .i64 n, .int .i64 (k + 1)] w fun e w' => e = .returned (.string (strOfNums (digs n (k + 1)))) ∧ Below w.heap.size w w' := by
  have hb : ((k : Int) + 1 == 0) = false := by simp; omega
  have e1 : IntKind.i64.wrap (n.tdiv 256) = n / 256 := by rw [Int.tdiv_eq_ediv_of_nonneg h]; simp [IntKind.wrap, IntKind.bits, IntKind.signed]; omega
  have e2 : IntKind.i64.wrap (k : Int) = k := by simp [IntKind.wrap, IntKind.bits, IntKind.signed]; omega
  have e3 : IntKind.u8.wrap (n.tmod 256) = n % 256 := by rw [Int.tmod_eq_emod_of_nonneg h]; simp [IntKind.wrap, IntKind.bits, IntKind.signed]
  have hcv : ∀ (w : World) (a : Int), (convert 80 9 (.slice (some ⟨w.heap.size, 0, none⟩) 1 1)).run Tryd.prog (w.alloc (.cells #[.int .u8 a] 5)) = .ok (.string (strOfNums [a])) (w.alloc (.cells #[.int .u8 a] 5)) := fun w a => conv1_later (World.cell?_alloc_new _ _ _ 0)
  have hcvd : ∀ (w : World) (a : Int), (convert 80 9 (.slice (some ⟨w.heap.size, 0, none⟩) 1 1)).run Tryd.prog (w.alloc (.cells #[.int .u8 a] 5)).drew = .ok (.string (strOfNums [a])) (w.alloc (.cells #[.int .u8 a] 5)).drew := fun w a => conv1_later (World.cell?_alloc_mark w _ 5 (0, 0) 0)
  have z1 : (strOfNums (digs (n / 256) k)).size = k := by rw [strOfNums_size, digs_length]
  have z2 : (strOfNums [n % 256]).size = 1 := strOfNums_size _
  go_enter Tryd.func52, Tryd.ntmps52
  go_wp2
  go_region_with (go_at_call 52; refine (ih.out (n / 256) _ ?_ ?_).mono ?_; omega; omega; rintro e w1 ⟨rfl, hb1⟩; first | (have hcv1 := conv_after (w := w) (x := n % 256) hb1) | skip)
  all_goals
    go_wp2
    go_ret
  · exact ⟨ret_digs n k, Below.alloc (w := w1) ((Below.refl _ _).drew.trans hb1) hb1.size _⟩
  · exact ⟨ret_digs n k, (((Below.refl _ _).alloc (Nat.le_refl _) _).drew.trans (hb1.mono (by simp)))⟩
  · exact ⟨ret_digs n k, (((Below.refl _ _).alloc (Nat.le_refl _) _).drew.trans (hb1.mono (by simp)))⟩
theorem rbytes : ∀ (k : Nat) (_hk : k ≤ 8) (n : Int) (w : World), 0 ≤ n → n < 9223372036854775808 →
    Calls Tryd.prog 52 #[.int .i64 n, .int .i64 k] w fun e w' => e = .returned (.string (strOfNums (digs n k))) ∧ Below w.heap.size w w'
  | 0, _, n, w, _, _ => rbytes0 n w
  | k + 1, hk, n, w, h, hn => rbytesS k (fun n w h hn => rbytes k (by omega) n w h hn) n w h hn (by omega)

end Go.Proofs.YtihkbakbciejiaaDoor
