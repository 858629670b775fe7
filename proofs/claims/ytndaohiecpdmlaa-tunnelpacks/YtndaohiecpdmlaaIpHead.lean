/-
  What the program's fits, appendTwo, appendFour and header answer. The numbers are int's and uint32's; no other condition.
-/
import Derived.Test.YtndaohiecpdmlaaIpSum
import Derived.Deep.RegionWith
namespace Go.Proofs.Ytndaohiecpdmlaa
open Go.RowKit

set_option maxHeartbeats 1000000 in
theorem fits8 (n : Int) (w : World) :
    Calls Try.prog 60 #[.int .i64 n, .int .i64 8] w fun e w' => e = .returned (.bool (decide (0 ≤ n ∧ n ≤ 255))) ∧ w = w' := by
  have he : decide (0 ≤ n ∧ n ≤ 255) = (n / 256 == 0) := by
    by_cases h : 0 ≤ n ∧ n ≤ 255
    · rw [decide_eq_true h]; symm; simp; omega
    · rw [decide_eq_false h]; symm; simp; omega
  rw [he]
  go_enter Try.func60, Try.ntmps60
  go_wp2
  go_ret
  exact ⟨rfl, rfl⟩
set_option maxHeartbeats 1000000 in
theorem fits16 (n : Int) (w : World) :
    Calls Try.prog 60 #[.int .i64 n, .int .i64 16] w fun e w' => e = .returned (.bool (decide (0 ≤ n ∧ n ≤ 65535))) ∧ w = w' := by
  have he : decide (0 ≤ n ∧ n ≤ 65535) = (n / 65536 == 0) := by
    by_cases h : 0 ≤ n ∧ n ≤ 65535
    · rw [decide_eq_true h]; symm; simp; omega
    · rw [decide_eq_false h]; symm; simp; omega
  rw [he]
  go_enter Try.func60, Try.ntmps60
  go_wp2
  go_ret
  exact ⟨rfl, rfl⟩

/-- Twenty bytes in a block. -/
structure Buf (w : World) (B : Nat) (f : Nat → Int) : Prop where
  lt : B < w.heap.size
  at' : ∀ i, i < 20 → w.cell? ⟨B, i, none⟩ = some (.int .u8 (f i)) ∧ w.frozen? ⟨B, i, none⟩ = false
def upd (f : Nat → Int) (k : Nat) (v : Int) : Nat → Int := fun i => if i = k then v else f i
theorem Buf.alloc {w : World} {B : Nat} {f : Nat → Int} (h : Buf w B f) (o : Obj) : Buf (w.alloc o) B f := by
  refine ⟨by have := h.lt; simp; omega, fun i hi => ?_⟩
  rw [World.cell?_alloc_past _ _ _ h.lt, World.frozen?_alloc_past _ _ _ h.lt]
  exact h.at' i hi
theorem Buf.set {w : World} {B : Nat} {f : Nat → Int} (h : Buf w B f) (k : Nat) (hk : k < 20) (v : Int) : Buf (w.setCell ⟨B, k, none⟩ (.int .u8 v)) B (upd f k v) := by
  refine ⟨by simpa [World.setCell] using h.lt, fun i hi => ?_⟩
  rw [World.frozen?_setCell]
  refine ⟨?_, (h.at' i hi).2⟩
  unfold upd
  by_cases e : i = k
  · subst e
    rw [if_pos rfl, World.cell?_setCell_same (h := (h.at' i hi).1)]
  · rw [if_neg e, World.cell?_setCell_other (h := by simp)]
    exact (h.at' i hi).1

set_option maxHeartbeats 1000000 in
theorem appendTwo_ok (n : Int) (w : World) (B k : Nat) (f : Nat → Int) (hB : Buf w B f) (hk : k + 2 ≤ 20) :
    Calls Try.prog 67 #[.slice (some ⟨B, 0, none⟩) k 20, .int .i64 n] w fun e w' => e = .returned (.slice (some ⟨B, 0, none⟩) (k + 2) 20) ∧ Buf w' B (upd (upd f k (n / 256 % 256)) (k + 1) (n % 256)) ∧ Below B w w' := by
  have hb := hB.lt
  obtain ⟨c1, z1⟩ := hB.at' k (by omega)
  obtain ⟨c2, z2⟩ := hB.at' (k + 1) (by omega)
  go_enter Try.func67, Try.ntmps67
  go_wp2
  go_ret
  exact ⟨rfl, ((hB.set k (by omega) _).set (k + 1) (by omega) _).alloc _, (((Below.refl B w).setCell (Nat.le_refl _) _).setCell (Nat.le_refl _) _).alloc (by simpa [World.setCell] using Nat.le_of_lt hb) _⟩
set_option maxHeartbeats 1000000 in
theorem appendFour_ok (n : Int) (w : World) (B k : Nat) (f : Nat → Int) (hB : Buf w B f) (hk : k + 4 ≤ 20) (h0 : 0 ≤ n) (h1 : n < 4294967296) :
    Calls Try.prog 68 #[.slice (some ⟨B, 0, none⟩) k 20, .int .u32 n] w fun e w' => e = .returned (.slice (some ⟨B, 0, none⟩) (k + 4) 20) ∧ Buf w' B (upd (upd (upd (upd f k (n / 16777216)) (k + 1) (n / 65536 % 256)) (k + 2) (n / 256 % 256)) (k + 3) (n % 256)) ∧ Below B w w' := by
  have hb := hB.lt
  obtain ⟨c1, z1⟩ := hB.at' k (by omega)
  obtain ⟨c2, z2⟩ := hB.at' (k + 1) (by omega)
  obtain ⟨c3, z3⟩ := hB.at' (k + 2) (by omega)
  obtain ⟨c4, z4⟩ := hB.at' (k + 3) (by omega)
  go_enter Try.func68, Try.ntmps68
  go_wp2
  go_ret
  exact ⟨rfl, ((((hB.set k (by omega) _).set (k + 1) (by omega) _).set (k + 2) (by omega) _).set (k + 3) (by omega) _).alloc _, (((((Below.refl B w).setCell (Nat.le_refl _) _).setCell (Nat.le_refl _) _).setCell (Nat.le_refl _) _).setCell (Nat.le_refl _) _).alloc (by simpa [World.setCell] using Nat.le_of_lt hb) _⟩

/-- A header's 20 bytes. -/
def hb (tos len id frag ttl proto sum src dst : Int) : List Int :=
  [69, tos % 256, len / 256 % 256, len % 256, id / 256 % 256, id % 256, frag / 256 % 256, frag % 256, ttl % 256, proto % 256, sum / 256 % 256, sum % 256,
   src / 16777216, src / 65536 % 256, src / 256 % 256, src % 256, dst / 16777216, dst / 65536 % 256, dst / 256 % 256, dst % 256]
/-- A header as the program holds it. -/
def hv (tos id frag ttl proto src dst : Int) (data : ByteArray) : Value :=
  .agg #[.int .i64 tos, .int .i64 id, .int .i64 frag, .int .i64 ttl, .int .i64 proto, .int .u32 src, .int .u32 dst, .string data]
theorem buf_new (w : World) (f : Nat → Int) (c : Array Value) (hc : ∀ i, i < 20 → c[i]? = some (.int .u8 (f i))) : Buf (w.alloc (.cells c 5)) w.heap.size f :=
  ⟨by simp, fun i hi => ⟨by rw [World.cell?_alloc_new]; exact hc i hi, by simp⟩⟩
theorem buf_conv {w : World} {B : Nat} {f : Nat → Int} (h : Buf w B f) (l : List Int) (hl : l.length = 20) (hf : ∀ i, i < 20 → f i = l.getD i 0) :
    (convert 49 9 (.slice (some ⟨B, 0, none⟩) 20 20)).run Try.prog w = .ok (.string (strOfNums l)) w :=
  run_convert_bytes_arg (P := Try.prog) _ 49 5 Try.underlying49 Try.underlying5 B 0 20 20 l hl (fun i hi => by
    rw [Nat.zero_add, (h.at' i hi).1, hf i hi]) 9 Try.underlying9
/-- A header in a block. -/
structure Box (w : World) (A : Nat) (tos id frag ttl proto src dst : Int) (data : ByteArray) : Prop where
  lt : A < w.heap.size
  c0 : w.cell? ⟨A, 0, none⟩ = some (.int .i64 tos)
  c1 : w.cell? ⟨A, 1, none⟩ = some (.int .i64 id)
  c2 : w.cell? ⟨A, 2, none⟩ = some (.int .i64 frag)
  c3 : w.cell? ⟨A, 3, none⟩ = some (.int .i64 ttl)
  c4 : w.cell? ⟨A, 4, none⟩ = some (.int .i64 proto)
  c5 : w.cell? ⟨A, 5, none⟩ = some (.int .u32 src)
  c6 : w.cell? ⟨A, 6, none⟩ = some (.int .u32 dst)
  c7 : w.cell? ⟨A, 7, none⟩ = some (.string data)
theorem Box.keep {w w' : World} {A B : Nat} {tos id frag ttl proto src dst : Int} {data : ByteArray} (h : Box w A tos id frag ttl proto src dst data) (hA : A < B) (k : Below B w w') : Box w' A tos id frag ttl proto src dst data :=
  ⟨Nat.lt_of_lt_of_le h.lt k.size, (k.cell hA).trans h.c0, (k.cell hA).trans h.c1, (k.cell hA).trans h.c2, (k.cell hA).trans h.c3, (k.cell hA).trans h.c4, (k.cell hA).trans h.c5, (k.cell hA).trans h.c6, (k.cell hA).trans h.c7⟩
theorem box_new (w : World) (tos id frag ttl proto src dst : Int) (data : ByteArray) :
    Box (w.alloc (.cells #[.int .i64 tos, .int .i64 id, .int .i64 frag, .int .i64 ttl, .int .i64 proto, .int .u32 src, .int .u32 dst, .string data] 40)) w.heap.size tos id frag ttl proto src dst data := by
  refine ⟨by simp, ?_, ?_, ?_, ?_, ?_, ?_, ?_, ?_⟩ <;> rw [World.cell?_alloc_new] <;> rfl
theorem below_set2 (w : World) (B i j : Nat) (v v' : Value) (o : Obj) (h : B < w.heap.size) : Below B w (((w.setCell ⟨B, i, none⟩ v).setCell ⟨B, j, none⟩ v').alloc o) :=
  Below.alloc (((Below.refl B w).setCell (p := ⟨B, i, none⟩) (Nat.le_refl B) v).setCell (p := ⟨B, j, none⟩) (Nat.le_refl B) v') (by simpa [World.setCell] using Nat.le_of_lt h) o
theorem hbAt (tos len id frag ttl proto sum src dst : Int) : ∀ i, i < 20 → upd (upd (upd (upd (upd (upd (upd (upd (upd (upd (upd (upd (upd (upd (upd (upd (upd (upd (fun i => [69, tos % 256].getD i 0) 2 (len / 256 % 256)) (2 + 1) (len % 256)) 4 (id / 256 % 256)) (4 + 1) (id % 256)) 6 (frag / 256 % 256)) (6 + 1) (frag % 256)) 8 (ttl % 256)) 9 (proto % 256)) 10 (sum / 256 % 256)) (10 + 1) (sum % 256)) 12 (src / 16777216)) (12 + 1) (src / 65536 % 256)) (12 + 2) (src / 256 % 256)) (12 + 3) (src % 256)) 16 (dst / 16777216)) (16 + 1) (dst / 65536 % 256)) (16 + 2) (dst / 256 % 256)) (16 + 3) (dst % 256) i = (hb tos len id frag ttl proto sum src dst).getD i 0 := by
  intro i hi
  rcases i with _|_|_|_|_|_|_|_|_|_|_|_|_|_|_|_|_|_|_|_|i
  all_goals first | rfl | omega
set_option maxHeartbeats 2000000 in
theorem header_ok (tos id frag ttl proto src dst sum : Int) (data : ByteArray) (w : World) (hd : data.size ≤ 9223372036854775000) (s0 : 0 ≤ src) (s1 : src < 4294967296) (d0 : 0 ≤ dst) (d1 : dst < 4294967296) :
    Calls Try.prog 61 #[hv tos id frag ttl proto src dst data, .int .i64 sum] w fun e w' => e = .returned (.string (strOfNums (hb tos (20 + data.size) id frag ttl proto sum src dst))) ∧ Below w.heap.size w w' := by
  have hmk : ∀ w, (Instr.makeSlice 49 (.int .i64 0) (.int .i64 20)).run Try.prog w = .ok (.slice (some ⟨w.heap.size, 0, none⟩) 0 20) (w.alloc (.cells #[.int .u8 0, .int .u8 0, .int .u8 0, .int .u8 0, .int .u8 0, .int .u8 0, .int .u8 0, .int .u8 0, .int .u8 0, .int .u8 0, .int .u8 0, .int .u8 0, .int .u8 0, .int .u8 0, .int .u8 0, .int .u8 0, .int .u8 0, .int .u8 0, .int .u8 0, .int .u8 0] 5)) := fun _ => by kernel_rfl
  have B0 : Hid (Buf (((w.alloc (.cells #[.int .i64 tos, .int .i64 id, .int .i64 frag, .int .i64 ttl, .int .i64 proto, .int .u32 src, .int .u32 dst, .string data] 40)).alloc (.cells #[.int .u8 69, .int .u8 (tos % 256), .int .u8 0, .int .u8 0, .int .u8 0, .int .u8 0, .int .u8 0, .int .u8 0, .int .u8 0, .int .u8 0, .int .u8 0, .int .u8 0, .int .u8 0, .int .u8 0, .int .u8 0, .int .u8 0, .int .u8 0, .int .u8 0, .int .u8 0, .int .u8 0] 5)).alloc (.cells #[.int .u8 69, .int .u8 (tos % 256)] 5)) (w.heap.size + 1) (fun i => [69, tos % 256].getD i 0)) := by
    refine Buf.alloc ?_ _
    have := buf_new (w.alloc (.cells #[.int .i64 tos, .int .i64 id, .int .i64 frag, .int .i64 ttl, .int .i64 proto, .int .u32 src, .int .u32 dst, .string data] 40)) (fun i => [69, tos % 256].getD i 0) #[.int .u8 69, .int .u8 (tos % 256), .int .u8 0, .int .u8 0, .int .u8 0, .int .u8 0, .int .u8 0, .int .u8 0, .int .u8 0, .int .u8 0, .int .u8 0, .int .u8 0, .int .u8 0, .int .u8 0, .int .u8 0, .int .u8 0, .int .u8 0, .int .u8 0, .int .u8 0, .int .u8 0] (fun i hi => by
      rcases i with _|_|_|_|_|_|_|_|_|_|_|_|_|_|_|_|_|_|_|_|i
      all_goals first | rfl | omega)
    simpa using this
  have X0 : Hid (Box (((w.alloc (.cells #[.int .i64 tos, .int .i64 id, .int .i64 frag, .int .i64 ttl, .int .i64 proto, .int .u32 src, .int .u32 dst, .string data] 40)).alloc (.cells #[.int .u8 69, .int .u8 (tos % 256), .int .u8 0, .int .u8 0, .int .u8 0, .int .u8 0, .int .u8 0, .int .u8 0, .int .u8 0, .int .u8 0, .int .u8 0, .int .u8 0, .int .u8 0, .int .u8 0, .int .u8 0, .int .u8 0, .int .u8 0, .int .u8 0, .int .u8 0, .int .u8 0] 5)).alloc (.cells #[.int .u8 69, .int .u8 (tos % 256)] 5)) w.heap.size tos id frag ttl proto src dst data) :=
    (box_new w tos id frag ttl proto src dst data).keep (B := w.heap.size + 1) (Nat.lt_succ_self _) ((((Below.refl _ _).alloc (by simp) _)).alloc (by simp) _)
  have Z0 : Below w.heap.size w (((w.alloc (.cells #[.int .i64 tos, .int .i64 id, .int .i64 frag, .int .i64 ttl, .int .i64 proto, .int .u32 src, .int .u32 dst, .string data] 40)).alloc (.cells #[.int .u8 69, .int .u8 (tos % 256), .int .u8 0, .int .u8 0, .int .u8 0, .int .u8 0, .int .u8 0, .int .u8 0, .int .u8 0, .int .u8 0, .int .u8 0, .int .u8 0, .int .u8 0, .int .u8 0, .int .u8 0, .int .u8 0, .int .u8 0, .int .u8 0, .int .u8 0, .int .u8 0] 5)).alloc (.cells #[.int .u8 69, .int .u8 (tos % 256)] 5)) :=
    (((Below.refl _ _).alloc (Nat.le_refl _) _).alloc (by simp) _).alloc (by simp; omega) _
  have lt : w.heap.size < w.heap.size + 1 := Nat.lt_succ_self _
  have k2 : 2 + 2 ≤ 20 := by decide
  have k4 : 4 + 2 ≤ 20 := by decide
  have k6 : 6 + 2 ≤ 20 := by decide
  have k8 : 8 < 20 := by decide
  have k9 : 9 < 20 := by decide
  have k10 : 10 + 2 ≤ 20 := by decide
  have k12 : 12 + 4 ≤ 20 := by decide
  have k16 : 16 + 4 ≤ 20 := by decide
  unfold hv
  go_enter Try.func61, Try.ntmps61
  have sz : ∀ {a b : World}, Below w.heap.size w a → Below (w.heap.size + 1) a b → Below w.heap.size w b := fun h k => h.trans (k.mono (Nat.le_succ _))
  go_wp2_with (first
    | (go_at_call_of 67 (data.size : Int); refine (appendTwo_ok _ _ (w.heap.size + 1) 2 _ B0.out k2).mono ?_; rintro e w1 ⟨rfl, B1, y1⟩; have X1 := X0.out.keep lt y1; have x11 := X1.c1; have Z1 : Hid _ := sz Z0 y1; replace X1 : Hid _ := X1; replace B1 : Hid _ := B1; clear y1 B0 X0 Z0 hmk)
    | (go_at_call_of 67 id; refine (appendTwo_ok _ _ (w.heap.size + 1) 4 _ B1.out k4).mono ?_; rintro e w2 ⟨rfl, B2, y2⟩; have X2 := X1.out.keep lt y2; have x22 := X2.c2; have Z2 : Hid _ := sz Z1.out y2; replace X2 : Hid _ := X2; replace B2 : Hid _ := B2; clear y2 B1 X1 Z1 x11)
    | (go_at_call_of 67 frag; refine (appendTwo_ok _ _ (w.heap.size + 1) 6 _ B2.out k6).mono ?_; rintro e w3 ⟨rfl, B3, y3⟩; have X3 := X2.out.keep lt y3; have x33 := X3.c3; have x34 := X3.c4; have l3 := B3.lt; obtain ⟨q8, z8⟩ := B3.at' 8 k8; obtain ⟨q9, z9⟩ := B3.at' 9 k9; have Z3 : Hid _ := sz Z2.out y3; replace X3 : Hid _ := X3; replace B3 : Hid _ := B3; clear y3 B2 X2 Z2 x22)
    | (go_at_call_of 67 sum; refine (appendTwo_ok _ _ (w.heap.size + 1) 10 _ (((B3.out.set 8 k8 _).set 9 k9 _).alloc _) k10).mono ?_; rintro e w4 ⟨rfl, B4, y4⟩; have X4 := X3.out.keep lt ((below_set2 _ _ _ _ _ _ _ l3).trans y4); have x45 := X4.c5; have Z4 : Hid _ := sz Z3.out ((below_set2 _ _ _ _ _ _ _ l3).trans y4); replace X4 : Hid _ := X4; replace B4 : Hid _ := B4; clear y4 B3 X3 Z3 x33 x34 q8 q9 z8 z9 l3)
    | (go_at_call_of 68 src; refine (appendFour_ok _ _ (w.heap.size + 1) 12 _ B4.out k12 s0 s1).mono ?_; rintro e w5 ⟨rfl, B5, y5⟩; have X5 := X4.out.keep lt y5; have x56 := X5.c6; have Z5 : Hid _ := sz Z4.out y5; replace B5 : Hid _ := B5; clear y5 B4 X4 X5 Z4 x45)
    | (go_at_call_of 68 dst; refine (appendFour_ok _ _ (w.heap.size + 1) 16 _ B5.out k16 d0 d1).mono ?_; rintro e w6 ⟨rfl, B6, y6⟩; have Z6 : Hid _ := sz Z5.out y6; have hcv := buf_conv B6 (hb tos (20 + data.size) id frag ttl proto sum src dst) rfl (hbAt tos (20 + data.size) id frag ttl proto sum src dst); clear y6 B5 B6 Z5 x56))
  go_ret
  exact ⟨rfl, Z6.out⟩
end Go.Proofs.Ytndaohiecpdmlaa
