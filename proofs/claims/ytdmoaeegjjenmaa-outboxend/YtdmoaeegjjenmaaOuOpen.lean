/-
  Rows of acts that are handed in, as the program holds them: how many, and where each stands. No condition but the statements' own bound of an argument's bytes.
-/
import Derived.Test.YtdmoaeegjjenmaaOuFace
import Derived.Test.YtdmoaeegjjenmaaRpOpen
import Derived.Test.YtdmoaeegjjenmaaObSize
import Derived.Deep.Slices
import Derived.Deep.SlicePairs
import Derived.Deep.MidRow
import Derived.SizedLaws
import Derived.ChangeArms
namespace Go.Proofs.Ytdmoaeegjjenmaa
set_option maxRecDepth 100000
open Go.ChangeShapes Go.WideShapes Go.ChangeAt Go.RowKit

theorem weights_in {H : Type} {P : Program} {e : TypeId} : ∀ {l : List (DataW H)} {d : DataW H}, d ∈ l → ∀ n ∈ d.weights P e, n ∈ DataW.weightsAll P e l
  | [], _, h => by cases h
  | x :: l, d, h => fun n hn => by
    show n ∈ x.weights P e ++ DataW.weightsAll P e l
    rcases List.mem_cons.1 h with rfl | h
    · exact List.mem_append_left _ hn
    · exact List.mem_append_right _ (weights_in h n hn)
/-- An entry of a row. -/
structure OOp where
  kind : Int
  data : ByteArray
  fin : Bool
  most : Int
  which : Int
  limit : Int
structure OOpB (f : OOp) : Prop where
  kind : In64 f.kind
  data : f.data.size ≤ 140737488351232
  most : In64 f.most
  which : In64 f.which
  limit : In64 f.limit
def OOp.cells (f : OOp) : List Value := [.int .i64 f.kind, .string f.data, .bool f.fin, .int .i64 f.most, .int .i64 f.which, .int .i64 f.limit]
def oOp0 : OOp := ⟨0, ⟨#[]⟩, false, 0, 0, 0⟩
/-- An entry's cells that are handed in. -/
theorem oOp_core {H : Type} {enc : TypeId × Value → H} {W : World} {fuel : Nat} {cs : List Value} {x : DataW H × List MemPlace} (h : DataW.trod enc Try.prog W 0 (fun _ => true) true fuel 29 cs = some x) (hw : ∀ n ∈ x.1.weights Try.prog 29, n ≤ reachBytes) :
    ∃ f : OOp, cs = f.cells ∧ OOpB f := by
  obtain ⟨xs, n, _, hx, hlen, hxl, hf⟩ := DataW.trod_struct Try.underlying29 h
  have cN : Try.prog.cellsOf 29 = 6 := by kernel_rfl
  rw [cN] at hlen
  match xs, hxl, cs, hlen with
  | [y0, y1, y2, y3, y4, y5], _, [v0, v1, v2, v3, v4, v5], _ =>
    have g0 := hf 0 _ rfl
    have g1 := hf 1 _ rfl
    have g2 := hf 2 _ rfl
    have g3 := hf 3 _ rfl
    have g4 := hf 4 _ rfl
    have g5 := hf 5 _ rfl
    have c_int : Try.prog.cellsOf 3 = 1 := by kernel_rfl
    have c_string : Try.prog.cellsOf 9 = 1 := by kernel_rfl
    have c_bool : Try.prog.cellsOf 4 = 1 := by kernel_rfl
    have c_int64 : Try.prog.cellsOf 2 = 1 := by kernel_rfl
    simp [c_int, c_string, c_bool, c_int64] at g0 g1 g2 g3 g4 g5
    obtain ⟨n0, e0, _, w0⟩ := DataW.trod_int Try.underlying3 g0
    obtain ⟨n1, e1, x1, _⟩ := DataW.trod_string Try.underlying9 g1
    obtain ⟨n2, e2, _⟩ := DataW.trod_bool Try.underlying4 g2
    obtain ⟨n3, e3, _, w3⟩ := DataW.trod_int Try.underlying3 g3
    obtain ⟨n4, e4, _, w4⟩ := DataW.trod_int Try.underlying3 g4
    obtain ⟨n5, e5, _, w5⟩ := DataW.trod_int Try.underlying2 g5
    have hmem : ∀ (j : Nat) (t : TypeId) (y : DataW H), ([3, 9, 4, 3, 3, 2] : List TypeId)[j]? = some t → [y0.1, y1.1, y2.1, y3.1, y4.1, y5.1][j]? = some y → ∀ n ∈ y.weights Try.prog t, n ≤ reachBytes := fun j t y ht hy n hn => by
      refine hw n ?_
      rw [hx]
      simp only [DataW.weights, Try.underlying29]
      exact DataW.weights_mem_each (j := j) (t := t) (d := y) ht hy n hn
    have hd1 : n1.size ≤ 140737488351232 := by
      have q := hmem 1 _ _ rfl rfl n1.size (by rw [x1]; simp [DataW.weights])
      simpa [reachBytes] using q
    injection e0 with e0 _
    injection e1 with e1 _
    injection e2 with e2 _
    injection e3 with e3 _
    injection e4 with e4 _
    injection e5 with e5 _
    subst e0 e1 e2 e3 e4 e5
    exact ⟨⟨n0, n1, n2, n3, n4, n5⟩, rfl, bounds_i64 w0, hd1, bounds_i64 w3, bounds_i64 w4, bounds_i64 w5⟩
/-- The n entries of a row, where they stand. -/
def OOps (w : World) (a : Option Addr) (n : Nat) (f : Nat → OOp) : Prop :=
  n = 0 ∨ ∃ b off, a = some ⟨b, off, none⟩ ∧ b < w.heap.size ∧ ∀ i, i < n → ∀ j, j < 6 → w.cell? ⟨b, off + 6 * i + j, none⟩ = (f i).cells[j]?
theorem open_oOps {H : Type} {enc : TypeId × Value → H} {W : World} {base : Nat} {v : Value} {d : DataW H} {p : List MemPlace} (hv : Value.okWide Try.prog W .any base 22 v)
    (h : DataW.Trod enc Try.prog W 0 (fun _ => true) true 22 v d p) (hw : ∀ n ∈ d.weights Try.prog 22, n ≤ reachBytes) :
    ∃ (a : Option Addr) (n cap : Nat) (f : Nat → OOp), v = .slice a n cap ∧ n ≤ maxLen ∧ (∀ i, i < n → OOpB (f i)) ∧ OOps W a n f := by
  obtain ⟨a, len, cap, rfl⟩ := okWide_slice Try.underlying22 hv
  obtain ⟨fuel, hf⟩ := h
  rcases Go.Deep.open_slice Try.underlying22 hf with ⟨hcs, _⟩ | ⟨x, l, c, m, n, D, Pl, hcs, _, hl, hm, hmm, hx0, hx⟩
  · simp [Value.cells] at hcs
    obtain ⟨rfl, rfl, rfl⟩ := hcs
    exact ⟨_, _, _, fun _ => oOp0, rfl, Nat.zero_le _, fun i hi => by omega, .inl rfl⟩
  · simp [Value.cells] at hcs
    obtain ⟨rfl, rfl, rfl⟩ := hcs
    have hmc : m = cap := by simpa using hmm
    have ce : Try.prog.cellsOf 29 = 6 := by kernel_rfl
    have hd : d = .slice ((List.range len).map D) ((List.range (m - len)).map fun j => D (len + j)) := congrArg Prod.fst hx0
    have each : ∀ i, i < len → ∃ q : OOp, (∀ j, j < 6 → W.cell? (x.add (i * 6 + j)) = q.cells[j]?) ∧ OOpB q := fun i hi => by
      obtain ⟨cs', h1, h2⟩ := hx i (by omega)
      rw [ce] at h1
      obtain ⟨_, hlen5, hcell⟩ := World.cells?_some h1
      obtain ⟨f, e, k3⟩ := oOp_core h2 (fun k hk => hw k (by
        rw [hd]
        simp only [DataW.weights, Try.underlying22]
        exact List.mem_cons_of_mem _ (List.mem_append_left _ (weights_in (List.mem_map.2 ⟨i, List.mem_range.2 hi, rfl⟩) k hk))))
      refine ⟨f, fun j hj => ?_, k3⟩
      have := hcell j (by omega)
      rw [Go.Deep.add_add] at this
      rw [this, e]
    have : Inhabited OOp := ⟨oOp0⟩
    obtain ⟨q, hq⟩ := Go.Deep.choose_lt each
    refine ⟨_, _, _, q, rfl, by omega, fun i hi => (hq i hi).2, ?_⟩
    rcases Nat.eq_zero_or_pos len with h0 | h0
    · exact .inl h0
    · right
      obtain ⟨b, off, spot⟩ := x
      have hc := (hq 0 (by omega)).1 0 (by omega)
      have hspot : spot = none := by simpa [Addr.add] using World.cell?_spot hc
      subst hspot
      refine ⟨b, off, rfl, ?_, fun i hi j hj => ?_⟩
      · exact cell_block (o := off) (v := .int .i64 (q 0).kind) (by simpa [Addr.add, OOp.cells] using hc)
      · have := (hq i hi).1 j hj
        rw [Addr.add_mid, ← Nat.add_assoc, Nat.mul_comm] at this
        exact this
theorem at_oOps (B o N cap i : Nat) (w : World) (h : i < N) (z : Int) (hz : z = i) (p : Nat) (hp : p = o + 6 * i) :
    (Instr.indexAt 22 (.slice (some ⟨B, o, none⟩) N cap) (.int .i64 z)).run Try.prog w = .ok (.pointer (some ⟨B, p, none⟩)) w := by
  subst hz hp
  have e : Try.prog.elem 22 = 29 := by kernel_rfl
  rw [run_indexAt_slice (P := Try.prog) w 22 ⟨B, o, none⟩ N cap .i64 i (by rw [e]; exact Try.underlying22), if_pos (by omega), e]
  have s : (sizeOf 29).run Try.prog w = .ok 6 w := Try.sizeOf29 w
  rw [s]
  simp [Addr.add_mid, Nat.mul_comm]
end Go.Proofs.Ytdmoaeegjjenmaa
