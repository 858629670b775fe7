/-
  Rows of acts and of cuts that are handed in, as the program holds them: how many, and where each stands. No condition but the statements' own bound of an argument's bytes.
-/
import Derived.Test.YtpendchkalagnaaInFace
import Derived.Test.YtpendchkalagnaaRpOpen
import Derived.Test.YtpendchkalagnaaObSize
import Derived.Deep.Slices
import Derived.Deep.SlicePairs
import Derived.Deep.MidRow
import Derived.SizedLaws
import Derived.ChangeArms
namespace Go.Proofs.Ytpendchkalagnaa
set_option maxRecDepth 100000
open Go.ChangeShapes Go.WideShapes Go.ChangeAt Go.RowKit

/-- An act. -/
structure IOp where
  kind : Int
  off : Int
  data : ByteArray
  fin : Bool
  n : Int
structure IOpB (f : IOp) : Prop where
  kind : In64 f.kind
  off : In64 f.off
  n : In64 f.n
  data : f.data.size ≤ 140737488351232
def IOp.cells (f : IOp) : List Value := [.int .i64 f.kind, .int .i64 f.off, .string f.data, .bool f.fin, .int .i64 f.n]
def iop0 : IOp := ⟨0, 0, ⟨#[]⟩, false, 0⟩
theorem weights_in {H : Type} {P : Program} {e : TypeId} : ∀ {l : List (DataW H)} {d : DataW H}, d ∈ l → ∀ n ∈ d.weights P e, n ∈ DataW.weightsAll P e l
  | [], _, h => by cases h
  | x :: l, d, h => fun n hn => by
    show n ∈ x.weights P e ++ DataW.weightsAll P e l
    rcases List.mem_cons.1 h with rfl | h
    · exact List.mem_append_left _ hn
    · exact List.mem_append_right _ (weights_in h n hn)
/-- An act's cells that are handed in. -/
theorem iop_core {H : Type} {enc : TypeId × Value → H} {W : World} {fuel : Nat} {cs : List Value} {x : DataW H × List MemPlace} (h : DataW.trod enc Try.prog W 0 (fun _ => true) true fuel 28 cs = some x) (hw : ∀ n ∈ x.1.weights Try.prog 28, n ≤ reachBytes) :
    ∃ f : IOp, cs = f.cells ∧ IOpB f := by
  obtain ⟨xs, n, _, hx, hlen, hxl, hf⟩ := DataW.trod_struct Try.underlying28 h
  have c5 : Try.prog.cellsOf 28 = 5 := by kernel_rfl
  rw [c5] at hlen
  match xs, hxl, cs, hlen with
  | [y0, y1, y2, y3, y4], _, [v0, v1, v2, v3, v4], _ =>
    have g0 := hf 0 _ rfl
    have g1 := hf 1 _ rfl
    have g2 := hf 2 _ rfl
    have g3 := hf 3 _ rfl
    have g4 := hf 4 _ rfl
    have ci : Try.prog.cellsOf 3 = 1 := by kernel_rfl
    have cl : Try.prog.cellsOf 2 = 1 := by kernel_rfl
    have cs : Try.prog.cellsOf 9 = 1 := by kernel_rfl
    have cb : Try.prog.cellsOf 4 = 1 := by kernel_rfl
    simp [ci, cl, cs, cb] at g0 g1 g2 g3 g4
    obtain ⟨n0, e0, _, w0⟩ := DataW.trod_int Try.underlying3 g0
    obtain ⟨n1, e1, _, w1⟩ := DataW.trod_int Try.underlying2 g1
    obtain ⟨d2, e2, x2, _⟩ := DataW.trod_string Try.underlying9 g2
    obtain ⟨b3, e3, _⟩ := DataW.trod_bool Try.underlying4 g3
    obtain ⟨n4, e4, _, w4⟩ := DataW.trod_int Try.underlying3 g4
    have hmem : ∀ (j : Nat) (t : TypeId) (y : DataW H), ([3, 2, 9, 4, 3] : List TypeId)[j]? = some t → [y0.1, y1.1, y2.1, y3.1, y4.1][j]? = some y → ∀ n ∈ y.weights Try.prog t, n ≤ reachBytes := fun j t y ht hy n hn => by
      refine hw n ?_
      rw [hx]
      simp only [DataW.weights, Try.underlying28]
      exact DataW.weights_mem_each (j := j) (t := t) (d := y) ht hy n hn
    have hd : d2.size ≤ 140737488351232 := by
      have q := hmem 2 _ _ rfl rfl d2.size (by rw [x2]; simp [DataW.weights])
      simpa [reachBytes] using q
    injection e0 with e0 _
    injection e1 with e1 _
    injection e2 with e2 _
    injection e3 with e3 _
    injection e4 with e4 _
    subst e0 e1 e2 e3 e4
    exact ⟨⟨n0, n1, d2, b3, n4⟩, rfl, bounds_i64 w0, bounds_i64 w1, bounds_i64 w4, hd⟩
/-- The n acts of a row, where they stand. -/
def IOps (w : World) (a : Option Addr) (n : Nat) (f : Nat → IOp) : Prop :=
  n = 0 ∨ ∃ b off, a = some ⟨b, off, none⟩ ∧ b < w.heap.size ∧ ∀ i, i < n → ∀ j, j < 5 → w.cell? ⟨b, off + 5 * i + j, none⟩ = (f i).cells[j]?
theorem open_iops {H : Type} {enc : TypeId × Value → H} {W : World} {base : Nat} {v : Value} {d : DataW H} {p : List MemPlace} (hv : Value.okWide Try.prog W .any base 22 v)
    (h : DataW.Trod enc Try.prog W 0 (fun _ => true) true 22 v d p) (hw : ∀ n ∈ d.weights Try.prog 22, n ≤ reachBytes) :
    ∃ (a : Option Addr) (n cap : Nat) (f : Nat → IOp), v = .slice a n cap ∧ n ≤ maxLen ∧ (∀ i, i < n → IOpB (f i)) ∧ IOps W a n f := by
  obtain ⟨a, len, cap, rfl⟩ := okWide_slice Try.underlying22 hv
  obtain ⟨fuel, hf⟩ := h
  rcases Go.Deep.open_slice Try.underlying22 hf with ⟨hcs, _⟩ | ⟨x, l, c, m, n, D, Pl, hcs, _, hl, hm, hmm, hx0, hx⟩
  · simp [Value.cells] at hcs
    obtain ⟨rfl, rfl, rfl⟩ := hcs
    exact ⟨_, _, _, fun _ => iop0, rfl, Nat.zero_le _, fun i hi => by omega, .inl rfl⟩
  · simp [Value.cells] at hcs
    obtain ⟨rfl, rfl, rfl⟩ := hcs
    have hmc : m = cap := by simpa using hmm
    have ce : Try.prog.cellsOf 28 = 5 := by kernel_rfl
    have hd : d = .slice ((List.range len).map D) ((List.range (m - len)).map fun j => D (len + j)) := congrArg Prod.fst hx0
    have each : ∀ i, i < len → ∃ q : IOp, (∀ j, j < 5 → W.cell? (x.add (i * 5 + j)) = q.cells[j]?) ∧ IOpB q := fun i hi => by
      obtain ⟨cs', h1, h2⟩ := hx i (by omega)
      rw [ce] at h1
      obtain ⟨_, hlen5, hcell⟩ := World.cells?_some h1
      obtain ⟨f, e, k3⟩ := iop_core h2 (fun k hk => hw k (by
        rw [hd]
        simp only [DataW.weights, Try.underlying22]
        exact List.mem_cons_of_mem _ (List.mem_append_left _ (weights_in (List.mem_map.2 ⟨i, List.mem_range.2 hi, rfl⟩) k hk))))
      refine ⟨f, fun j hj => ?_, k3⟩
      have := hcell j (by omega)
      rw [Go.Deep.add_add] at this
      rw [this, e]
    have : Inhabited IOp := ⟨iop0⟩
    obtain ⟨q, hq⟩ := Go.Deep.choose_lt each
    refine ⟨_, _, _, q, rfl, by omega, fun i hi => (hq i hi).2, ?_⟩
    rcases Nat.eq_zero_or_pos len with h0 | h0
    · exact .inl h0
    · right
      obtain ⟨b, off, spot⟩ := x
      have hc := (hq 0 (by omega)).1 0 (by omega)
      have hspot : spot = none := by simpa [Addr.add] using World.cell?_spot hc
      subst hspot
      refine ⟨b, off, rfl, ?_, fun i hi j hj => ?_⟩
      · exact cell_block (o := off) (v := .int .i64 (q 0).kind) (by simpa [Addr.add, IOp.cells] using hc)
      · have := (hq i hi).1 j hj
        rw [Addr.add_mid, ← Nat.add_assoc, Nat.mul_comm] at this
        exact this
/-- The n cuts of a row, where they stand. -/
def Cuts (w : World) (a : Option Addr) (n : Nat) (f g : Nat → Int) : Prop :=
  n = 0 ∨ ∃ b off, a = some ⟨b, off, none⟩ ∧ b < w.heap.size ∧ ∀ i, i < n → w.cell? ⟨b, off + 2 * i, none⟩ = some (.int .i64 (f i)) ∧ w.cell? ⟨b, off + 2 * i + 1, none⟩ = some (.int .i64 (g i))
def numC : Value → Int
  | .int _ n => n
  | _ => 0
theorem open_cuts {H : Type} {enc : TypeId × Value → H} {W : World} {base : Nat} {v : Value} {d : DataW H} {p : List MemPlace} (hv : Value.okWide Try.prog W .any base 41 v)
    (h : DataW.Trod enc Try.prog W 0 (fun _ => true) true 41 v d p) : ∃ (a : Option Addr) (n cap : Nat) (f g : Nat → Int), v = .slice a n cap ∧ n ≤ maxLen ∧ Cuts W a n f g := by
  obtain ⟨a, len, cap, rfl⟩ := okWide_slice Try.underlying41 hv
  obtain ⟨fuel, hf⟩ := h
  rcases Go.Deep.open_slice_pairs Try.underlying41 Try.underlying46 (by kernel_rfl) rfl rfl (by kernel_rfl) (by kernel_rfl) hf with ⟨hcs, _⟩ | ⟨b, l, c, m, n, V0, V1, D0, D1, P0, P1, hcs, _, hl, hm, hmm, _, hc⟩
  · simp [Value.cells] at hcs
    obtain ⟨rfl, rfl, rfl⟩ := hcs
    exact ⟨_, _, _, fun _ => 0, fun _ => 0, rfl, Nat.zero_le _, .inl rfl⟩
  · simp [Value.cells] at hcs
    obtain ⟨rfl, rfl, rfl⟩ := hcs
    have hmc : m = cap := by simpa using hmm
    have each : ∀ i, i < len → V0 i = .int .i64 (numC (V0 i)) ∧ V1 i = .int .i64 (numC (V1 i)) := fun i hi => by
      obtain ⟨_, _, h3, h4⟩ := hc i (by omega)
      obtain ⟨n0, e0, _, w0⟩ := DataW.trod_int Try.underlying3 h3
      obtain ⟨n1, e1, _, w1⟩ := DataW.trod_int Try.underlying3 h4
      injection e0 with e0 _
      injection e1 with e1 _
      rw [e0, e1]
      exact ⟨rfl, rfl⟩
    refine ⟨_, _, _, fun i => numC (V0 i), fun i => numC (V1 i), rfl, by omega, ?_⟩
    rcases Nat.eq_zero_or_pos len with h0 | h0
    · exact .inl h0
    · right
      obtain ⟨g, off, spot⟩ := b
      have hc0 := (hc 0 (by omega)).1
      have hspot : spot = none := by simpa [Addr.add] using World.cell?_spot hc0
      subst hspot
      refine ⟨g, off, rfl, ?_, fun k hk => ?_⟩
      · have := (hc 0 (by omega)).1
        rw [(each 0 h0).1] at this
        exact cell_block (o := off) (v := .int .i64 (numC (V0 0))) (by simpa [Addr.add] using this)
      · obtain ⟨h1, h2, _, _⟩ := hc k (by omega)
        obtain ⟨e0, e1⟩ := each k hk
        have a1 : (⟨g, off, none⟩ : Addr).add (k * 2) = ⟨g, off + 2 * k, none⟩ := by rw [Addr.add_mid, Nat.mul_comm]
        have a2 : (⟨g, off, none⟩ : Addr).add (k * 2 + 1) = ⟨g, off + 2 * k + 1, none⟩ := by rw [Addr.add_mid, Nat.mul_comm, Nat.add_assoc]
        rw [a1, e0] at h1
        rw [a2, e1] at h2
        exact ⟨h1, h2⟩
end Go.Proofs.Ytpendchkalagnaa
