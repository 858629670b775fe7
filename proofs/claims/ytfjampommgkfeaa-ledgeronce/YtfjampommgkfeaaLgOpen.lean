/-
  A row of acts that is handed in, as the program holds it: how many, and where each stands. No condition but the statements' own bound of an argument's bytes.
-/
import Derived.Test.YtfjampommgkfeaaAkRef
import Derived.Test.YtfjampommgkfeaaRpOpen
import Derived.Test.YtfjampommgkfeaaObSize
import Derived.Deep.Slices
import Derived.Deep.SlicePairs
import Derived.Deep.MidRow
import Derived.SizedLaws
namespace Go.Proofs.Ytfjampommgkfeaa
set_option maxRecDepth 100000
open Go.ChangeShapes Go.WideShapes Go.ChangeAt Go.RowKit

abbrev In64 (n : Int) : Prop := -9223372036854775808 ≤ n ∧ n ≤ 9223372036854775807
/-- An act. -/
structure LOp where
  kind : Int
  n : Int
  now : Int
  size : Int
  rg : List Rg
  ra : Option Addr
  rc : Nat
structure LOpB (f : LOp) : Prop where
  kind : In64 f.kind
  n : In64 f.n
  now : In64 f.now
  size : In64 f.size
  rg : ∀ x ∈ f.rg, In64 x.1 ∧ In64 x.2
  rgs : f.rg.length * 16 ≤ 140737488351232
  nil : f.ra = none → f.rg = [] ∧ f.rc = 0
abbrev LOp.rv (f : LOp) : Value := .slice f.ra f.rg.length f.rc
def LOp.cells (f : LOp) : List Value := [.int .i64 f.kind, .int .i64 f.n, .int .i64 f.now, .int .i64 f.size, f.rv]
def lop0 : LOp := ⟨0, 0, 0, 0, [], none, 0⟩
theorem weights_all {H : Type} {P : Program} {e : TypeId} : ∀ {l : List (DataW H)} {d : DataW H}, d ∈ l → ∀ n ∈ d.weights P e, n ∈ DataW.weightsAll P e l
  | [], _, h => by cases h
  | x :: l, d, h => fun n hn => by
    show n ∈ x.weights P e ++ DataW.weightsAll P e l
    rcases List.mem_cons.1 h with rfl | h
    · exact List.mem_append_left _ hn
    · exact List.mem_append_right _ (weights_all h n hn)
def numW : Value → Int
  | .int _ n => n
  | _ => 0
theorem rgs_core {H : Type} {enc : TypeId × Value → H} {W : World} {fuel : Nat} {cs : List Value} {x : DataW H × List MemPlace} (h : DataW.trod enc Try.prog W 0 (fun _ => true) true fuel 27 cs = some x) (hw : ∀ n ∈ x.1.weights Try.prog 27, n ≤ reachBytes) :
    ∃ a cp, ∃ l : List Rg, cs = [.slice a l.length cp] ∧ RgAt W (.slice a l.length cp) l ∧ l.length * 16 ≤ 140737488351232 ∧ (∀ y ∈ l, In64 y.1 ∧ In64 y.2) ∧ (a = none → l = [] ∧ cp = 0) := by
  rcases Go.Deep.open_slice_pairs Try.underlying27 Try.underlying50 (by kernel_rfl) rfl rfl (by kernel_rfl) (by kernel_rfl) h with ⟨hcs, _⟩ | ⟨b, len, c, m, n, V0, V1, D0, D1, P0, P1, hcs, _, hl, hm, hmm, hx, hc⟩
  · exact ⟨none, 0, [], hcs, ⟨none, 0, rfl, .inl rfl⟩, by simp, (fun y hy => by cases hy), fun _ => ⟨rfl, rfl⟩⟩
  · have hmc : m = c := by simpa using hmm
    have each : ∀ i, i < len → (V0 i = .int .i64 (numW (V0 i)) ∧ V1 i = .int .i64 (numW (V1 i))) ∧ ((Lit.int .i64 (numW (V0 i))).wf = true ∧ (Lit.int .i64 (numW (V1 i))).wf = true) := fun i hi => by
      obtain ⟨_, _, h3, h4⟩ := hc i (by omega)
      obtain ⟨n0, e0, _, w0⟩ := DataW.trod_int Try.underlying2 h3
      obtain ⟨n1, e1, _, w1⟩ := DataW.trod_int Try.underlying2 h4
      injection e0 with e0 _
      injection e1 with e1 _
      rw [e0, e1]
      exact ⟨⟨rfl, rfl⟩, w0, w1⟩
    obtain ⟨L, hL⟩ : ∃ L : List Rg, L = (List.range len).map fun i => (numW (V0 i), numW (V1 i)) := ⟨_, rfl⟩
    have hlen : L.length = len := by rw [hL]; simp
    have hget : ∀ k, k < len → L.getD k (0, 0) = (numW (V0 k), numW (V1 k)) := fun k hk => by
      rw [hL]
      simp [List.getD, hk]
    have hb16 : Try.prog.bytesOf 50 = 16 := by kernel_rfl
    have hsz : L.length * 16 ≤ 140737488351232 := by
      rw [hx] at hw
      have q := hw _ (by simp only [DataW.weights, Try.underlying27]; exact List.mem_cons_self ..)
      rw [hb16] at q
      simp [reachBytes] at q
      omega
    refine ⟨some b, c, L, by rw [hlen]; exact hcs, ⟨some b, c, by rw [hlen], ?_⟩, hsz, fun y hy => ?_, fun h => by cases h⟩
    · rcases Nat.eq_zero_or_pos len with h0 | h0
      · exact .inl (List.eq_nil_of_length_eq_zero (by omega))
      · right
        obtain ⟨g, off, spot⟩ := b
        have hc0 := (hc 0 (by omega)).1
        have hspot : spot = none := by simpa [Addr.add] using World.cell?_spot hc0
        subst hspot
        refine ⟨g, off, rfl, fun k hk => ?_⟩
        rw [hlen] at hk
        obtain ⟨h1, h2, _, _⟩ := hc k (by omega)
        obtain ⟨⟨e0, e1⟩, _⟩ := each k hk
        rw [hget k hk]
        have a1 : (⟨g, off, none⟩ : Addr).add (k * 2) = ⟨g, off + 2 * k, none⟩ := by rw [Addr.add_mid, Nat.mul_comm]
        have a2 : (⟨g, off, none⟩ : Addr).add (k * 2 + 1) = ⟨g, off + 2 * k + 1, none⟩ := by rw [Addr.add_mid, Nat.mul_comm, Nat.add_assoc]
        rw [a1, e0] at h1
        rw [a2, e1] at h2
        exact ⟨h1, h2⟩
    · rw [hL] at hy
      obtain ⟨i, hi, rfl⟩ := List.mem_map.1 hy
      obtain ⟨_, w0, w1⟩ := each i (List.mem_range.1 hi)
      exact ⟨bounds_i64 w0, bounds_i64 w1⟩
/-- An act's cells that are handed in. -/
theorem lop_core {H : Type} {enc : TypeId × Value → H} {W : World} {fuel : Nat} {cs : List Value} {x : DataW H × List MemPlace} (h : DataW.trod enc Try.prog W 0 (fun _ => true) true fuel 29 cs = some x) (hw : ∀ n ∈ x.1.weights Try.prog 29, n ≤ reachBytes) :
    ∃ f : LOp, cs = f.cells ∧ RgAt W f.rv f.rg ∧ LOpB f := by
  obtain ⟨xs, n, _, hx, hlen, hxl, hf⟩ := DataW.trod_struct Try.underlying29 h
  have c5 : Try.prog.cellsOf 29 = 5 := by kernel_rfl
  rw [c5] at hlen
  match xs, hxl, cs, hlen with
  | [y0, y1, y2, y3, y4], _, [v0, v1, v2, v3, v4], _ =>
    have g0 := hf 0 _ rfl
    have g1 := hf 1 _ rfl
    have g2 := hf 2 _ rfl
    have g3 := hf 3 _ rfl
    have g4 := hf 4 _ rfl
    have ci : Try.prog.cellsOf 3 = 1 := by kernel_rfl
    have cl : Try.prog.cellsOf 2 = 1 := by kernel_rfl
    have cr : Try.prog.cellsOf 27 = 1 := by kernel_rfl
    simp [ci, cl, cr] at g0 g1 g2 g3 g4
    obtain ⟨n0, e0, _, w0⟩ := DataW.trod_int Try.underlying3 g0
    obtain ⟨n1, e1, _, w1⟩ := DataW.trod_int Try.underlying2 g1
    obtain ⟨n2, e2, _, w2⟩ := DataW.trod_int Try.underlying2 g2
    obtain ⟨n3, e3, _, w3⟩ := DataW.trod_int Try.underlying3 g3
    have hmem : ∀ (j : Nat) (t : TypeId) (y : DataW H), ([3, 2, 2, 3, 27] : List TypeId)[j]? = some t → [y0.1, y1.1, y2.1, y3.1, y4.1][j]? = some y → ∀ n ∈ y.weights Try.prog t, n ≤ reachBytes := fun j t y ht hy n hn => by
      refine hw n ?_
      rw [hx]
      simp only [DataW.weights, Try.underlying29]
      exact DataW.weights_mem_each (j := j) (t := t) (d := y) ht hy n hn
    obtain ⟨a, cp, l, e4, r4, z4, b4, q4⟩ := rgs_core g4 (hmem 4 _ _ rfl rfl)
    injection e0 with e0 _
    injection e1 with e1 _
    injection e2 with e2 _
    injection e3 with e3 _
    injection e4 with e4 _
    subst e0 e1 e2 e3 e4
    exact ⟨⟨n0, n1, n2, n3, l, a, cp⟩, rfl, r4, bounds_i64 w0, bounds_i64 w1, bounds_i64 w2, bounds_i64 w3, b4, z4, q4⟩
/-- The n acts of a row, where they stand. -/
def LOps (w : World) (a : Option Addr) (n : Nat) (f : Nat → LOp) : Prop :=
  n = 0 ∨ ∃ b off, a = some ⟨b, off, none⟩ ∧ b < w.heap.size ∧ ∀ i, i < n → (∀ j, j < 5 → w.cell? ⟨b, off + 5 * i + j, none⟩ = (f i).cells[j]?) ∧ RgAt w (f i).rv (f i).rg
theorem open_lops {H : Type} {enc : TypeId × Value → H} {W : World} {base : Nat} {v : Value} {d : DataW H} {p : List MemPlace} (hv : Value.okWide Try.prog W .any base 22 v)
    (h : DataW.Trod enc Try.prog W 0 (fun _ => true) true 22 v d p) (hw : ∀ n ∈ d.weights Try.prog 22, n ≤ reachBytes) :
    ∃ (a : Option Addr) (n cap : Nat) (f : Nat → LOp), v = .slice a n cap ∧ n ≤ maxLen ∧ (∀ i, i < n → LOpB (f i)) ∧ LOps W a n f := by
  obtain ⟨a, len, cap, rfl⟩ := okWide_slice Try.underlying22 hv
  obtain ⟨fuel, hf⟩ := h
  rcases Go.Deep.open_slice Try.underlying22 hf with ⟨hcs, _⟩ | ⟨x, l, c, m, n, D, Pl, hcs, _, hl, hm, hmm, hx0, hx⟩
  · simp [Value.cells] at hcs
    obtain ⟨rfl, rfl, rfl⟩ := hcs
    exact ⟨_, _, _, fun _ => lop0, rfl, Nat.zero_le _, fun i hi => by omega, .inl rfl⟩
  · simp [Value.cells] at hcs
    obtain ⟨rfl, rfl, rfl⟩ := hcs
    have hmc : m = cap := by simpa using hmm
    have ce : Try.prog.cellsOf 29 = 5 := by kernel_rfl
    have hd : d = .slice ((List.range len).map D) ((List.range (m - len)).map fun j => D (len + j)) := congrArg Prod.fst hx0
    have each : ∀ i, i < len → ∃ q : LOp, (∀ j, j < 5 → W.cell? (x.add (i * 5 + j)) = q.cells[j]?) ∧ RgAt W q.rv q.rg ∧ LOpB q := fun i hi => by
      obtain ⟨cs', h1, h2⟩ := hx i (by omega)
      rw [ce] at h1
      obtain ⟨_, hlen5, hcell⟩ := World.cells?_some h1
      obtain ⟨f, e, k2, k3⟩ := lop_core h2 (fun k hk => hw k (by
        rw [hd]
        simp only [DataW.weights, Try.underlying22]
        exact List.mem_cons_of_mem _ (List.mem_append_left _ (weights_all (List.mem_map.2 ⟨i, List.mem_range.2 hi, rfl⟩) k hk))))
      refine ⟨f, fun j hj => ?_, k2, k3⟩
      have := hcell j (by omega)
      rw [Go.Deep.add_add] at this
      rw [this, e]
    have : Inhabited LOp := ⟨lop0⟩
    obtain ⟨q, hq⟩ := Go.Deep.choose_lt each
    refine ⟨_, _, _, q, rfl, by omega, fun i hi => (hq i hi).2.2, ?_⟩
    rcases Nat.eq_zero_or_pos len with h0 | h0
    · exact .inl h0
    · right
      obtain ⟨b, off, spot⟩ := x
      have hc := (hq 0 (by omega)).1 0 (by omega)
      have hspot : spot = none := by simpa [Addr.add] using World.cell?_spot hc
      subst hspot
      refine ⟨b, off, rfl, ?_, fun i hi => ⟨fun j hj => ?_, (hq i hi).2.1⟩⟩
      · exact cell_block (o := off) (v := .int .i64 (q 0).kind) (by simpa [Addr.add, LOp.cells] using hc)
      · have := (hq i hi).1 j hj
        rw [Addr.add_mid, ← Nat.add_assoc, Nat.mul_comm] at this
        exact this
end Go.Proofs.Ytfjampommgkfeaa
