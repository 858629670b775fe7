/-
  A frame, and a row of frames, that is handed in, as the program holds it. No condition but the statements' own bound of an argument's bytes.
-/
import Derived.Test.YtmngpkkpkjnejaaDoorFrAll
import Derived.Test.YtmngpkkpkjnejaaDoorRpOpen
import Derived.Test.YtmngpkkpkjnejaaDoorObSize
import Derived.Deep.Slices
import Derived.Deep.SlicePairs
import Derived.Deep.MidRow
import Derived.SizedLaws
namespace Go.Proofs.YtmngpkkpkjnejaaDoor
set_option maxRecDepth 100000
open Go.ChangeShapes Go.WideShapes Go.ChangeAt Go.RowKit

abbrev In64 (n : Int) : Prop := -9223372036854775808 ≤ n ∧ n ≤ 9223372036854775807
/-- What a frame that is handed in can be. -/
structure FrB (f : Fr) : Prop where
  kind : In64 f.kind
  id : In64 f.id
  off : In64 f.off
  code : In64 f.code
  rg : ∀ x ∈ f.rg, In64 x.1 ∧ In64 x.2
  rgs : f.rg.length * 16 ≤ 140737488351232
  data : f.data.length ≤ 140737488351232
theorem weights_all {H : Type} {P : Program} {e : TypeId} : ∀ {l : List (DataW H)} {d : DataW H}, d ∈ l → ∀ n ∈ d.weights P e, n ∈ DataW.weightsAll P e l
  | [], _, h => by cases h
  | x :: l, d, h => fun n hn => by
    show n ∈ x.weights P e ++ DataW.weightsAll P e l
    rcases List.mem_cons.1 h with rfl | h
    · exact List.mem_append_left _ hn
    · exact List.mem_append_right _ (weights_all h n hn)
def numW : Value → Int
  | .int _ n => n
  | _ => 0
theorem rgs_core {H : Type} {enc : TypeId × Value → H} {W : World} {fuel : Nat} {cs : List Value} {x : DataW H × List MemPlace} (h : DataW.trod enc Tryd.prog W 0 (fun _ => true) true fuel 22 cs = some x) (hw : ∀ n ∈ x.1.weights Tryd.prog 22, n ≤ reachBytes) :
    ∃ a cp, ∃ l : List Rg, cs = [.slice a l.length cp] ∧ RgAt W (.slice a l.length cp) l ∧ l.length * 16 ≤ 140737488351232 ∧ ∀ y ∈ l, In64 y.1 ∧ In64 y.2 := by
  rcases Go.Deep.open_slice_pairs Tryd.underlying22 Tryd.underlying67 (by kernel_rfl) rfl rfl (by kernel_rfl) (by kernel_rfl) h with ⟨hcs, _⟩ | ⟨b, len, c, m, n, V0, V1, D0, D1, P0, P1, hcs, _, hl, hm, hmm, hx, hc⟩
  · exact ⟨none, 0, [], hcs, ⟨none, 0, rfl, .inl rfl⟩, by simp, fun y hy => by cases hy⟩
  · have hmc : m = c := by simpa using hmm
    have each : ∀ i, i < len → (V0 i = .int .i64 (numW (V0 i)) ∧ V1 i = .int .i64 (numW (V1 i))) ∧ ((Lit.int .i64 (numW (V0 i))).wf = true ∧ (Lit.int .i64 (numW (V1 i))).wf = true) := fun i hi => by
      obtain ⟨_, _, h3, h4⟩ := hc i (by omega)
      obtain ⟨n0, e0, _, w0⟩ := DataW.trod_int Tryd.underlying2 h3
      obtain ⟨n1, e1, _, w1⟩ := DataW.trod_int Tryd.underlying2 h4
      injection e0 with e0 _
      injection e1 with e1 _
      rw [e0, e1]
      exact ⟨⟨rfl, rfl⟩, w0, w1⟩
    obtain ⟨L, hL⟩ : ∃ L : List Rg, L = (List.range len).map fun i => (numW (V0 i), numW (V1 i)) := ⟨_, rfl⟩
    have hlen : L.length = len := by rw [hL]; simp
    have hget : ∀ k, k < len → L.getD k (0, 0) = (numW (V0 k), numW (V1 k)) := fun k hk => by
      rw [hL]
      simp [List.getD, hk]
    have hb16 : Tryd.prog.bytesOf 67 = 16 := by kernel_rfl
    have hsz : L.length * 16 ≤ 140737488351232 := by
      rw [hx] at hw
      have q := hw _ (by simp only [DataW.weights, Tryd.underlying22]; exact List.mem_cons_self ..)
      rw [hb16] at q
      simp [reachBytes] at q
      omega
    refine ⟨some b, c, L, by rw [hlen]; exact hcs, ⟨some b, c, by rw [hlen], ?_⟩, hsz, fun y hy => ?_⟩
    · rcases Nat.eq_zero_or_pos len with h0 | h0
      · exact .inl (List.eq_nil_of_length_eq_zero (by omega))
      · right
        obtain ⟨g, off, spot⟩ := b
        have hc0 := (hc 0 (by omega)).1
        have hspot : spot = none := by simpa [Addr.add] using World.cell?_spot hc0
        subst hspot
        refine ⟨g, off, rfl, fun k hk => ?_⟩
        rw [hlen] at hk
        obtain ⟨h1, h2, _, _⟩ := hc k (by omega)
        obtain ⟨⟨e0, e1⟩, _⟩ := each k hk
        rw [hget k hk]
        have a1 : (⟨g, off, none⟩ : Addr).add (k * 2) = ⟨g, off + 2 * k, none⟩ := by rw [Addr.add_mid, Nat.mul_comm]
        have a2 : (⟨g, off, none⟩ : Addr).add (k * 2 + 1) = ⟨g, off + 2 * k + 1, none⟩ := by rw [Addr.add_mid, Nat.mul_comm, Nat.add_assoc]
        rw [a1, e0] at h1
        rw [a2, e1] at h2
        exact ⟨h1, h2⟩
    · rw [hL] at hy
      obtain ⟨i, hi, rfl⟩ := List.mem_map.1 hy
      obtain ⟨_, w0, w1⟩ := each i (List.mem_range.1 hi)
      exact ⟨bounds_i64 w0, bounds_i64 w1⟩
/-- A frame's cells that are handed in. -/
theorem frm_core {H : Type} {enc : TypeId × Value → H} {W : World} {fuel : Nat} {cs : List Value} {x : DataW H × List MemPlace} (h : DataW.trod enc Tryd.prog W 0 (fun _ => true) true fuel 24 cs = some x) (hw : ∀ n ∈ x.1.weights Tryd.prog 24, n ≤ reachBytes) :
    ∃ (f : Fr) (d : ByteArray) (a : Option Addr) (cp : Nat), cs = [.int .i64 f.kind, .int .i64 f.id, .int .i64 f.off, .bool f.fin, .int .i64 f.code, .string d, .slice a f.rg.length cp] ∧ toL d = f.data ∧ RgAt W (.slice a f.rg.length cp) f.rg ∧ FrB f := by
  obtain ⟨xs, n, _, hx, hlen, hxl, hf⟩ := DataW.trod_struct Tryd.underlying24 h
  have c7 : Tryd.prog.cellsOf 24 = 7 := by kernel_rfl
  rw [c7] at hlen
  match xs, hxl, cs, hlen with
  | [y0, y1, y2, y3, y4, y5, y6], _, [v0, v1, v2, v3, v4, v5, v6], _ =>
    have g0 := hf 0 _ rfl
    have g1 := hf 1 _ rfl
    have g2 := hf 2 _ rfl
    have g3 := hf 3 _ rfl
    have g4 := hf 4 _ rfl
    have g5 := hf 5 _ rfl
    have g6 := hf 6 _ rfl
    have ci : Tryd.prog.cellsOf 3 = 1 := by kernel_rfl
    have cl : Tryd.prog.cellsOf 2 = 1 := by kernel_rfl
    have cb : Tryd.prog.cellsOf 4 = 1 := by kernel_rfl
    have cst : Tryd.prog.cellsOf 9 = 1 := by kernel_rfl
    have cr : Tryd.prog.cellsOf 22 = 1 := by kernel_rfl
    simp [ci, cl, cb, cst, cr] at g0 g1 g2 g3 g4 g5 g6
    obtain ⟨n0, e0, _, w0⟩ := DataW.trod_int Tryd.underlying3 g0
    obtain ⟨n1, e1, _, w1⟩ := DataW.trod_int Tryd.underlying2 g1
    obtain ⟨n2, e2, _, w2⟩ := DataW.trod_int Tryd.underlying2 g2
    obtain ⟨b3, e3, _⟩ := DataW.trod_bool Tryd.underlying4 g3
    obtain ⟨n4, e4, _, w4⟩ := DataW.trod_int Tryd.underlying2 g4
    obtain ⟨d5, e5, x5, _⟩ := DataW.trod_string Tryd.underlying9 g5
    have hmem : ∀ (j : Nat) (t : TypeId) (y : DataW H), ([3, 2, 2, 4, 2, 9, 22] : List TypeId)[j]? = some t → [y0.1, y1.1, y2.1, y3.1, y4.1, y5.1, y6.1][j]? = some y → ∀ n ∈ y.weights Tryd.prog t, n ≤ reachBytes := fun j t y ht hy n hn => by
      refine hw n ?_
      rw [hx]
      simp only [DataW.weights, Tryd.underlying24]
      exact DataW.weights_mem_each (j := j) (t := t) (d := y) ht hy n hn
    obtain ⟨a, cp, l, e6, r6, z6, b6⟩ := rgs_core g6 (hmem 6 _ _ rfl rfl)
    have z5 := hmem 5 _ _ rfl rfl d5.data.toList.length (by rw [x5]; simp [DataW.weights])
    injection e0 with e0 _
    injection e1 with e1 _
    injection e2 with e2 _
    injection e3 with e3 _
    injection e4 with e4 _
    injection e5 with e5 _
    injection e6 with e6 _
    subst e0 e1 e2 e3 e4 e5 e6
    exact ⟨⟨n0, n1, n2, b3, n4, toL d5, l⟩, d5, a, cp, rfl, rfl, r6, bounds_i64 w0, bounds_i64 w1, bounds_i64 w2, bounds_i64 w4, b6, z6, by simpa [reachBytes, toL] using z5⟩
theorem open_frm {H : Type} {enc : TypeId × Value → H} {W : World} {base : Nat} {v : Value} {d : DataW H} {p : List MemPlace} (hv : Value.okWide Tryd.prog W .any base 24 v)
    (h : DataW.Trod enc Tryd.prog W 0 (fun _ => true) true 24 v d p) (hw : ∀ n ∈ d.weights Tryd.prog 24, n ≤ reachBytes) : ∃ f : Fr, FrIs W v f ∧ FrB f := by
  obtain ⟨cs, rfl, hsz⟩ := okWide_struct Tryd.underlying24 hv
  obtain ⟨fuel, hf⟩ := h
  obtain ⟨f, dd, a, cp, e, h1, h2, h3⟩ := frm_core hf hw
  refine ⟨f, ⟨dd, a, cp, ?_, h1, h2⟩, h3⟩
  have e' : cs = #[.int .i64 f.kind, .int .i64 f.id, .int .i64 f.off, .bool f.fin, .int .i64 f.code, .string dd, .slice a f.rg.length cp] := by
    apply Array.toList_inj.1
    rw [← e]
    simp [Value.cells]
  rw [e']
  rfl
theorem open_frms {H : Type} {enc : TypeId × Value → H} {W : World} {base : Nat} {v : Value} {d : DataW H} {p : List MemPlace} (hv : Value.okWide Tryd.prog W .any base 29 v)
    (h : DataW.Trod enc Tryd.prog W 0 (fun _ => true) true 29 v d p) (hw : ∀ n ∈ d.weights Tryd.prog 29, n ≤ reachBytes) :
    ∃ fs : List Fr, FrsAt W v fs ∧ fs.length * 80 ≤ 140737488351232 ∧ ∀ f ∈ fs, FrB f := by
  obtain ⟨a, len, cap, rfl⟩ := okWide_slice Tryd.underlying29 hv
  have hb80 : Tryd.prog.bytesOf 24 = 80 := by kernel_rfl
  have hlen := sized_len Tryd.underlying29 h hw
  rw [hb80] at hlen
  obtain ⟨fuel, hf⟩ := h
  rcases Go.Deep.open_slice Tryd.underlying29 hf with ⟨hcs, _⟩ | ⟨x, l, c, m, n, D, Pl, hcs, _, hl, hm, hmm, hx0, hx⟩
  · simp [Value.cells] at hcs
    obtain ⟨rfl, rfl, rfl⟩ := hcs
    exact ⟨[], ⟨none, 0, rfl, .inl rfl⟩, by simp, fun f hf => by cases hf⟩
  · simp [Value.cells] at hcs
    obtain ⟨rfl, rfl, rfl⟩ := hcs
    have hmc : m = cap := by simpa using hmm
    have ce : Tryd.prog.cellsOf 24 = 7 := by kernel_rfl
    have hd : d = .slice ((List.range len).map D) ((List.range (m - len)).map fun j => D (len + j)) := congrArg Prod.fst hx0
    have each : ∀ i, i < len → ∃ q : Fr × ByteArray × Option Addr × Nat, (∀ j, j < 7 → W.cell? (x.add (i * 7 + j)) = [Value.int .i64 q.1.kind, .int .i64 q.1.id, .int .i64 q.1.off, .bool q.1.fin, .int .i64 q.1.code, .string q.2.1, .slice q.2.2.1 q.1.rg.length q.2.2.2][j]?) ∧ toL q.2.1 = q.1.data ∧ RgAt W (.slice q.2.2.1 q.1.rg.length q.2.2.2) q.1.rg ∧ FrB q.1 := fun i hi => by
      obtain ⟨cs', h1, h2⟩ := hx i (by omega)
      rw [ce] at h1
      obtain ⟨_, hlen7, hcell⟩ := World.cells?_some h1
      obtain ⟨f, dd, a, cp, e, k1, k2, k3⟩ := frm_core h2 (fun k hk => hw k (by
        rw [hd]
        simp only [DataW.weights, Tryd.underlying29]
        exact List.mem_cons_of_mem _ (List.mem_append_left _ (weights_all (List.mem_map.2 ⟨i, List.mem_range.2 hi, rfl⟩) k hk))))
      refine ⟨(f, dd, a, cp), fun j hj => ?_, k1, k2, k3⟩
      have := hcell j (by omega)
      rw [Go.Deep.add_add] at this
      rw [this, e]
    have : Inhabited Fr := ⟨fr0⟩
    obtain ⟨q, hq⟩ := Go.Deep.choose_lt each
    obtain ⟨L, hL⟩ : ∃ L : List Fr, L = (List.range len).map fun i => (q i).1 := ⟨_, rfl⟩
    have hll : L.length = len := by rw [hL]; simp
    have hget : ∀ k, k < len → L.getD k fr0 = (q k).1 := fun k hk => by
      rw [hL]
      simp [List.getD, hk]
    refine ⟨L, ⟨some x, cap, by rw [hll], ?_⟩, by rw [hll]; exact hlen, fun f hf => ?_⟩
    · rcases Nat.eq_zero_or_pos len with h0 | h0
      · exact .inl (List.eq_nil_of_length_eq_zero (by omega))
      · right
        obtain ⟨g, off, spot⟩ := x
        have hc0 := (hq 0 h0).1 0 (by omega)
        have hspot : spot = none := by simpa [Addr.add] using World.cell?_spot hc0
        subst hspot
        refine ⟨g, off, rfl, fun k hk => ?_⟩
        rw [hll] at hk
        rw [hget k hk]
        obtain ⟨h1, h2, h3, -⟩ := hq k hk
        have ad : ∀ j, (⟨g, off, none⟩ : Addr).add (k * 7 + j) = ⟨g, off + 7 * k + j, none⟩ := fun j => by rw [Addr.add_mid]; congr 1; omega
        have cc : ∀ j, j < 7 → W.cell? ⟨g, off + 7 * k + j, none⟩ = _ := fun j hj => (ad j) ▸ h1 j hj
        exact ⟨(q k).2.1, (q k).2.2.1, (q k).2.2.2, h2, h3, cc 0 (by omega), cc 1 (by omega), cc 2 (by omega), cc 3 (by omega), cc 4 (by omega), cc 5 (by omega), cc 6 (by omega)⟩
    · rw [hL] at hf
      obtain ⟨i, hi, rfl⟩ := List.mem_map.1 hf
      exact (hq i (List.mem_range.1 hi)).2.2.2
end Go.Proofs.YtmngpkkpkjnejaaDoor
