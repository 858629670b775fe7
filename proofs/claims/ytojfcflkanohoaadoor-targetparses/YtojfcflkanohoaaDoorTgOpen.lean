/-
  Fields and targets that are handed in, as the program holds them. No condition but the form's own reach.
-/
import Derived.Test.YtojfcflkanohoaaDoorTgMath
import Derived.ProofKit
import Derived.OpenShut
import Derived.ShutString
import Derived.ChangeSlices
import Derived.SizedLaws
import Derived.ChangeArms
import Derived.Deep.DeepHandedRow
import Derived.Deep.Slices
import Derived.Deep.SlicePairs
import Derived.Deep.MidRow
namespace Go.Proofs.YtojfcflkanohoaaDoor
set_option maxRecDepth 100000
open Go.ChangeShapes Go.WideShapes Go.ChangeAt Go.RowKit

theorem own : ownKnob Tryd.prog.godebug = none := by kernel_rfl
theorem laidOut : laidOutB Tryd.prog = true := by kernel_rfl
theorem cell_block {W : World} {b o : Nat} {v : Value} (h : W.cell? ⟨b, o, none⟩ = some v) : b < W.heap.size := by
  rcases Nat.lt_or_ge b W.heap.size with hp | hp
  · exact hp
  · have e : W.heap[b]? = none := Array.getElem?_eq_none hp
    simp [World.cell?, e] at h
theorem sized_len {t e : TypeId} (ht : Tryd.prog.underlying t = some (.slice e)) {H : Type} {enc : TypeId × Value → H} {W : World} {a : Option Addr} {n cap : Nat} {d : DataW H} {p : List MemPlace}
    (h : DataW.Trod enc Tryd.prog W 0 (fun _ => true) true t (.slice a n cap) d p) (hw : ∀ k ∈ d.weights Tryd.prog t, k ≤ reachBytes) : n * Tryd.prog.bytesOf e ≤ 140737488351232 := by
  obtain ⟨fuel, hf⟩ := h
  rcases Go.Deep.open_slice ht hf with ⟨hcs, _⟩ | ⟨x, l, c, m, k, D, Pl, hcs, _, hl, hm, hmm, hx, _⟩
  · simp [Value.cells] at hcs
    obtain ⟨rfl, rfl, rfl⟩ := hcs
    simp
  · simp [Value.cells] at hcs
    obtain ⟨rfl, rfl, rfl⟩ := hcs
    injection hx with hx _
    subst hx
    have q := hw _ (by simp only [DataW.weights, ht]; exact List.mem_cons_self ..)
    simp at q
    refine Nat.le_trans (Nat.mul_le_mul_right _ (Nat.le_add_right n (m - n))) ?_
    simpa [reachBytes] using q
theorem weights_in {H : Type} {P : Program} {e : TypeId} : ∀ {l : List (DataW H)} {d : DataW H}, d ∈ l → ∀ n ∈ d.weights P e, n ∈ DataW.weightsAll P e l
  | [], _, h => by cases h
  | x :: l, d, h => fun n hn => by
    show n ∈ x.weights P e ++ DataW.weightsAll P e l
    rcases List.mem_cons.1 h with rfl | h
    · exact List.mem_append_left _ hn
    · exact List.mem_append_right _ (weights_in h n hn)
/-- An entry of a row. -/
structure AFd where
  name : ByteArray
  value : ByteArray
structure AFdB (f : AFd) : Prop where
  name : f.name.size ≤ 140737488351232
  value : f.value.size ≤ 140737488351232
def AFd.cells (f : AFd) : List Value := [.string f.name, .string f.value]
def aFd0 : AFd := ⟨⟨#[]⟩, ⟨#[]⟩⟩
/-- An entry's cells that are handed in. -/
theorem aFd_core {H : Type} {enc : TypeId × Value → H} {W : World} {fuel : Nat} {cs : List Value} {x : DataW H × List MemPlace} (h : DataW.trod enc Tryd.prog W 0 (fun _ => true) true fuel 35 cs = some x) (hw : ∀ n ∈ x.1.weights Tryd.prog 35, n ≤ reachBytes) :
    ∃ f : AFd, cs = f.cells ∧ AFdB f := by
  obtain ⟨xs, n, _, hx, hlen, hxl, hf⟩ := DataW.trod_struct Tryd.underlying35 h
  have cN : Tryd.prog.cellsOf 35 = 2 := by kernel_rfl
  rw [cN] at hlen
  match xs, hxl, cs, hlen with
  | [y0, y1], _, [v0, v1], _ =>
    have g0 := hf 0 _ rfl
    have g1 := hf 1 _ rfl
    have c_string : Tryd.prog.cellsOf 9 = 1 := by kernel_rfl
    simp [c_string] at g0 g1
    obtain ⟨n0, e0, x0, _⟩ := DataW.trod_string Tryd.underlying9 g0
    obtain ⟨n1, e1, x1, _⟩ := DataW.trod_string Tryd.underlying9 g1
    have hmem : ∀ (j : Nat) (t : TypeId) (y : DataW H), ([9, 9] : List TypeId)[j]? = some t → [y0.1, y1.1][j]? = some y → ∀ n ∈ y.weights Tryd.prog t, n ≤ reachBytes := fun j t y ht hy n hn => by
      refine hw n ?_
      rw [hx]
      simp only [DataW.weights, Tryd.underlying35]
      exact DataW.weights_mem_each (j := j) (t := t) (d := y) ht hy n hn
    have hd0 : n0.size ≤ 140737488351232 := by
      have q := hmem 0 _ _ rfl rfl n0.size (by rw [x0]; simp [DataW.weights])
      simpa [reachBytes] using q
    have hd1 : n1.size ≤ 140737488351232 := by
      have q := hmem 1 _ _ rfl rfl n1.size (by rw [x1]; simp [DataW.weights])
      simpa [reachBytes] using q
    injection e0 with e0 _
    injection e1 with e1 _
    subst e0 e1
    exact ⟨⟨n0, n1⟩, rfl, hd0, hd1⟩
/-- The n entries of a row, where they stand. -/
def AFds (w : World) (a : Option Addr) (n : Nat) (f : Nat → AFd) : Prop :=
  n = 0 ∨ ∃ b off, a = some ⟨b, off, none⟩ ∧ b < w.heap.size ∧ ∀ i, i < n → ∀ j, j < 2 → w.cell? ⟨b, off + 2 * i + j, none⟩ = (f i).cells[j]?
theorem open_aFds {H : Type} {enc : TypeId × Value → H} {W : World} {base : Nat} {v : Value} {d : DataW H} {p : List MemPlace} (hv : Value.okWide Tryd.prog W .any base 22 v)
    (h : DataW.Trod enc Tryd.prog W 0 (fun _ => true) true 22 v d p) (hw : ∀ n ∈ d.weights Tryd.prog 22, n ≤ reachBytes) :
    ∃ (a : Option Addr) (n cap : Nat) (f : Nat → AFd), v = .slice a n cap ∧ n ≤ maxLen ∧ (∀ i, i < n → AFdB (f i)) ∧ AFds W a n f := by
  obtain ⟨a, len, cap, rfl⟩ := okWide_slice Tryd.underlying22 hv
  obtain ⟨fuel, hf⟩ := h
  rcases Go.Deep.open_slice Tryd.underlying22 hf with ⟨hcs, _⟩ | ⟨x, l, c, m, n, D, Pl, hcs, _, hl, hm, hmm, hx0, hx⟩
  · simp [Value.cells] at hcs
    obtain ⟨rfl, rfl, rfl⟩ := hcs
    exact ⟨_, _, _, fun _ => aFd0, rfl, Nat.zero_le _, fun i hi => by omega, .inl rfl⟩
  · simp [Value.cells] at hcs
    obtain ⟨rfl, rfl, rfl⟩ := hcs
    have hmc : m = cap := by simpa using hmm
    have ce : Tryd.prog.cellsOf 35 = 2 := by kernel_rfl
    have hd : d = .slice ((List.range len).map D) ((List.range (m - len)).map fun j => D (len + j)) := congrArg Prod.fst hx0
    have each : ∀ i, i < len → ∃ q : AFd, (∀ j, j < 2 → W.cell? (x.add (i * 2 + j)) = q.cells[j]?) ∧ AFdB q := fun i hi => by
      obtain ⟨cs', h1, h2⟩ := hx i (by omega)
      rw [ce] at h1
      obtain ⟨_, hlen5, hcell⟩ := World.cells?_some h1
      obtain ⟨f, e, k3⟩ := aFd_core h2 (fun k hk => hw k (by
        rw [hd]
        simp only [DataW.weights, Tryd.underlying22]
        exact List.mem_cons_of_mem _ (List.mem_append_left _ (weights_in (List.mem_map.2 ⟨i, List.mem_range.2 hi, rfl⟩) k hk))))
      refine ⟨f, fun j hj => ?_, k3⟩
      have := hcell j (by omega)
      rw [Go.Deep.add_add] at this
      rw [this, e]
    have : Inhabited AFd := ⟨aFd0⟩
    obtain ⟨q, hq⟩ := Go.Deep.choose_lt each
    refine ⟨_, _, _, q, rfl, by omega, fun i hi => (hq i hi).2, ?_⟩
    rcases Nat.eq_zero_or_pos len with h0 | h0
    · exact .inl h0
    · right
      obtain ⟨b, off, spot⟩ := x
      have hc := (hq 0 (by omega)).1 0 (by omega)
      have hspot : spot = none := by simpa [Addr.add] using World.cell?_spot hc
      subst hspot
      refine ⟨b, off, rfl, ?_, fun i hi j hj => ?_⟩
      · exact cell_block (o := off) (v := .string (q 0).name) (by simpa [Addr.add, AFd.cells] using hc)
      · have := (hq i hi).1 j hj
        rw [Addr.add_mid, ← Nat.add_assoc, Nat.mul_comm] at this
        exact this
theorem at_aFds (B o N cap i : Nat) (w : World) (h : i < N) (z : Int) (hz : z = i) (p : Nat) (hp : p = o + 2 * i) :
    (Instr.indexAt 22 (.slice (some ⟨B, o, none⟩) N cap) (.int .i64 z)).run Tryd.prog w = .ok (.pointer (some ⟨B, p, none⟩)) w := by
  subst hz hp
  have e : Tryd.prog.elem 22 = 35 := by kernel_rfl
  rw [run_indexAt_slice (P := Tryd.prog) w 22 ⟨B, o, none⟩ N cap .i64 i (by rw [e]; exact Tryd.underlying22), if_pos (by omega), e]
  have s : (sizeOf 35).run Tryd.prog w = .ok 2 w := Tryd.sizeOf35 w
  rw [s]
  simp [Addr.add_mid, Nat.mul_comm]
/-- Fields that are handed in, as a list. -/
theorem open_flds {H : Type} {enc : TypeId × Value → H} {W : World} {base : Nat} {v : Value} {d : DataW H} {p : List MemPlace} (hv : Value.okWide Tryd.prog W .any base 22 v)
    (h : DataW.Trod enc Tryd.prog W 0 (fun _ => true) true 22 v d p) (hw : ∀ n ∈ d.weights Tryd.prog 22, n ≤ reachBytes) :
    ∃ l : List Fd, FdsAt W v l ∧ l.length * 32 ≤ 140737488351232 := by
  obtain ⟨a, n, cap, f, rfl, hn, hb, hc⟩ := open_aFds hv h hw
  have hsz := sized_len Tryd.underlying22 h hw
  have hby : Tryd.prog.bytesOf 35 = 32 := by kernel_rfl
  rw [hby] at hsz
  refine ⟨(List.range n).map fun i => (toL (f i).name, toL (f i).value), ⟨a, cap, by simp, ?_⟩, by simpa using hsz⟩
  rcases hc with rfl | ⟨b, off, rfl, _, hc⟩
  · exact .inl rfl
  · refine .inr ⟨b, off, rfl, fun k hk => ?_⟩
    have hk' : k < n := by simpa using hk
    have h0 := hc k hk' 0 (by decide)
    have h1 := hc k hk' 1 (by decide)
    have e : ((List.range n).map fun i => (toL (f i).name, toL (f i).value)).getD k nF = (toL (f k).name, toL (f k).value) := by simp [List.getD, hk']
    rw [e]
    simp only [strL_toL]
    exact ⟨h0, h1⟩
theorem tgt_core {H : Type} {enc : TypeId × Value → H} {W : World} (fuel : Nat) (cs : List Value) (x : DataW H × List MemPlace) (h : DataW.trod enc Tryd.prog W 0 (fun _ => true) true fuel 25 cs = some x) :
    ∃ (ip : Bool) (a n : Int), cs = [.bool ip, .int .u32 a, .int .i64 n] ∧ (0 ≤ a ∧ a < 4294967296) ∧ (-9223372036854775808 ≤ n ∧ n ≤ 9223372036854775807) := by
  obtain ⟨xs, n, _, hx, hlen, hxl, hf⟩ := DataW.trod_struct Tryd.underlying25 h
  have cN : Tryd.prog.cellsOf 25 = 3 := by kernel_rfl
  rw [cN] at hlen
  match xs, hxl, cs, hlen with
  | [y0, y1, y2], _, [v0, v1, v2], _ =>
    have g0 := hf 0 _ rfl
    have g1 := hf 1 _ rfl
    have g2 := hf 2 _ rfl
    have c_b : Tryd.prog.cellsOf 4 = 1 := by kernel_rfl
    have c_u : Tryd.prog.cellsOf 23 = 1 := by kernel_rfl
    have c_i : Tryd.prog.cellsOf 3 = 1 := by kernel_rfl
    simp [c_b, c_u, c_i] at g0 g1 g2
    obtain ⟨b0, e0, _⟩ := DataW.trod_bool Tryd.underlying4 g0
    obtain ⟨n1, e1, _, w1⟩ := DataW.trod_int Tryd.underlying23 g1
    obtain ⟨n2, e2, _, w2⟩ := DataW.trod_int Tryd.underlying3 g2
    injection e0 with e0 _
    injection e1 with e1 _
    injection e2 with e2 _
    subst e0 e1 e2
    have b1 := bounds_u32 w1
    have b2 := bounds_i64 w2
    exact ⟨b0, n1, n2, rfl, by omega, b2⟩
theorem open_tgt {H : Type} {enc : TypeId × Value → H} {W : World} {base : Nat} {v : Value} {d : DataW H} {p : List MemPlace} (hv : Value.okWide Tryd.prog W .any base 25 v)
    (h : DataW.Trod enc Tryd.prog W 0 (fun _ => true) true 25 v d p) : ∃ (ip : Bool) (a n : Int), v = tgV ip a n ∧ (0 ≤ a ∧ a < 4294967296) ∧ (-9223372036854775808 ≤ n ∧ n ≤ 9223372036854775807) := by
  obtain ⟨cs, rfl, hsz⟩ := okWide_struct Tryd.underlying25 hv
  obtain ⟨fuel, hf⟩ := h
  obtain ⟨ip, a, n, e, h3⟩ := tgt_core _ _ _ hf
  refine ⟨ip, a, n, ?_, h3⟩
  have e' : cs = #[.bool ip, .int .u32 a, .int .i64 n] := by
    apply Array.toList_inj.1
    have : cs.toList = [.bool ip, .int .u32 a, .int .i64 n] := by rw [← e]; simp [Value.cells]
    rw [this]
  rw [e']
  rfl
end Go.Proofs.YtojfcflkanohoaaDoor
