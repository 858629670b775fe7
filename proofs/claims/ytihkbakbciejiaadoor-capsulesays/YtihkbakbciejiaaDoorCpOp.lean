/-
  Capsules, addresses and routes that are handed in, as the program holds them. No condition but the form's own reach.
-/
import Derived.Test.YtihkbakbciejiaaDoorCpRight
import Derived.Test.YtihkbakbciejiaaDoorRpOpen
import Derived.Test.YtihkbakbciejiaaDoorObSize
namespace Go.Proofs.YtihkbakbciejiaaDoor
set_option maxRecDepth 100000
open Go.ChangeShapes Go.WideShapes Go.ChangeAt Go.RowKit

/-- A row of structs of n cells each, where they stand. -/
def RowAt {X : Type} (n : Nat) (cells : X → List Value) (x0 : X) (w : World) (v : Value) (l : List X) : Prop :=
  ∃ a cap, v = .slice a l.length cap ∧ l.length ≤ cap ∧ ∀ k, k < l.length → ∃ g o, a = some ⟨g, o, none⟩ ∧ g < w.heap.size ∧ ∀ j, j < n → w.cell? ⟨g, o + n * k + j, none⟩ = (cells (l.getD k x0))[j]?
theorem weights_in {H : Type} {P : Program} {e : TypeId} : ∀ {l : List (DataW H)} {d : DataW H}, d ∈ l → ∀ n ∈ d.weights P e, n ∈ DataW.weightsAll P e l
  | [], _, h => by cases h
  | x :: l, d, h => fun n hn => by
    show n ∈ x.weights P e ++ DataW.weightsAll P e l
    rcases List.mem_cons.1 h with rfl | h
    · exact List.mem_append_left _ hn
    · exact List.mem_append_right _ (weights_in h n hn)
theorem open_row {X : Type} (n : Nat) (hn : 0 < n) (cells : X → List Value) (hc : ∀ x, (cells x).length = n) (x0 : X) (B : X → Prop) {t e : TypeId} (ht : Tryd.prog.underlying t = some (.slice e)) (ce : Tryd.prog.cellsOf e = n)
    {H : Type} {enc : TypeId × Value → H} {W : World} {base : Nat} {v : Value} {d : DataW H} {p : List MemPlace}
    (core : ∀ (fuel : Nat) (cs : List Value) (x : DataW H × List MemPlace), DataW.trod enc Tryd.prog W 0 (fun _ => true) true fuel e cs = some x → (∀ n ∈ x.1.weights Tryd.prog e, n ≤ reachBytes) → ∃ f : X, cs = cells f ∧ B f)
    (hv : Value.okWide Tryd.prog W .any base t v) (h : DataW.Trod enc Tryd.prog W 0 (fun _ => true) true t v d p) (hw : ∀ n ∈ d.weights Tryd.prog t, n ≤ reachBytes) :
    ∃ l : List X, RowAt n cells x0 W v l ∧ l.length * Tryd.prog.bytesOf e ≤ 140737488351232 ∧ ∀ x ∈ l, B x := by
  obtain ⟨a, len, cap, rfl⟩ := okWide_slice ht hv
  have hlen := sized_len ht h hw
  obtain ⟨fuel, hf⟩ := h
  rcases Go.Deep.open_slice ht hf with ⟨hcs, _⟩ | ⟨x, l, c, m, k, D, Pl, hcs, _, hl, hm, hmm, hx0, hx⟩
  · simp [Value.cells] at hcs
    obtain ⟨rfl, rfl, rfl⟩ := hcs
    exact ⟨[], ⟨none, 0, rfl, Nat.le_refl _, fun k hk => absurd hk (Nat.not_lt_zero _)⟩, by simp, fun f hf => by cases hf⟩
  · simp [Value.cells] at hcs
    obtain ⟨rfl, rfl, rfl⟩ := hcs
    have hmc : m = cap := by simpa using hmm
    have hd : d = .slice ((List.range len).map D) ((List.range (m - len)).map fun j => D (len + j)) := congrArg Prod.fst hx0
    have each : ∀ i, i < len → ∃ q : X, (∀ j, j < n → W.cell? (x.add (i * n + j)) = (cells q)[j]?) ∧ B q := fun i hi => by
      obtain ⟨cs', h1, h2⟩ := hx i (by omega)
      rw [ce] at h1
      obtain ⟨_, hlen7, hcell⟩ := World.cells?_some h1
      obtain ⟨f, e', k3⟩ := core _ _ _ h2 (fun k hk => hw k (by
        rw [hd]
        simp only [DataW.weights, ht]
        exact List.mem_cons_of_mem _ (List.mem_append_left _ (weights_in (List.mem_map.2 ⟨i, List.mem_range.2 hi, rfl⟩) k hk))))
      refine ⟨f, fun j hj => ?_, k3⟩
      have := hcell j (by omega)
      rw [Go.Deep.add_add] at this
      rw [this, e']
    have : Inhabited X := ⟨x0⟩
    obtain ⟨q, hq⟩ := Go.Deep.choose_lt each
    obtain ⟨L, hL⟩ : ∃ L : List X, L = (List.range len).map fun i => q i := ⟨_, rfl⟩
    have hll : L.length = len := by rw [hL]; simp
    have hget : ∀ k, k < len → L.getD k x0 = q k := fun k hk => by
      rw [hL]
      simp [List.getD, hk]
    refine ⟨L, ⟨some x, cap, by rw [hll], by rw [hll]; omega, fun k hk => ?_⟩, by rw [hll]; exact hlen, fun f hf => ?_⟩
    · rw [hll] at hk
      obtain ⟨g, off, spot⟩ := x
      have hc0 := (hq 0 (by omega)).1 0 hn
      have h0 : 0 < (cells (q 0)).length := by rw [hc]; exact hn
      rw [List.getElem?_eq_getElem h0] at hc0
      have hspot : spot = none := by simpa [Addr.add] using World.cell?_spot hc0
      subst hspot
      refine ⟨g, off, rfl, cell_block (o := off) (v := (cells (q 0))[0]) (by simpa [Addr.add] using hc0), fun j hj => ?_⟩
      rw [hget k hk]
      have := (hq k hk).1 j hj
      rw [Addr.add_mid, ← Nat.add_assoc, Nat.mul_comm] at this
      exact this
    · rw [hL] at hf
      obtain ⟨i, hi, rfl⟩ := List.mem_map.1 hf
      exact (hq i (List.mem_range.1 hi)).2
/-! ### capsules -/
abbrev Cq : Type := Int × ByteArray
def cqC (q : Cq) : List Value := [.int .i64 q.1, .string q.2]
def cq0 : Cq := (0, ⟨#[]⟩)
structure CqB (q : Cq) : Prop where
  k0 : -9223372036854775808 ≤ q.1
  k1 : q.1 ≤ 9223372036854775807
  d : q.2.size ≤ 140737488351232
theorem cq_core {H : Type} {enc : TypeId × Value → H} {W : World} (fuel : Nat) (cs : List Value) (x : DataW H × List MemPlace) (h : DataW.trod enc Tryd.prog W 0 (fun _ => true) true fuel 24 cs = some x) (hw : ∀ n ∈ x.1.weights Tryd.prog 24, n ≤ reachBytes) :
    ∃ f : Cq, cs = cqC f ∧ CqB f := by
  obtain ⟨xs, n, _, hx, hlen, hxl, hf⟩ := DataW.trod_struct Tryd.underlying24 h
  have cN : Tryd.prog.cellsOf 24 = 2 := by kernel_rfl
  rw [cN] at hlen
  match xs, hxl, cs, hlen with
  | [y0, y1], _, [v0, v1], _ =>
    have g0 := hf 0 _ rfl
    have g1 := hf 1 _ rfl
    have c_i : Tryd.prog.cellsOf 2 = 1 := by kernel_rfl
    have c_s : Tryd.prog.cellsOf 9 = 1 := by kernel_rfl
    simp [c_i, c_s] at g0 g1
    obtain ⟨n0, e0, _, w0⟩ := DataW.trod_int Tryd.underlying2 g0
    obtain ⟨n1, e1, x1, _⟩ := DataW.trod_string Tryd.underlying9 g1
    have hmem : ∀ (j : Nat) (t : TypeId) (y : DataW H), ([2, 9] : List TypeId)[j]? = some t → [y0.1, y1.1][j]? = some y → ∀ n ∈ y.weights Tryd.prog t, n ≤ reachBytes := fun j t y ht hy n hn => by
      refine hw n ?_
      rw [hx]
      simp only [DataW.weights, Tryd.underlying24]
      exact DataW.weights_mem_each (j := j) (t := t) (d := y) ht hy n hn
    have hd1 : n1.size ≤ 140737488351232 := by
      have q := hmem 1 _ _ rfl rfl n1.size (by rw [x1]; simp [DataW.weights])
      simpa [reachBytes] using q
    injection e0 with e0 _
    injection e1 with e1 _
    subst e0 e1
    have b0 := bounds_i64 w0
    exact ⟨(n0, n1), rfl, b0.1, b0.2, hd1⟩
theorem open_caps {H : Type} {enc : TypeId × Value → H} {W : World} {base : Nat} {v : Value} {d : DataW H} {p : List MemPlace} (hv : Value.okWide Tryd.prog W .any base 37 v)
    (h : DataW.Trod enc Tryd.prog W 0 (fun _ => true) true 37 v d p) (hw : ∀ n ∈ d.weights Tryd.prog 37, n ≤ reachBytes) :
    ∃ l : List Cq, RowAt 2 cqC cq0 W v l ∧ l.length * 24 ≤ 140737488351232 ∧ ∀ x ∈ l, CqB x := by
  have hb : Tryd.prog.bytesOf 24 = 24 := by kernel_rfl
  have := open_row 2 (by decide) cqC (fun _ => rfl) cq0 CqB Tryd.underlying37 (by kernel_rfl) cq_core hv h hw
  rw [hb] at this
  exact this
theorem open_cap {H : Type} {enc : TypeId × Value → H} {W : World} {base : Nat} {v : Value} {d : DataW H} {p : List MemPlace} (hv : Value.okWide Tryd.prog W .any base 24 v)
    (h : DataW.Trod enc Tryd.prog W 0 (fun _ => true) true 24 v d p) (hw : ∀ n ∈ d.weights Tryd.prog 24, n ≤ reachBytes) : ∃ f : Cq, v = .agg #[.int .i64 f.1, .string f.2] ∧ CqB f := by
  obtain ⟨cs, rfl, hsz⟩ := okWide_struct Tryd.underlying24 hv
  obtain ⟨fuel, hf⟩ := h
  obtain ⟨f, e, h3⟩ := cq_core _ _ _ hf hw
  refine ⟨f, ?_, h3⟩
  have e' : cs = #[.int .i64 f.1, .string f.2] := by
    apply Array.toList_inj.1
    have : cs.toList = cqC f := by rw [← e]; simp [Value.cells]
    rw [this]
    rfl
  rw [e']
/-! ### routes -/
def roC (x : Ro) : List Value := [.int .u32 (x.low : Int), .int .u32 (x.high : Int), .int .i64 x.pro]
structure RoB (x : Ro) : Prop where
  low : x.low < 4294967296
  high : x.high < 4294967296
  p0 : -9223372036854775808 ≤ x.pro
  p1 : x.pro ≤ 9223372036854775807
theorem ro_core {H : Type} {enc : TypeId × Value → H} {W : World} (fuel : Nat) (cs : List Value) (x : DataW H × List MemPlace) (h : DataW.trod enc Tryd.prog W 0 (fun _ => true) true fuel 54 cs = some x) (_ : ∀ n ∈ x.1.weights Tryd.prog 54, n ≤ reachBytes) :
    ∃ f : Ro, cs = roC f ∧ RoB f := by
  obtain ⟨xs, n, _, hx, hlen, hxl, hf⟩ := DataW.trod_struct Tryd.underlying54 h
  have cN : Tryd.prog.cellsOf 54 = 3 := by kernel_rfl
  rw [cN] at hlen
  match xs, hxl, cs, hlen with
  | [y0, y1, y2], _, [v0, v1, v2], _ =>
    have g0 := hf 0 _ rfl
    have g1 := hf 1 _ rfl
    have g2 := hf 2 _ rfl
    have c_u : Tryd.prog.cellsOf 46 = 1 := by kernel_rfl
    have c_i : Tryd.prog.cellsOf 3 = 1 := by kernel_rfl
    simp [c_u, c_i] at g0 g1 g2
    obtain ⟨n0, e0, _, w0⟩ := DataW.trod_int Tryd.underlying46 g0
    obtain ⟨n1, e1, _, w1⟩ := DataW.trod_int Tryd.underlying46 g1
    obtain ⟨n2, e2, _, w2⟩ := DataW.trod_int Tryd.underlying3 g2
    injection e0 with e0 _
    injection e1 with e1 _
    injection e2 with e2 _
    subst e0 e1 e2
    have b0 := bounds_u32 w0
    have b1 := bounds_u32 w1
    have b2 := bounds_i64 w2
    have f0 : ((n0.toNat : Nat) : Int) = n0 := by omega
    have f1 : ((n1.toNat : Nat) : Int) = n1 := by omega
    refine ⟨⟨n0.toNat, n1.toNat, n2⟩, ?_, by show n0.toNat < _; omega, by show n1.toNat < _; omega, b2.1, b2.2⟩
    unfold roC
    simp only [f0, f1]
theorem open_ros {H : Type} {enc : TypeId × Value → H} {W : World} {base : Nat} {v : Value} {d : DataW H} {p : List MemPlace} (hv : Value.okWide Tryd.prog W .any base 44 v)
    (h : DataW.Trod enc Tryd.prog W 0 (fun _ => true) true 44 v d p) (hw : ∀ n ∈ d.weights Tryd.prog 44, n ≤ reachBytes) :
    ∃ l : List Ro, RowAt 3 roC nR W v l ∧ l.length * 16 ≤ 140737488351232 ∧ ∀ x ∈ l, RoB x := by
  have hb : Tryd.prog.bytesOf 54 = 16 := by kernel_rfl
  have := open_row 3 (by decide) roC (fun _ => rfl) nR RoB Tryd.underlying44 (by kernel_rfl) ro_core hv h hw
  rw [hb] at this
  exact this
theorem RowAt.ro {w : World} {v : Value} {l : List Ro} (h : RowAt 3 roC nR w v l) : RoAt w v l := by
  obtain ⟨a, cap, rfl, -, h⟩ := h
  refine ⟨a, cap, rfl, fun k hk => ?_⟩
  obtain ⟨g, o, e, hg, c⟩ := h k hk
  exact ⟨g, o, e, hg, c 0 (by decide), c 1 (by decide), c 2 (by decide)⟩
/-! ### addresses -/
def nA : Ad := ⟨0, 0, 0⟩
structure AdB (x : Ad) : Prop where
  i0 : -9223372036854775808 ≤ x.id
  i1 : x.id ≤ 9223372036854775807
  addr : x.addr < 4294967296
  b0 : -9223372036854775808 ≤ x.bits
  b1 : x.bits ≤ 9223372036854775807
theorem ad_core {H : Type} {enc : TypeId × Value → H} {W : World} (fuel : Nat) (cs : List Value) (x : DataW H × List MemPlace) (h : DataW.trod enc Tryd.prog W 0 (fun _ => true) true fuel 50 cs = some x) (_ : ∀ n ∈ x.1.weights Tryd.prog 50, n ≤ reachBytes) :
    ∃ f : Ad, cs = adc f ∧ AdB f := by
  obtain ⟨xs, n, _, hx, hlen, hxl, hf⟩ := DataW.trod_struct Tryd.underlying50 h
  have cN : Tryd.prog.cellsOf 50 = 3 := by kernel_rfl
  rw [cN] at hlen
  match xs, hxl, cs, hlen with
  | [y0, y1], _, [v0, v1, v2], _ =>
    have g0 := hf 0 _ rfl
    have g1 := hf 1 _ rfl
    have c_i : Tryd.prog.cellsOf 2 = 1 := by kernel_rfl
    have c_p : Tryd.prog.cellsOf 48 = 2 := by kernel_rfl
    simp [c_i, c_p] at g0 g1
    obtain ⟨n0, e0, _, w0⟩ := DataW.trod_int Tryd.underlying2 g0
    obtain ⟨zs, m, _, hz, hzl, hzx, hg⟩ := DataW.trod_struct Tryd.underlying48 g1
    match zs, hzx with
    | [z0, z1], _ =>
      have k0 := hg 0 _ rfl
      have k1 := hg 1 _ rfl
      have c_u : Tryd.prog.cellsOf 46 = 1 := by kernel_rfl
      have c_n : Tryd.prog.cellsOf 3 = 1 := by kernel_rfl
      simp [c_u, c_n] at k0 k1
      obtain ⟨n1, e1, _, w1⟩ := DataW.trod_int Tryd.underlying46 k0
      obtain ⟨n2, e2, _, w2⟩ := DataW.trod_int Tryd.underlying3 k1
      injection e0 with e0 _
      injection e1 with e1 _
      injection e2 with e2 _
      subst e0 e1 e2
      have b0 := bounds_i64 w0
      have b1 := bounds_u32 w1
      have b2 := bounds_i64 w2
      have f1 : ((n1.toNat : Nat) : Int) = n1 := by omega
      refine ⟨⟨n0, n1.toNat, n2⟩, ?_, b0.1, b0.2, by show n1.toNat < _; omega, b2.1, b2.2⟩
      unfold adc
      simp only [f1]
theorem open_ads {H : Type} {enc : TypeId × Value → H} {W : World} {base : Nat} {v : Value} {d : DataW H} {p : List MemPlace} (hv : Value.okWide Tryd.prog W .any base 43 v)
    (h : DataW.Trod enc Tryd.prog W 0 (fun _ => true) true 43 v d p) (hw : ∀ n ∈ d.weights Tryd.prog 43, n ≤ reachBytes) :
    ∃ l : List Ad, RowAt 3 adc nA W v l ∧ l.length * 24 ≤ 140737488351232 ∧ ∀ x ∈ l, AdB x := by
  have hb : Tryd.prog.bytesOf 50 = 24 := by kernel_rfl
  have := open_row 3 (by decide) adc (fun _ => rfl) nA AdB Tryd.underlying43 (by kernel_rfl) ad_core hv h hw
  rw [hb] at this
  exact this
end Go.Proofs.YtihkbakbciejiaaDoor
