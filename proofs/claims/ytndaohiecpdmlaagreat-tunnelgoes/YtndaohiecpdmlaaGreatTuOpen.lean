/-
  A tunnel and an emission that are handed in, as the program holds them; rows of rules. No condition but the form's own reach.
-/
import Derived.Test.YtndaohiecpdmlaaGreatMgA
import Derived.Test.YtndaohiecpdmlaaGreatMgF
import Derived.Test.YtndaohiecpdmlaaGreatTuMath
namespace Go.Proofs.YtndaohiecpdmlaaGreat
set_option maxRecDepth 100000
open Go.ChangeShapes Go.WideShapes Go.ChangeAt Go.RowKit

/-- A row of structs in a cell of one that is handed in. -/
theorem row_core {X : Type} (n : Nat) (hn : 0 < n) (cells : X → List Value) (hc : ∀ x, (cells x).length = n) (x0 : X) (B : X → Prop) {t e : TypeId} (ht : Tryz.prog.underlying t = some (.slice e)) (ce : Tryz.prog.cellsOf e = n)
    {H : Type} {enc : TypeId × Value → H} {W : World} {fuel : Nat} {cs : List Value} {y : DataW H × List MemPlace}
    (core : ∀ (fuel : Nat) (cs : List Value) (x : DataW H × List MemPlace), DataW.trod enc Tryz.prog W 0 (fun _ => true) true fuel e cs = some x → ∃ f : X, cs = cells f ∧ B f)
    (hf : DataW.trod enc Tryz.prog W 0 (fun _ => true) true fuel t cs = some y) (hw : ∀ n ∈ y.1.weights Tryz.prog t, n ≤ reachBytes) :
    ∃ (v : Value) (l : List X), cs = [v] ∧ RowAt n cells x0 W v l ∧ l.length * Tryz.prog.bytesOf e ≤ 140737488351232 ∧ ∀ x ∈ l, B x := by
  rcases Go.Deep.open_slice ht hf with ⟨hcs, _⟩ | ⟨x, l, c, m, k, D, Pl, hcs, _, hl, hm, hmm, hx0, hx⟩
  · exact ⟨_, [], hcs, .nil W none 0, by simp, fun f hf => by cases hf⟩
  · have hmc : m = c := by simpa using hmm
    have hlen : l * Tryz.prog.bytesOf e ≤ 140737488351232 := by
      rw [hx0] at hw
      have q := hw _ (by simp only [DataW.weights, ht]; exact List.mem_cons_self ..)
      simp at q
      refine Nat.le_trans (Nat.mul_le_mul_right _ (Nat.le_add_right l (m - l))) ?_
      simpa [reachBytes] using q
    have each : ∀ i, i < l → ∃ q : X, (∀ j, j < n → W.cell? (x.add (i * n + j)) = (cells q)[j]?) ∧ B q := fun i hi => by
      obtain ⟨cs', h1, h2⟩ := hx i (by omega)
      rw [ce] at h1
      obtain ⟨_, hlen7, hcell⟩ := World.cells?_some h1
      obtain ⟨f, e', k3⟩ := core _ _ _ h2
      refine ⟨f, fun j hj => ?_, k3⟩
      have := hcell j (by omega)
      rw [Go.Deep.add_add] at this
      rw [this, e']
    have : Inhabited X := ⟨x0⟩
    obtain ⟨q, hq⟩ := Go.Deep.choose_lt each
    obtain ⟨L, hL⟩ : ∃ L : List X, L = (List.range l).map fun i => q i := ⟨_, rfl⟩
    have hll : L.length = l := by rw [hL]; simp
    have hget : ∀ k, k < l → L.getD k x0 = q k := fun k hk => by
      rw [hL]
      simp [List.getD, hk]
    refine ⟨_, L, hcs, ⟨some x, c, by rw [hll], by rw [hll]; omega, fun k hk => ?_⟩, by rw [hll]; exact hlen, fun f hf => ?_⟩
    · rw [hll] at hk
      obtain ⟨g, off, spot⟩ := x
      have hc0 := (hq 0 (by omega)).1 0 hn
      have h0 : 0 < (cells (q 0)).length := by rw [hc]; exact hn
      rw [List.getElem?_eq_getElem h0] at hc0
      have hspot : spot = none := by simpa [Addr.add] using World.cell?_spot hc0
      subst hspot
      refine ⟨g, off, rfl, cell_block (o := off) (v := (cells (q 0))[0]) (by simpa [Addr.add] using hc0), fun j hj => ?_⟩
      rw [hget k hk]
      have := (hq k hk).1 j hj
      rw [Addr.add_mid, ← Nat.add_assoc, Nat.mul_comm] at this
      exact this
    · rw [hL] at hf
      obtain ⟨i, hi, rfl⟩ := List.mem_map.1 hf
      exact (hq i (List.mem_range.1 hi)).2
theorem ru_core {H : Type} {enc : TypeId × Value → H} {W : World} (fuel : Nat) (cs : List Value) (x : DataW H × List MemPlace) (h : DataW.trod enc Tryz.prog W 0 (fun _ => true) true fuel 57 cs = some x) : ∃ f : Ru, cs = ruC f ∧ RuB f := by
  obtain ⟨xs, n, _, _, hlen, hxl, hf⟩ := DataW.trod_struct Tryz.underlying57 h
  have cN : Tryz.prog.cellsOf 57 = 6 := by kernel_rfl
  rw [cN] at hlen
  match xs, hxl, cs, hlen with
  | [y0, y1, y2, y3, y4], _, [v0, v1, v2, v3, v4, v5], _ =>
    have g0 := hf 0 _ rfl
    have g1 := hf 1 _ rfl
    have g2 := hf 2 _ rfl
    have g3 := hf 3 _ rfl
    have g4 := hf 4 _ rfl
    have c_i : Tryz.prog.cellsOf 3 = 1 := by kernel_rfl
    have c_b : Tryz.prog.cellsOf 4 = 1 := by kernel_rfl
    have c_p : Tryz.prog.cellsOf 55 = 2 := by kernel_rfl
    simp [c_i, c_b, c_p] at g0 g1 g2 g3 g4
    obtain ⟨n0, e0, _⟩ := DataW.trod_bool Tryz.underlying4 g0
    obtain ⟨n1, e1, _, w1⟩ := DataW.trod_int Tryz.underlying3 g1
    obtain ⟨n4, e4, _, w4⟩ := DataW.trod_int Tryz.underlying3 g3
    obtain ⟨n5, e5, _, w5⟩ := DataW.trod_int Tryz.underlying3 g4
    obtain ⟨zs, m, _, hz, hzl, hzx, hg⟩ := DataW.trod_struct Tryz.underlying55 g2
    match zs, hzx with
    | [z0, z1], _ =>
      have k0 := hg 0 _ rfl
      have k1 := hg 1 _ rfl
      have c_u : Tryz.prog.cellsOf 22 = 1 := by kernel_rfl
      have c_n : Tryz.prog.cellsOf 3 = 1 := by kernel_rfl
      simp [c_u, c_n] at k0 k1
      obtain ⟨n2, e2, _, w2⟩ := DataW.trod_int Tryz.underlying22 k0
      obtain ⟨n3, e3, _, w3⟩ := DataW.trod_int Tryz.underlying3 k1
      injection e0 with e0 _
      injection e1 with e1 _
      injection e2 with e2 _
      injection e3 with e3 _
      injection e4 with e4 _
      injection e5 with e5 _
      subst e0 e1 e2 e3 e4 e5
      have b1 := bounds_i64 w1
      have b2 := bounds_u32 w2
      have b3 := bounds_i64 w3
      have b4 := bounds_i64 w4
      have b5 := bounds_i64 w5
      exact ⟨⟨n0, n1, n2, n3, n4, n5⟩, rfl, b1.1, b1.2, b2.1, by show n2 < _; omega, b3.1, b3.2, b4.1, b4.2, b5.1, b5.2⟩
/-- Rows of rules. -/
def KR : RowK Ru := ⟨25, 57, 6, 48, ruC, ru0⟩
theorem kr_ok : KR.Ok := ⟨Tryz.underlying25, info_of (z := .agg #[.bool false, .int .i64 0, .int .u32 0, .int .i64 0, .int .i64 0, .int .i64 0]) (by kernel_rfl) rfl, by decide, fun _ => rfl, fun x u hu => by
  simp [KR, ruC] at hu
  rcases hu with rfl | rfl | rfl | rfl | rfl | rfl <;> rfl⟩
theorem OwnK.rus {w : World} {base : Nat} {v : Value} {d : List Ru} (h : OwnK KR w base v d) : RusAt w v d := h.row kr_ok
theorem emi_core {H : Type} {enc : TypeId × Value → H} {W : World} (fuel : Nat) (cs : List Value) (x : DataW H × List MemPlace) (h : DataW.trod enc Tryz.prog W 0 (fun _ => true) true fuel 31 cs = some x) (hw : ∀ n ∈ x.1.weights Tryz.prog 31, n ≤ reachBytes) : ∃ m : Em, cs = [.bool m.ip, .int .i64 m.port, .int .u32 m.addr, .int .i64 m.to, .string m.data] ∧ EmB m := by
  obtain ⟨xs, n, _, hx, hlen, hxl, hf⟩ := DataW.trod_struct Tryz.underlying31 h
  have cN : Tryz.prog.cellsOf 31 = 5 := by kernel_rfl
  rw [cN] at hlen
  match xs, hxl, cs, hlen with
  | [y0, y1, y2, y3, y4], _, [v0, v1, v2, v3, v4], _ =>
    have g0 := hf 0 _ rfl
    have g1 := hf 1 _ rfl
    have g2 := hf 2 _ rfl
    have g3 := hf 3 _ rfl
    have g4 := hf 4 _ rfl
    have c_i : Tryz.prog.cellsOf 3 = 1 := by kernel_rfl
    have c_b : Tryz.prog.cellsOf 4 = 1 := by kernel_rfl
    have c_u : Tryz.prog.cellsOf 22 = 1 := by kernel_rfl
    have c_s : Tryz.prog.cellsOf 9 = 1 := by kernel_rfl
    simp [c_i, c_b, c_u, c_s] at g0 g1 g2 g3 g4
    obtain ⟨n0, e0, _⟩ := DataW.trod_bool Tryz.underlying4 g0
    obtain ⟨n1, e1, _, w1⟩ := DataW.trod_int Tryz.underlying3 g1
    obtain ⟨n2, e2, _, w2⟩ := DataW.trod_int Tryz.underlying22 g2
    obtain ⟨n3, e3, _, w3⟩ := DataW.trod_int Tryz.underlying3 g3
    obtain ⟨n4, e4, x4, _⟩ := DataW.trod_string Tryz.underlying9 g4
    have z4 : n4.data.toList.length ≤ reachBytes := by
      refine hw _ ?_
      rw [hx]
      simp only [DataW.weights, Tryz.underlying31]
      exact DataW.weights_mem_each (j := 4) (t := 9) (d := y4.1) rfl rfl _ (by rw [x4]; simp [DataW.weights])
    injection e0 with e0 _
    injection e1 with e1 _
    injection e2 with e2 _
    injection e3 with e3 _
    injection e4 with e4 _
    subst e0 e1 e2 e3 e4
    have b2 := bounds_u32 w2
    exact ⟨⟨n0, n1, n2, n3, n4⟩, rfl, bounds_i64 w1, b2.1, by show n2 < _; omega, bounds_i64 w3, by
      have z5 : n4.size ≤ reachBytes := by rw [← ByteArray.size_data, ← Array.length_toList]; exact z4
      unfold reachBytes at z5
      omega⟩
theorem open_em {H : Type} {enc : TypeId × Value → H} {W : World} {base : Nat} {v : Value} {d : DataW H} {p : List MemPlace} (hv : Value.okWide Tryz.prog W .any base 31 v)
    (h : DataW.Trod enc Tryz.prog W 0 (fun _ => true) true 31 v d p) (hw : ∀ n ∈ d.weights Tryz.prog 31, n ≤ reachBytes) : ∃ m : Em, v = emV m ∧ EmB m := by
  obtain ⟨cs, rfl, hsz⟩ := okWide_struct Tryz.underlying31 hv
  obtain ⟨fuel, hf⟩ := h
  obtain ⟨m, e, h3⟩ := emi_core _ _ _ hf hw
  refine ⟨m, ?_, h3⟩
  have e' : cs = #[.bool m.ip, .int .i64 m.port, .int .u32 m.addr, .int .i64 m.to, .string m.data] := by
    apply Array.toList_inj.1
    rw [← e]
    simp [Value.cells]
  rw [e']
  rfl
theorem tun_core {H : Type} {enc : TypeId × Value → H} {W : World} (rt : List Ru → Bool) (fuel : Nat) (cs : List Value) (x : DataW H × List MemPlace) (h : DataW.trod enc Tryz.prog W 0 (fun _ => true) true fuel 27 cs = some x) (hw : ∀ n ∈ x.1.weights Tryz.prog 27, n ≤ reachBytes) :
    ∃ (T : Tu) (v : Value), cs = [.bool T.ip, .int .u32 T.addr, .int .i64 T.tp, .int .u32 T.own, .int .i64 T.port, v] ∧ RusAt W v T.rules ∧ TuB T ∧ T.rt = rt T.rules := by
  obtain ⟨xs, n, _, hx, hlen, hxl, hf⟩ := DataW.trod_struct Tryz.underlying27 h
  have cN : Tryz.prog.cellsOf 27 = 6 := by kernel_rfl
  rw [cN] at hlen
  match xs, hxl, cs, hlen with
  | [y0, y1, y2, y3], _, [v0, v1, v2, v3, v4, v5], _ =>
    have g0 := hf 0 _ rfl
    have g1 := hf 1 _ rfl
    have g2 := hf 2 _ rfl
    have g3 := hf 3 _ rfl
    have c_i : Tryz.prog.cellsOf 3 = 1 := by kernel_rfl
    have c_u : Tryz.prog.cellsOf 22 = 1 := by kernel_rfl
    have c_t : Tryz.prog.cellsOf 24 = 3 := by kernel_rfl
    have c_r : Tryz.prog.cellsOf 25 = 1 := by kernel_rfl
    simp [c_i, c_u, c_t, c_r] at g0 g1 g2 g3
    obtain ⟨n3, e3, _, w3⟩ := DataW.trod_int Tryz.underlying22 g1
    obtain ⟨n4, e4, _, w4⟩ := DataW.trod_int Tryz.underlying3 g2
    have hr : ∀ n ∈ y3.1.weights Tryz.prog 25, n ≤ reachBytes := fun n hn => by
      refine hw n ?_
      rw [hx]
      simp only [DataW.weights, Tryz.underlying27]
      exact DataW.weights_mem_each (j := 3) (t := 25) (d := y3.1) rfl rfl n hn
    obtain ⟨v, l, e5, r5, z5, b5⟩ := row_core 6 (by decide) ruC (fun _ => rfl) ru0 RuB Tryz.underlying25 (by kernel_rfl) ru_core g3 hr
    have hb : Tryz.prog.bytesOf 57 = 48 := by kernel_rfl
    rw [hb] at z5
    obtain ⟨zs, m, _, hz, hzl, hzx, hg⟩ := DataW.trod_struct Tryz.underlying24 g0
    match zs, hzx with
    | [z0, z1, z2], _ =>
      have k0 := hg 0 _ rfl
      have k1 := hg 1 _ rfl
      have k2 := hg 2 _ rfl
      have c_b : Tryz.prog.cellsOf 4 = 1 := by kernel_rfl
      have c_u : Tryz.prog.cellsOf 22 = 1 := by kernel_rfl
      have c_n : Tryz.prog.cellsOf 3 = 1 := by kernel_rfl
      simp [c_b, c_u, c_n] at k0 k1 k2
      obtain ⟨n0, e0, _⟩ := DataW.trod_bool Tryz.underlying4 k0
      obtain ⟨n1, e1, _, w1⟩ := DataW.trod_int Tryz.underlying22 k1
      obtain ⟨n2, e2, _, w2⟩ := DataW.trod_int Tryz.underlying3 k2
      injection e0 with e0 _
      injection e1 with e1 _
      injection e2 with e2 _
      injection e3 with e3 _
      injection e4 with e4 _
      injection e5 with e5 _
      subst e0 e1 e2 e3 e4 e5
      have b1 := bounds_u32 w1
      have b3 := bounds_u32 w3
      exact ⟨⟨n0, n1, n2, n3, n4, l, rt l⟩, v5, rfl, r5, ⟨b1.1, by show n1 < _; omega, bounds_i64 w2, b3.1, by show n3 < _; omega, bounds_i64 w4, b5, z5⟩, rfl⟩
theorem open_tun {H : Type} {enc : TypeId × Value → H} {W : World} {base : Nat} {v : Value} {d : DataW H} {p : List MemPlace} (rt : List Ru → Bool) (hv : Value.okWide Tryz.prog W .any base 27 v)
    (h : DataW.Trod enc Tryz.prog W 0 (fun _ => true) true 27 v d p) (hw : ∀ n ∈ d.weights Tryz.prog 27, n ≤ reachBytes) : ∃ (T : Tu) (r : Value), v = tuV T r ∧ RusAt W r T.rules ∧ TuB T ∧ T.rt = rt T.rules := by
  obtain ⟨cs, rfl, hsz⟩ := okWide_struct Tryz.underlying27 hv
  obtain ⟨fuel, hf⟩ := h
  obtain ⟨T, r, e, h3⟩ := tun_core rt _ _ _ hf hw
  refine ⟨T, r, ?_, h3⟩
  have e' : cs = #[.bool T.ip, .int .u32 T.addr, .int .i64 T.tp, .int .u32 T.own, .int .i64 T.port, r] := by
    apply Array.toList_inj.1
    rw [← e]
    simp [Value.cells]
  rw [e']
  rfl
end Go.Proofs.YtndaohiecpdmlaaGreat
