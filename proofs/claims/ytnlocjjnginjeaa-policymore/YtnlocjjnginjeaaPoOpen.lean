/-
  Rules that are handed in, as the program holds them; a copy of them. No condition but the form's own reach.
-/
import Derived.Test.YtnlocjjnginjeaaPoRow
import Derived.Test.YtnlocjjnginjeaaPfOpen
import Derived.Test.YtnlocjjnginjeaaObRow
import Derived.ChangeSlices
import Derived.SizedLaws
import Derived.Deep.Slices
namespace Go.Proofs.Ytnlocjjnginjeaa
set_option maxRecDepth 100000
open Go.ChangeShapes Go.WideShapes Go.ChangeAt Go.RowKit

theorem cell_block {W : World} {b o : Nat} {v : Value} (h : W.cell? ⟨b, o, none⟩ = some v) : b < W.heap.size := by
  rcases Nat.lt_or_ge b W.heap.size with hp | hp
  · exact hp
  · have e : W.heap[b]? = none := Array.getElem?_eq_none hp
    simp [World.cell?, e] at h
theorem sized_len {t e : TypeId} (ht : Try.prog.underlying t = some (.slice e)) {H : Type} {enc : TypeId × Value → H} {W : World} {a : Option Addr} {n cap : Nat} {d : DataW H} {p : List MemPlace}
    (h : DataW.Trod enc Try.prog W 0 (fun _ => true) true t (.slice a n cap) d p) (hw : ∀ k ∈ d.weights Try.prog t, k ≤ reachBytes) : n * Try.prog.bytesOf e ≤ 140737488351232 := by
  obtain ⟨fuel, hf⟩ := h
  rcases Go.Deep.open_slice ht hf with ⟨hcs, _⟩ | ⟨x, l, c, m, k, D, Pl, hcs, _, hl, hm, hmm, hx, _⟩
  · simp [Value.cells] at hcs
    obtain ⟨rfl, rfl, rfl⟩ := hcs
    simp
  · simp [Value.cells] at hcs
    obtain ⟨rfl, rfl, rfl⟩ := hcs
    injection hx with hx _
    subst hx
    have q := hw _ (by simp only [DataW.weights, ht]; exact List.mem_cons_self ..)
    simp at q
    refine Nat.le_trans (Nat.mul_le_mul_right _ (Nat.le_add_right n (m - n))) ?_
    simpa [reachBytes] using q
/-- A row of structs that is handed in (the cells of an entry and one lemma a struct). -/
theorem open_row {X : Type} (n : Nat) (hn : 0 < n) (cells : X → List Value) (hc : ∀ x, (cells x).length = n) (x0 : X) (B : X → Prop) {t e : TypeId} (ht : Try.prog.underlying t = some (.slice e)) (ce : Try.prog.cellsOf e = n)
    {H : Type} {enc : TypeId × Value → H} {W : World} {base : Nat} {v : Value} {d : DataW H} {p : List MemPlace}
    (core : ∀ (fuel : Nat) (cs : List Value) (x : DataW H × List MemPlace), DataW.trod enc Try.prog W 0 (fun _ => true) true fuel e cs = some x → ∃ f : X, cs = cells f ∧ B f)
    (hv : Value.okWide Try.prog W .any base t v) (h : DataW.Trod enc Try.prog W 0 (fun _ => true) true t v d p) (hw : ∀ n ∈ d.weights Try.prog t, n ≤ reachBytes) :
    ∃ l : List X, RowAt n cells x0 W v l ∧ l.length * Try.prog.bytesOf e ≤ 140737488351232 ∧ ∀ x ∈ l, B x := by
  obtain ⟨a, len, cap, rfl⟩ := okWide_slice ht hv
  have hlen := sized_len ht h hw
  obtain ⟨fuel, hf⟩ := h
  rcases Go.Deep.open_slice ht hf with ⟨hcs, _⟩ | ⟨x, l, c, m, k, D, Pl, hcs, _, hl, hm, hmm, hx0, hx⟩
  · simp [Value.cells] at hcs
    obtain ⟨rfl, rfl, rfl⟩ := hcs
    exact ⟨[], .nil W none 0, by simp, fun f hf => by cases hf⟩
  · simp [Value.cells] at hcs
    obtain ⟨rfl, rfl, rfl⟩ := hcs
    have hmc : m = cap := by simpa using hmm
    have each : ∀ i, i < len → ∃ q : X, (∀ j, j < n → W.cell? (x.add (i * n + j)) = (cells q)[j]?) ∧ B q := fun i hi => by
      obtain ⟨cs', h1, h2⟩ := hx i (by omega)
      rw [ce] at h1
      obtain ⟨_, hlen7, hcell⟩ := World.cells?_some h1
      obtain ⟨f, e', k3⟩ := core _ _ _ h2
      refine ⟨f, fun j hj => ?_, k3⟩
      have := hcell j (by omega)
      rw [Go.Deep.add_add] at this
      rw [this, e']
    have : Inhabited X := ⟨x0⟩
    obtain ⟨q, hq⟩ := Go.Deep.choose_lt each
    obtain ⟨L, hL⟩ : ∃ L : List X, L = (List.range len).map fun i => q i := ⟨_, rfl⟩
    have hll : L.length = len := by rw [hL]; simp
    have hget : ∀ k, k < len → L.getD k x0 = q k := fun k hk => by
      rw [hL]
      simp [List.getD, hk]
    refine ⟨L, ⟨some x, cap, by rw [hll], by rw [hll]; omega, fun k hk => ?_⟩, by rw [hll]; exact hlen, fun f hf => ?_⟩
    · rw [hll] at hk
      obtain ⟨g, off, spot⟩ := x
      have hc0 := (hq 0 (by omega)).1 0 hn
      have h0 : 0 < (cells (q 0)).length := by rw [hc]; exact hn
      rw [List.getElem?_eq_getElem h0] at hc0
      have hspot : spot = none := by simpa [Addr.add] using World.cell?_spot hc0
      subst hspot
      refine ⟨g, off, rfl, cell_block (o := off) (v := (cells (q 0))[0]) (by simpa [Addr.add] using hc0), fun j hj => ?_⟩
      rw [hget k hk]
      have := (hq k hk).1 j hj
      rw [Addr.add_mid, ← Nat.add_assoc, Nat.mul_comm] at this
      exact this
    · rw [hL] at hf
      obtain ⟨i, hi, rfl⟩ := List.mem_map.1 hf
      exact (hq i (List.mem_range.1 hi)).2
theorem ru_core {H : Type} {enc : TypeId × Value → H} {W : World} (fuel : Nat) (cs : List Value) (x : DataW H × List MemPlace) (h : DataW.trod enc Try.prog W 0 (fun _ => true) true fuel 40 cs = some x) : ∃ f : Ru, cs = ruC f ∧ RuB f := by
  obtain ⟨xs, n, _, _, hlen, hxl, hf⟩ := DataW.trod_struct Try.underlying40 h
  have cN : Try.prog.cellsOf 40 = 6 := by kernel_rfl
  rw [cN] at hlen
  match xs, hxl, cs, hlen with
  | [y0, y1, y2, y3, y4], _, [v0, v1, v2, v3, v4, v5], _ =>
    have g0 := hf 0 _ rfl
    have g1 := hf 1 _ rfl
    have g2 := hf 2 _ rfl
    have g3 := hf 3 _ rfl
    have g4 := hf 4 _ rfl
    have c_i : Try.prog.cellsOf 3 = 1 := by kernel_rfl
    have c_b : Try.prog.cellsOf 4 = 1 := by kernel_rfl
    have c_p : Try.prog.cellsOf 38 = 2 := by kernel_rfl
    simp [c_i, c_b, c_p] at g0 g1 g2 g3 g4
    obtain ⟨n0, e0, _⟩ := DataW.trod_bool Try.underlying4 g0
    obtain ⟨n1, e1, _, w1⟩ := DataW.trod_int Try.underlying3 g1
    obtain ⟨n4, e4, _, w4⟩ := DataW.trod_int Try.underlying3 g3
    obtain ⟨n5, e5, _, w5⟩ := DataW.trod_int Try.underlying3 g4
    obtain ⟨zs, m, _, hz, hzl, hzx, hg⟩ := DataW.trod_struct Try.underlying38 g2
    match zs, hzx with
    | [z0, z1], _ =>
      have k0 := hg 0 _ rfl
      have k1 := hg 1 _ rfl
      have c_u : Try.prog.cellsOf 23 = 1 := by kernel_rfl
      have c_n : Try.prog.cellsOf 3 = 1 := by kernel_rfl
      simp [c_u, c_n] at k0 k1
      obtain ⟨n2, e2, _, w2⟩ := DataW.trod_int Try.underlying23 k0
      obtain ⟨n3, e3, _, w3⟩ := DataW.trod_int Try.underlying3 k1
      injection e0 with e0 _
      injection e1 with e1 _
      injection e2 with e2 _
      injection e3 with e3 _
      injection e4 with e4 _
      injection e5 with e5 _
      subst e0 e1 e2 e3 e4 e5
      have b1 := bounds_i64 w1
      have b2 := bounds_u32 w2
      have b3 := bounds_i64 w3
      have b4 := bounds_i64 w4
      have b5 := bounds_i64 w5
      exact ⟨⟨n0, n1, n2, n3, n4, n5⟩, rfl, b1.1, b1.2, b2.1, by show n2 < _; omega, b3.1, b3.2, b4.1, b4.2, b5.1, b5.2⟩
theorem open_rus {H : Type} {enc : TypeId × Value → H} {W : World} {base : Nat} {v : Value} {d : DataW H} {p : List MemPlace} (hv : Value.okWide Try.prog W .any base 22 v)
    (h : DataW.Trod enc Try.prog W 0 (fun _ => true) true 22 v d p) (hw : ∀ n ∈ d.weights Try.prog 22, n ≤ reachBytes) :
    ∃ l : List Ru, RusAt W v l ∧ l.length * 48 ≤ 140737488351232 ∧ ∀ x ∈ l, RuB x := by
  have hb : Try.prog.bytesOf 40 = 48 := by kernel_rfl
  have := open_row 6 (by decide) ruC (fun _ => rfl) ru0 RuB Try.underlying22 (by kernel_rfl) ru_core hv h hw
  rw [hb] at this
  exact this
/-- A rule that is handed in. -/
theorem open_ru {H : Type} {enc : TypeId × Value → H} {W : World} {base : Nat} {v : Value} {d : DataW H} {p : List MemPlace} (hv : Value.okWide Try.prog W .any base 40 v)
    (h : DataW.Trod enc Try.prog W 0 (fun _ => true) true 40 v d p) : ∃ r : Ru, v = ruV r ∧ RuB r := by
  obtain ⟨cs, rfl, hsz⟩ := okWide_struct Try.underlying40 hv
  obtain ⟨fuel, hf⟩ := h
  obtain ⟨f, e, h3⟩ := ru_core _ _ _ hf
  refine ⟨f, ?_, h3⟩
  have e' : cs = (ruC f).toArray := by
    apply Array.toList_inj.1
    have : cs.toList = ruC f := by rw [← e]; simp [Value.cells]
    rw [this]
  rw [e']
  rfl
/-- Rows of rules. -/
def KR : RowK Ru := ⟨22, 40, 6, 48, ruC, ru0⟩
theorem kr_ok : KR.Ok := ⟨Try.underlying22, info_of (z := .agg #[.bool false, .int .i64 0, .int .u32 0, .int .i64 0, .int .i64 0, .int .i64 0]) (by kernel_rfl) rfl, by decide, fun _ => rfl, fun x u hu => by
  simp [KR, ruC] at hu
  rcases hu with rfl | rfl | rfl | rfl | rfl | rfl <;> rfl⟩
theorem OwnK.rus {w : World} {base : Nat} {v : Value} {d : List Ru} (h : OwnK KR w base v d) : RusAt w v d := h.row kr_ok
/-- The law's own copy of rules. -/
theorem own_ok (l : List Ru) (v : Value) (w : World) (h : RusAt w v l) (hl : l.length * 48 ≤ 140737488351232) :
    Calls Try.prog 9 #[v] w fun e w' => ∃ v', e = .returned v' ∧ OwnK KR w' w.heap.size v' l ∧ v' ≠ .slice none 0 0 ∧ Below w.heap.size w w' := by
  obtain ⟨v', w', hr, o, hn, b⟩ := copy_row kr_ok w (K := KR) h (by show l.length * 48 ≤ _; omega) (by unfold maxLen; omega) 22
  obtain ⟨a, c, rfl, -, -⟩ := h
  replace o := Lib.hid o
  replace b := Lib.hid b
  generalize l.length = n at *
  go_enter Try.func9, Try.ntmps9
  go_wp2_with (refine obB2L _ rfl .append _ _ _ _ rfl _ _ rfl rfl hr ?_)
  go_ret
  exact ⟨_, rfl, o.out, hn, b.out⟩
end Go.Proofs.Ytnlocjjnginjeaa
