/-
  A key's cells, and what the program's own makeParts and a Once that is asked for them leave: the two parts, made once. Secrets below 2^36 bytes; the tables lie where the program's text lays them. No other condition.
-/
import Derived.Test.YtbicfhilehllnaaGreatDoorSeOnce
import Derived.Test.YtbicfhilehllnaaGreatDoorSeCrypt
import Derived.Test.YtbicfhilehllnaaGreatDoorSeMath
namespace Go.Proofs.YtbicfhilehllnaaGreatDoor
set_option maxRecDepth 100000
open Go.RowKit Go.Sort

/-- Cells that lie in a block from its beginning, and may be written. -/
structure Cs (w : World) (B : Nat) (vs : List Value) : Prop where
  r : w.rangeAt B 0 vs
  t : w.there B 0 vs.length
theorem Cs.cell {w : World} {B : Nat} {vs : List Value} (h : Cs w B vs) (j : Nat) {v : Value} (hv : vs[j]? = some v) : w.cell? ⟨B, j, none⟩ = some v := by
  have := h.r j v hv
  rwa [Nat.zero_add] at this
theorem Cs.free {w : World} {B : Nat} {vs : List Value} (h : Cs w B vs) (j : Nat) (hj : j < vs.length) : w.frozen? ⟨B, j, none⟩ = false := by
  have := (h.t j hj).2
  rwa [Nat.zero_add] at this
theorem Cs.of_block {w w' : World} {B : Nat} {vs : List Value} (h : Cs w B vs) (e : w'.heap[B]? = w.heap[B]?) : Cs w' B vs :=
  ⟨fun j v hv => (World.cell?_of_block (w := w) (a := ⟨B, 0 + j, none⟩) e).trans (h.r j v hv), fun j hj => by
    rw [World.cell?_of_block (w := w) (a := ⟨B, 0 + j, none⟩) e, World.frozen?_of_block (w := w) (a := ⟨B, 0 + j, none⟩) e]
    exact h.t j hj⟩
theorem Cs.put {w : World} {B : Nat} {vs : List Value} (h : Cs w B vs) (i : Nat) (hi : i < vs.length) (x : Value) : Cs (w.setCell ⟨B, i, none⟩ x) B (vs.set i x) := by
  have hc : w.cell? ⟨B, i, none⟩ = some vs[i] := h.cell i (List.getElem?_eq_getElem hi)
  refine ⟨fun j v hv => ?_, fun j hj => ?_⟩
  · rw [Nat.zero_add]
    by_cases e : i = j
    · subst e
      rw [World.cell?_setCell_same _ _ _ hc]
      rw [List.getElem?_set_self hi] at hv
      exact hv
    · rw [World.cell?_setCell_other _ _ _ _ (by intro q; injection q with _ q; exact e q)]
      rw [List.getElem?_set_ne e] at hv
      exact h.cell j hv
  · rw [List.length_set] at hj
    rw [Nat.zero_add]
    refine ⟨?_, by rw [World.frozen?_setCell]; exact h.free j hj⟩
    by_cases e : i = j
    · subst e
      rw [World.cell?_setCell_same _ _ _ hc]; rfl
    · rw [World.cell?_setCell_other _ _ _ _ (by intro q; injection q with _ q; exact e q), h.cell j (List.getElem?_eq_getElem hj)]
      rfl
theorem Cs.lt {w : World} {B : Nat} {vs : List Value} (h : Cs w B vs) (hl : 0 < vs.length) : B < w.heap.size := World.block_lt_of_cell? w _ (h.cell 0 (List.getElem?_eq_getElem hl))
theorem Cs.keep {w w' : World} {B : Nat} {vs : List Value} (h : Cs w B vs) (hl : 0 < vs.length) (b : Below w.heap.size w w') : Cs w' B vs := h.of_block (b.block B (h.lt hl))
/-! What else has changed. -/
theorem Still.trans {F : Nat → Prop} {a b c : World} (h : Still F a b) (g : Still F b c) : Still F a c :=
  ⟨g.os.trans h.os, g.tape.trans h.tape, g.output.trans h.output, Nat.le_trans h.size g.size, fun k hk hf => (g.block k (Nat.lt_of_lt_of_le hk h.size) hf).trans (h.block k hk hf)⟩
theorem Still.add {F : Nat → Prop} {a b c : World} (h : Still F a b) (g : Below b.heap.size b c) : Still F a c := h.trans (.of F g)
theorem Still.set {F : Nat → Prop} {a b : World} (h : Still F a b) (p : Addr) (hp : F p.block) (v : Value) : Still F a (b.setCell p v) :=
  ⟨h.os, h.tape, h.output, by simpa using h.size, fun k hk hf => (Below.heap_setCell _ _ _ _ (by intro e; exact hf (e ▸ hp))).trans (h.block k hk hf)⟩
theorem Still.drew {F : Nat → Prop} {a b : World} (h : Still F a b) : Still F a b.drew := ⟨h.os, h.tape, h.output, h.size, h.block⟩

/-- The cells of a key: made or not, its lock, its secret and its two parts, what is counted. -/
def kv (d l : Int) (s c t : ByteArray) (a b : Nat) : List Value := [.int .u32 d, .int .i32 l, .int .u32 0, .string s, .string c, .string t, .int .i64 (a : Int), .int .i64 (b : Int)]
/-- The tables. -/
structure STab (w : World) : Prop where
  c : Tab w
  v : VTab w
theorem STab.keep {w w' : World} (t : STab w) (b : Below w.heap.size w w') : STab w' := ⟨t.c.keep b, t.v.below b⟩
/-- No key lies where a table lies. -/
theorem STab.still {w w' : World} {B : Nat} {d l : Int} {s c t : ByteArray} {a b : Nat} (tb : STab w) (h : Cs w B (kv d l s c t a b)) (st : Still (fun k => k = B) w w') : STab w' := by
  have n1 : 2 ≠ B := fun e => by
    have h1 := h.cell 3 (v := .string s) rfl
    have h2 := tb.c.c 3 (by decide)
    rw [e] at h2
    rw [h2] at h1
    injection h1 with h1
    injection h1
  have n2 : 1 ≠ B := fun e => by
    have h1 := h.cell 3 (v := .string s) rfl
    have h2 := tb.v.c3
    rw [e] at h2
    rw [h2] at h1
    injection h1 with h1
    injection h1
  have e1 : ∀ j, w'.cell? ⟨2, j, none⟩ = w.cell? ⟨2, j, none⟩ := fun j => World.cell?_of_block (a := ⟨2, j, none⟩) (st.block _ tb.c.pos n1)
  have e2 : ∀ j, w'.cell? ⟨1, j, none⟩ = w.cell? ⟨1, j, none⟩ := fun j => World.cell?_of_block (a := ⟨1, j, none⟩) (st.block _ tb.v.pos n2)
  exact ⟨⟨Nat.lt_of_lt_of_le tb.c.pos st.size, fun j hj => (e1 j).trans (tb.c.c j hj)⟩, ⟨Nat.lt_of_lt_of_le tb.v.pos st.size, (e2 0).trans tb.v.c0, (e2 1).trans tb.v.c1, (e2 2).trans tb.v.c2, (e2 3).trans tb.v.c3⟩⟩
set_option maxHeartbeats 2000000 in
theorem parts_ok (B : Nat) (d l : Int) (s c t : ByteArray) (a b : Nat) (w : World) (tb : STab w) (h : Cs w B (kv d l s c t a b)) (hs : s.size < 68719476736) :
    Calls Tryz.prog 154 #[.pointer (some ⟨B, 0, none⟩)] w fun e w' => e = .returned (.tuple #[]) ∧ Cs w' B (kv d l ⟨#[]⟩ (ckey s) (tkey s) a b) ∧ Still (fun k => k = B) w w' := by
  have D1 : Hid (∀ w, STab w → _) := fun w t => derive_ok s ⟨#[99, 105, 112, 104, 101, 114]⟩ ⟨#[]⟩ w t.c t.v (by omega) (by decide) (by decide)
  have D2 : Hid (∀ w, STab w → _) := fun w t => derive_ok s ⟨#[116, 97, 103]⟩ ⟨#[]⟩ w t.c t.v (by omega) (by decide) (by decide)
  have e1 : der s ⟨#[99, 105, 112, 104, 101, 114]⟩ ⟨#[]⟩ = ckey s := rfl
  have e2 : der s ⟨#[116, 97, 103]⟩ ⟨#[]⟩ = tkey s := rfl
  rw [e1] at D1
  rw [e2] at D2
  clear e1 e2
  generalize ckey s = ck at *
  generalize tkey s = tk at *
  have c3 := h.cell 3 (v := .string s) rfl
  have H0 : Hid (Cs w B (kv d l s c t a b)) := h
  have T0 : Hid (STab w) := tb
  clear h tb
  go_enter Tryz.func154, Tryz.ntmps154
  go_wp2_with fail
  refine (D1.out _ T0.out).mono ?_
  rintro e w1 ⟨rfl, b1⟩
  have H1 : Hid (Cs w1 B (kv d l s c t a b)) := H0.out.keep (by show 0 < 8; decide) b1
  have S1 : Hid (Still (fun k => k = B) w w1) := .of _ b1
  have c4 := H1.out.cell 4 (v := .string c) rfl
  have f4 := H1.out.free 4 (by show 4 < 8; decide)
  have H2 : Hid (Cs (w1.setCell ⟨B, 4, none⟩ (.string ck)) B (kv d l s ck t a b)) := H1.out.put 4 (by show 4 < 8; decide) (.string ck)
  have S2 : Hid (Still (fun k => k = B) w (w1.setCell ⟨B, 4, none⟩ (.string ck))) := S1.out.set _ rfl _
  have d3 := H2.out.cell 3 (v := .string s) rfl
  have T2 : Hid (STab (w1.setCell ⟨B, 4, none⟩ (.string ck))) := T0.out.still H0.out S2.out
  clear b1 D1 H1 S1 c3
  go_wp2_with fail
  clear c4 f4 d3
  generalize w1.setCell ⟨B, 4, none⟩ (.string ck) = w2 at *
  refine (D2.out _ T2.out).mono ?_
  rintro e w3 ⟨rfl, b3⟩
  have H3 : Hid (Cs w3 B (kv d l s ck t a b)) := H2.out.keep (by show 0 < 8; decide) b3
  have S3 : Hid (Still (fun k => k = B) w w3) := S2.out.add b3
  have c5 := H3.out.cell 5 (v := .string t) rfl
  have f5 := H3.out.free 5 (by show 5 < 8; decide)
  have H4 : Hid (Cs (w3.setCell ⟨B, 5, none⟩ (.string tk)) B (kv d l s ck tk a b)) := H3.out.put 5 (by show 5 < 8; decide) (.string tk)
  have S4 : Hid (Still (fun k => k = B) w (w3.setCell ⟨B, 5, none⟩ (.string tk))) := S3.out.set _ rfl _
  have c6 := H4.out.cell 3 (v := .string s) rfl
  have f6 := H4.out.free 3 (by show 3 < 8; decide)
  have H5 : Hid (Cs ((w3.setCell ⟨B, 5, none⟩ (.string tk)).setCell ⟨B, 3, none⟩ (.string ⟨#[]⟩)) B (kv d l ⟨#[]⟩ ck tk a b)) := H4.out.put 3 (by show 3 < 8; decide) (.string ⟨#[]⟩)
  have S5 : Hid (Still (fun k => k = B) w ((w3.setCell ⟨B, 5, none⟩ (.string tk)).setCell ⟨B, 3, none⟩ (.string ⟨#[]⟩))) := S4.out.set _ rfl _
  clear b3 D2 H3 S3 H4 S4 H2 S2 T2 H0 T0
  go_wp2_with fail
  go_end0
  exact ⟨rfl, H5.out, S5.out⟩
end Go.Proofs.YtbicfhilehllnaaGreatDoor
