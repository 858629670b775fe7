/-
  What the program's own New, Write and Sum of a Hash answer. Texts below 2^39 bytes; the table of cubes lies where the program's text lays it. No other condition.
-/
import Derived.Test.YtbicfhilehllnaaGreatDoorShMix
import Derived.Test.YtbicfhilehllnaaGreatDoorShOut
import Derived.Test.YtbicfhilehllnaaGreatDoorShStill
import Derived.Deep.WholeRow
namespace Go.Proofs.YtbicfhilehllnaaGreatDoor
set_option maxRecDepth 100000
open Go.RowKit Go.Sort

/-- The cells of a Hash. -/
def hv (s r : List Nat) (n : Nat) : List Value := nv .u32 s ++ nv .u8 r ++ nv .u64 [n]
/-- A Hash with the bytes l in lies in block B. -/
structure HB (w : World) (B : Nat) (l r : List Nat) : Prop where
  s : At .u32 w B 0 (blks l (l.length / 64)).list
  b : At .u8 w B 8 r
  c : At .u64 w B 72 [l.length]
  len : r.length = 64
  lt : ∀ x ∈ r, x < 256
  eq : r.take (l.length % 64) = l.drop (64 * (l.length / 64))
structure HashIs (F : Nat → Prop) (w : World) (v : Value) (l : List Nat) : Prop where
  ex : ∃ B r, v = .pointer (some ⟨B, 0, none⟩) ∧ (∀ k, F k ↔ k = B) ∧ HB w B l r
theorem HB.of_block {w w' : World} {B : Nat} {l r : List Nat} (h : HB w B l r) (e : w'.heap[B]? = w.heap[B]?) : HB w' B l r :=
  ⟨h.s.of_block e, h.b.of_block e, h.c.of_block e, h.len, h.lt, h.eq⟩
theorem HashIs.keep {F : Nat → Prop} {w w' : World} {v : Value} {l : List Nat} (h : HashIs F w v l) (e : ∀ k, F k → w'.heap[k]? = w.heap[k]?) : HashIs F w' v l := by
  obtain ⟨B, r, rfl, hF, h⟩ := h.ex
  exact ⟨B, r, rfl, hF, h.of_block (e B ((hF B).2 rfl))⟩
theorem hv_length (s r : List Nat) (n : Nat) : (hv s r n).length = s.length + r.length + 1 := by simp [hv, nv_length]; omega
theorem hv_one (s r : List Nat) (n : Nat) : (hv s r n).toArray.all (·.oneCell') = true := all_oneCell_toArray fun v hv' => by
  unfold hv at hv'
  rcases List.mem_append.1 hv' with h | h
  · rcases List.mem_append.1 h with h | h
    · exact nv_one _ _ v h
    · exact nv_one _ _ v h
  · exact nv_one _ _ v h
theorem info47 : (Tryz.prog.info? 365).map (fun i => (i.zero, i.size)) = some (some (.agg (hv (List.replicate 8 0) (List.replicate 64 0) 0).toArray), 73) := by kernel_rfl
theorem zero47 : (∀ w, (zeroValue 365).run Tryz.prog w = .ok (.agg (hv (List.replicate 8 0) (List.replicate 64 0) 0).toArray) w) ∧ (Tryz.prog.info? 365).map (·.size) = some 73 := zero_of_info info47
/-- A row of cells is there, and may be written. -/
theorem range_left {w : World} {B o : Nat} {a b : List Value} (h : w.rangeAt B o (a ++ b)) : w.rangeAt B o a := fun j v hv => h j v (by rw [List.getElem?_append_left (List.getElem?_eq_some_iff.1 hv).1]; exact hv)
theorem range_right {w : World} {B o : Nat} {a b : List Value} (h : w.rangeAt B o (a ++ b)) : w.rangeAt B (o + a.length) b := fun j v hv => by
  have := h (a.length + j) v (by rw [List.getElem?_append_right (Nat.le_add_right _ _), Nat.add_sub_cancel_left]; exact hv)
  rwa [Nat.add_assoc]
theorem range_join {w : World} {B o : Nat} {a b : List Value} (h : w.rangeAt B o a) (g : w.rangeAt B (o + a.length) b) : w.rangeAt B o (a ++ b) := fun j v hv => by
  by_cases q : j < a.length
  · rw [List.getElem?_append_left q] at hv
    exact h j v hv
  · rw [List.getElem?_append_right (by omega)] at hv
    have := g (j - a.length) v hv
    rwa [show o + a.length + (j - a.length) = o + j by omega] at this
/-- A Hash out of its cells. -/
theorem hb_of {w : World} {B : Nat} {l r : List Nat} (h : w.rangeAt B 0 (hv (blks l (l.length / 64)).list r l.length)) (t : w.there B 0 73) (len : r.length = 64) (lt : ∀ x ∈ r, x < 256) (eq : r.take (l.length % 64) = l.drop (64 * (l.length / 64))) : HB w B l r := by
  have h1 := range_left h
  have h2 := range_right h
  have h3 := range_left h1
  have h4 := range_right h1
  have e8 : (nv .u32 (blks l (l.length / 64)).list).length = 8 := rfl
  rw [List.length_append, e8, nv_length, len] at h2
  rw [e8] at h4
  simp only [Nat.zero_add] at h2 h4
  have tt : ∀ o n, o + n ≤ 73 → w.there B o n := fun o n hn j hj => by
    have := t (o + j) (by omega)
    rwa [Nat.zero_add] at this
  exact ⟨⟨h3, tt 0 _ (by show 0 + 8 ≤ 73; omega)⟩, ⟨h4, tt 8 _ (by omega)⟩, ⟨h2, tt 72 _ (by show 72 + 1 ≤ 73; omega)⟩, len, lt, eq⟩
theorem HB.cells {w : World} {B : Nat} {l r : List Nat} (h : HB w B l r) : w.rangeAt B 0 (hv (blks l (l.length / 64)).list r l.length) := by
  refine range_join (range_join h.s.r ?_) ?_
  · exact h.b.r
  · rw [List.length_append, nv_length, nv_length, h.len]
    exact h.c.r
theorem range_new (w : World) (cs : List Value) (t : TypeId) : (w.alloc (.cells cs.toArray t)).rangeAt w.heap.size 0 cs ∧ (w.alloc (.cells cs.toArray t)).there w.heap.size 0 cs.length := by
  refine ⟨fun j v hv => ?_, fun j hj => ⟨?_, by simp⟩⟩
  · rw [Nat.zero_add, World.cell?_alloc_new]
    simpa using hv
  · rw [Nat.zero_add, World.cell?_alloc_new]
    simp [hj]
theorem nothing_in (w : World) (t : TypeId) : HB (w.alloc (.cells (hv st0.list (List.replicate 64 0) 0).toArray t)) w.heap.size [] (List.replicate 64 0) := by
  have h := range_new w (hv st0.list (List.replicate 64 0) 0) t
  refine hb_of (l := []) h.1 ?_ (by simp) (fun x hx => by rw [List.eq_of_mem_replicate hx]; decide) (by simp)
  exact h.2
set_option maxHeartbeats 2000000 in
set_option maxRecDepth 100000 in
theorem new_ok (w : World) (_ : Tab w) :
    Calls Tryz.prog 301 #[] w fun e w' => ∃ (a : Addr) (F : Nat → Prop), e = .returned (.pointer (some a)) ∧ HashIs F w' (.pointer (some a)) [] ∧ (∀ k, F k → w.heap.size ≤ k ∧ k < w'.heap.size) ∧ Below w.heap.size w w' := by
  have hz := zero47.1
  obtain ⟨Z, hZ⟩ : ∃ Z, Z = (hv (List.replicate 8 0) (List.replicate 64 0) 0).toArray := ⟨_, rfl⟩
  rw [← hZ] at hz
  have hsz : Z.size = 73 := by rw [hZ]; rfl
  replace hZ : Hid _ := hZ
  go_enter Tryz.func301, Tryz.ntmps301
  go_wp2
  go_ret
  have e : ((((((((Z.setIfInBounds 0 (.int .u32 1779033703)).setIfInBounds 1 (.int .u32 3144134277)).setIfInBounds 2 (.int .u32 1013904242)).setIfInBounds 3 (.int .u32 2773480762)).setIfInBounds 4 (.int .u32 1359893119)).setIfInBounds 5 (.int .u32 2600822924)).setIfInBounds 6 (.int .u32 528734635)).setIfInBounds 7 (.int .u32 1541459225)) = (hv st0.list (List.replicate 64 0) 0).toArray := by rw [hZ.out]; rfl
  rw [e]
  refine ⟨⟨w.heap.size, 0, none⟩, (· = w.heap.size), rfl, ⟨w.heap.size, _, rfl, fun k => Iff.rfl, nothing_in w _⟩, fun k hk => ?_, (Below.refl _ _).alloc (Nat.le_refl _) _⟩
  rw [World.size_alloc]
  omega
end Go.Proofs.YtbicfhilehllnaaGreatDoor
