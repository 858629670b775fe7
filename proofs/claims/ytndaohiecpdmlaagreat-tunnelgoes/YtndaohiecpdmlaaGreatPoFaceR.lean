/-
  What both Routes answer of any rules; that these routes rise, do not touch, and hold every address to which a packet may go. No condition but what the types allow.
-/
import Derived.Test.YtndaohiecpdmlaaGreatPoRfR
import Derived.Test.YtndaohiecpdmlaaGreatPoRtsB
namespace Go.Proofs.YtndaohiecpdmlaaGreat
set_option maxRecDepth 100000
open Go.RowKit Go.Sort

theorem bnd_of {l : List Ru} {st : List Int} (HB : ∀ r ∈ l, RuB r) (hk : ruK l = 0) (hs : st.Pairwise (· < ·)) (hm : ∀ x, x ∈ st ↔ x ∈ rawS l) : ∃ bs, Bnd l bs := by
  obtain ⟨hl, HR⟩ := ruK_right.1 hk
  have hin : ∀ x ∈ st, 0 ≤ x ∧ x < 4294967296 := fun x hx => raw_in HB HR ((hm x).1 hx)
  have hs1 : (st ++ [4294967296]).Pairwise (· < ·) := List.pairwise_append.2 ⟨hs, by simp, fun x hx y hy => by
    have : y = 4294967296 := by simpa using hy
    have := hin x hx
    omega⟩
  by_cases hz : (0 : Int) ∈ st
  · refine ⟨st ++ [4294967296], hs1, fun x => ?_⟩
    rw [raw_bn, List.mem_append, hm]
    constructor
    · rintro (q | q)
      · exact .inr (.inl q)
      · exact .inr (.inr (by simpa using q))
    · rintro (q | q | q)
      · exact .inl ((hm x).1 (q ▸ hz))
      · exact .inl q
      · exact .inr (by simp [q])
  · refine ⟨0 :: (st ++ [4294967296]), List.pairwise_cons.2 ⟨fun x hx => ?_, hs1⟩, fun x => ?_⟩
    · rcases List.mem_append.1 hx with q | q
      · have h1 := hin x q
        have h2 : x ≠ 0 := fun e => hz (e ▸ q)
        omega
      · have : x = 4294967296 := by simpa using q
        omega
    · rw [raw_bn, List.mem_cons, List.mem_append, hm]
      simp
theorem routes_ok (l : List Ru) (v : Value) (w : World) (h : RusAt w v l) (HB : ∀ r ∈ l, RuB r) (hl : l.length ≤ 9223372036854775807) :
    Calls Tryz.prog 29 #[v] w fun e w' => ∃ vf fd, e = .returned vf ∧ OwnK KT w' w.heap.size vf fd ∧ Below w.heap.size w w' ∧ RtsOf l fd := by
  by_cases hk : ruK l = 0
  · refine (routes_yes l v w h HB hk).mono ?_
    rintro e w' ⟨vf, fd, ps, st, rfl, O, b, -, hp, hs, hm, e⟩
    obtain ⟨bs, hb⟩ := bnd_of HB hk hs hm
    exact ⟨vf, fd, rfl, O, b, fun c => absurd hk c, fun _ => ⟨bs, hb, by rw [e]; exact routes_same HB hk hb hs hm hp⟩⟩
  · refine (routes_no l v w h HB hl hk).mono ?_
    rintro e w' ⟨rfl, b⟩
    exact ⟨_, [], rfl, .nil _ _, b, fun _ => rfl, fun c => absurd c hk⟩
theorem rroutes_ok (l : List Ru) (v : Value) (w : World) (h : RusAt w v l) (HB : ∀ r ∈ l, RuB r) (hl : l.length ≤ 9223372036854775807) :
    Calls Tryz.prog 20 #[v] w fun e w' => ∃ vf fd, e = .returned vf ∧ RowAt KD.n KD.cells KD.x0 w' vf fd ∧ Below w.heap.size w w' ∧ RtsOf l fd := by
  by_cases hk : ruK l = 0
  · exact rroutes_yes l v w h HB hk
  · refine (rroutes_no l v w h HB hl hk).mono ?_
    rintro e w' ⟨rfl, b⟩
    exact ⟨_, [], rfl, .nil _ _ _, b, fun _ => rfl, fun c => absurd c hk⟩
theorem RtsOf.wf {l : List Ru} {fd : List (Int × Int)} (h : RtsOf l fd) (HB : ∀ r ∈ l, RuB r) : WF fd := by
  by_cases hk : ruK l = 0
  · obtain ⟨bs, hb, e⟩ := h.2 hk
    have w := (rfG_routes HB hk hb).1
    rw [e]
    exact ⟨w.ord.sublist (List.take_sublist _ _), fun x hx => w.low x (List.mem_of_mem_take hx)⟩
  · rw [h.1 hk]
    exact ⟨.nil, by simp⟩
theorem RtsOf.cov {l : List Ru} {fd : List (Int × Int)} (h : RtsOf l fd) (HB : ∀ r ∈ l, RuB r) (hl : fd.length < 16) {p a q : Int} (p0 : 1 ≤ p) (p1 : p ≤ 255) (q0 : 0 ≤ q) (q1 : q ≤ 65535) (a0 : 0 ≤ a) (a1 : a < 4294967296) (ha : alw l p a q = true) : InS fd a := by
  unfold alw at ha
  rw [Bool.and_eq_true, beq_iff_eq] at ha
  obtain ⟨bs, hb, e⟩ := h.2 ha.1
  have c := (rfG_routes HB ha.1 hb).2 a a0 a1 ⟨p, q, p0, p1, q0, q1, ha.2⟩
  rw [List.take_of_length_le (by rw [e, List.length_take] at hl; omega)] at e
  rw [e]
  exact c
theorem WF.at {fd : List (Int × Int)} (h : WF fd) {i : Nat} (hi : i < fd.length) : 0 ≤ (fd.getD i (0, 0)).1 ∧ (fd.getD i (0, 0)).1 ≤ (fd.getD i (0, 0)).2 ∧ (fd.getD i (0, 0)).2 < 4294967296 ∧ (0 < i → (fd.getD (i - 1) (0, 0)).2 + 1 < (fd.getD i (0, 0)).1 ∧ 0 ≤ (fd.getD (i - 1) (0, 0)).2) := by
  have e : ∀ k (hk : k < fd.length), fd.getD k (0, 0) = fd[k] := fun k hk => by rw [List.getD_eq_getElem?_getD, List.getElem?_eq_getElem hk]; rfl
  have l1 := h.low _ (List.getElem_mem hi)
  rw [e i hi]
  refine ⟨l1.1, l1.2.1, l1.2.2, fun h0 => ?_⟩
  have hi1 : i - 1 < fd.length := by omega
  have l2 := h.low _ (List.getElem_mem hi1)
  rw [e (i - 1) hi1]
  exact ⟨List.pairwise_iff_getElem.1 h.ord (i - 1) i hi1 hi (by omega), by omega⟩
/-- Routes in memory, their three cells each. -/
def rtC (x : Int × Int) : List Value := [.int .u32 x.1, .int .u32 x.2, .int .i64 0]
theorem rt_cells {w : World} {a : Option Addr} {n c : Nat} {fd : List (Int × Int)} (h : RowAt 3 rtC (0, 0) w (.slice a n c) fd) (hp : 0 < fd.length) :
    ∃ g o, a = some ⟨g, o, none⟩ ∧ g < w.heap.size ∧ ∀ i, i < fd.length → w.cell? ⟨g, o + 3 * i, none⟩ = some (.int .u32 (fd.getD i (0, 0)).1) ∧ w.cell? ⟨g, o + 3 * i + 1, none⟩ = some (.int .u32 (fd.getD i (0, 0)).2) ∧ w.cell? ⟨g, o + 3 * i + 2, none⟩ = some (.int .i64 0) := by
  obtain ⟨a', cap, e, _, hr⟩ := h
  injection e with e1 e2 e3
  subst e1
  obtain ⟨g, o, rfl, hg, _⟩ := hr 0 hp
  refine ⟨g, o, rfl, hg, fun i hi => ?_⟩
  obtain ⟨g', o', ha, _, c⟩ := hr i hi
  injection ha with ha
  injection ha with ha1 ha2
  subst ha1 ha2
  exact ⟨c 0 (by decide), c 1 (by decide), c 2 (by decide)⟩
end Go.Proofs.YtndaohiecpdmlaaGreat
