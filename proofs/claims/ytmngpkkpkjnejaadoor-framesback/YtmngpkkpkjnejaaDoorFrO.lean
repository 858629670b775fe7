/-
  What the program's own Check, Size, Elicits, Write and Parse of frames answer. What Write writes has at most 2^47 bytes, texts have less than 2^40; no other condition but the table of sizes. What the law's own first look at the program answers: true. No condition but the table of sizes. Two answers of Parse held against one another. No condition.
-/
import Derived.Test.YtmngpkkpkjnejaaDoorFpW
import Derived.Test.YtmngpkkpkjnejaaDoorFpR
namespace Go.Proofs.YtmngpkkpkjnejaaDoor
set_option maxRecDepth 100000
open Go.RowKit Go.Sort

theorem fcheck_ok {w : World} (_t : VTab w) {v : Value} {f : Fr} (hf : FrIs w v f) (hb : FrB f) :
    Calls Tryd.prog 9 #[v] w fun e w' => e = .returned (.int .i64 (chkF f)) ∧ Below w.heap.size w w' := pf_check hf hb
theorem fsize_ok {w : World} (t : VTab w) {v : Value} {f : Fr} (hf : FrIs w v f) (hb : FrB f) :
    Calls Tryd.prog 11 #[v] w fun e w' => e = .returned (.int .i64 (sizF f : Nat)) ∧ Below w.heap.size w w' := pf_size t hf hb
theorem felic_ok {w : World} (_t : VTab w) {v : Value} {f : Fr} (hf : FrIs w v f) (_hb : FrB f) :
    Calls Tryd.prog 13 #[v] w fun e w' => e = .returned (.bool (elic f)) ∧ Below w.heap.size w w' := pf_elic hf
theorem fwriteAll_ok {w : World} (t : VTab w) {v : Value} {fs : List Fr} (hv : FrsAt w v fs) (hl : fs.length ≤ 1048576) (bl : ∀ f ∈ fs, FrB f) :
    Calls Tryd.prog 16 #[v] w fun e w' => e = wrE fs ∧ Below w.heap.size w w' := pf_write t hv (by omega) bl
theorem fparse_ok (s : ByteArray) (w : World) (t : VTab w) (hs : s.size < 1099511627776) :
    Calls Tryd.prog 19 #[.string s] w fun e w' => AfterP w w' s e := pparse_ok s w t hs
end Go.Proofs.YtmngpkkpkjnejaaDoor
namespace Go.Proofs.YtmngpkkpkjnejaaDoor
set_option maxRecDepth 100000
open Go.RowKit Go.Sort

def wkF : Fr := ⟨8, 4, 0, true, 0, [104, 105], []⟩
theorem wk_right : Rt wkF := chkF_zero.1 (by decide)
theorem wk_b : FrB wkF := ⟨by decide, by decide, by decide, by decide, (fun x hx => by cases hx), by decide, by decide⟩
theorem wk_bytes : wrAll [wkF] = [8, 4, 0, 1, 2, 104, 105] := by decide
theorem wk_ping : parse [0, 0, 1] 0 = .ok [⟨1, 0, 0, false, 0, [], []⟩] := by
  have f1 : rFrame [0, 0, 1] = .ok (⟨0, 0, 0, false, 0, [], []⟩, [0, 1]) := frame_pad _
  have f2 : rFrame [0, 1] = .ok (⟨0, 0, 0, false, 0, [], []⟩, [1]) := frame_pad _
  have f3 : rFrame [1] = .ok (⟨1, 0, 0, false, 0, [], []⟩, []) := rfl
  rw [parse_ok f1, parse_ok f2, parse_ok f3, parse_nil]
  rfl
theorem wk_none : parse [3] 0 = .error 5 := parse_err (by decide) rfl 0
set_option maxHeartbeats 2000000 in
theorem works_ok (w : World) (t : VTab w) :
    Calls Tryd.prog 21 #[] w fun e w' => e = .returned (.bool true) ∧ Below w.heap.size w w' := by
  have b0 := (Below.refl w.heap.size w).alloc (Nat.le_refl _) (.cells #[.int .i64 8, .int .i64 4, .int .i64 0, .bool true, .int .i64 0, .string ⟨#[104, 105]⟩, .slice none 0 0] 24)
  have l := Lies.new w [.int .i64 8, .int .i64 4, .int .i64 0, .bool true, .int .i64 0, .string ⟨#[104, 105]⟩, .slice none 0 0] 24
  have A0 : FrsAt (w.alloc (.cells #[.int .i64 8, .int .i64 4, .int .i64 0, .bool true, .int .i64 0, .string ⟨#[104, 105]⟩, .slice none 0 0] 24)) (.slice (some ⟨w.heap.size, 0, none⟩) 1 1) [wkF] := ⟨_, 1, rfl, .inr ⟨w.heap.size, 0, rfl, fun k hk => by
    obtain rfl : k = 0 := by simpa using hk
    exact ⟨⟨#[104, 105]⟩, none, 0, rfl, rgAt_nil _, l.cell 0 rfl, l.cell 1 rfl, l.cell 2 rfl, l.cell 3 rfl, l.cell 4 rfl, l.cell 5 rfl, l.cell 6 rfl⟩⟩⟩
  have WR : Hid (Calls Tryd.prog 16 #[.slice (some ⟨w.heap.size, 0, none⟩) 1 1] (w.alloc (.cells #[.int .i64 8, .int .i64 4, .int .i64 0, .bool true, .int .i64 0, .string ⟨#[104, 105]⟩, .slice none 0 0] 24)) fun e w' => e = .returned (.tuple #[.string ⟨#[8, 4, 0, 1, 2, 104, 105]⟩, .int .i64 0]) ∧ Below (w.alloc (.cells #[.int .i64 8, .int .i64 4, .int .i64 0, .bool true, .int .i64 0, .string ⟨#[104, 105]⟩, .slice none 0 0] 24)).heap.size (w.alloc (.cells #[.int .i64 8, .int .i64 4, .int .i64 0, .bool true, .int .i64 0, .string ⟨#[104, 105]⟩, .slice none 0 0] 24)) w') := by
    have e : wrE [wkF] = .returned (.tuple #[.string ⟨#[8, 4, 0, 1, 2, 104, 105]⟩, .int .i64 0]) := by
      unfold wrE
      rw [bad1_zero.2 (fun f hf => by rw [List.mem_singleton.1 hf]; exact wk_right), if_pos rfl, wk_bytes]
      rfl
    have := fwriteAll_ok (t.below b0) A0 (by decide) (fun f hf => by rw [List.mem_singleton.1 hf]; exact wk_b)
    rw [e] at this
    exact this
  have P1 : Hid (∀ w', VTab w' → Calls Tryd.prog 19 #[.string ⟨#[0, 0, 1]⟩] w' fun e w'' => ∃ g c, e = .returned (.tuple #[.slice (some ⟨g, 0, none⟩) 1 c, .int .i64 0]) ∧ w''.cell? ⟨g, 0, none⟩ = some (.int .i64 1) ∧ Below w'.heap.size w' w'') := fun w' t' => (fparse_ok ⟨#[0, 0, 1]⟩ w' t' (by decide)).mono fun e w'' h => by
    have wp : parse (toL ⟨#[0, 0, 1]⟩) 0 = .ok [⟨1, 0, 0, false, 0, [], []⟩] := wk_ping
    obtain ⟨b, ⟨xs, v, hp, rfl, row⟩ | ⟨x, hp, _⟩⟩ := h
    · rw [wp] at hp
      injection hp with hp
      obtain ⟨x, rfl⟩ : ∃ x, xs = [x] := by
        have hl : xs.length = 1 := by rw [← List.length_map (f := fun y : FX => y.1), ← hp]; rfl
        exact List.length_eq_one_iff.1 hl
      simp at hp
      rcases row.1.2 with ⟨-, h0⟩ | ⟨g, c, cur, rfl, -⟩
      · simp at h0
      · refine ⟨g, c, rfl, ?_, b⟩
        have := row.1.cellAt 0 (by simp)
        have e : (fcells [x])[0]? = some (.int .i64 x.1.kind) := rfl
        rw [e, ← hp] at this
        exact this
    · rw [wp] at hp
      cases hp
  have P2 : Hid (∀ w', VTab w' → Calls Tryd.prog 19 #[.string ⟨#[3]⟩] w' fun e w'' => e = .returned (.tuple #[.slice none 0 0, .int .i64 5]) ∧ Below w'.heap.size w' w'') := fun w' t' => (fparse_ok ⟨#[3]⟩ w' t' (by decide)).mono fun e w'' h => by
    have wp : parse (toL ⟨#[3]⟩) 0 = .error 5 := wk_none
    obtain ⟨b, ⟨xs, v, hp, rfl, row⟩ | ⟨x, hp, _, rfl⟩⟩ := h
    · rw [wp] at hp
      cases hp
    · rw [wp] at hp
      injection hp with hp
      subst hp
      exact ⟨rfl, b⟩
  replace t : Hid _ := t
  have T0 := t.out.below b0
  replace T0 : Hid _ := T0
  replace b0 : Hid _ := b0
  clear l A0
  go_enter Tryd.func21, Tryd.ntmps21
  go_wp2_with fail
  refine WR.out.mono ?_
  rintro _ w1 ⟨rfl, b1⟩
  have B1 : Hid (Below w.heap.size w w1) := b0.out.trans (b1.mono b0.out.size)
  have T1 : VTab w1 := T0.out.below b1
  replace T1 : Hid (VTab w1) := T1
  clear b1 WR T0 b0
  go_wp2_with fail
  refine (P1.out w1 T1.out).mono ?_
  rintro _ w2 ⟨g, c, rfl, hc, b2⟩
  have B2 : Hid (Below w.heap.size w w2) := B1.out.trans (b2.mono B1.out.size)
  have T2 : Hid (VTab w2) := T1.out.below b2
  clear b2 B1 T1 P1
  go_wp2_with fail
  refine (P2.out w2 T2.out).mono ?_
  rintro _ w3 ⟨rfl, b3⟩
  have B3 : Hid (Below w.heap.size w w3) := B2.out.trans (b3.mono B2.out.size)
  have hc3 := (b3.cell (World.block_lt_of_cell? w2 _ hc)).trans hc
  have ia := fun w' => at_frs g 0 1 c 0 w' (by decide) (0 : Int) rfl 0 rfl
  clear b3 B2 T2 P2 hc
  go_wp2_with fail
  go_ret
  exact ⟨rfl, B3.out⟩
end Go.Proofs.YtmngpkkpkjnejaaDoor
namespace Go.Proofs.YtmngpkkpkjnejaaDoor
set_option maxRecDepth 100000
open Go.RowKit Go.Sort

/-- What Parse hands out, told by what it hands out alone. -/
def Ans (w' : World) (s : ByteArray) (v : Value) (x : Int) : Prop := (∃ l, parse (toL s) 0 = .ok l ∧ x = 0 ∧ FrsAt w' v l) ∨ (parse (toL s) 0 = .error x ∧ x ≠ 0 ∧ v = .slice none 0 0)
theorem Ans.keep {w w' : World} {s : ByteArray} {v : Value} {x : Int} (h : Ans w s v x) (b : Below w.heap.size w w') : Ans w' s v x := by
  rcases h with ⟨l, h1, h2, h3⟩ | h
  · exact .inl ⟨l, h1, h2, h3.keep b⟩
  · exact .inr h
theorem AfterP.ans {w w' : World} {s : ByteArray} {e : Ending} (h : AfterP w w' s e) : ∃ v x, e = .returned (.tuple #[v, .int .i64 x]) ∧ Ans w' s v x ∧ Below w.heap.size w w' := by
  obtain ⟨b, ⟨xs, v, h1, rfl, h2⟩ | ⟨x, h1, h2, rfl⟩⟩ := h
  · exact ⟨v, 0, rfl, .inl ⟨_, h1, rfl, h2.at⟩, b⟩
  · exact ⟨_, x, rfl, .inr ⟨h1, h2, rfl⟩, b⟩
theorem parse_small {s : ByteArray} {l : List Fr} (h : parse (toL s) 0 = .ok l) : l.length ≤ 64 ∧ ∀ f ∈ l, Rt f ∧ f.kind ≠ 0 := by
  obtain ⟨h1, h2, -⟩ := parse_back _ (toL s) 0 l (Nat.le_refl _) (by omega) h
  exact ⟨by omega, h1⟩
theorem rt_small {f : Fr} (h : Rt f) : f.rg.length < 9223372036854775807 ∧ f.data.length < 4611686018427387904 := by
  refine ⟨?_, by have := h.long; omega⟩
  by_cases q : f.kind = 2
  · have := (rg_in (h.rg q).2).1
    omega
  · have e : f.rg = [] := by
      have hb := h.bare
      unfold bare at hb
      rw [if_neg q] at hb
      repeat' split at hb
      all_goals (rw [hb])
    rw [e]
    decide
/-- SameAll of two answers. -/
theorem same_ans {w : World} {s s' : ByteArray} {u v : Value} {x y : Int} (hu : Ans w s u x) (hv : Ans w s' v y) :
    Calls Tryd.prog 18 #[u, v] w fun e w' => (∃ b, e = .returned (.bool b) ∧ (parse (toL s) 0 = parse (toL s') 0 → b = true)) ∧ Below w.heap.size w w' := by
  have nil : FrsAt w (.slice none 0 0) [] := ⟨none, 0, rfl, .inl rfl⟩
  have fo : ∀ {s : ByteArray} {u : Value} {x : Int}, Ans w s u x → ∃ l, FrsAt w u l ∧ l.length ≤ 64 ∧ (∀ f ∈ l, f.rg.length < 9223372036854775807) ∧ (parse (toL s) 0 = .ok l ∨ ((∃ e, parse (toL s) 0 = .error e) ∧ l = [])) := fun {s u x} h => by
    rcases h with ⟨l, h1, -, h2⟩ | ⟨h1, -, rfl⟩
    · have q := parse_small h1
      exact ⟨l, h2, q.1, fun f hf => (rt_small (q.2 f hf).1).1, .inl h1⟩
    · exact ⟨[], nil, by simp, (fun f hf => by cases hf), .inr ⟨⟨_, h1⟩, rfl⟩⟩
  obtain ⟨l, a1, a2, a3, a4⟩ := fo hu
  obtain ⟨m, c1, c2, c3, c4⟩ := fo hv
  refine (rsameAll_ok a1 c1 (by omega) (by omega) a3 c3).mono ?_
  rintro e w' ⟨rfl, b⟩
  refine ⟨⟨_, rfl, fun h => eqFs_true ?_⟩, b⟩
  rcases a4 with a4 | ⟨⟨e1, a4⟩, rfl⟩
  · rcases c4 with c4 | ⟨⟨e2, c4⟩, rfl⟩
    · rw [a4, c4] at h
      injection h
    · rw [a4, c4] at h
      cases h
  · rcases c4 with c4 | ⟨⟨e2, c4⟩, rfl⟩
    · rw [a4, c4] at h
      cases h
    · rfl
theorem ans_x {w : World} {s s' : ByteArray} {u v : Value} {x y : Int} (hu : Ans w s u x) (hv : Ans w s' v y) (h : parse (toL s) 0 = parse (toL s') 0) : x = y := by
  rcases hu with ⟨l, h1, rfl, -⟩ | ⟨h1, -, -⟩
  · rcases hv with ⟨m, h2, rfl, -⟩ | ⟨h2, -, -⟩
    · rfl
    · rw [h1, h2] at h; cases h
  · rcases hv with ⟨m, h2, rfl, -⟩ | ⟨h2, -, -⟩
    · rw [h1, h2] at h; cases h
    · rw [h1, h2] at h; injection h
end Go.Proofs.YtmngpkkpkjnejaaDoor
