/-
  What hasMore and numbersFit answer, and so what the program's own Check of frames does. No condition but the bounds of a frame's numbers. What numbersFit and so the program's own Check of a frame answer. A frame's text has less than 2^47 bytes, its ranges' numbers are an int64's; no other condition. What the program's own Check of a frame answers. A frame's text has less than 2^47 bytes, its ranges' numbers are an int64's; no other condition.
-/
import Derived.Test.YtmngpkkpkjnejaaDoorFpA
import Derived.Test.YtmngpkkpkjnejaaDoorAkPChk
namespace Go.Proofs.YtmngpkkpkjnejaaDoor
set_option maxRecDepth 100000
open Go.RowKit Go.Sort

/-- A frame without a field. -/
def zap (g : Fr) : Lt → Fr
  | .inl () => { g with id := 0 }
  | .inr (.inl ()) => { g with off := 0 }
  | .inr (.inr (.inl ())) => { g with fin := false }
  | .inr (.inr (.inr (.inl ()))) => { g with code := 0 }
  | .inr (.inr (.inr (.inr (.inl ())))) => { g with data := [] }
  | .inr (.inr (.inr (.inr (.inr ())))) => { g with rg := [] }
/-- Has it anything at all? -/
def anyB (g : Fr) : Bool := (g.id != 0) || ((g.off != 0) || (g.fin || ((g.code != 0) || ((g.data != []) || decide (0 < g.rg.length)))))
theorem anyB_iff (g : Fr) : anyB g = false ↔ g.id = 0 ∧ g.off = 0 ∧ g.fin = false ∧ g.code = 0 ∧ g.data = [] ∧ g.rg = [] := by
  unfold anyB
  simp [bne]
def zapL (f : Fr) (l : List Lt) : Fr := l.foldl zap f
theorem zapL_snoc (f : Fr) (l : List Lt) {j : Nat} {x : Lt} (h : l[j]? = some x) : zapL f (l.take (j + 1)) = zap (zapL f (l.take j)) x := by
  unfold zapL
  rw [List.take_add_one, h]
  simp [List.foldl_append]
/-- The walk's own book: the frame's block and the text's place; what is older is kept. -/
structure Hm (w0 w : World) (f : Fr) (l : List Lt) (j : Nat) (g : Fr) (d : ByteArray) (sv : Value) : Prop where
  bi : Bi w w0.heap.size (w0.heap.size + 1) l j (fc g d sv)
  bel : Below w0.heap.size w0 w
  is : g = zapL f (l.take j)
  dat : toL d = g.data
  rng : ∃ a cp, sv = .slice a g.rg.length cp
theorem Hm.nx {w0 w : World} {f : Fr} {l : List Lt} {j : Nat} {g : Fr} {d : ByteArray} {sv : Value} (h : Hm w0 w f l j g d sv) : Bi (itW w (w0.heap.size + 1) (lts l) (j + 1)) w0.heap.size (w0.heap.size + 1) l (j + 1) (fc g d sv) ∧ Below w0.heap.size w0 (itW w (w0.heap.size + 1) (lts l) (j + 1)) :=
  ⟨h.bi.next, below_it h.bel (by omega)⟩
theorem str_empty (d : ByteArray) (l : L) (h : toL d = l) : d.toList.isEmpty = l.isEmpty := by
  subst h
  rw [ByteArray.toList_eq]
  rfl
set_option maxHeartbeats 4000000 in
theorem hasMore_ok (f : Fr) (d : ByteArray) (a : Option Addr) (cp : Nat) (l : List Lt) (w : World) (hd : toL d = f.data) :
    Calls Tryd.prog 23 #[frV f d (.slice a f.rg.length cp), .string (lts l)] w fun e w' => e = .returned (.bool (anyB (zapL f l))) ∧ Below w.heap.size w w' := by
  have z0 : Hid (Hm w ((w.alloc (.cells #[.int .i64 f.kind, .int .i64 f.id, .int .i64 f.off, .bool f.fin, .int .i64 f.code, .string d, .slice a f.rg.length cp] 24)).iter (lts l) 0) f l 0 f d (.slice a f.rg.length cp)) := by
    have e1 : (w.alloc (.cells #[.int .i64 f.kind, .int .i64 f.id, .int .i64 f.off, .bool f.fin, .int .i64 f.code, .string d, .slice a f.rg.length cp] 24)).heap.size = w.heap.size + 1 := by simp
    refine ⟨⟨?_, ?_, by omega⟩, ?_, rfl, hd, _, _, rfl⟩
    · exact (Lies.new w (fc f d (.slice a f.rg.length cp)) 24).of_block (((Below.refl _ _).alloc (Nat.le_refl _) _).block _ (by rw [e1]; omega))
    · have := World.iter_heap (w.alloc (.cells #[.int .i64 f.kind, .int .i64 f.id, .int .i64 f.off, .bool f.fin, .int .i64 f.code, .string d, .slice a f.rg.length cp] 24)) (lts l) 0
      rw [e1] at this
      exact this
    · exact ((Below.refl _ _).alloc (Nat.le_refl _) _).alloc (by rw [e1]; omega) _
  replace hd : Hid _ := hd
  unfold frV
  go_enter Tryd.func23, Tryd.ntmps23
  go_wp2
  go_loopg [] l.length (fun g' wr => ∃ (j : Nat) (g : Fr) (d1 : ByteArray) (a1 : Option Addr) (c1 : Nat), j + g' = l.length ∧ Hid (Hm w wr f l j g d1 (.slice a1 g.rg.length c1)))
  case atStart => exact ⟨0, f, d, a, cp, by omega, z0⟩
  case round =>
    obtain ⟨j, g, d1, a1, c1, hj, hm⟩ := hrel
    clear z0 hd
    rcases Nat.lt_or_ge j l.length with hlt | hge
    · have hx : l[j]? = some l[j] := List.getElem?_eq_getElem hlt
      obtain ⟨b2, e2⟩ := hm.out.nx
      have hnx0 := fun ty => next_at (P := Tryd.prog) wr (w.heap.size + 1) l j l[j] ty hm.out.bi.it hx
      have hs := zapL_snoc f l hx
      rw [← hm.out.is] at hs
      replace hs : Hid _ := hs
      have hdat : Hid _ := hm.out.dat
      replace hj : Hid _ := hj
      clear hm
      generalize itW wr (w.heap.size + 1) (lts l) (j + 1) = w2 at *
      generalize l[j] = x at *
      clear hx
      have fr := fun k (hk : k < 7) => b2.box.free k hk
      have f1 := fr 1 (by decide)
      have f2 := fr 2 (by decide)
      have f3 := fr 3 (by decide)
      have f4 := fr 4 (by decide)
      have f5 := fr 5 (by decide)
      have f6 := fr 6 (by decide)
      have q1 := b2.box.cell 1 (v := .int .i64 g.id) rfl
      have q2 := b2.box.cell 2 (v := .int .i64 g.off) rfl
      have q3 := b2.box.cell 3 (v := .bool g.fin) rfl
      have q4 := b2.box.cell 4 (v := .int .i64 g.code) rfl
      have q5 := b2.box.cell 5 (v := .string d1) rfl
      have q6 := b2.box.cell 6 (v := .slice a1 g.rg.length c1) rfl
      clear fr
      replace b2 : Hid _ := b2
      replace e2 : Hid _ := e2
      have hge' : Hid (w.heap.size ≤ w.heap.size) := Nat.le_refl _
      rcases x with ⟨⟨⟩⟩ | ⟨⟨⟩⟩ | ⟨⟨⟩⟩ | ⟨⟨⟩⟩ | ⟨⟨⟩⟩ | ⟨⟨⟩⟩
      · have hnx : ∀ ty, _ := fun ty => hnx0 ty
        simp only [Lt.n] at hnx
        clear hnx0
        have hm3 : Hid (Hm w (w2.setCell ⟨w.heap.size, 1, none⟩ (.int .i64 0)) f l (j + 1) (zap g Lt.i) d1 (.slice a1 (zap g Lt.i).rg.length c1)) :=
          ⟨b2.out.put 1 (by show 1 < 7; decide) (.int .i64 0) rfl, e2.out.setCell (p := ⟨w.heap.size, 1, none⟩) (Nat.le_refl _) _, hs.out.symm, hdat.out, _, _, rfl⟩
        clear hs hdat b2 e2 hge'
        go_wp2
        go_roundg (l.length - (j + 1))
        case measure => have := hj.out; omega
        case rel => exact ⟨j + 1, _, d1, a1, c1, by have := hj.out; omega, hm3⟩
      · have hnx : ∀ ty, _ := fun ty => hnx0 ty
        simp only [Lt.n] at hnx
        clear hnx0
        have hm3 : Hid (Hm w (w2.setCell ⟨w.heap.size, 2, none⟩ (.int .i64 0)) f l (j + 1) (zap g Lt.o) d1 (.slice a1 (zap g Lt.o).rg.length c1)) :=
          ⟨b2.out.put 2 (by show 2 < 7; decide) (.int .i64 0) rfl, e2.out.setCell (p := ⟨w.heap.size, 2, none⟩) (Nat.le_refl _) _, hs.out.symm, hdat.out, _, _, rfl⟩
        clear hs hdat b2 e2 hge'
        go_wp2
        go_roundg (l.length - (j + 1))
        case measure => have := hj.out; omega
        case rel => exact ⟨j + 1, _, d1, a1, c1, by have := hj.out; omega, hm3⟩
      · have hnx : ∀ ty, _ := fun ty => hnx0 ty
        simp only [Lt.n] at hnx
        clear hnx0
        have hm3 : Hid (Hm w (w2.setCell ⟨w.heap.size, 3, none⟩ (.bool false)) f l (j + 1) (zap g Lt.f) d1 (.slice a1 (zap g Lt.f).rg.length c1)) :=
          ⟨b2.out.put 3 (by show 3 < 7; decide) (.bool false) rfl, e2.out.setCell (p := ⟨w.heap.size, 3, none⟩) (Nat.le_refl _) _, hs.out.symm, hdat.out, _, _, rfl⟩
        clear hs hdat b2 e2 hge'
        go_wp2
        go_roundg (l.length - (j + 1))
        case measure => have := hj.out; omega
        case rel => exact ⟨j + 1, _, d1, a1, c1, by have := hj.out; omega, hm3⟩
      · have hnx : ∀ ty, _ := fun ty => hnx0 ty
        simp only [Lt.n] at hnx
        clear hnx0
        have hm3 : Hid (Hm w (w2.setCell ⟨w.heap.size, 4, none⟩ (.int .i64 0)) f l (j + 1) (zap g Lt.c) d1 (.slice a1 (zap g Lt.c).rg.length c1)) :=
          ⟨b2.out.put 4 (by show 4 < 7; decide) (.int .i64 0) rfl, e2.out.setCell (p := ⟨w.heap.size, 4, none⟩) (Nat.le_refl _) _, hs.out.symm, hdat.out, _, _, rfl⟩
        clear hs hdat b2 e2 hge'
        go_wp2
        go_roundg (l.length - (j + 1))
        case measure => have := hj.out; omega
        case rel => exact ⟨j + 1, _, d1, a1, c1, by have := hj.out; omega, hm3⟩
      · have hnx : ∀ ty, _ := fun ty => hnx0 ty
        simp only [Lt.n] at hnx
        clear hnx0
        have hm3 : Hid (Hm w (w2.setCell ⟨w.heap.size, 5, none⟩ (.string ⟨#[]⟩)) f l (j + 1) (zap g Lt.d) ⟨#[]⟩ (.slice a1 (zap g Lt.d).rg.length c1)) :=
          ⟨b2.out.put 5 (by show 5 < 7; decide) (.string ⟨#[]⟩) rfl, e2.out.setCell (p := ⟨w.heap.size, 5, none⟩) (Nat.le_refl _) _, hs.out.symm, rfl, _, _, rfl⟩
        clear hs hdat b2 e2 hge'
        go_wp2
        go_roundg (l.length - (j + 1))
        case measure => have := hj.out; omega
        case rel => exact ⟨j + 1, _, ⟨#[]⟩, a1, c1, by have := hj.out; omega, hm3⟩
      · have hnx : ∀ ty, _ := fun ty => hnx0 ty
        simp only [Lt.n] at hnx
        clear hnx0
        have hm3 : Hid (Hm w (w2.setCell ⟨w.heap.size, 6, none⟩ (.slice none 0 0)) f l (j + 1) (zap g Lt.r) d1 (.slice none (zap g Lt.r).rg.length 0)) :=
          ⟨b2.out.put 6 (by show 6 < 7; decide) (.slice none 0 0) rfl, e2.out.setCell (p := ⟨w.heap.size, 6, none⟩) (Nat.le_refl _) _, hs.out.symm, hdat.out, _, _, rfl⟩
        clear hs hdat b2 e2 hge'
        go_wp2
        go_roundg (l.length - (j + 1))
        case measure => have := hj.out; omega
        case rel => exact ⟨j + 1, _, d1, none, 0, by have := hj.out; omega, hm3⟩
    · obtain rfl : j = l.length := by omega
      have hnx := fun ty => next_end (P := Tryd.prog) wr (w.heap.size + 1) l ty hm.out.bi.it
      have q1 := hm.out.bi.box.cell 1 (v := .int .i64 g.id) rfl
      have q2 := hm.out.bi.box.cell 2 (v := .int .i64 g.off) rfl
      have q3 := hm.out.bi.box.cell 3 (v := .bool g.fin) rfl
      have q4 := hm.out.bi.box.cell 4 (v := .int .i64 g.code) rfl
      have q5 := hm.out.bi.box.cell 5 (v := .string d1) rfl
      have q6 := hm.out.bi.box.cell 6 (v := .slice a1 g.rg.length c1) rfl
      have hs := str_empty d1 g.data hm.out.dat
      have hbel : Hid _ := hm.out.bel
      have he : Hid (anyB (zapL f l) = anyB g) := by rw [Hid, hm.out.is, List.take_length]
      clear hm hj hge
      by_cases h1 : g.id = 0
      · by_cases h2 : g.off = 0
        · cases h3 : g.fin
          · by_cases h4 : g.code = 0
            · cases h5 : g.data.isEmpty
              · have g1 : (g.id != 0) = false := by simp [h1]
                have g2 : (g.off != 0) = false := by simp [h2]
                rw [h3] at q3
                have g4 : (g.code != 0) = false := by simp [h4]
                rw [h5] at hs
                have g5 : (g.data != []) = true := by cases hh : g.data <;> simp [hh] at h5 ⊢
                have hv : Hid (anyB (zapL f l) = true) := by rw [Hid, he.out]; unfold anyB; rw [g1, g2, h3, g4, g5]; simp
                clear he h1 h2 h3 h4 h5 g5
                go_wp2
                go_ret
                exact ⟨by rw [hv.out]; simp, hbel.out⟩
              · have g1 : (g.id != 0) = false := by simp [h1]
                have g2 : (g.off != 0) = false := by simp [h2]
                rw [h3] at q3
                have g4 : (g.code != 0) = false := by simp [h4]
                rw [h5] at hs
                have g5 : (g.data != []) = false := by cases hh : g.data <;> simp [hh] at h5 ⊢
                have hv : Hid (anyB (zapL f l) = decide (0 < g.rg.length)) := by rw [Hid, he.out]; unfold anyB; rw [g1, g2, h3, g4, g5]; simp
                clear he h1 h2 h3 h4 h5 g5
                go_wp2
                go_ret
                exact ⟨by rw [hv.out]; simp, hbel.out⟩
            · have g1 : (g.id != 0) = false := by simp [h1]
              have g2 : (g.off != 0) = false := by simp [h2]
              rw [h3] at q3
              have g4 : (g.code != 0) = true := by simp [h4]
              have hv : Hid (anyB (zapL f l) = true) := by rw [Hid, he.out]; unfold anyB; rw [g1, g2, h3, g4]; simp
              clear he h1 h2 h3 h4 hs
              go_wp2
              go_ret
              exact ⟨by rw [hv.out]; simp, hbel.out⟩
          · have g1 : (g.id != 0) = false := by simp [h1]
            have g2 : (g.off != 0) = false := by simp [h2]
            rw [h3] at q3
            have hv : Hid (anyB (zapL f l) = true) := by rw [Hid, he.out]; unfold anyB; rw [g1, g2, h3]; simp
            clear he h1 h2 h3 hs
            go_wp2
            go_ret
            exact ⟨by rw [hv.out]; simp, hbel.out⟩
        · have g1 : (g.id != 0) = false := by simp [h1]
          have g2 : (g.off != 0) = true := by simp [h2]
          have hv : Hid (anyB (zapL f l) = true) := by rw [Hid, he.out]; unfold anyB; rw [g1, g2]; simp
          clear he h1 h2 hs
          go_wp2
          go_ret
          exact ⟨by rw [hv.out]; simp, hbel.out⟩
      · have g1 : (g.id != 0) = true := by simp [h1]
        have hv : Hid (anyB (zapL f l) = true) := by rw [Hid, he.out]; unfold anyB; rw [g1]; simp
        clear he h1 hs
        go_wp2
        go_ret
        exact ⟨by rw [hv.out]; simp, hbel.out⟩
end Go.Proofs.YtmngpkkpkjnejaaDoor
namespace Go.Proofs.YtmngpkkpkjnejaaDoor
set_option maxRecDepth 100000
open Go.RowKit Go.Sort

def nfit (f : Fr) : Bool := numB f.id && (numB f.code && (decide (0 ≤ f.off) && decide (f.off ≤ 4611686018427387903 - (f.data.length : Int))))
theorem more_bare (f : Fr) : anyB (zapL f (fl f.kind)) = false ↔ f = bare f := by
  rw [anyB_iff]
  obtain ⟨k, i, o, fn, c, dd, rg⟩ := f
  unfold fl bare zapL
  simp only
  split
  · simp [zap]
  · split
    · simp [zap]
    · split
      · simp [zap]
      · split
        · simp [zap]
        · split
          · simp [zap]
          · split <;> simp [zap]
/-- What the program's steps say is what is wrong with a frame. -/
theorem chk_steps (f : Fr) (hl : f.data.length < 140737488355328) : (if kindB f.kind = false then (5 : Int) else if anyB (zapL f (fl f.kind)) = true then 3 else if nfit f = false then 2 else if 1200 < f.data.length then 8 else if f.kind = 2 ∧ (f.rg = [] ∨ chkR f.rg ≠ 0) then 3 else 0) = chkF f := by
  unfold chkF
  by_cases h1 : kindB f.kind = false
  · rw [if_pos h1, if_pos h1]
  · rw [if_neg h1, if_neg h1]
    by_cases h2 : f = bare f
    · rw [if_neg (show ¬ anyB (zapL f (fl f.kind)) = true by rw [(more_bare f).2 h2]; simp), if_neg (show ¬ eqF f (bare f) = false by rw [eqF_true h2]; simp)]
      have key : nfit f = false ↔ (numB f.id && numB f.off && numB f.code) = false ∨ (f.kind = 8 ∧ 4611686018427387903 - (f.data.length : Int) < f.off) := by
        have hd : f.data = [] ∨ f.kind = 8 ∨ (f.kind = 48 ∧ f.off = 0) := by
          obtain ⟨k, i, o, fn, c, dd, rg⟩ := f
          unfold bare at h2
          simp only at h2 ⊢
          split at h2
          · injection h2; left; assumption
          · split at h2
            · injection h2; left; assumption
            · split at h2
              · right; left; assumption
              · split at h2
                · injection h2; left; assumption
                · split at h2
                  · injection h2; left; assumption
                  · split at h2
                    · injection h2
                      right; right
                      exact ⟨by assumption, by assumption⟩
                    · injection h2; left; assumption
        have hl' : (0 : Int) ≤ f.data.length := by omega
        have e : nfit f = false ↔ ¬ (numB f.id = true ∧ numB f.code = true ∧ 0 ≤ f.off ∧ f.off ≤ 4611686018427387903 - (f.data.length : Int)) := by
          unfold nfit
          rw [← Bool.not_eq_true]
          simp [Bool.and_eq_true]
        rw [e, numB_iff, numB_iff]
        have e2 : (numB f.id && numB f.off && numB f.code) = false ↔ ¬ ((0 ≤ f.id ∧ f.id ≤ 4611686018427387903) ∧ (0 ≤ f.off ∧ f.off ≤ 4611686018427387903) ∧ (0 ≤ f.code ∧ f.code ≤ 4611686018427387903)) := by
          rw [← Bool.not_eq_true, Bool.and_eq_true, Bool.and_eq_true, numB_iff, numB_iff, numB_iff, and_assoc]
        rw [e2]
        rcases hd with hd | hd | ⟨hd, ho⟩
        · rw [hd] at hl' ⊢
          simp only [List.length_nil]
          omega
        · omega
        · omega
      by_cases h3 : nfit f = false
      · rw [if_pos h3]
        rcases key.1 h3 with q | q
        · rw [if_pos q]
        · by_cases q' : (numB f.id && numB f.off && numB f.code) = false
          · rw [if_pos q']
          · rw [if_neg q', if_pos q]
      · have h3' := h3
        rw [key, not_or] at h3'
        rw [if_neg h3, if_neg h3'.1, if_neg h3'.2]
    · rw [if_pos (show anyB (zapL f (fl f.kind)) = true by rw [← Bool.not_eq_false, more_bare]; exact h2), if_pos (eqF_false h2)]
set_option maxHeartbeats 1000000 in
theorem fit1 (k i o c : Int) (fn : Bool) (d : ByteArray) (sv : Value) (w : World) (h1 : numB i = false) :
    Calls Tryd.prog 24 #[.agg #[.int .i64 k, .int .i64 i, .int .i64 o, .bool fn, .int .i64 c, .string d, sv]] w fun e w' => e = .returned (.bool (false)) ∧ Below w.heap.size w w' := by
  have hb : Hid (Below w.heap.size w (w.alloc (.cells #[.int .i64 k, .int .i64 i, .int .i64 o, .bool fn, .int .i64 c, .string d, sv] 24))) := (Below.refl _ _).alloc (Nat.le_refl _) _
  have C : Hid (∀ w, _) := fun w => fits_ok i w
  rw [h1] at C
  clear h1
  go_enter Tryd.func24, Tryd.ntmps24
  go_wp2_with fail
  refine (C.out _).mono ?_
  rintro e w1 ⟨rfl, rfl⟩
  go_wp2_with fail
  go_ret
  exact ⟨rfl, hb.out⟩
set_option maxHeartbeats 1000000 in
theorem fit2 (k i o c : Int) (fn : Bool) (d : ByteArray) (sv : Value) (w : World) (h1 : numB i = true) (h2 : numB c = false) :
    Calls Tryd.prog 24 #[.agg #[.int .i64 k, .int .i64 i, .int .i64 o, .bool fn, .int .i64 c, .string d, sv]] w fun e w' => e = .returned (.bool (false)) ∧ Below w.heap.size w w' := by
  have hb : Hid (Below w.heap.size w (w.alloc (.cells #[.int .i64 k, .int .i64 i, .int .i64 o, .bool fn, .int .i64 c, .string d, sv] 24))) := (Below.refl _ _).alloc (Nat.le_refl _) _
  have C : Hid (∀ w, _) := fun w => fits_ok i w
  rw [h1] at C
  clear h1
  have D : Hid (∀ w, _) := fun w => fits_ok c w
  rw [h2] at D
  clear h2
  go_enter Tryd.func24, Tryd.ntmps24
  go_wp2_with fail
  refine (C.out _).mono ?_
  rintro e w1 ⟨rfl, rfl⟩
  go_wp2_with fail
  refine (D.out _).mono ?_
  rintro e w1 ⟨rfl, rfl⟩
  go_wp2_with fail
  go_ret
  exact ⟨rfl, hb.out⟩
set_option maxHeartbeats 1000000 in
theorem fit3 (k i o c : Int) (fn : Bool) (d : ByteArray) (sv : Value) (w : World) (h1 : numB i = true) (h2 : numB c = true) (h3 : decide (0 ≤ o) = false) :
    Calls Tryd.prog 24 #[.agg #[.int .i64 k, .int .i64 i, .int .i64 o, .bool fn, .int .i64 c, .string d, sv]] w fun e w' => e = .returned (.bool (false)) ∧ Below w.heap.size w w' := by
  have hb : Hid (Below w.heap.size w (w.alloc (.cells #[.int .i64 k, .int .i64 i, .int .i64 o, .bool fn, .int .i64 c, .string d, sv] 24))) := (Below.refl _ _).alloc (Nat.le_refl _) _
  have C : Hid (∀ w, _) := fun w => fits_ok i w
  rw [h1] at C
  clear h1
  have D : Hid (∀ w, _) := fun w => fits_ok c w
  rw [h2] at D
  clear h2
  go_enter Tryd.func24, Tryd.ntmps24
  go_wp2_with fail
  refine (C.out _).mono ?_
  rintro e w1 ⟨rfl, rfl⟩
  go_wp2_with fail
  refine (D.out _).mono ?_
  rintro e w1 ⟨rfl, rfl⟩
  go_wp2_with fail
  go_ret
  exact ⟨rfl, hb.out⟩
set_option maxHeartbeats 1000000 in
theorem fit4 (k i o c : Int) (fn : Bool) (d : ByteArray) (sv : Value) (w : World) (h1 : numB i = true) (h2 : numB c = true) (h3 : decide (0 ≤ o) = true) :
    Calls Tryd.prog 24 #[.agg #[.int .i64 k, .int .i64 i, .int .i64 o, .bool fn, .int .i64 c, .string d, sv]] w fun e w' => e = .returned (.bool (decide (o ≤ wrap64 (4611686018427387903 - (d.size : Int))))) ∧ Below w.heap.size w w' := by
  have hb : Hid (Below w.heap.size w (w.alloc (.cells #[.int .i64 k, .int .i64 i, .int .i64 o, .bool fn, .int .i64 c, .string d, sv] 24))) := (Below.refl _ _).alloc (Nat.le_refl _) _
  have C : Hid (∀ w, _) := fun w => fits_ok i w
  rw [h1] at C
  clear h1
  have D : Hid (∀ w, _) := fun w => fits_ok c w
  rw [h2] at D
  clear h2
  go_enter Tryd.func24, Tryd.ntmps24
  go_wp2_with fail
  refine (C.out _).mono ?_
  rintro e w1 ⟨rfl, rfl⟩
  go_wp2_with fail
  refine (D.out _).mono ?_
  rintro e w1 ⟨rfl, rfl⟩
  go_wp2_with fail
  go_ret
  exact ⟨rfl, hb.out⟩
theorem fit_ok (f : Fr) (d : ByteArray) (sv : Value) (w : World) (hd : toL d = f.data) (hl : f.data.length < 140737488355328) :
    Calls Tryd.prog 24 #[frV f d sv] w fun e w' => e = .returned (.bool (nfit f)) ∧ Below w.heap.size w w' := by
  have hsz : (d.size : Int) = f.data.length := by rw [← hd, toL_len]
  have hm : wrap64 (4611686018427387903 - (d.size : Int)) = 4611686018427387903 - (f.data.length : Int) := by
    unfold wrap64
    omega
  unfold nfit frV
  rw [← hm]
  cases h1 : numB f.id
  · exact fit1 _ _ _ _ _ _ _ _ h1
  · cases h2 : numB f.code
    · exact fit2 _ _ _ _ _ _ _ _ h1 h2
    · cases h3 : decide (0 ≤ f.off)
      · exact fit3 _ _ _ _ _ _ _ _ h1 h2 h3
      · exact fit4 _ _ _ _ _ _ _ _ h1 h2 h3
end Go.Proofs.YtmngpkkpkjnejaaDoor
namespace Go.Proofs.YtmngpkkpkjnejaaDoor
set_option maxRecDepth 100000
open Go.RowKit Go.Sort

/-- A block of one's own that was made first; what is older is kept. -/
structure Bx (w0 w : World) (vs : List Value) : Prop where
  lies : Lies w w0.heap.size vs
  bel : Below w0.heap.size w0 w
theorem Bx.new (w : World) (vs : List Value) (t : TypeId) : Bx w (w.alloc (.cells vs.toArray t)) vs := ⟨Lies.new w vs t, (Below.refl _ _).alloc (Nat.le_refl _) _⟩
theorem Bx.keep {w0 w w' : World} {vs : List Value} (h : Bx w0 w vs) (hl : 0 < vs.length) (b : Below w.heap.size w w') : Bx w0 w' vs := ⟨h.lies.keep hl b, h.bel.trans (b.mono h.bel.size)⟩
set_option maxHeartbeats 1000000 in
theorem chk5 (k i o c : Int) (fn : Bool) (d : ByteArray) (a : Option Addr) (n cp : Nat) (w : World) (fs : ByteArray) (F : ∀ w, Calls Tryd.prog 22 #[.int .i64 k] w fun e w' => e = .returned (.tuple #[.string fs, .bool false]) ∧ w' = w) :
    Calls Tryd.prog 9 #[.agg #[.int .i64 k, .int .i64 i, .int .i64 o, .bool fn, .int .i64 c, .string d, .slice a n cp]] w fun e w' => e = .returned (.int .i64 5) ∧ Below w.heap.size w w' := by
  have B1 := Bx.new w [.int .i64 k, .int .i64 i, .int .i64 o, .bool fn, .int .i64 c, .string d, .slice a n cp] 24
  replace F : Hid _ := F
  replace B1 : Hid _ := B1
  go_enter Tryd.func9, Tryd.ntmps9
  go_wp2_with fail
  refine (F.out _).mono ?_
  rintro e w1 ⟨rfl, rfl⟩
  go_wp2_with fail
  go_ret
  exact ⟨rfl, B1.out.bel⟩
set_option maxHeartbeats 1000000 in
theorem chk3 (k i o c : Int) (fn : Bool) (d : ByteArray) (a : Option Addr) (n cp : Nat) (w : World) (fs : ByteArray) (F : ∀ w, Calls Tryd.prog 22 #[.int .i64 k] w fun e w' => e = .returned (.tuple #[.string fs, .bool true]) ∧ w' = w) (M : ∀ w, Calls Tryd.prog 23 #[.agg #[.int .i64 k, .int .i64 i, .int .i64 o, .bool fn, .int .i64 c, .string d, .slice a n cp], .string fs] w fun e w' => e = .returned (.bool true) ∧ Below w.heap.size w w') :
    Calls Tryd.prog 9 #[.agg #[.int .i64 k, .int .i64 i, .int .i64 o, .bool fn, .int .i64 c, .string d, .slice a n cp]] w fun e w' => e = .returned (.int .i64 3) ∧ Below w.heap.size w w' := by
  have B1 := Bx.new w [.int .i64 k, .int .i64 i, .int .i64 o, .bool fn, .int .i64 c, .string d, .slice a n cp] 24
  replace F : Hid _ := F
  replace M : Hid _ := M
  replace B1 : Hid _ := B1
  go_enter Tryd.func9, Tryd.ntmps9
  go_wp2_with fail
  refine (F.out _).mono ?_
  rintro e w1 ⟨rfl, rfl⟩
  go_wp2_with fail
  refine (M.out _).mono ?_
  rintro e w2 ⟨rfl, b2⟩
  have B2 : Bx w w2 [.int .i64 k, .int .i64 i, .int .i64 o, .bool fn, .int .i64 c, .string d, .slice a n cp] := B1.out.keep (by show 0 < 7; decide) b2
  clear b2
  have q0 := B2.lies.cell 0 (v := .int .i64 k) rfl
  have q1 := B2.lies.cell 1 (v := .int .i64 i) rfl
  have q2 := B2.lies.cell 2 (v := .int .i64 o) rfl
  have q3 := B2.lies.cell 3 (v := .bool fn) rfl
  have q4 := B2.lies.cell 4 (v := .int .i64 c) rfl
  have q5 := B2.lies.cell 5 (v := .string d) rfl
  have q6 := B2.lies.cell 6 (v := .slice a n cp) rfl
  replace B2 : Hid _ := B2
  clear B1
  go_wp2_with fail
  go_ret
  exact ⟨rfl, B2.out.bel⟩
set_option maxHeartbeats 1000000 in
theorem chk2 (k i o c : Int) (fn : Bool) (d : ByteArray) (a : Option Addr) (n cp : Nat) (w : World) (fs : ByteArray) (F : ∀ w, Calls Tryd.prog 22 #[.int .i64 k] w fun e w' => e = .returned (.tuple #[.string fs, .bool true]) ∧ w' = w) (M : ∀ w, Calls Tryd.prog 23 #[.agg #[.int .i64 k, .int .i64 i, .int .i64 o, .bool fn, .int .i64 c, .string d, .slice a n cp], .string fs] w fun e w' => e = .returned (.bool false) ∧ Below w.heap.size w w') (N : ∀ w, Calls Tryd.prog 24 #[.agg #[.int .i64 k, .int .i64 i, .int .i64 o, .bool fn, .int .i64 c, .string d, .slice a n cp]] w fun e w' => e = .returned (.bool false) ∧ Below w.heap.size w w') :
    Calls Tryd.prog 9 #[.agg #[.int .i64 k, .int .i64 i, .int .i64 o, .bool fn, .int .i64 c, .string d, .slice a n cp]] w fun e w' => e = .returned (.int .i64 2) ∧ Below w.heap.size w w' := by
  have B1 := Bx.new w [.int .i64 k, .int .i64 i, .int .i64 o, .bool fn, .int .i64 c, .string d, .slice a n cp] 24
  replace F : Hid _ := F
  replace M : Hid _ := M
  replace N : Hid _ := N
  replace B1 : Hid _ := B1
  go_enter Tryd.func9, Tryd.ntmps9
  go_wp2_with fail
  refine (F.out _).mono ?_
  rintro e w1 ⟨rfl, rfl⟩
  go_wp2_with fail
  refine (M.out _).mono ?_
  rintro e w2 ⟨rfl, b2⟩
  have B2 : Bx w w2 [.int .i64 k, .int .i64 i, .int .i64 o, .bool fn, .int .i64 c, .string d, .slice a n cp] := B1.out.keep (by show 0 < 7; decide) b2
  clear b2
  have q0 := B2.lies.cell 0 (v := .int .i64 k) rfl
  have q1 := B2.lies.cell 1 (v := .int .i64 i) rfl
  have q2 := B2.lies.cell 2 (v := .int .i64 o) rfl
  have q3 := B2.lies.cell 3 (v := .bool fn) rfl
  have q4 := B2.lies.cell 4 (v := .int .i64 c) rfl
  have q5 := B2.lies.cell 5 (v := .string d) rfl
  have q6 := B2.lies.cell 6 (v := .slice a n cp) rfl
  replace B2 : Hid _ := B2
  clear B1
  go_wp2_with fail
  refine (N.out _).mono ?_
  rintro e w3 ⟨rfl, b3⟩
  clear q0 q1 q2 q3 q4 q5 q6
  have B3 : Bx w w3 [.int .i64 k, .int .i64 i, .int .i64 o, .bool fn, .int .i64 c, .string d, .slice a n cp] := B2.out.keep (by show 0 < 7; decide) b3
  clear b3
  have q0 := B3.lies.cell 0 (v := .int .i64 k) rfl
  have q1 := B3.lies.cell 1 (v := .int .i64 i) rfl
  have q2 := B3.lies.cell 2 (v := .int .i64 o) rfl
  have q3 := B3.lies.cell 3 (v := .bool fn) rfl
  have q4 := B3.lies.cell 4 (v := .int .i64 c) rfl
  have q5 := B3.lies.cell 5 (v := .string d) rfl
  have q6 := B3.lies.cell 6 (v := .slice a n cp) rfl
  replace B3 : Hid _ := B3
  clear B2
  go_wp2_with fail
  go_ret
  exact ⟨rfl, B3.out.bel⟩
set_option maxHeartbeats 1000000 in
theorem chk8 (k i o c : Int) (fn : Bool) (d : ByteArray) (a : Option Addr) (n cp : Nat) (w : World) (fs : ByteArray) (F : ∀ w, Calls Tryd.prog 22 #[.int .i64 k] w fun e w' => e = .returned (.tuple #[.string fs, .bool true]) ∧ w' = w) (M : ∀ w, Calls Tryd.prog 23 #[.agg #[.int .i64 k, .int .i64 i, .int .i64 o, .bool fn, .int .i64 c, .string d, .slice a n cp], .string fs] w fun e w' => e = .returned (.bool false) ∧ Below w.heap.size w w') (N : ∀ w, Calls Tryd.prog 24 #[.agg #[.int .i64 k, .int .i64 i, .int .i64 o, .bool fn, .int .i64 c, .string d, .slice a n cp]] w fun e w' => e = .returned (.bool true) ∧ Below w.heap.size w w') (hl : decide ((1200 : Int) < d.size) = true) :
    Calls Tryd.prog 9 #[.agg #[.int .i64 k, .int .i64 i, .int .i64 o, .bool fn, .int .i64 c, .string d, .slice a n cp]] w fun e w' => e = .returned (.int .i64 8) ∧ Below w.heap.size w w' := by
  have B1 := Bx.new w [.int .i64 k, .int .i64 i, .int .i64 o, .bool fn, .int .i64 c, .string d, .slice a n cp] 24
  replace F : Hid _ := F
  replace M : Hid _ := M
  replace N : Hid _ := N
  replace B1 : Hid _ := B1
  go_enter Tryd.func9, Tryd.ntmps9
  go_wp2_with fail
  refine (F.out _).mono ?_
  rintro e w1 ⟨rfl, rfl⟩
  go_wp2_with fail
  refine (M.out _).mono ?_
  rintro e w2 ⟨rfl, b2⟩
  have B2 : Bx w w2 [.int .i64 k, .int .i64 i, .int .i64 o, .bool fn, .int .i64 c, .string d, .slice a n cp] := B1.out.keep (by show 0 < 7; decide) b2
  clear b2
  have q0 := B2.lies.cell 0 (v := .int .i64 k) rfl
  have q1 := B2.lies.cell 1 (v := .int .i64 i) rfl
  have q2 := B2.lies.cell 2 (v := .int .i64 o) rfl
  have q3 := B2.lies.cell 3 (v := .bool fn) rfl
  have q4 := B2.lies.cell 4 (v := .int .i64 c) rfl
  have q5 := B2.lies.cell 5 (v := .string d) rfl
  have q6 := B2.lies.cell 6 (v := .slice a n cp) rfl
  replace B2 : Hid _ := B2
  clear B1
  go_wp2_with fail
  refine (N.out _).mono ?_
  rintro e w3 ⟨rfl, b3⟩
  clear q0 q1 q2 q3 q4 q5 q6
  have B3 : Bx w w3 [.int .i64 k, .int .i64 i, .int .i64 o, .bool fn, .int .i64 c, .string d, .slice a n cp] := B2.out.keep (by show 0 < 7; decide) b3
  clear b3
  have q0 := B3.lies.cell 0 (v := .int .i64 k) rfl
  have q1 := B3.lies.cell 1 (v := .int .i64 i) rfl
  have q2 := B3.lies.cell 2 (v := .int .i64 o) rfl
  have q3 := B3.lies.cell 3 (v := .bool fn) rfl
  have q4 := B3.lies.cell 4 (v := .int .i64 c) rfl
  have q5 := B3.lies.cell 5 (v := .string d) rfl
  have q6 := B3.lies.cell 6 (v := .slice a n cp) rfl
  replace B3 : Hid _ := B3
  clear B2
  go_wp2_with fail
  go_ret
  exact ⟨rfl, B3.out.bel⟩
set_option maxHeartbeats 1000000 in
theorem chk0 (k i o c : Int) (fn : Bool) (d : ByteArray) (a : Option Addr) (n cp : Nat) (w : World) (fs : ByteArray) (F : ∀ w, Calls Tryd.prog 22 #[.int .i64 k] w fun e w' => e = .returned (.tuple #[.string fs, .bool true]) ∧ w' = w) (M : ∀ w, Calls Tryd.prog 23 #[.agg #[.int .i64 k, .int .i64 i, .int .i64 o, .bool fn, .int .i64 c, .string d, .slice a n cp], .string fs] w fun e w' => e = .returned (.bool false) ∧ Below w.heap.size w w') (N : ∀ w, Calls Tryd.prog 24 #[.agg #[.int .i64 k, .int .i64 i, .int .i64 o, .bool fn, .int .i64 c, .string d, .slice a n cp]] w fun e w' => e = .returned (.bool true) ∧ Below w.heap.size w w') (hl : decide ((1200 : Int) < d.size) = false) (hk : (k == 2) = false) :
    Calls Tryd.prog 9 #[.agg #[.int .i64 k, .int .i64 i, .int .i64 o, .bool fn, .int .i64 c, .string d, .slice a n cp]] w fun e w' => e = .returned (.int .i64 0) ∧ Below w.heap.size w w' := by
  have B1 := Bx.new w [.int .i64 k, .int .i64 i, .int .i64 o, .bool fn, .int .i64 c, .string d, .slice a n cp] 24
  replace F : Hid _ := F
  replace M : Hid _ := M
  replace N : Hid _ := N
  replace B1 : Hid _ := B1
  go_enter Tryd.func9, Tryd.ntmps9
  go_wp2_with fail
  refine (F.out _).mono ?_
  rintro e w1 ⟨rfl, rfl⟩
  go_wp2_with fail
  refine (M.out _).mono ?_
  rintro e w2 ⟨rfl, b2⟩
  have B2 : Bx w w2 [.int .i64 k, .int .i64 i, .int .i64 o, .bool fn, .int .i64 c, .string d, .slice a n cp] := B1.out.keep (by show 0 < 7; decide) b2
  clear b2
  have q0 := B2.lies.cell 0 (v := .int .i64 k) rfl
  have q1 := B2.lies.cell 1 (v := .int .i64 i) rfl
  have q2 := B2.lies.cell 2 (v := .int .i64 o) rfl
  have q3 := B2.lies.cell 3 (v := .bool fn) rfl
  have q4 := B2.lies.cell 4 (v := .int .i64 c) rfl
  have q5 := B2.lies.cell 5 (v := .string d) rfl
  have q6 := B2.lies.cell 6 (v := .slice a n cp) rfl
  replace B2 : Hid _ := B2
  clear B1
  go_wp2_with fail
  refine (N.out _).mono ?_
  rintro e w3 ⟨rfl, b3⟩
  clear q0 q1 q2 q3 q4 q5 q6
  have B3 : Bx w w3 [.int .i64 k, .int .i64 i, .int .i64 o, .bool fn, .int .i64 c, .string d, .slice a n cp] := B2.out.keep (by show 0 < 7; decide) b3
  clear b3
  have q0 := B3.lies.cell 0 (v := .int .i64 k) rfl
  have q1 := B3.lies.cell 1 (v := .int .i64 i) rfl
  have q2 := B3.lies.cell 2 (v := .int .i64 o) rfl
  have q3 := B3.lies.cell 3 (v := .bool fn) rfl
  have q4 := B3.lies.cell 4 (v := .int .i64 c) rfl
  have q5 := B3.lies.cell 5 (v := .string d) rfl
  have q6 := B3.lies.cell 6 (v := .slice a n cp) rfl
  replace B3 : Hid _ := B3
  clear B2
  go_wp2_with fail
  go_ret
  exact ⟨rfl, B3.out.bel⟩
set_option maxHeartbeats 1000000 in
theorem chkN (k i o c : Int) (fn : Bool) (d : ByteArray) (a : Option Addr) (n cp : Nat) (w : World) (fs : ByteArray) (F : ∀ w, Calls Tryd.prog 22 #[.int .i64 k] w fun e w' => e = .returned (.tuple #[.string fs, .bool true]) ∧ w' = w) (M : ∀ w, Calls Tryd.prog 23 #[.agg #[.int .i64 k, .int .i64 i, .int .i64 o, .bool fn, .int .i64 c, .string d, .slice a n cp], .string fs] w fun e w' => e = .returned (.bool false) ∧ Below w.heap.size w w') (N : ∀ w, Calls Tryd.prog 24 #[.agg #[.int .i64 k, .int .i64 i, .int .i64 o, .bool fn, .int .i64 c, .string d, .slice a n cp]] w fun e w' => e = .returned (.bool true) ∧ Below w.heap.size w w') (hl : decide ((1200 : Int) < d.size) = false) (hk : (k == 2) = true) (hn : ((n : Int) == 0) = true) :
    Calls Tryd.prog 9 #[.agg #[.int .i64 k, .int .i64 i, .int .i64 o, .bool fn, .int .i64 c, .string d, .slice a n cp]] w fun e w' => e = .returned (.int .i64 3) ∧ Below w.heap.size w w' := by
  have B1 := Bx.new w [.int .i64 k, .int .i64 i, .int .i64 o, .bool fn, .int .i64 c, .string d, .slice a n cp] 24
  replace F : Hid _ := F
  replace M : Hid _ := M
  replace N : Hid _ := N
  replace B1 : Hid _ := B1
  go_enter Tryd.func9, Tryd.ntmps9
  go_wp2_with fail
  refine (F.out _).mono ?_
  rintro e w1 ⟨rfl, rfl⟩
  go_wp2_with fail
  refine (M.out _).mono ?_
  rintro e w2 ⟨rfl, b2⟩
  have B2 : Bx w w2 [.int .i64 k, .int .i64 i, .int .i64 o, .bool fn, .int .i64 c, .string d, .slice a n cp] := B1.out.keep (by show 0 < 7; decide) b2
  clear b2
  have q0 := B2.lies.cell 0 (v := .int .i64 k) rfl
  have q1 := B2.lies.cell 1 (v := .int .i64 i) rfl
  have q2 := B2.lies.cell 2 (v := .int .i64 o) rfl
  have q3 := B2.lies.cell 3 (v := .bool fn) rfl
  have q4 := B2.lies.cell 4 (v := .int .i64 c) rfl
  have q5 := B2.lies.cell 5 (v := .string d) rfl
  have q6 := B2.lies.cell 6 (v := .slice a n cp) rfl
  replace B2 : Hid _ := B2
  clear B1
  go_wp2_with fail
  refine (N.out _).mono ?_
  rintro e w3 ⟨rfl, b3⟩
  clear q0 q1 q2 q3 q4 q5 q6
  have B3 : Bx w w3 [.int .i64 k, .int .i64 i, .int .i64 o, .bool fn, .int .i64 c, .string d, .slice a n cp] := B2.out.keep (by show 0 < 7; decide) b3
  clear b3
  have q0 := B3.lies.cell 0 (v := .int .i64 k) rfl
  have q1 := B3.lies.cell 1 (v := .int .i64 i) rfl
  have q2 := B3.lies.cell 2 (v := .int .i64 o) rfl
  have q3 := B3.lies.cell 3 (v := .bool fn) rfl
  have q4 := B3.lies.cell 4 (v := .int .i64 c) rfl
  have q5 := B3.lies.cell 5 (v := .string d) rfl
  have q6 := B3.lies.cell 6 (v := .slice a n cp) rfl
  replace B3 : Hid _ := B3
  clear B2
  go_wp2_with fail
  go_ret
  exact ⟨rfl, B3.out.bel⟩
set_option maxHeartbeats 1000000 in
theorem chkA (k i o c : Int) (fn : Bool) (d : ByteArray) (a : Option Addr) (n cp : Nat) (w : World) (fs : ByteArray) (F : ∀ w, Calls Tryd.prog 22 #[.int .i64 k] w fun e w' => e = .returned (.tuple #[.string fs, .bool true]) ∧ w' = w) (M : ∀ w, Calls Tryd.prog 23 #[.agg #[.int .i64 k, .int .i64 i, .int .i64 o, .bool fn, .int .i64 c, .string d, .slice a n cp], .string fs] w fun e w' => e = .returned (.bool false) ∧ Below w.heap.size w w') (N : ∀ w, Calls Tryd.prog 24 #[.agg #[.int .i64 k, .int .i64 i, .int .i64 o, .bool fn, .int .i64 c, .string d, .slice a n cp]] w fun e w' => e = .returned (.bool true) ∧ Below w.heap.size w w') (x : Int) (C : ∀ w1, Below w.heap.size w w1 → Calls Tryd.prog 25 #[.slice a n cp] w1 fun e w' => e = .returned (.int .i64 x) ∧ Below w1.heap.size w1 w') (hl : decide ((1200 : Int) < d.size) = false) (hk : (k == 2) = true) (hn : ((n : Int) == 0) = false) (hx : (x != 0) = true) :
    Calls Tryd.prog 9 #[.agg #[.int .i64 k, .int .i64 i, .int .i64 o, .bool fn, .int .i64 c, .string d, .slice a n cp]] w fun e w' => e = .returned (.int .i64 3) ∧ Below w.heap.size w w' := by
  have B1 := Bx.new w [.int .i64 k, .int .i64 i, .int .i64 o, .bool fn, .int .i64 c, .string d, .slice a n cp] 24
  replace F : Hid _ := F
  replace M : Hid _ := M
  replace N : Hid _ := N
  replace C : Hid _ := C
  replace B1 : Hid _ := B1
  go_enter Tryd.func9, Tryd.ntmps9
  go_wp2_with fail
  refine (F.out _).mono ?_
  rintro e w1 ⟨rfl, rfl⟩
  go_wp2_with fail
  refine (M.out _).mono ?_
  rintro e w2 ⟨rfl, b2⟩
  have B2 : Bx w w2 [.int .i64 k, .int .i64 i, .int .i64 o, .bool fn, .int .i64 c, .string d, .slice a n cp] := B1.out.keep (by show 0 < 7; decide) b2
  clear b2
  have q0 := B2.lies.cell 0 (v := .int .i64 k) rfl
  have q1 := B2.lies.cell 1 (v := .int .i64 i) rfl
  have q2 := B2.lies.cell 2 (v := .int .i64 o) rfl
  have q3 := B2.lies.cell 3 (v := .bool fn) rfl
  have q4 := B2.lies.cell 4 (v := .int .i64 c) rfl
  have q5 := B2.lies.cell 5 (v := .string d) rfl
  have q6 := B2.lies.cell 6 (v := .slice a n cp) rfl
  replace B2 : Hid _ := B2
  clear B1
  go_wp2_with fail
  refine (N.out _).mono ?_
  rintro e w3 ⟨rfl, b3⟩
  clear q0 q1 q2 q3 q4 q5 q6
  have B3 : Bx w w3 [.int .i64 k, .int .i64 i, .int .i64 o, .bool fn, .int .i64 c, .string d, .slice a n cp] := B2.out.keep (by show 0 < 7; decide) b3
  clear b3
  have q0 := B3.lies.cell 0 (v := .int .i64 k) rfl
  have q1 := B3.lies.cell 1 (v := .int .i64 i) rfl
  have q2 := B3.lies.cell 2 (v := .int .i64 o) rfl
  have q3 := B3.lies.cell 3 (v := .bool fn) rfl
  have q4 := B3.lies.cell 4 (v := .int .i64 c) rfl
  have q5 := B3.lies.cell 5 (v := .string d) rfl
  have q6 := B3.lies.cell 6 (v := .slice a n cp) rfl
  replace B3 : Hid _ := B3
  clear B2
  go_wp2_with fail
  refine (C.out _ B3.out.bel).mono ?_
  rintro e w4 ⟨rfl, b4⟩
  clear q0 q1 q2 q3 q4 q5 q6
  have B4 : Bx w w4 [.int .i64 k, .int .i64 i, .int .i64 o, .bool fn, .int .i64 c, .string d, .slice a n cp] := B3.out.keep (by show 0 < 7; decide) b4
  clear b4
  have q0 := B4.lies.cell 0 (v := .int .i64 k) rfl
  have q1 := B4.lies.cell 1 (v := .int .i64 i) rfl
  have q2 := B4.lies.cell 2 (v := .int .i64 o) rfl
  have q3 := B4.lies.cell 3 (v := .bool fn) rfl
  have q4 := B4.lies.cell 4 (v := .int .i64 c) rfl
  have q5 := B4.lies.cell 5 (v := .string d) rfl
  have q6 := B4.lies.cell 6 (v := .slice a n cp) rfl
  replace B4 : Hid _ := B4
  clear B3
  go_wp2_with fail
  go_ret
  exact ⟨rfl, B4.out.bel⟩
set_option maxHeartbeats 1000000 in
theorem chkB (k i o c : Int) (fn : Bool) (d : ByteArray) (a : Option Addr) (n cp : Nat) (w : World) (fs : ByteArray) (F : ∀ w, Calls Tryd.prog 22 #[.int .i64 k] w fun e w' => e = .returned (.tuple #[.string fs, .bool true]) ∧ w' = w) (M : ∀ w, Calls Tryd.prog 23 #[.agg #[.int .i64 k, .int .i64 i, .int .i64 o, .bool fn, .int .i64 c, .string d, .slice a n cp], .string fs] w fun e w' => e = .returned (.bool false) ∧ Below w.heap.size w w') (N : ∀ w, Calls Tryd.prog 24 #[.agg #[.int .i64 k, .int .i64 i, .int .i64 o, .bool fn, .int .i64 c, .string d, .slice a n cp]] w fun e w' => e = .returned (.bool true) ∧ Below w.heap.size w w') (x : Int) (C : ∀ w1, Below w.heap.size w w1 → Calls Tryd.prog 25 #[.slice a n cp] w1 fun e w' => e = .returned (.int .i64 x) ∧ Below w1.heap.size w1 w') (hl : decide ((1200 : Int) < d.size) = false) (hk : (k == 2) = true) (hn : ((n : Int) == 0) = false) (hx : (x != 0) = false) :
    Calls Tryd.prog 9 #[.agg #[.int .i64 k, .int .i64 i, .int .i64 o, .bool fn, .int .i64 c, .string d, .slice a n cp]] w fun e w' => e = .returned (.int .i64 0) ∧ Below w.heap.size w w' := by
  have B1 := Bx.new w [.int .i64 k, .int .i64 i, .int .i64 o, .bool fn, .int .i64 c, .string d, .slice a n cp] 24
  replace F : Hid _ := F
  replace M : Hid _ := M
  replace N : Hid _ := N
  replace C : Hid _ := C
  replace B1 : Hid _ := B1
  go_enter Tryd.func9, Tryd.ntmps9
  go_wp2_with fail
  refine (F.out _).mono ?_
  rintro e w1 ⟨rfl, rfl⟩
  go_wp2_with fail
  refine (M.out _).mono ?_
  rintro e w2 ⟨rfl, b2⟩
  have B2 : Bx w w2 [.int .i64 k, .int .i64 i, .int .i64 o, .bool fn, .int .i64 c, .string d, .slice a n cp] := B1.out.keep (by show 0 < 7; decide) b2
  clear b2
  have q0 := B2.lies.cell 0 (v := .int .i64 k) rfl
  have q1 := B2.lies.cell 1 (v := .int .i64 i) rfl
  have q2 := B2.lies.cell 2 (v := .int .i64 o) rfl
  have q3 := B2.lies.cell 3 (v := .bool fn) rfl
  have q4 := B2.lies.cell 4 (v := .int .i64 c) rfl
  have q5 := B2.lies.cell 5 (v := .string d) rfl
  have q6 := B2.lies.cell 6 (v := .slice a n cp) rfl
  replace B2 : Hid _ := B2
  clear B1
  go_wp2_with fail
  refine (N.out _).mono ?_
  rintro e w3 ⟨rfl, b3⟩
  clear q0 q1 q2 q3 q4 q5 q6
  have B3 : Bx w w3 [.int .i64 k, .int .i64 i, .int .i64 o, .bool fn, .int .i64 c, .string d, .slice a n cp] := B2.out.keep (by show 0 < 7; decide) b3
  clear b3
  have q0 := B3.lies.cell 0 (v := .int .i64 k) rfl
  have q1 := B3.lies.cell 1 (v := .int .i64 i) rfl
  have q2 := B3.lies.cell 2 (v := .int .i64 o) rfl
  have q3 := B3.lies.cell 3 (v := .bool fn) rfl
  have q4 := B3.lies.cell 4 (v := .int .i64 c) rfl
  have q5 := B3.lies.cell 5 (v := .string d) rfl
  have q6 := B3.lies.cell 6 (v := .slice a n cp) rfl
  replace B3 : Hid _ := B3
  clear B2
  go_wp2_with fail
  refine (C.out _ B3.out.bel).mono ?_
  rintro e w4 ⟨rfl, b4⟩
  clear q0 q1 q2 q3 q4 q5 q6
  have B4 : Bx w w4 [.int .i64 k, .int .i64 i, .int .i64 o, .bool fn, .int .i64 c, .string d, .slice a n cp] := B3.out.keep (by show 0 < 7; decide) b4
  clear b4
  have q0 := B4.lies.cell 0 (v := .int .i64 k) rfl
  have q1 := B4.lies.cell 1 (v := .int .i64 i) rfl
  have q2 := B4.lies.cell 2 (v := .int .i64 o) rfl
  have q3 := B4.lies.cell 3 (v := .bool fn) rfl
  have q4 := B4.lies.cell 4 (v := .int .i64 c) rfl
  have q5 := B4.lies.cell 5 (v := .string d) rfl
  have q6 := B4.lies.cell 6 (v := .slice a n cp) rfl
  replace B4 : Hid _ := B4
  clear B3
  go_wp2_with fail
  go_ret
  exact ⟨rfl, B4.out.bel⟩
theorem fcheck_own {w : World} {v : Value} {f : Fr} (hf : FrIs w v f) (hl : f.data.length < 140737488355328) (hn : f.rg.length < 9223372036854775807) (hb : ∀ x ∈ f.rg, (-9223372036854775808 ≤ x.1 ∧ x.1 ≤ 9223372036854775807) ∧ (-9223372036854775808 ≤ x.2 ∧ x.2 ≤ 9223372036854775807)) :
    Calls Tryd.prog 9 #[v] w fun e w' => e = .returned (.int .i64 (chkF f)) ∧ Below w.heap.size w w' := by
  obtain ⟨d, a, cp, rfl, hd, hr⟩ := hf
  have F := fun w => fieldsOf_ok f.kind w
  have M := fun w => hasMore_ok f d a cp (fl f.kind) w hd
  have N := fun w => fit_ok f d (.slice a f.rg.length cp) w hd hl
  have C := fun (w1 : World) (b : Below w.heap.size w w1) => pchk_ok _ f.rg w1 (hr.keep b) hn hb
  have hsz : (d.size : Int) = f.data.length := by rw [← hd, toL_len]
  rw [← chk_steps f hl]
  unfold frV at M N ⊢
  cases h1 : kindB f.kind
  · rw [h1] at F
    rw [if_pos rfl]
    exact chk5 _ _ _ _ _ _ _ _ _ _ _ F
  · rw [h1] at F
    rw [if_neg (by simp)]
    cases h2 : anyB (zapL f (fl f.kind))
    · rw [h2] at M
      rw [if_neg (by simp)]
      cases h3 : nfit f
      · rw [h3] at N
        rw [if_pos rfl]
        exact chk2 _ _ _ _ _ _ _ _ _ _ _ F M N
      · rw [h3] at N
        rw [if_neg (by simp)]
        by_cases h4 : 1200 < f.data.length
        · rw [if_pos h4]
          exact chk8 _ _ _ _ _ _ _ _ _ _ _ F M N (decide_eq_true (by omega))
        · rw [if_neg h4]
          have g4 : decide ((1200 : Int) < d.size) = false := decide_eq_false (by omega)
          by_cases h5 : f.kind = 2
          · have g5 : (f.kind == 2) = true := by simp [h5]
            by_cases h6 : f.rg = []
            · rw [if_pos ⟨h5, .inl h6⟩]
              exact chkN _ _ _ _ _ _ _ _ _ _ _ F M N g4 g5 (by simp [h6])
            · have g6 : ((f.rg.length : Int) == 0) = false := by
                have := List.length_pos_iff.2 h6
                simp
                omega
              by_cases h7 : chkR f.rg = 0
              · rw [if_neg (by simp [h6, h7])]
                exact chkB _ _ _ _ _ _ _ _ _ _ _ F M N _ C g4 g5 g6 (by simp [h7])
              · rw [if_pos ⟨h5, .inr h7⟩]
                exact chkA _ _ _ _ _ _ _ _ _ _ _ F M N _ C g4 g5 g6 (by simp [h7])
          · rw [if_neg (by simp [h5])]
            exact chk0 _ _ _ _ _ _ _ _ _ _ _ F M N g4 (by simp [h5])
    · rw [h2] at M
      rw [if_pos rfl]
      exact chk3 _ _ _ _ _ _ _ _ _ _ _ F M
end Go.Proofs.YtmngpkkpkjnejaaDoor
