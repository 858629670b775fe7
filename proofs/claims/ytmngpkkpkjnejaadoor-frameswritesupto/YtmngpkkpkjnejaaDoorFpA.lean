/-
  The letters of a kind's fields, as a text that is gone through; a frame in a block of its own beside the place where the text stands; what fieldsOf, fits and throwIf do. No condition. What a builder's WriteString, WriteByte and String do in this program, of a builder that the call has made itself. Its text has at most 2^47 bytes; no other condition.
-/
import Derived.Test.YtmngpkkpkjnejaaDoorFrVal
import Derived.Deep.LoopGhost
import Derived.Laws.RangeString
import Derived.Laws.Panics
import Derived.Test.YtmngpkkpkjnejaaDoorShelf
import Derived.Lib.FrozenHead2
import Derived.Lib.OthersKept
namespace Go.Proofs.YtmngpkkpkjnejaaDoor
set_option maxRecDepth 100000
open Go.RowKit Go.Sort

/-- A field of a frame, by its letter: one of six. -/
abbrev Lt := Unit ⊕ Unit ⊕ Unit ⊕ Unit ⊕ Unit ⊕ Unit
abbrev Lt.i : Lt := .inl ()
abbrev Lt.o : Lt := .inr (.inl ())
abbrev Lt.f : Lt := .inr (.inr (.inl ()))
abbrev Lt.c : Lt := .inr (.inr (.inr (.inl ())))
abbrev Lt.d : Lt := .inr (.inr (.inr (.inr (.inl ()))))
abbrev Lt.r : Lt := .inr (.inr (.inr (.inr (.inr ()))))
def Lt.n : Lt → Nat
  | .inl () => 105
  | .inr (.inl ()) => 111
  | .inr (.inr (.inl ())) => 102
  | .inr (.inr (.inr (.inl ()))) => 99
  | .inr (.inr (.inr (.inr (.inl ())))) => 100
  | .inr (.inr (.inr (.inr (.inr ())))) => 114
/-- The fields of a kind. -/
def fl (k : Int) : List Lt :=
  if k = 2 then [Lt.r] else if k = 4 then [Lt.i, Lt.c, Lt.o] else if k = 8 then [Lt.i, Lt.o, Lt.f, Lt.d] else if k = 17 then [Lt.i, Lt.o] else if k = 28 then [Lt.c] else if k = 48 then [Lt.d] else []
def lts (l : List Lt) : ByteArray := ⟨(l.map fun x => UInt8.ofNat x.n).toArray⟩
theorem lts_size (l : List Lt) : (lts l).size = l.length := by
  show ((l.map fun x => UInt8.ofNat x.n).toArray).size = _
  simp
theorem lts_at {l : List Lt} {j : Nat} {x : Lt} (h : l[j]? = some x) (hj : j < (lts l).size) : ((lts l)[j]'hj).toNat = x.n := by
  have hl : j < l.length := by rw [lts_size] at hj; exact hj
  have e : (lts l)[j]'hj = UInt8.ofNat x.n := by
    have q : (lts l)[j]'hj = (l.map fun x => UInt8.ofNat x.n)[j]'(by rw [List.length_map]; exact hl) := rfl
    rw [q, List.getElem_map]
    rw [List.getElem?_eq_getElem hl] at h
    injection h with h
    rw [h]
  rw [e]
  rcases x with ⟨⟨⟩⟩ | ⟨⟨⟩⟩ | ⟨⟨⟩⟩ | ⟨⟨⟩⟩ | ⟨⟨⟩⟩ | ⟨⟨⟩⟩ <;> rfl
theorem lt_ascii (x : Lt) : Lt.n x < 128 := by rcases x with ⟨⟨⟩⟩ | ⟨⟨⟩⟩ | ⟨⟨⟩⟩ | ⟨⟨⟩⟩ | ⟨⟨⟩⟩ | ⟨⟨⟩⟩ <;> decide
/-- The world with the place in the text moved. -/
def itW (w : World) (I : Nat) (s : ByteArray) (j : Nat) : World := { w with heap := w.heap.setIfInBounds I (.stringIter s j) }
theorem itW_self {w : World} {I : Nat} {s : ByteArray} {j : Nat} (h : I < w.heap.size) : (itW w I s j).heap[I]? = some (.stringIter s j) := by
  simp [itW, h]
theorem itW_other {w : World} {I k : Nat} {s : ByteArray} {j : Nat} (h : k ≠ I) : (itW w I s j).heap[k]? = w.heap[k]? := by
  have : ¬ I = k := fun e => h e.symm
  simp [itW, this]
theorem itW_size (w : World) (I : Nat) (s : ByteArray) (j : Nat) : (itW w I s j).heap.size = w.heap.size := by simp [itW]
theorem next_at {P : Program} (w : World) (I : Nat) (l : List Lt) (j : Nat) (x : Lt) (ty : TypeId) (hI : w.heap[I]? = some (.stringIter (lts l) j)) (hx : l[j]? = some x) :
    (Instr.next (.pointer (some ⟨I, 0, none⟩)) true ty).run P w = .ok (.tuple #[.bool true, .int .i64 j, .int .i32 x.n]) (itW w I (lts l) (j + 1)) := by
  have hj : j < (lts l).size := by
    rw [lts_size]
    rcases Nat.lt_or_ge j l.length with h | h
    · exact h
    · rw [List.getElem?_eq_none h] at hx; cases hx
  have ha := lts_at hx hj
  have hd := decode_ascii (lts l) j hj (by rw [ha]; exact lt_ascii x)
  simp only [Instr.next, getObj, setObj, Sem.run_bind, Sem.run, hI, Result.andThen, hj, if_true, hd, ha]
  simp [goInt, itW]
theorem next_end {P : Program} (w : World) (I : Nat) (l : List Lt) (ty : TypeId) (hI : w.heap[I]? = some (.stringIter (lts l) l.length)) :
    (Instr.next (.pointer (some ⟨I, 0, none⟩)) true ty).run P w = .ok (.tuple #[.bool false]) w := by
  have hj : ¬ l.length < (lts l).size := by rw [lts_size]; omega
  simp [Instr.next, getObj, Sem.run, hI, hj]
/-- Cells in a block of their own, and the place in the text of the fields. -/
structure Bi (w : World) (A I : Nat) (l : List Lt) (j : Nat) (cs : List Value) : Prop where
  box : Lies w A cs
  it : w.heap[I]? = some (.stringIter (lts l) j)
  ne : A ≠ I
theorem heap_lt {w : World} {I : Nat} {o : Obj} (h : w.heap[I]? = some o) : I < w.heap.size := by
  rcases Nat.lt_or_ge I w.heap.size with h' | h'
  · exact h'
  · simp [Array.getElem?_eq_none h'] at h
theorem Bi.next {w : World} {A I : Nat} {l : List Lt} {j : Nat} {cs : List Value} (h : Bi w A I l j cs) : Bi (itW w I (lts l) (j + 1)) A I l (j + 1) cs :=
  ⟨h.box.of_block (itW_other h.ne), itW_self (heap_lt h.it), h.ne⟩
theorem Bi.put {w : World} {A I : Nat} {l : List Lt} {j : Nat} {cs cs' : List Value} (h : Bi w A I l j cs) (k : Nat) (hk : k < cs.length) (v : Value) (e : cs.set k v = cs') : Bi (w.setCell ⟨A, k, none⟩ v) A I l j cs' :=
  ⟨e ▸ h.box.put k hk v, (Below.heap_setCell _ _ _ _ (fun q => h.ne q.symm)).trans h.it, h.ne⟩
theorem Bi.of {w w' : World} {A I : Nat} {l : List Lt} {j : Nat} {cs : List Value} (h : Bi w A I l j cs) (hA : w'.heap[A]? = w.heap[A]?) (hI : w'.heap[I]? = w.heap[I]?) : Bi w' A I l j cs :=
  ⟨h.box.of_block hA, hI.trans h.it, h.ne⟩
theorem kept_it {F : Nat → Prop} {a w : World} {I : Nat} {s : ByteArray} {j : Nat} (h : Kept F a w) (hF : F I) : Kept F a (itW w I s j) :=
  ⟨h.os, h.tape, h.output, by rw [itW_size]; exact h.size, fun k hk hf => (itW_other (fun e => hf (by rw [e]; exact hF))).trans (h.block k hk hf)⟩
theorem below_it {a w : World} {n I : Nat} {s : ByteArray} {j : Nat} (h : Below n a w) (hn : n ≤ I) : Below n a (itW w I s j) :=
  ⟨h.os, h.tape, h.output, by rw [itW_size]; exact h.size, fun k hk => (itW_other (by omega)).trans (h.block k hk)⟩
/-- A frame's cells. -/
def fc (f : Fr) (d : ByteArray) (sv : Value) : List Value := [.int .i64 f.kind, .int .i64 f.id, .int .i64 f.off, .bool f.fin, .int .i64 f.code, .string d, sv]

/-! ### The small functions -/
set_option maxHeartbeats 1000000 in
theorem fieldsOf_ok (k : Int) (w : World) :
    Calls Tryd.prog 22 #[.int .i64 k] w fun e w' => e = .returned (.tuple #[.string (lts (fl k)), .bool (kindB k)]) ∧ w' = w := by
  cases h : kindB k
  · have hn : ¬ (k = 0 ∨ k = 1 ∨ k = 2 ∨ k = 4 ∨ k = 8 ∨ k = 17 ∨ k = 28 ∨ k = 48) := fun q => by
      rw [kind_iff.2 q] at h
      cases h
    simp only [not_or] at hn
    obtain ⟨h0, h1, h2, h4, h8, h17, h28, h48⟩ := hn
    have e : lts (fl k) = ⟨#[]⟩ := by
      unfold fl
      rw [if_neg h2, if_neg h4, if_neg h8, if_neg h17, if_neg h28, if_neg h48]
      rfl
    rw [e]
    have b0 : (k == 0) = false := by simp [h0]
    have b1 : (k == 1) = false := by simp [h1]
    have b2 : (k == 2) = false := by simp [h2]
    have b4 : (k == 4) = false := by simp [h4]
    have b8 : (k == 8) = false := by simp [h8]
    have b17 : (k == 17) = false := by simp [h17]
    have b28 : (k == 28) = false := by simp [h28]
    have b48 : (k == 48) = false := by simp [h48]
    clear h h0 h1 h2 h4 h8 h17 h28 h48 e
    go_enter Tryd.func22, Tryd.ntmps22
    go_wp2
    go_ret2
    exact ⟨rfl, rfl⟩
  · rcases kind_iff.1 h with rfl | rfl | rfl | rfl | rfl | rfl | rfl | rfl
    all_goals
      clear h
      go_enter Tryd.func22, Tryd.ntmps22
      go_wp2
      go_ret2
      exact ⟨rfl, rfl⟩
theorem fits_ok (n : Int) (w : World) :
    Calls Tryd.prog 37 #[.int .i64 n] w fun e w' => e = .returned (.bool (numB n)) ∧ w' = w := by
  unfold numB
  by_cases h : 0 ≤ n
  · have b : decide (0 ≤ n) = true := decide_eq_true h
    go_enter Tryd.func37, Tryd.ntmps37
    go_wp2
    go_ret
    rw [b]
    exact ⟨rfl, rfl⟩
  · have b : decide (0 ≤ n) = false := decide_eq_false h
    go_enter Tryd.func37, Tryd.ntmps37
    go_wp2
    go_ret
    exact ⟨rfl, rfl⟩
/-- What the reader throws. -/
def thrown (e : Int) : List PanicEntry := [{ v := .iface 25 (.int .i64 e), recovered := false }]
theorem throw_no (x : Int) (w : World) : Calls Tryd.prog 48 #[.bool false, .int .i64 x] w fun e w' => e = .returned (.tuple #[]) ∧ w' = w := by
  go_enter Tryd.func48, Tryd.ntmps48
  go_wp2
  go_end0
  exact ⟨rfl, rfl⟩
theorem throw_yes (x : Int) (w : World) : Calls Tryd.prog 48 #[.bool true, .int .i64 x] w fun e w' => e = .panicked (thrown x) ∧ w' = w := by
  go_enter Tryd.func48, Tryd.ntmps48
  go_wp2
  exact ⟨rfl, rfl, rfl⟩
end Go.Proofs.YtmngpkkpkjnejaaDoor
namespace Go.Proofs.YtmngpkkpkjnejaaDoor
set_option maxRecDepth 100000
open Go.RowKit Go.Sort

/-- A builder in block b, one of those from B on, that holds the bytes l. -/
def Bd (w : World) (B b : Nat) (l : L) : Prop := Lib.IsBuilderF 55 5 B b (Lib.byteCells l) w
theorem Bd.ge {w : World} {B b : Nat} {l : L} (h : Bd w B b l) : B ≤ b := h.elim (fun q => q.1) fun q => q.1
theorem Bd.lt {w : World} {B b : Nat} {l : L} (h : Bd w B b l) : b < w.heap.size := h.elim (fun q => q.lt) fun q => q.lt
theorem Bd.new (w : World) : Bd (w.alloc (.cells #[.pointer none, .slice none 0 0] 55)) w.heap.size w.heap.size [] :=
  .inl ⟨Nat.le_refl _, .slice none 0 0, heap_alloc_new _ _, World.ownsRowF_of (World.ownsRow_nil _ _ _ _), by simp [Value.ownBlock]⟩
theorem Bd.alloc {w : World} {B b : Nat} {l : L} (h : Bd w B b l) (o : Obj) : Bd (w.alloc o) B b l := h.elim (fun q => .inl (q.alloc o)) fun q => .inr (q.alloc o)
theorem size_bld : ∃ j, Tryd.prog.info? 55 = some j ∧ j.size = 2 := by
  have h : (Tryd.prog.info? 55).map (fun i => i.size) = some 2 := by kernel_rfl
  obtain ⟨i, hi, e⟩ := Option.map_eq_some_iff.1 h
  exact ⟨i, hi, e⟩
theorem info_u8 : ∃ i, Tryd.prog.info? 5 = some i ∧ i.zero = some (.int .u8 0) ∧ i.size = 1 ∧ i.bytes = 1 := by
  have h : (Tryd.prog.info? 5).map (fun i => (i.zero, i.size, i.bytes)) = some (some (.int .u8 0), 1, 1) := by kernel_rfl
  obtain ⟨i, hi, e⟩ := Option.map_eq_some_iff.1 h
  injection e with e1 e2
  injection e2 with e2 e3
  exact ⟨i, hi, e1, e2, e3⟩
theorem ne_bld : (55 : TypeId) ≠ 5 := by decide
theorem lies_bld : liesAt Tryd.prog Tryd.prog.depth 55 (2 / Tryd.prog.cellsOf 55) 0 55 1 = true := by kernel_rfl
theorem copy_used (b : Nat) (w : World) (h0 : w.cell? ⟨b, 0, none⟩ = some (.pointer (some ⟨b, 0, none⟩))) :
    Calls Tryd.prog 55 #[.pointer (some ⟨b, 0, none⟩)] w fun e w' => e = .returned (.tuple #[]) ∧ w' = w := by
  obtain ⟨j, hj, _⟩ := size_bld
  go_enter Tryd.func55, Tryd.ntmps55
  go_wp2
  rw [Lib.run_neq_ptr_same w _ Tryd.underlying53 hj]
  go_wp2
  go_end0
  exact ⟨rfl, rfl⟩
/-- A builder's address as a bare one, and back. -/
theorem conv_up (b : Nat) (w : World) (hsh : w.shape? b = some (55, 2)) : (convert 53 94 (.pointer (some ⟨b, 0, none⟩))).run Tryd.prog w = .ok (.pointer (some ⟨b, 0, none⟩)) w := by
  obtain ⟨j, hj, hjs⟩ := size_bld
  simp [convert, run_underlying Tryd.underlying53, run_underlying Tryd.underlying94, Conv.unsafePointer, Conv.seenAt, viewAt, cellsIn, hsh, sizeOf, typeInfo, hj, hjs]
theorem conv_down (b : Nat) (w : World) (hsh : w.shape? b = some (55, 2)) : (convert 94 53 (.pointer (some ⟨b, 0, none⟩))).run Tryd.prog w = .ok (.pointer (some ⟨b, 0, none⟩)) w := by
  obtain ⟨j, hj, hjs⟩ := size_bld
  have hlies := lies_bld
  simp [convert, run_underlying Tryd.underlying53, run_underlying Tryd.underlying94, Conv.unsafePointer, Conv.seenAt, viewAt, variablesAt, hsh, hlies, sizeOf, typeInfo, hj]
set_option maxHeartbeats 1000000 in
theorem copy_fresh (b : Nat) (w : World) (h0 : w.cell? ⟨b, 0, none⟩ = some (.pointer none)) (hsh : w.shape? b = some (55, 2)) (hfz : w.frozen? ⟨b, 0, none⟩ = false) :
    Calls Tryd.prog 55 #[.pointer (some ⟨b, 0, none⟩)] w fun e w' => e = .returned (.tuple #[]) ∧ w' = w.setCell ⟨b, 0, none⟩ (.pointer (some ⟨b, 0, none⟩)) := by
  have hup := conv_up b w hsh
  have hdn := conv_down b w hsh
  go_enter Tryd.func55, Tryd.ntmps55
  go_wp2
  rw [run_callFunc_extern Tryd.func64 (by kernel_rfl) (by kernel_rfl) (by kernel_rfl) (e := Extern.AbiNoEscape.same) (by kernel_rfl)]
  rw [Lib.run_noEscape]
  simp only [Result.andThen]
  rw [Oper.upon_value]
  go_wp2
  go_end0
  exact ⟨rfl, rfl⟩
/-- What is kept: all but the builder and rows of bytes; all that is older than B. -/
structure Bk (B b : Nat) (w w' : World) : Prop where
  bel : Below B w w'
  oth : Lib.OthersKept 5 (some b) w w'
theorem Bk.refl (B b : Nat) (w : World) : Bk B b w w := ⟨Below.refl _ _, Lib.OthersKept.refl _ _ _⟩
theorem Bk.trans {B b : Nat} {u v w : World} (h : Bk B b u v) (k : Bk B b v w) : Bk B b u w := ⟨h.bel.trans k.bel, h.oth.trans k.oth⟩
theorem copy_ok' (B b : Nat) (l : L) (w : World) (h : Bd w B b l) :
    Calls Tryd.prog 55 #[.pointer (some ⟨b, 0, none⟩)] w fun e w' => e = .returned (.tuple #[]) ∧ Lib.BuilderAtF 55 5 B b (.pointer (some ⟨b, 0, none⟩)) (Lib.byteCells l) w' ∧ Bk B b w w' := by
  rcases h with h | h
  · refine (copy_fresh b w h.cell0 h.shape h.frozen0).mono ?_
    rintro e w' ⟨rfl, rfl⟩
    exact ⟨rfl, h.used _, (Below.refl B w).setCell (p := ⟨b, 0, none⟩) h.1 _, (Lib.OthersKept.refl _ _ w).setCell ⟨b, 0, none⟩ rfl _⟩
  · refine (copy_used b w h.cell0).mono ?_
    rintro e w' ⟨rfl, rfl⟩
    exact ⟨rfl, h, Bk.refl _ _ _⟩
set_option maxHeartbeats 2000000 in
theorem wstr_ok (B b : Nat) (l : L) (s : ByteArray) (w : World) (h : Bd w B b l) (hlen : l.length + s.size ≤ 140737488355328) :
    Calls Tryd.prog 42 #[.pointer (some ⟨b, 0, none⟩), .string s] w fun e w' => e = .returned (.tuple #[.int .i64 s.size, .nilIface]) ∧ Bd w' B b (l ++ toL s) ∧ Bk B b w w' := by
  obtain ⟨i0, hi, hz0, hz1, hz2⟩ := info_u8
  have hBw : B ≤ w.heap.size := Nat.le_trans h.ge (Nat.le_of_lt h.lt)
  have hlb : (Lib.byteCells l).length = l.length := Lib.byteCells_length l
  replace hlb : Hid _ := hlb
  go_enter Tryd.func42, Tryd.ntmps42
  go_wp2_with (go_at_call 55; refine (copy_ok' B b l _ h).mono ?_)
  rintro e w1 ⟨rfl, h1, hb1, hk1⟩
  obtain ⟨hB, v, hbk, hown, hne⟩ := h1
  have c0 : w1.cell? ⟨b, 0, none⟩ = some (.pointer (some ⟨b, 0, none⟩)) := by rw [Lib.cell_of_heap hbk]; rfl
  have c1 : w1.cell? ⟨b, 1, none⟩ = some v := by rw [Lib.cell_of_heap hbk]; rfl
  go_wp2_with (at_builtin; refine Lib.wpList_append_own_stringF _ rfl _ _ 40 9 rfl B 5 i0 Tryd.underlying40 Tryd.underlying9 hi hz0 hz1 hz2 _ _ _ rfl hown s rfl ?c3 ?c4 ?c5 ?_)
  case c3 => have := hlb.out; unfold maxLen; omega
  case c4 => have := hlb.out; omega
  case c5 => have := hb1.size; omega
  intro v' w2 hown' hgrow _
  have hlt : b < w1.heap.size := heap_lt hbk
  have hb2 : w2.heap[b]? = some (.cells #[.pointer (some ⟨b, 0, none⟩), v] 55 (0, 0)) := by
    rw [hgrow.block b hlt (fun e => hne e.symm)]
    exact hbk
  have d0 : w2.cell? ⟨b, 0, none⟩ = some (.pointer (some ⟨b, 0, none⟩)) := by rw [Lib.cell_of_heap hb2]; rfl
  have d1 : w2.cell? ⟨b, 1, none⟩ = some v := by rw [Lib.cell_of_heap hb2]; rfl
  have f1 : w2.frozen? ⟨b, 1, none⟩ = false := Lib.frozen_of_heap hb2 1
  obtain ⟨ao, n', cap, rfl⟩ : ∃ ao n' cap, v' = .slice ao n' cap := by
    rcases hown'.2 with ⟨hv, _⟩ | ⟨g, cap, cur, fz, hv, _⟩
    · exact ⟨_, _, _, hv⟩
    · exact ⟨_, _, _, hv⟩
  go_wp2
  go_ret2
  refine ⟨rfl, .inr ?_, ?_, (hk1.grown hgrow (Lib.ownsRowF_kind hown)).setCell ⟨b, 1, none⟩ rfl _⟩
  · rw [Lib.byteCells_append]
    exact Lib.BuilderAtF.put (T := 55) (e := 5) hB hb2 (bs' := Lib.byteCells l ++ Lib.strCells s) (by simpa [Lib.strCells_length] using hown') ne_bld
  · exact (hb1.grown hgrow (by have := hb1.size; omega) (fun k hk => (hown.lt k hk).1)).setCell (p := ⟨b, 1, none⟩) hB _
set_option maxHeartbeats 2000000 in
theorem wbyte_ok' (B b : Nat) (l : L) (c : UInt8) (x : Int) (hx : Hid ((c.toNat : Int) = x)) (w : World) (h : Bd w B b l) (hlen : l.length + 1 ≤ 140737488355328) :
    Calls Tryd.prog 57 #[.pointer (some ⟨b, 0, none⟩), .int .u8 x] w fun e w' => e = .returned .nilIface ∧ Bd w' B b (l ++ [c]) ∧ Bk B b w w' := by
  obtain ⟨i0, hi, hz0, hz1, hz2⟩ := info_u8
  have hBw : B ≤ w.heap.size := Nat.le_trans h.ge (Nat.le_of_lt h.lt)
  have hlb : (Lib.byteCells l).length = l.length := Lib.byteCells_length l
  replace hlb : Hid _ := hlb
  go_enter Tryd.func57, Tryd.ntmps57
  go_wp2_with (go_at_call 55; refine (copy_ok' B b l _ h).mono ?_)
  rintro e w1 ⟨rfl, h1, hb1, hk1⟩
  obtain ⟨hB, v, hbk, hown, hne⟩ := h1
  have c0 : w1.cell? ⟨b, 0, none⟩ = some (.pointer (some ⟨b, 0, none⟩)) := by rw [Lib.cell_of_heap hbk]; rfl
  have c1 : w1.cell? ⟨b, 1, none⟩ = some v := by rw [Lib.cell_of_heap hbk]; rfl
  go_wp2_with (at_builtin; refine wpList_append_ownF _ rfl _ _ 40 rfl B 5 i0 (.int .u8 0) 1 1 Tryd.underlying40 hi hz0 hz1 hz2 rfl (by decide) _ _ _ rfl (hown.alloc _) ⟨w1.heap.size, 0, none⟩ 1 1 [(.int .u8 x)] rfl rfl ?c1 ?c2 ?c3 ?c4 ?c5 ?_)
  case c1 =>
    intro j u hj
    match j, hj with
    | 0, hj => simp at hj; subst hj; simp [Addr.add]
  case c2 => intro u hu; simp at hu; subst hu; rfl
  case c3 => have := hlb.out; unfold maxLen; omega
  case c4 => have := hlb.out; omega
  case c5 => have := hb1.size; simp; omega
  intro v' w2 hown' hgrow _
  have hlt : b < w1.heap.size := heap_lt hbk
  have hb2 : w2.heap[b]? = some (.cells #[.pointer (some ⟨b, 0, none⟩), v] 55 (0, 0)) := by
    rw [hgrow.block b (by simp; omega) (fun e => hne e.symm), Lib.alloc_old w1 _ b hlt]
    exact hbk
  have d0 : w2.cell? ⟨b, 0, none⟩ = some (.pointer (some ⟨b, 0, none⟩)) := by rw [Lib.cell_of_heap hb2]; rfl
  have d1 : w2.cell? ⟨b, 1, none⟩ = some v := by rw [Lib.cell_of_heap hb2]; rfl
  have f1 : w2.frozen? ⟨b, 1, none⟩ = false := Lib.frozen_of_heap hb2 1
  obtain ⟨g, cap, rfl⟩ : ∃ g cap, v' = .slice (some ⟨g, 0, none⟩) ((Lib.byteCells l).length + 1) cap := by
    rcases hown'.2 with ⟨_, h0⟩ | ⟨g, cap, cur, fz, hv, _⟩
    · omega
    · exact ⟨g, cap, hv⟩
  go_wp2
  go_ret
  refine ⟨rfl, .inr ?_, ?_, ((hk1.alloc _).grown hgrow (Lib.ownsRowF_kind (hown.alloc _))).setCell ⟨b, 1, none⟩ rfl _⟩
  · rw [Lib.byteCells_append]
    exact Lib.BuilderAtF.put (T := 55) (e := 5) hB hb2 (bs' := Lib.byteCells l ++ Lib.byteCells [c]) (by simpa [Lib.byteCells, hx.out] using hown') ne_bld
  · exact ((hb1.alloc (by have := hb1.size; omega) _).grown hgrow (by have := hb1.size; simp; omega) (fun k hk => (hown.lt k hk).1)).setCell (p := ⟨b, 1, none⟩) hB _
theorem wbyte_ok (B b : Nat) (l : L) (c : UInt8) (w : World) (h : Bd w B b l) (hlen : l.length + 1 ≤ 140737488355328) :
    Calls Tryd.prog 57 #[.pointer (some ⟨b, 0, none⟩), .int .u8 c.toNat] w fun e w' => e = .returned .nilIface ∧ Bd w' B b (l ++ [c]) ∧ Bk B b w w' :=
  wbyte_ok' B b l c _ rfl w h hlen
theorem bstr_ok (B b : Nat) (l : L) (w : World) (h : Bd w B b l) :
    Calls Tryd.prog 33 #[.pointer (some ⟨b, 0, none⟩)] w fun e w' => e = .returned (.string ⟨l.toArray⟩) ∧ Below B w w' := by
  refine (Tryd.Builder_String_any_k B b l w h (Nat.le_trans h.ge (Nat.le_of_lt h.lt))).mono ?_
  rintro e w' ⟨rfl, _, hb, _⟩
  exact ⟨rfl, hb⟩
end Go.Proofs.YtmngpkkpkjnejaaDoor
