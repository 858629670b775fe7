/-
  Plain facts: what a piece that is put into a Hash's block leaves; copy of a text into a row. No condition but the lengths.
-/
import Derived.Test.YtbicfhilehllnaaGreatDoorShNew
import Derived.Test.YtbicfhilehllnaaGreatDoorShDraw
namespace Go.Proofs.YtbicfhilehllnaaGreatDoor
set_option maxRecDepth 100000
open Go.RowKit Go.Sort

theorem HB.apart {w : World} {B : Nat} {l r : List Nat} (h : HB w B l r) (t : Tab w) : B ≠ 2 := fun e => by
  have h1 := h.b.cell 0 (by rw [h.len]; decide)
  have h2 := t.c 8 (by decide)
  rw [e] at h1
  rw [show 8 + 0 = 8 from rfl] at h1
  rw [h1] at h2
  injection h2 with h2
  injection h2 with h2
  cases h2
/-- What a piece that is put into the block leaves. -/
theorem hb_put {w : World} {B : Nat} {m r c : List Nat} (h : HB w B m r) (n u : Nat) (hu : u = m.length % 64) (hn : c.length = n) (h64 : u + n ≤ 64) :
    At .u32 ((w.setCells B (8 + u) (nv .u8 c)).setCell ⟨B, 72, none⟩ (.int .u64 ((m.length + n : Nat) : Int))) B 0 (blks m (m.length / 64)).list ∧
    At .u8 ((w.setCells B (8 + u) (nv .u8 c)).setCell ⟨B, 72, none⟩ (.int .u64 ((m.length + n : Nat) : Int))) B 8 (r.take u ++ c ++ r.drop (u + n)) ∧
    At .u64 ((w.setCells B (8 + u) (nv .u8 c)).setCell ⟨B, 72, none⟩ (.int .u64 ((m.length + n : Nat) : Int))) B 72 [m.length + n] := by
  have hl : (nv .u8 c).length = n := by rw [nv_length, hn]
  have l8 : (blks m (m.length / 64)).list.length = 8 := rfl
  have len := h.len
  refine ⟨(h.s.apart B (8 + u) (nv .u8 c) (.inr (.inl (by rw [l8]; omega)))).beside B 72 _ (.inr (.inr (by rw [l8]; omega))), ?_, ?_⟩
  · have e : r = r.take u ++ ((r.drop u).take n ++ r.drop (u + n)) := by
      rw [← List.drop_drop, List.take_append_drop, List.take_append_drop]
    have hb := h.b
    rw [e] at hb
    have lu : (r.take u).length = u := by rw [List.length_take]; omega
    have ln : ((r.drop u).take n).length = n := by rw [List.length_take, List.length_drop]; omega
    have b1 := hb.left
    have b2 := hb.right
    rw [lu] at b2
    have b3 := b2.left
    have b4 := b2.right
    rw [ln] at b4
    have c3 := b3.store c (by rw [hn, ln])
    have c1 := b1.apart B (8 + u) (nv .u8 c) (.inr (.inl (by rw [lu]; omega)))
    have c4 := b4.apart B (8 + u) (nv .u8 c) (.inr (.inr (by rw [hl]; omega)))
    have j := (c1.join (by rw [lu]; exact c3)).join (b := r.drop (u + n)) (by rw [List.length_append, lu, hn, ← Nat.add_assoc]; exact c4)
    exact j.beside B 72 _ (.inr (.inr (by rw [List.length_append, List.length_append, lu, hn, List.length_drop]; omega)))
  · have c := (h.c.apart B (8 + u) (nv .u8 c) (.inr (.inr (by rw [hl]; omega)))).put 0 Nat.one_pos (m.length + n)
    exact c
theorem take_blk {m r c : List Nat} {n u : Nat} (hu : u = m.length % 64) (hr : r.length = 64) (hn : c.length = n) (h64 : u + n ≤ 64) (eq : r.take (m.length % 64) = m.drop (64 * (m.length / 64))) :
    (r.take u ++ c ++ r.drop (u + n)).take (u + n) = (m ++ c).drop (64 * (m.length / 64)) ∧ (r.take u ++ c ++ r.drop (u + n)).length = 64 := by
  subst hu
  have hm : 64 * (m.length / 64) ≤ m.length := by omega
  have l1 : (r.take (m.length % 64) ++ c).length = m.length % 64 + n := by rw [List.length_append, List.length_take, hn]; omega
  refine ⟨?_, by rw [List.length_append, l1, List.length_drop]; omega⟩
  rw [List.take_append_of_le_length (by rw [l1]; omega), ← l1, List.take_length, eq, List.drop_append_of_le_length hm]
/-- A piece that does not fill the block. -/
theorem hb_part {w : World} {B : Nat} {m r c : List Nat} (h : HB w B m r) (n u : Nat) (hu : u = m.length % 64) (hn : c.length = n) (h64 : u + n < 64) (hc : ∀ x ∈ c, x < 256) :
    HB ((w.setCells B (8 + u) (nv .u8 c)).setCell ⟨B, 72, none⟩ (.int .u64 ((m.length + n : Nat) : Int))) B (m ++ c) (r.take u ++ c ++ r.drop (u + n)) := by
  obtain ⟨a1, a2, a3⟩ := hb_put h n u hu hn (by omega)
  obtain ⟨t1, t2⟩ := take_blk hu h.len hn (by omega) h.eq
  have e1 : (m ++ c).length = m.length + n := by rw [List.length_append, hn]
  have e2 : (m ++ c).length / 64 = m.length / 64 := by rw [e1]; omega
  have e3 : (m ++ c).length % 64 = u + n := by rw [e1]; omega
  refine ⟨?_, a2, ?_, t2, ?_, ?_⟩
  · rw [e2, blks_app m c _ (by omega)]
    exact a1
  · rw [e1]; exact a3
  · intro x hx
    rcases List.mem_append.1 hx with hx | hx
    · rcases List.mem_append.1 hx with hx | hx
      · exact h.lt x (List.mem_of_mem_take hx)
      · exact hc x hx
    · exact h.lt x (List.mem_of_mem_drop hx)
  · rw [e3, e2]; exact t1
/-- A piece that fills the block: when it has been mixed in. -/
theorem hb_full {w w2 : World} {B : Nat} {m r c : List Nat} (h : HB w B m r) (n u : Nat) (hu : u = m.length % 64) (hn : c.length = n) (h64 : u + n = 64) (hc : ∀ x ∈ c, x < 256)
    (b1 : At .u32 w2 B 0 (blk (blks m (m.length / 64)) (r.take u ++ c ++ r.drop (u + n))).list) (b2 : At .u8 w2 B 8 (r.take u ++ c ++ r.drop (u + n))) (b3 : At .u64 w2 B 72 [m.length + n]) :
    HB w2 B (m ++ c) (r.take u ++ c ++ r.drop (u + n)) := by
  obtain ⟨t1, t2⟩ := take_blk hu h.len hn (by omega) h.eq
  have e1 : (m ++ c).length = m.length + n := by rw [List.length_append, hn]
  have e2 : (m ++ c).length / 64 = m.length / 64 + 1 := by rw [e1]; omega
  have e3 : (m ++ c).length % 64 = 0 := by rw [e1]; omega
  have e4 : r.take u ++ c ++ r.drop (u + n) = (m ++ c).drop (64 * (m.length / 64)) := by
    rw [← t1]
    exact (List.take_of_length_le (by rw [t2]; omega)).symm
  refine ⟨?_, b2, ?_, t2, ?_, ?_⟩
  · rw [e2]
    have e5 : blks (m ++ c) (m.length / 64 + 1) = blk (blks (m ++ c) (m.length / 64)) (((m ++ c).drop (64 * (m.length / 64))).take 64) := by rw [blks]
    rw [e5, blks_app m c _ (by omega), ← e4, List.take_of_length_le (by rw [t2]; omega)]
    exact b1
  · rw [e1]; exact b3
  · intro x hx
    rcases List.mem_append.1 hx with hx | hx
    · rcases List.mem_append.1 hx with hx | hx
      · exact h.lt x (List.mem_of_mem_take hx)
      · exact hc x hx
    · exact h.lt x (List.mem_of_mem_drop hx)
  · rw [e3, e2, List.take_zero, List.drop_eq_nil_of_le (by rw [e1]; omega)]
theorem slice_low (B o n l : Nat) (w : World) (t e : TypeId) (hu : Tryz.prog.underlying t = some (.array n e)) (hs : ∀ w, (sizeOf e).run Tryz.prog w = .ok 1 w) (hlt : l < n) (p c : Nat) (hp : p = o + l) (hc : c = n - l) :
    (Instr.sliceAt t (.pointer (some ⟨B, o, none⟩)) (some (.int .i64 (l : Int))) none none).run Tryz.prog w = .ok (.slice (some ⟨B, p, none⟩) c c) w := by
  subst hp hc
  have h3 : ¬ n = l := by omega
  have h4 : l ≤ n := by omega
  simp [Instr.sliceAt, run_underlying hu, Instr.sureAddr, Instr.sliceBounds, Instr.sliceBound, asIntOf, hs, h3, h4, Addr.add_mid]
theorem nb_cells (t : ByteArray) : (t.data.toList.map fun x => Value.int .u8 (x.toNat : Int)) = nv .u8 (nb t) := by
  unfold nv nb
  rw [List.map_map]
  rfl
theorem run_copy_min (w : World) (dT sT ty elem : TypeId) (b o dLen dCap : Nat) (t : ByteArray) (n : Nat) (hn : n = min t.size dLen)
    (hu : Tryz.prog.underlying dT = some (.slice elem)) (hz : ∀ w, (sizeOf elem).run Tryz.prog w = .ok 1 w) (hc : w.there b o n) :
    (Builtin.copy_ #[dT, sT] ty #[.slice (some ⟨b, o, none⟩) dLen dCap, .string t]).run Tryz.prog w = .ok (.int .i64 (n : Int)) (w.setCells b o (nv .u8 ((nb t).take n))) := by
  have hl : (nv .u8 ((nb t).take n)).length = n := by rw [nv_length, List.length_take, nb_length]; omega
  have hst := run_storeCells_cells (P := Tryz.prog) b o (nv .u8 ((nb t).take n)) 0 w (by rw [hl]; simpa using fun j hj => (hc j hj).1) (by rw [hl]; simpa using fun j hj => (hc j hj).2) (nv_one _ _)
  have hmin : Nat.min t.size dLen = n := hn.symm
  have e : List.take n (t.data.toList.map fun x => Value.int .u8 (x.toNat : Int)) = nv .u8 ((nb t).take n) := by
    rw [nb_cells]; unfold nv; rw [List.map_take]
  simp [Builtin.copy_, run_underlying hu, Builtin.lenOf, Builtin.firstCells, hz, hmin]
  rw [e, hst]
  rfl
theorem wpl_copy {w : World} {ops : Array Oper} {rest : List Oper} {op : Oper} {a : Act} {Q : Exit → Act → World → Prop} (dT sT elem : TypeId) (b o dLen dCap : Nat) (t : ByteArray) (n : Nat) (hn : n = min t.size dLen)
    (hu : Tryz.prog.underlying dT = some (.slice elem)) (hz : ∀ w, (sizeOf elem).run Tryz.prog w = .ok 1 w) (hc : w.there b o n) {d x : Operand} (hgd : op.guard = none)
    (hop : op.op = Op.call { callee := Callee.builtin Builtin.copy, args := #[d, x], argTypes := #[dT, sT] }) (hd : a.eval d = .slice (some ⟨b, o, none⟩) dLen dCap) (hx : a.eval x = .string t)
    (hK : wpList Tryz.prog ops Q rest (a.put op.dst (.int .i64 (n : Int))) (w.setCells b o (nv .u8 ((nb t).take n)))) : wpList Tryz.prog ops Q (op :: rest) a w :=
  wpList_plain hgd fun K hK' => by
    have hrun := run_copy_min w dT sT op.type elem b o dLen dCap t n hn hu hz hc
    unfold Oper.wp
    simp [execOp, hop, resolve, invoke, builtin, hd, hx, hrun, Result.andThen]
    exact hK' _ _ hK
end Go.Proofs.YtbicfhilehllnaaGreatDoor
