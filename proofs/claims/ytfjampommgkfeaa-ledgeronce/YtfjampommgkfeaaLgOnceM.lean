/-
  Plain facts for LedgerOnce: what was sent, what is done, and what is on its way. No condition.
-/
import Derived.Test.YtfjampommgkfeaaLgFace
namespace Go.Proofs.Ytfjampommgkfeaa
set_option maxRecDepth 100000

/-- What was sent is what is done and the rest, each once. -/
def On (S D rest : List Int) : Prop := (D ++ rest).Perm S ∧ S.Nodup
theorem On.new : On [] [] [] := ⟨List.Perm.refl _, List.nodup_nil⟩
theorem On.len {S D rest : List Int} (h : On S D rest) : D.length + rest.length = S.length := by
  have := h.1.length_eq
  simpa using this
theorem On.dup {S D rest : List Int} (h : On S D rest) : (D ++ rest).Nodup := h.1.nodup_iff.2 h.2
theorem On.mem {S D rest : List Int} {x : Int} (h : On S D (x :: rest)) : x ∈ S ∧ x ∉ D := by
  refine ⟨h.1.mem_iff.1 (by simp), fun q => ?_⟩
  have := List.nodup_append.1 h.dup
  exact this.2.2 x q x (List.mem_cons_self ..) rfl
theorem On.next {S D rest : List Int} {x : Int} (h : On S D (x :: rest)) : On S (D ++ [x]) rest := ⟨by simpa using h.1, h.2⟩
theorem On.perm {S D rest rest' : List Int} (h : On S D rest) (p : rest.Perm rest') : On S D rest' := ⟨(List.Perm.append_left D p.symm).trans h.1, h.2⟩
theorem On.sent {S D rest : List Int} {n : Int} (h : On S D rest) (hn : n ∉ S) : On (S ++ [n]) D (rest ++ [n]) := by
  refine ⟨by rw [← List.append_assoc]; exact h.1.append_right [n], List.nodup_append.2 ⟨h.2, by simp, fun a ha b hb e => ?_⟩⟩
  rw [List.mem_singleton.1 hb] at e
  exact hn (e ▸ ha)
theorem acked_perm (d : Ld) (r : List Rg) : (nosP d.l).Perm (toldN d r ++ lostN d r ++ nosP (acked d r).l) := by
  unfold toldN lostN acked
  split
  · have e' : (ack d r).l = leftP d r := (lose_top { d with l := leftP d r, win := growAll d.thr (toldP d r) d.win, bo := if toldP d r = [] then d.bo else 0 } (nosP (lostP d r))).2.1
    rw [e']
    have p1 : (toldP d r ++ restP d r).Perm d.l := List.filter_append_perm ..
    have p2 : (lostP d r ++ leftP d r).Perm (restP d r) := List.filter_append_perm ..
    have p3 : (toldP d r ++ (lostP d r ++ leftP d r)).Perm d.l := (List.Perm.append_left _ p2).trans p1
    have p4 := (p3.map (fun p : Pk => p.1)).symm
    rw [List.map_append, List.map_append, ← List.append_assoc] at p4
    exact p4
  · exact List.Perm.refl _
theorem expire_perm (d : Ld) (now : Int) : (nosP d.l).Perm (expL d now ++ nosP (expire d now).l) := by
  rw [expire_l]
  unfold expL
  split
  · simp [nosP]
  · exact List.Perm.refl _
/-- What always holds of a ledger beside what was sent and what is done. -/
structure OnL (d : Ld) (S D : List Int) : Prop where
  on : On S D (nosP d.l)
  top : ∀ n ∈ S, n ≤ d.top
theorem OnL.new : OnL ld0 [] [] := ⟨On.new, fun n hn => by cases hn⟩
theorem OnL.sent {d : Ld} {S D : List Int} (h : OnL d S D) (n now size : Int) (he : sentE d n size = 0) : OnL (sent d n now size) (S ++ [n]) D ∧ n ∉ S := by
  have hx := sentE_zero.1 he
  have hn : n ∉ S := fun q => by have := h.top n q; omega
  have e : Proofs.Ytfjampommgkfeaa.sent d n now size = { d with l := d.l ++ [(n, now, size)], top := n } := by unfold Proofs.Ytfjampommgkfeaa.sent; rw [if_pos he]
  refine ⟨?_, hn⟩
  rw [e]
  refine ⟨?_, fun k hk => ?_⟩
  · have := h.on.sent hn
    simpa [nosP] using this
  · show k ≤ n
    rcases List.mem_append.1 hk with q | q
    · have := h.top k q
      omega
    · rw [List.mem_singleton.1 q]
      exact Int.le_refl _
theorem acked_top (d : Ld) (r : List Rg) : (acked d r).top = d.top := by
  unfold acked
  split
  · exact (lose_top { d with l := leftP d r, win := growAll d.thr (toldP d r) d.win, bo := if toldP d r = [] then d.bo else 0 } (nosP (lostP d r))).1
  · rfl
theorem expire_top (d : Ld) (now : Int) : (expire d now).top = d.top := by
  unfold expire
  split
  · exact (lose_top { d with l := [] } (nosP d.l)).1
  · rfl
end Go.Proofs.Ytfjampommgkfeaa
