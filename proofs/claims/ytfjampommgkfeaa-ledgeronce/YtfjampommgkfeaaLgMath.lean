/-
  Packets on their way, the window and the wait, as values: what is sent, told and given up. Plain facts; no condition.
-/
import Derived.Test.YtfjampommgkfeaaAkMath
namespace Go.Proofs.Ytfjampommgkfeaa
set_option maxRecDepth 100000

/-- A packet: its number, its tick, its size. -/
abbrev Pk := Int × Int × Int
/-- A ledger: the packets on their way; the greatest number; the window, the threshold, the mark, the backoff. -/
structure Ld where
  l : List Pk
  top : Int
  win : Int
  thr : Int
  mark : Int
  bo : Nat
def ld0 : Ld := ⟨[], -1, 12000, 1073741824, -1, 0⟩
/-- What is wrong with a packet that is to be sent. -/
def sentE (d : Ld) (n size : Int) : Int := if n < 0 ∨ 4611686018427387903 < n ∨ n ≤ d.top ∨ size < 1 ∨ 1200 < size then 2 else 0
def sent (d : Ld) (n now size : Int) : Ld := if sentE d n size = 0 then { d with l := d.l ++ [(n, now, size)], top := n } else d
/-- Some are lost. -/
def lose (d : Ld) (lost : List Int) : Ld :=
  if lost.any (fun n => decide (d.mark < n)) = true then { d with thr := max 2400 (d.win / 2), win := max 2400 (d.win / 2), mark := d.top } else d
/-- The window, when one of a size has come. -/
def grow (win thr size : Int) : Int := min (if win < thr then win + size else win + 1200 * size / win) 1073741824
def growAll (thr : Int) (ps : List Pk) (win : Int) : Int := ps.foldl (fun w p => grow w thr p.2.2) win
/-- The greatest number of ranges. -/
def hiR (r : List Rg) : Int := (r.getD 0 (0, 0)).2
def ackE (d : Ld) (r : List Rg) : Int := if chkR r ≠ 0 ∨ (r ≠ [] ∧ d.top < hiR r) then 2 else 0
def toldP (d : Ld) (r : List Rg) : List Pk := d.l.filter fun p => hasR r p.1
def restP (d : Ld) (r : List Rg) : List Pk := d.l.filter fun p => !hasR r p.1
def lateB (r : List Rg) (p : Pk) : Bool := decide (r ≠ []) && decide (p.1 ≤ hiR r - 3)
def lostP (d : Ld) (r : List Rg) : List Pk := (restP d r).filter fun p => lateB r p
def leftP (d : Ld) (r : List Rg) : List Pk := (restP d r).filter fun p => !lateB r p
def nosP (ps : List Pk) : List Int := ps.map (·.1)
/-- What is told leaves. -/
def ack (d : Ld) (r : List Rg) : Ld :=
  lose { d with l := leftP d r, win := growAll d.thr (toldP d r) d.win, bo := if toldP d r = [] then d.bo else 0 } (nosP (lostP d r))
def wait (d : Ld) : Int := 8 * 2 ^ d.bo
def dueB (d : Ld) (now : Int) (p : Pk) : Bool := decide (p.2.1 < now) && decide (wait d ≤ now - p.2.1)
def dueA (d : Ld) (now : Int) : Bool := d.l.any (dueB d now)
def expL (d : Ld) (now : Int) : List Int := if dueA d now = true then nosP d.l else []
def expire (d : Ld) (now : Int) : Ld :=
  if dueA d now = true then { lose { d with l := [] } (nosP d.l) with bo := min 6 (d.bo + 1) } else d
def bytesP (ps : List Pk) : Int := (ps.map fun p => p.2.2).sum
theorem rgs_in {l : List Rg} (h : chkR l = 0) : l.length ≤ 16 ∧ ∀ x ∈ l, (0 ≤ x.1 ∧ x.1 ≤ 4611686018427387903) ∧ 0 ≤ x.2 ∧ x.2 ≤ 4611686018427387903 := by
  unfold chkR at h
  split at h
  · omega
  · rename_i hl
    split at h
    · rename_i ha
      refine ⟨by omega, fun x hx => ?_⟩
      obtain ⟨k, hk, e⟩ := List.getElem_of_mem hx
      have := List.all_eq_true.1 ha k (by simpa using hk)
      unfold okAt at this
      rw [Bool.and_eq_true] at this
      have hf := fine_iff.1 this.1
      have e2 : l.getD k (0, 0) = x := by rw [← e]; simp [List.getD, List.getElem?_eq_getElem hk]
      rw [e2] at hf
      omega
    · omega
/-- What stands behind the kind. -/
theorem hi_in {r : List Rg} (h : chkR r = 0) (hn : r ≠ []) : 0 ≤ hiR r ∧ hiR r ≤ 4611686018427387903 :=
  ((rgs_in h).2 (r.getD 0 (0, 0)) (by simp [List.getD, List.getElem?_eq_getElem (List.length_pos_iff.2 hn)])).2
/-- What always holds. -/
structure Lk (d : Ld) : Prop where
  rise : d.l.Pairwise fun a b => a.1 < b.1
  nos : ∀ p ∈ d.l, 0 ≤ p.1 ∧ p.1 ≤ d.top ∧ 1 ≤ p.2.2 ∧ p.2.2 ≤ 1200
  top : -1 ≤ d.top ∧ d.top ≤ 4611686018427387903
  win : 2400 ≤ d.win ∧ d.win ≤ 1073741824
  thr : 2400 ≤ d.thr ∧ d.thr ≤ 1073741824
  mark : -1 ≤ d.mark ∧ d.mark ≤ d.top
  bo : d.bo ≤ 6
theorem Lk.new : Lk ld0 := ⟨List.Pairwise.nil, fun p hp => (by cases hp), by decide, by decide, by decide, by decide, by decide⟩
theorem sentE_zero {d : Ld} {n size : Int} : sentE d n size = 0 ↔ 0 ≤ n ∧ n ≤ 4611686018427387903 ∧ d.top < n ∧ 1 ≤ size ∧ size ≤ 1200 := by
  unfold sentE
  split <;> constructor <;> intro h <;> first | omega | (exfalso; omega)
theorem Lk.sent {d : Ld} (h : Lk d) (n now size : Int) : Lk (sent d n now size) := by
  unfold Proofs.Ytfjampommgkfeaa.sent
  split
  · rename_i e
    have e := sentE_zero.1 e
    obtain ⟨h1, h2, h3, h4, h5, h6, h7⟩ := h
    refine ⟨List.pairwise_append.2 ⟨h1, List.pairwise_singleton _ _, fun a ha b hb => ?_⟩, fun p hp => ?_, ?_, h4, h5, ?_, h7⟩
    · rw [List.mem_singleton.1 hb]
      have := (h2 a ha).2.1
      show a.1 < n
      omega
    · rcases List.mem_append.1 hp with q | q
      · have := h2 p q
        show 0 ≤ p.1 ∧ p.1 ≤ n ∧ _
        omega
      · rw [List.mem_singleton.1 q]
        show 0 ≤ n ∧ n ≤ n ∧ 1 ≤ size ∧ size ≤ 1200
        omega
    · show -1 ≤ n ∧ n ≤ _
      omega
    · show -1 ≤ d.mark ∧ d.mark ≤ n
      omega
  · exact h
theorem Lk.lose {d : Ld} (h : Lk d) (x : List Int) : Lk (lose d x) := by
  unfold Proofs.Ytfjampommgkfeaa.lose
  split
  · obtain ⟨h1, h2, h3, h4, h5, h6, h7⟩ := h
    have m1 : 2400 ≤ max 2400 (d.win / 2) ∧ max 2400 (d.win / 2) ≤ 1073741824 := by omega
    exact ⟨h1, h2, h3, m1, m1, ⟨h3.1, Int.le_refl _⟩, h7⟩
  · exact h
theorem lose_top (d : Ld) (x : List Int) : (lose d x).top = d.top ∧ (lose d x).l = d.l ∧ (lose d x).bo = d.bo := by
  unfold lose
  split <;> exact ⟨rfl, rfl, rfl⟩
theorem grow_in {win thr size : Int} (hw : 2400 ≤ win ∧ win ≤ 1073741824) (hs : 1 ≤ size ∧ size ≤ 1200) : 2400 ≤ grow win thr size ∧ grow win thr size ≤ 1073741824 := by
  unfold grow
  have : 0 ≤ 1200 * size / win := Int.ediv_nonneg (by omega) (by omega)
  split <;> omega
theorem growAll_in {thr : Int} : ∀ (ps : List Pk) (win : Int), 2400 ≤ win ∧ win ≤ 1073741824 → (∀ p ∈ ps, 1 ≤ p.2.2 ∧ p.2.2 ≤ 1200) → 2400 ≤ growAll thr ps win ∧ growAll thr ps win ≤ 1073741824
  | [], _, h, _ => h
  | p :: ps, win, h, hp => growAll_in ps (grow win thr p.2.2) (grow_in h (hp p (List.mem_cons_self ..))) fun q hq => hp q (List.mem_cons_of_mem _ hq)
theorem Lk.ack {d : Ld} (h : Lk d) (r : List Rg) : Lk (ack d r) := by
  unfold Proofs.Ytfjampommgkfeaa.ack
  apply Lk.lose
  obtain ⟨h1, h2, h3, h4, h5, h6, h7⟩ := h
  refine ⟨?_, fun p hp => ?_, h3, growAll_in _ _ h4 fun p hp => ?_, h5, h6, ?_⟩
  · exact ((h1.filter _).filter _)
  · exact h2 p (List.mem_filter.1 (List.mem_filter.1 hp).1).1
  · have := h2 p (List.mem_filter.1 hp).1
    omega
  · show (if _ then _ else _) ≤ 6
    split <;> omega
theorem Lk.expire {d : Ld} (h : Lk d) (now : Int) : Lk (expire d now) := by
  unfold Proofs.Ytfjampommgkfeaa.expire
  split
  · have h0 : Lk { d with l := [] } := ⟨List.Pairwise.nil, fun p hp => (by cases hp), h.top, h.win, h.thr, h.mark, h.bo⟩
    obtain ⟨g1, g2, g3, g4, g5, g6, g7⟩ := h0.lose (nosP d.l)
    exact ⟨g1, g2, g3, g4, g5, g6, by show min 6 _ ≤ 6; omega⟩
  · exact h
end Go.Proofs.Ytfjampommgkfeaa
