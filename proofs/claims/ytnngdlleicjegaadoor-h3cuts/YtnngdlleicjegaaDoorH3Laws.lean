/-
  What chapter 15 says of a request's frames, of strange ones between others, and of the end. No condition but the sizes of a frame's numbers.
-/
import Derived.Test.YtnngdlleicjegaaDoorH3More
namespace Go.Proofs.YtnngdlleicjegaaDoor
set_option maxRecDepth 100000

def Hr.new (c : Bool) : Hr := ⟨c, [], false, false, 0, false, 0⟩
def hMessage : Int := 270
def Hr.fin (r : Hr) : Int :=
  if r.code ≠ 0 then r.code
  else if r.s ≠ [] ∨ 0 < r.left ∨ r.ctl = true ∧ r.beg = false then hFrame
  else if r.ctl = false ∧ r.fst = false then hMessage else 0
theorem fin_ok {r : Hr} (h : r.code = 0) : r.fin = 0 ∨ r.fin = hFrame ∨ r.fin = hMessage := by
  unfold Hr.fin
  rw [if_neg (fun c => c h)]
  split
  · exact .inr (.inl rfl)
  · split
    · exact .inr (.inr rfl)
    · exact .inl rfl
theorem fin_code {r : Hr} (h : r.code ≠ 0) : r.fin = r.code := if_pos h
theorem go_empty {c b f p : Bool} : (Hr.mk c [] b f 0 p 0).go = (Hr.mk c [] b f 0 p 0, []) := Hr.go_stop (.inl rfl)
/-- The events of data. -/
def dats (ls : List L) : List Ev := ls.flatMap fun d => if d = [] then [] else [(0, d)]
def reqB (k : Nat) (ls : List L) : L := ls.flatMap fun d => frm 0 d ++ frm k d
theorem go_req {k : Nat} (hk : Lim k) (h : k ≠ 0 ∧ k ≠ 1 ∧ k ≠ 4 ∧ k ≠ 7) : ∀ (ls : List L) (b p : Bool), (∀ d ∈ ls, Lim d.length) → ∃ p', (Hr.mk false (reqB k ls) b true 0 p 0).go = (Hr.mk false [] b true 0 p' 0, dats ls)
  | [], b, p, _ => ⟨p, go_empty⟩
  | d :: ls, b, p, hl => by
    obtain ⟨p', i⟩ := go_req hk h ls b true fun x hx => hl x (List.mem_cons_of_mem _ hx)
    have hd := hl d (List.mem_cons_self ..)
    refine ⟨p', ?_⟩
    show (Hr.mk false ((frm 0 d ++ frm k d) ++ reqB k ls) b true 0 p 0).go = _
    rw [List.append_assoc, go_data hd, go_strange (fun q => Bool.noConfusion q.1) hk hd h, i]
    rfl
/-- A request's bytes. -/
theorem go_request {k : Nat} (hk : Lim k) (h : k ≠ 0 ∧ k ≠ 1 ∧ k ≠ 4 ∧ k ≠ 7) (q hs : L) (ls : List L) (hq : Lim q.length) (hh : hs.length ≤ 4096) (hl : ∀ d ∈ ls, Lim d.length) :
    ∃ p', ((Hr.new false).feed (frm k q ++ (frm 1 hs ++ reqB k ls))) = (Hr.mk false [] false true 0 p' 0, (1, hs) :: dats ls) := by
  obtain ⟨p', i⟩ := go_req hk h ls false true hl
  refine ⟨p', ?_⟩
  show (Hr.mk false (frm k q ++ (frm 1 hs ++ reqB k ls)) false false 0 false 0).go = _
  rw [go_strange (fun q => Bool.noConfusion q.1) hk hq h, go_whole (fun q => Bool.noConfusion q.1) (.inl rfl) hh rfl rfl, i]
theorem dats_all (ls : List L) : (dats ls).flatMap (fun e : Ev => e.2) = ls.flatten := by
  induction ls with
  | nil => rfl
  | cons d ls ih =>
    show ((if d = [] then [] else [(0, d)]) ++ dats ls).flatMap (fun e : Ev => e.2) = d ++ ls.flatten
    rw [List.flatMap_append, ih]
    by_cases z : d = []
    · rw [if_pos z, z]
      rfl
    · rw [if_neg z]
      simp
theorem dats_kind (ls : List L) : ∀ e ∈ dats ls, e.1 = 0 := fun e he => by
  obtain ⟨d, _, hd⟩ := List.mem_flatMap.1 he
  split at hd
  · cases hd
  · rw [List.mem_singleton.1 hd]
def datB (ls : List L) : L := ls.flatMap fun d => frm 0 d
def strB (k : Nat) (ls : List L) : L := ls.flatMap fun d => frm k d ++ frm 0 d ++ frm k []
theorem go_dat : ∀ (ls : List L) (b p : Bool), (∀ d ∈ ls, Lim d.length) → ∃ p', (Hr.mk false (datB ls) b true 0 p 0).go = (Hr.mk false [] b true 0 p' 0, dats ls)
  | [], b, p, _ => ⟨p, go_empty⟩
  | d :: ls, b, p, hl => by
    obtain ⟨p', i⟩ := go_dat ls b false fun x hx => hl x (List.mem_cons_of_mem _ hx)
    refine ⟨p', ?_⟩
    show (Hr.mk false (frm 0 d ++ datB ls) b true 0 p 0).go = _
    rw [go_data (hl d (List.mem_cons_self ..)), i]
    rfl
theorem go_str {k : Nat} (hk : Lim k) (h : k ≠ 0 ∧ k ≠ 1 ∧ k ≠ 4 ∧ k ≠ 7) : ∀ (ls : List L) (b p : Bool), (∀ d ∈ ls, Lim d.length) → ∃ p', (Hr.mk false (strB k ls) b true 0 p 0).go = (Hr.mk false [] b true 0 p' 0, dats ls)
  | [], b, p, _ => ⟨p, go_empty⟩
  | d :: ls, b, p, hl => by
    obtain ⟨p', i⟩ := go_str hk h ls b true fun x hx => hl x (List.mem_cons_of_mem _ hx)
    have hd := hl d (List.mem_cons_self ..)
    refine ⟨p', ?_⟩
    show (Hr.mk false ((frm k d ++ frm 0 d ++ frm k []) ++ strB k ls) b true 0 p 0).go = _
    rw [List.append_assoc, List.append_assoc, go_strange (fun q => Bool.noConfusion q.1) hk hd h, go_data hd, go_strange (fun q => Bool.noConfusion q.1) hk (by unfold Lim; decide) h, i]
    rfl
/-- .. of a control stream: n frames that tell the end. -/
def awayB (n : Nat) : L := (List.replicate n (frm 7 [0])).flatten
def awayS (k : Nat) (ls : List L) : L := ls.flatMap fun d => frm k d ++ frm 7 [0] ++ frm k []
theorem go_away : ∀ (n : Nat) (p : Bool), ∃ p', (Hr.mk true (awayB n) true true 0 p 0).go = (Hr.mk true [] true true 0 p' 0, List.replicate n (7, [0]))
  | 0, p => ⟨p, go_empty⟩
  | n + 1, p => by
    obtain ⟨p', i⟩ := go_away n p
    refine ⟨p', ?_⟩
    show (Hr.mk true (frm 7 [0] ++ awayB n) true true 0 p 0).go = _
    rw [go_whole (fun q => Bool.noConfusion q.2) (.inr (.inr rfl)) (by decide) rfl rfl, i]
    rfl
theorem go_awayS {k : Nat} (hk : Lim k) (h : k ≠ 0 ∧ k ≠ 1 ∧ k ≠ 4 ∧ k ≠ 7) : ∀ (ls : List L) (p : Bool), (∀ d ∈ ls, Lim d.length) → ∃ p', (Hr.mk true (awayS k ls) true true 0 p 0).go = (Hr.mk true [] true true 0 p' 0, List.replicate ls.length (7, [0]))
  | [], p, _ => ⟨p, go_empty⟩
  | d :: ls, p, hl => by
    obtain ⟨p', i⟩ := go_awayS hk h ls true fun x hx => hl x (List.mem_cons_of_mem _ hx)
    have hd := hl d (List.mem_cons_self ..)
    refine ⟨p', ?_⟩
    show (Hr.mk true ((frm k d ++ frm 7 [0] ++ frm k []) ++ awayS k ls) true true 0 p 0).go = _
    rw [List.append_assoc, List.append_assoc, go_strange (fun q => Bool.noConfusion q.2) hk hd h, go_whole (fun q => Bool.noConfusion q.2) (.inr (.inr rfl)) (by decide) rfl rfl, go_strange (fun q => Bool.noConfusion q.2) hk (by unfold Lim; decide) h, i]
    rfl
end Go.Proofs.YtnngdlleicjegaaDoor
