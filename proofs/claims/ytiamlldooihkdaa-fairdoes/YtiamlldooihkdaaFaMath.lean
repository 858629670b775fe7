/-
  Queues that share what goes out, plain: whose turn it is, what is taken, what is pushed and dropped; that whole rounds in which nobody has enough may be gone through at once. No condition.
-/
import Derived.Test.YtiamlldooihkdaaObCells
namespace Go.Proofs.Ytiamlldooihkdaa
set_option maxRecDepth 100000
open Go.RowKit

/-- A number from 1 to 2^20. -/
def cutQ (n : Int) : Int := if n < 1 then 1 else if 1048576 < n then 1048576 else n
theorem cutQ_pos (n : Int) : 1 ≤ cutQ n := by unfold cutQ; split; omega; split <;> omega
theorem cutQ_le (n : Int) : cutQ n ≤ 1048576 := by unfold cutQ; split; omega; split <;> omega
theorem cutQ_in {n : Int} (h0 : 1 ≤ n) (h1 : n ≤ 1048576) : cutQ n = n := by unfold cutQ; rw [if_neg (by omega), if_neg (by omega)]
/-- Someone's: whose, what waits, the deficit. -/
structure FaE where
  id : Int
  l : List ByteArray
  d : Int
def fe0 : FaE := ⟨0, [], 0⟩
/-- Queues: the round, whether its first was served, how many were pushed ever. -/
structure FaQ where
  lim : Int
  qu : Int
  r : List FaE
  sv : Bool
  pz : Nat
def hdE (e : FaE) : ByteArray := e.l.headD ByteArray.empty
def tblE : List FaE → Int → Option (List ByteArray × Int)
  | [], _ => none
  | e :: t, x => if e.id = x then some (e.l, e.d) else tblE t x
def lsE (r : List FaE) (x : Int) : List ByteArray := match tblE r x with | some (l, _) => l | none => []
def cntE : List FaE → Nat
  | [] => 0
  | e :: t => e.l.length + cntE t
def dueE (f : FaQ) (e : FaE) : Int := if f.sv then e.d else e.d + f.qu
def turnE (f : FaQ) : Bool := match f.r with | [] => true | e :: _ => decide (((hdE e).size : Int) ≤ dueE f e)
def stepE (f : FaQ) : FaQ := match f.r with | [] => f | e :: t => { f with r := t ++ [{ e with d := dueE f e }], sv := false }
def takeE (f : FaQ) : FaQ := match f.r with
  | [] => f
  | e :: t => if e.l.tail = [] then { f with r := t, sv := false } else { f with r := { e with l := e.l.tail, d := dueE f e - (hdE e).size } :: t, sv := true }
def lackL : List FaE → Nat
  | [] => 0
  | e :: t => (((hdE e).size : Int) - e.d).toNat + lackL t
def lackE (f : FaQ) : Nat := lackL f.r + if f.sv then 1 else 0
def goE : Nat → FaQ → FaQ
  | 0, f => f
  | k + 1, f => if turnE f then f else goE k (stepE f)
def nextG (f : FaQ) : FaQ := goE (lackE f) f
def nextE (f : FaQ) : FaQ := takeE (nextG f)
def nextA (f : FaQ) : Int × ByteArray × Bool := match (nextG f).r with | [] => (0, ByteArray.empty, false) | e :: _ => (e.id, hdE e, true)
def newE (lim qu : Int) : FaQ := ⟨cutQ lim, cutQ qu, [], false, 0⟩
def pushE (f : FaQ) (x : Int) (s : ByteArray) : Int :=
  if 65535 < s.size then 8 else match tblE f.r x with | none => 0 | some (l, _) => if f.lim ≤ l.length then 4 else 0
def addL (r : List FaE) (x : Int) (s : ByteArray) : List FaE := match tblE r x with
  | none => r ++ [⟨x, [s], 0⟩]
  | some _ => r.map fun e => if e.id = x then { e with l := e.l ++ [s] } else e
def pushQ (f : FaQ) (x : Int) (s : ByteArray) : FaQ := if pushE f x s = 0 then { f with r := addL f.r x s, pz := f.pz + 1 } else { f with pz := f.pz + 1 }
def dropE (f : FaQ) (x : Int) : FaQ := { f with r := f.r.filter fun e => decide (e.id ≠ x), sv := match f.r with | [] => f.sv | e :: _ => if e.id = x then false else f.sv }
def addD (n : Int) (e : FaE) : FaE := { e with d := e.d + n }

theorem lackL_app (a b : List FaE) : lackL (a ++ b) = lackL a + lackL b := by
  induction a with
  | nil => simp [lackL]
  | cons e t ih => rw [List.cons_append, lackL, lackL, ih]; omega
theorem cntE_app (a b : List FaE) : cntE (a ++ b) = cntE a + cntE b := by
  induction a with
  | nil => simp [cntE]
  | cons e t ih => rw [List.cons_append, cntE, cntE, ih]; omega
theorem lack_step {f : FaQ} (hq : 1 ≤ f.qu) (ht : turnE f = false) : lackE (stepE f) + 1 ≤ lackE f := by
  unfold turnE at ht
  unfold lackE stepE
  cases hr : f.r with
  | nil => rw [hr] at ht; simp at ht
  | cons e t =>
    rw [hr] at ht
    have ht := of_decide_eq_false ht
    simp only [lackL_app, lackL]
    have e1 : (hdE { e with d := dueE f e }) = hdE e := rfl
    rw [e1]
    unfold dueE at ht ⊢
    cases f.sv <;> simp at ht ⊢ <;> omega
theorem go_ready {f : FaQ} (h : turnE f = true) : ∀ k, goE k f = f
  | 0 => rfl
  | k + 1 => by unfold goE; rw [if_pos h]
theorem step_qu (f : FaQ) : (stepE f).qu = f.qu := by unfold stepE; split <;> rfl
theorem go_more : ∀ (k m : Nat) (f : FaQ), 1 ≤ f.qu → lackE f ≤ k → lackE f ≤ m → goE k f = goE m f
  | 0, m, f, hq, h, _ => by
    cases ht : turnE f with
    | true => rw [go_ready ht, go_ready ht]
    | false => have := lack_step hq ht; omega
  | k + 1, m, f, hq, h, hm => by
    cases ht : turnE f with
    | true => rw [go_ready ht, go_ready ht]
    | false =>
      have hl := lack_step hq ht
      cases m with
      | zero => omega
      | succ m =>
        unfold goE
        rw [if_neg (by simp [ht]), if_neg (by simp [ht])]
        exact go_more k m _ (by rw [step_qu]; exact hq) (by omega) (by omega)
theorem next_step {f : FaQ} (hq : 1 ≤ f.qu) (ht : turnE f = false) : nextG (stepE f) = nextG f := by
  have hl := lack_step hq ht
  unfold nextG
  obtain ⟨m, hm⟩ : ∃ m, lackE f = m + 1 := ⟨lackE f - 1, by omega⟩
  rw [hm]
  conv => rhs; unfold goE
  rw [if_neg (by simp [ht])]
  exact go_more _ _ _ (by rw [step_qu]; exact hq) (Nat.le_refl _) (by omega)
theorem next_ready {f : FaQ} (h : turnE f = true) : nextG f = f := go_ready h _
theorem go_turn : ∀ (k : Nat) (f : FaQ), 1 ≤ f.qu → lackE f ≤ k → turnE (goE k f) = true
  | 0, f, hq, h => by
    cases ht : turnE f with
    | true => exact ht
    | false => have := lack_step hq ht; omega
  | k + 1, f, hq, h => by
    unfold goE
    cases ht : turnE f with
    | true => rw [if_pos rfl]; exact ht
    | false =>
      have hl := lack_step hq ht
      rw [if_neg (by simp)]
      exact go_turn k _ (by rw [step_qu]; exact hq) (by omega)
theorem next_turn {f : FaQ} (hq : 1 ≤ f.qu) : turnE (nextG f) = true := go_turn _ f hq (Nat.le_refl _)
/-- What a step that does not take keeps, the end of such steps has, too. -/
theorem next_ind {P : FaQ → Prop} {f : FaQ} (h0 : P f) (hs : ∀ g, P g → turnE g = false → P (stepE g)) : P (nextG f) := by
  have : ∀ (k : Nat) (g : FaQ), P g → P (goE k g) := fun k => by
    induction k with
    | zero => exact fun g h => h
    | succ k ih =>
      intro g h
      unfold goE
      cases ht : turnE g with
      | true => rw [if_pos rfl]; exact h
      | false => rw [if_neg (by simp)]; exact ih _ (hs g h ht)
  exact this _ _ h0
theorem round_one (f : FaQ) (hq : 1 ≤ f.qu) : ∀ (a b : List FaE), (∀ e ∈ a, e.d + f.qu < (hdE e).size) → nextG { f with r := a ++ b, sv := false } = nextG { f with r := b ++ a.map (addD f.qu), sv := false }
  | [], b, _ => by simp
  | e :: a, b, h => by
    have h1 := h e (List.mem_cons_self ..)
    have ht : turnE { f with r := e :: a ++ b, sv := false } = false := by
      unfold turnE dueE
      simp
      omega
    rw [← next_step (f := { f with r := e :: a ++ b, sv := false }) hq ht]
    have e1 : stepE { f with r := e :: a ++ b, sv := false } = { f with r := a ++ (b ++ [addD f.qu e]), sv := false } := by
      unfold stepE dueE addD
      simp
    rw [e1, round_one f hq a (b ++ [addD f.qu e]) fun x hx => h x (List.mem_cons_of_mem _ hx)]
    simp
theorem rounds (f : FaQ) (hq : 1 ≤ f.qu) (r : List FaE) : ∀ k : Nat, (∀ e ∈ r, e.d + k * f.qu < (hdE e).size) → nextG { f with r := r.map (addD (k * f.qu)), sv := false } = nextG { f with r := r, sv := false }
  | 0, _ => by
    have : r.map (addD ((0 : Nat) * f.qu)) = r := by
      rw [show addD ((0 : Nat) * f.qu) = id from funext fun e => by simp [addD]]
      simp
    rw [this]
  | k + 1, h => by
    have hk : ∀ e ∈ r, e.d + k * f.qu < (hdE e).size := fun e he => by
      have := h e he
      rw [Int.natCast_add, Int.add_mul] at this
      omega
    rw [← rounds f hq r k hk]
    have := round_one f hq (r.map (addD (k * f.qu))) [] fun e he => by
      obtain ⟨x, hx, rfl⟩ := List.mem_map.1 he
      have := h x hx
      rw [Int.natCast_add, Int.add_mul] at this
      show x.d + k * f.qu + f.qu < (hdE x).size
      omega
    rw [List.append_nil, List.nil_append, List.map_map] at this
    rw [this]
    congr 2
    apply List.map_congr_left
    intro e _
    unfold addD
    simp only [Function.comp_apply]
    congr 1
    rw [Int.natCast_add, Int.add_mul]
    omega

/-- What always holds. -/
structure FaQ.Ok (f : FaQ) : Prop where
  l0 : 1 ≤ f.lim
  l1 : f.lim ≤ 1048576
  q0 : 1 ≤ f.qu
  q1 : f.qu ≤ 1048576
  ids : (f.r.map FaE.id).Nodup
  i64 : ∀ e ∈ f.r, -9223372036854775808 ≤ e.id ∧ e.id ≤ 9223372036854775807
  ne : ∀ e ∈ f.r, e.l ≠ []
  ln : ∀ e ∈ f.r, (e.l.length : Int) ≤ f.lim
  sz : ∀ e ∈ f.r, ∀ s ∈ e.l, s.size ≤ 65535
  d0 : ∀ e ∈ f.r, 0 ≤ e.d
  bt : ∀ e ∈ f.r.tail, e.d ≤ 65535
  bh : ∀ e t, f.r = e :: t → e.d ≤ if f.sv then 1114111 else 65535
  n : cntE f.r ≤ f.pz
theorem new_ok (lim qu : Int) : (newE lim qu).Ok := by
  refine ⟨cutQ_pos _, cutQ_le _, cutQ_pos _, cutQ_le _, List.nodup_nil, ?_, ?_, ?_, ?_, ?_, ?_, ?_, Nat.le_refl _⟩ <;> simp [newE]
theorem hd_mem {e : FaE} (h : e.l ≠ []) : hdE e ∈ e.l := by
  unfold hdE
  cases e with
  | mk id l d =>
    cases l with
    | nil => exact absurd rfl h
    | cons s t => simp
theorem FaQ.Ok.hd {f : FaQ} (h : f.Ok) {e : FaE} (he : e ∈ f.r) : (hdE e).size ≤ 65535 := h.sz e he _ (hd_mem (h.ne e he))
theorem FaQ.Ok.due {f : FaQ} (h : f.Ok) {e : FaE} {t : List FaE} (hr : f.r = e :: t) : 0 ≤ e.d ∧ e.d ≤ 1114111 ∧ 0 ≤ dueE f e ∧ dueE f e ≤ 1114111 := by
  have h1 := h.d0 e (by rw [hr]; exact List.mem_cons_self ..)
  have h2 := h.bh e t hr
  have h3 := h.q0
  have h4 := h.q1
  unfold dueE
  cases hs : f.sv
  all_goals rw [hs] at h2; simp at h2 ⊢; omega
theorem step_ok {f : FaQ} (h : f.Ok) (ht : turnE f = false) : (stepE f).Ok := by
  unfold turnE at ht
  unfold stepE
  cases hr : f.r with
  | nil => rw [hr] at ht; simp at ht
  | cons e t =>
    rw [hr] at ht
    have ht := of_decide_eq_false ht
    have hm : ∀ x ∈ t ++ [{ e with d := dueE f e }], x ∈ f.r ∨ x = { e with d := dueE f e } := fun x hx => by
      rcases List.mem_append.1 hx with q | q
      · left; rw [hr]; exact List.mem_cons_of_mem _ q
      · right; simpa using q
    have he : e ∈ f.r := by rw [hr]; exact List.mem_cons_self ..
    have hd := h.due hr
    have hz := h.hd he
    have hid := h.ids
    rw [hr, List.map_cons, List.nodup_cons] at hid
    have ht0 : ∀ x ∈ t, x.d ≤ 65535 := fun x hx => h.bt x (by rw [hr]; exact hx)
    refine ⟨h.l0, h.l1, h.q0, h.q1, ?_, ?_, ?_, ?_, ?_, ?_, ?_, ?_, ?_⟩
    · rw [List.map_append, List.nodup_append]
      refine ⟨hid.2, by simp, fun a ha b hb => ?_⟩
      have : b = e.id := by simpa using hb
      subst this
      exact fun q => hid.1 (q ▸ ha)
    · intro x hx
      rcases hm x hx with q | rfl
      · exact h.i64 x q
      · exact h.i64 e he
    · intro x hx
      rcases hm x hx with q | rfl
      · exact h.ne x q
      · exact h.ne e he
    · intro x hx
      rcases hm x hx with q | rfl
      · exact h.ln x q
      · exact h.ln e he
    · intro x hx
      rcases hm x hx with q | rfl
      · exact h.sz x q
      · exact h.sz e he
    · intro x hx
      rcases hm x hx with q | rfl
      · exact h.d0 x q
      · exact hd.2.2.1
    · intro x hx
      rcases List.mem_append.1 (List.mem_of_mem_tail hx) with q | q
      · exact ht0 x q
      · have : x = { e with d := dueE f e } := by simpa using q
        subst this
        show dueE f e ≤ 65535
        omega
    · intro x u hx
      have : x ∈ t ++ [{ e with d := dueE f e }] := by
        have := List.mem_cons_self (a := x) (l := u)
        rw [← hx] at this
        exact this
      simp only [Bool.false_eq_true, if_false]
      rcases List.mem_append.1 this with q | q
      · exact ht0 x q
      · have : x = { e with d := dueE f e } := by simpa using q
        subst this
        show dueE f e ≤ 65535
        omega
    · have := h.n
      rw [hr] at this
      simp only [cntE_app, cntE] at this ⊢
      omega
theorem next_ok {f : FaQ} (h : f.Ok) : (nextG f).Ok := next_ind h fun _ hg ht => step_ok hg ht
theorem tail_len {l : List ByteArray} : l.tail.length = l.length - 1 := by simp
theorem take_ok {f : FaQ} (h : f.Ok) (ht : turnE f = true) : (takeE f).Ok := by
  unfold takeE
  cases hr : f.r with
  | nil => simpa using h
  | cons e t =>
    unfold turnE at ht
    rw [hr] at ht
    have ht := of_decide_eq_true ht
    have he : e ∈ f.r := by rw [hr]; exact List.mem_cons_self ..
    have hd := h.due hr
    have hz := h.hd he
    have hid := h.ids
    have hn := h.n
    rw [hr] at hn
    simp only [cntE] at hn
    rw [hr, List.map_cons, List.nodup_cons] at hid
    have ht0 : ∀ x ∈ t, x.d ≤ 65535 := fun x hx => h.bt x (by rw [hr]; exact hx)
    have mt : ∀ x ∈ t, x ∈ f.r := fun x hx => by rw [hr]; exact List.mem_cons_of_mem _ hx
    by_cases q : e.l.tail = []
    · simp only [q, if_true]
      refine ⟨h.l0, h.l1, h.q0, h.q1, hid.2, fun x hx => h.i64 x (mt x hx), fun x hx => h.ne x (mt x hx), fun x hx => h.ln x (mt x hx), fun x hx => h.sz x (mt x hx), fun x hx => h.d0 x (mt x hx), fun x hx => ht0 x (List.mem_of_mem_tail hx), fun x u hx => ?_, ?_⟩
      · simp only [Bool.false_eq_true, if_false]
        exact ht0 x (by have := List.mem_cons_self (a := x) (l := u); rw [← hx] at this; exact this)
      · show cntE t ≤ f.pz
        omega
    · simp only [q, if_false]
      have hm : ∀ x ∈ ({ e with l := e.l.tail, d := dueE f e - (hdE e).size } : FaE) :: t, x ∈ t ∨ x = { e with l := e.l.tail, d := dueE f e - (hdE e).size } := fun x hx => by
        rcases List.mem_cons.1 hx with q | q
        · exact .inr q
        · exact .inl q
      have hl := tail_len (l := e.l)
      refine ⟨h.l0, h.l1, h.q0, h.q1, ?_, ?_, ?_, ?_, ?_, ?_, ?_, ?_, ?_⟩
      · rw [List.map_cons, List.nodup_cons]
        exact hid
      · intro x hx
        rcases hm x hx with q | rfl
        · exact h.i64 x (mt x q)
        · exact h.i64 e he
      · intro x hx
        rcases hm x hx with q' | rfl
        · exact h.ne x (mt x q')
        · exact q
      · intro x hx
        rcases hm x hx with q | rfl
        · exact h.ln x (mt x q)
        · have := h.ln e he
          show (e.l.tail.length : Int) ≤ f.lim
          omega
      · intro x hx
        rcases hm x hx with q | rfl
        · exact h.sz x (mt x q)
        · exact fun s hs => h.sz e he s (List.mem_of_mem_tail hs)
      · intro x hx
        rcases hm x hx with q | rfl
        · exact h.d0 x (mt x q)
        · show 0 ≤ dueE f e - (hdE e).size
          omega
      · exact fun x hx => ht0 x hx
      · intro x u hx
        injection hx with hx _
        subst hx
        simp only [if_true]
        show dueE f e - (hdE e).size ≤ 1114111
        omega
      · simp only [cntE]
        omega
end Go.Proofs.Ytiamlldooihkdaa
