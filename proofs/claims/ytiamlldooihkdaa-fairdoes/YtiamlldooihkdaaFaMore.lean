/-
  Queues, plain: the table of who has what, and the count, behind each act. No condition.
-/
import Derived.Test.YtiamlldooihkdaaFaMath
namespace Go.Proofs.Ytiamlldooihkdaa
set_option maxRecDepth 100000
open Go.RowKit

/-- A table turned at one place. -/
def updT (tb : Int → Option (List ByteArray × Int)) (x : Int) (v : Option (List ByteArray × Int)) : Int → Option (List ByteArray × Int) := fun y => if y = x then v else tb y
theorem tbl_none : ∀ (r : List FaE) (x : Int), tblE r x = none ↔ ∀ e ∈ r, e.id ≠ x
  | [], x => by simp [tblE]
  | e :: t, x => by
    unfold tblE
    by_cases q : e.id = x
    · rw [if_pos q]; simp [q]
    · rw [if_neg q, tbl_none t x]; simp [q]
theorem tbl_mem : ∀ (r : List FaE) (e : FaE), (r.map FaE.id).Nodup → e ∈ r → tblE r e.id = some (e.l, e.d)
  | [], e, _, h => by cases h
  | a :: t, e, hn, h => by
    rw [List.map_cons, List.nodup_cons] at hn
    unfold tblE
    rcases List.mem_cons.1 h with rfl | h
    · rw [if_pos rfl]
    · have : a.id ≠ e.id := fun q => hn.1 (by rw [q]; exact List.mem_map_of_mem h)
      rw [if_neg this]
      exact tbl_mem t e hn.2 h
theorem tbl_some : ∀ (r : List FaE) (x : Int) (l : List ByteArray) (d : Int), tblE r x = some (l, d) → ∃ e ∈ r, e.id = x ∧ e.l = l ∧ e.d = d
  | [], x, l, d, h => by cases h
  | a :: t, x, l, d, h => by
    unfold tblE at h
    by_cases q : a.id = x
    · rw [if_pos q] at h
      injection h with h
      injection h with h1 h2
      exact ⟨a, List.mem_cons_self .., q, h1, h2⟩
    · rw [if_neg q] at h
      obtain ⟨e, he, r⟩ := tbl_some t x l d h
      exact ⟨e, List.mem_cons_of_mem _ he, r⟩
theorem tbl_app (a b : List FaE) (x : Int) : tblE (a ++ b) x = match tblE a x with | some v => some v | none => tblE b x := by
  induction a with
  | nil => simp [tblE]
  | cons e t ih =>
    rw [List.cons_append, tblE, tblE]
    by_cases q : e.id = x
    · rw [if_pos q, if_pos q]
    · rw [if_neg q, if_neg q, ih]
theorem tbl_head (e : FaE) (t : List FaE) : tblE (e :: t) e.id = some (e.l, e.d) := by unfold tblE; rw [if_pos rfl]
theorem tbl_set_head (e : FaE) (t : List FaE) (l : List ByteArray) (d : Int) : tblE ({ e with l := l, d := d } :: t) = updT (tblE (e :: t)) e.id (some (l, d)) := by
  funext x
  unfold updT tblE
  by_cases q : e.id = x
  · rw [if_pos q, if_pos q.symm]
  · rw [if_neg q, if_neg (fun h => q h.symm), if_neg q]
theorem tbl_tail (e : FaE) (t : List FaE) (h : ∀ x ∈ t, x.id ≠ e.id) : tblE t = updT (tblE (e :: t)) e.id none := by
  funext x
  unfold updT
  by_cases q : x = e.id
  · rw [if_pos q, q]
    exact (tbl_none t _).2 h
  · rw [if_neg q, tblE, if_neg (fun h => q h.symm)]
theorem tbl_rot (e : FaE) (t : List FaE) (h : ∀ x ∈ t, x.id ≠ e.id) : tblE (t ++ [e]) = tblE (e :: t) := by
  funext x
  rw [tbl_app]
  by_cases q : e.id = x
  · subst q
    rw [(tbl_none t _).2 h]
    exact (tbl_head e []).trans (tbl_head e t).symm
  · have e1 : tblE (e :: t) x = tblE t x := by conv => lhs; unfold tblE; rw [if_neg q]
    have e2 : tblE [e] x = none := by simp [tblE, q]
    rw [e1, e2]
    cases tblE t x <;> rfl
theorem tbl_map (r : List FaE) (x n : Int) : tblE (r.map (addD n)) x = (tblE r x).map fun v => (v.1, v.2 + n) := by
  induction r with
  | nil => rfl
  | cons e t ih =>
    rw [List.map_cons, tblE, tblE, ih]
    show (if e.id = x then some (e.l, e.d + n) else _) = _
    by_cases q : e.id = x
    · rw [if_pos q, if_pos q]; rfl
    · rw [if_neg q, if_neg q]
theorem tbl_filter (r : List FaE) (x : Int) : tblE (r.filter fun e => decide (e.id ≠ x)) = updT (tblE r) x none := by
  funext y
  unfold updT
  induction r with
  | nil => simp [tblE]
  | cons e t ih =>
    rw [List.filter_cons]
    by_cases q : e.id = x
    · rw [if_neg (by simp [q]), ih]
      by_cases z : y = x
      · rw [if_pos z, if_pos z]
      · rw [if_neg z, if_neg z, tblE, if_neg (fun h => z (h.symm.trans q))]
    · rw [if_pos (by simp [q]), tblE, ih]
      by_cases z : y = x
      · rw [if_pos z, if_pos z, if_neg (fun h => q (h.trans z))]
      · rw [if_neg z, if_neg z]
        conv => rhs; unfold tblE
theorem tbl_add (r : List FaE) (x : Int) (s : ByteArray) : tblE (addL r x s) = updT (tblE r) x (match tblE r x with | none => some ([s], 0) | some (l, d) => some (l ++ [s], d)) := by
  funext y
  unfold addL updT
  cases h : tblE r x with
  | none =>
    simp only
    rw [tbl_app]
    by_cases z : y = x
    · rw [z, h, if_pos rfl]
      simp [tblE]
    · rw [if_neg z]
      have z' : ¬ x = y := fun q => z q.symm
      have : tblE [(⟨x, [s], 0⟩ : FaE)] y = none := by simp [tblE, z']
      rw [this]
      cases tblE r y <;> rfl
  | some v =>
    obtain ⟨l, d⟩ := v
    simp only
    induction r with
    | nil => cases h
    | cons e t ih =>
      rw [List.map_cons]
      by_cases q : e.id = x
      · rw [if_pos q]
        have he : tblE (e :: t) x = some (e.l, e.d) := by rw [← q]; exact tbl_head e t
        rw [h] at he
        injection he with he
        injection he with h1 h2
        by_cases z : y = x
        · rw [if_pos z, tblE, if_pos (q.trans z.symm), h1, h2]
        · rw [if_neg z, tblE, tblE, if_neg (fun u => z (u.symm.trans q)), if_neg (fun u => z (u.symm.trans q))]
          clear ih h
          induction t with
          | nil => rfl
          | cons a t ih2 =>
            rw [List.map_cons, tblE, tblE]
            by_cases u : a.id = x
            · rw [if_pos u, if_neg (fun v : a.id = y => z (v.symm.trans u)), if_neg (fun v : a.id = y => z (v.symm.trans u))]
              exact ih2
            · rw [if_neg u, ih2]
      · rw [if_neg q, tblE, tblE]
        rw [tblE, if_neg q] at h
        have := ih h
        by_cases z : y = x
        · rw [if_neg (fun u => q (u.trans z)), this, if_pos z, if_pos z]
        · rw [this, if_neg z, if_neg z]
theorem cnt_filter (r : List FaE) (x : Int) (h : (r.map FaE.id).Nodup) : cntE (r.filter fun e => decide (e.id ≠ x)) + (lsE r x).length = cntE r := by
  induction r with
  | nil => simp [cntE, lsE, tblE]
  | cons e t ih =>
    rw [List.map_cons, List.nodup_cons] at h
    have := ih h.2
    rw [List.filter_cons]
    by_cases q : e.id = x
    · rw [if_neg (by simp [q])]
      have hn : tblE t x = none := (tbl_none t x).2 fun a ha u => h.1 (by rw [q, ← u]; exact List.mem_map_of_mem ha)
      have e1 : lsE (e :: t) x = e.l := by unfold lsE; rw [← q, tbl_head]
      have e2 : lsE t x = [] := by unfold lsE; rw [hn]
      rw [e2] at this
      rw [e1]
      simp only [cntE, List.length_nil] at this ⊢
      omega
    · rw [if_pos (by simp [q])]
      have e1 : lsE (e :: t) x = lsE t x := by unfold lsE; conv => lhs; rw [tblE, if_neg q]
      rw [e1]
      simp only [cntE]
      omega
theorem cnt_add (r : List FaE) (x : Int) (s : ByteArray) (h : (r.map FaE.id).Nodup) : cntE (addL r x s) = cntE r + 1 := by
  unfold addL
  cases hx : tblE r x with
  | none => simp [cntE_app, cntE]
  | some v =>
    simp only
    induction r with
    | nil => cases hx
    | cons e t ih =>
      rw [List.map_cons, List.nodup_cons] at h
      rw [List.map_cons]
      by_cases q : e.id = x
      · rw [if_pos q]
        have : t.map (fun e => if e.id = x then { e with l := e.l ++ [s] } else e) = t := by
          have : ∀ a ∈ t, (if a.id = x then { a with l := a.l ++ [s] } else a) = a := fun a ha => if_neg fun u => h.1 (by rw [q, ← u]; exact List.mem_map_of_mem ha)
          rw [List.map_congr_left this]
          simp
        rw [this]
        simp [cntE]
        omega
      · rw [if_neg q]
        rw [tblE, if_neg q] at hx
        simp only [cntE]
        rw [ih h.2 hx]
        omega
theorem cnt_map (r : List FaE) (n : Int) : cntE (r.map (addD n)) = cntE r := by
  induction r with
  | nil => rfl
  | cons e t ih => rw [List.map_cons, cntE, cntE, ih]; rfl
theorem lack_map (r : List FaE) (n : Int) (h : 0 ≤ n) : lackL (r.map (addD n)) ≤ lackL r := by
  induction r with
  | nil => exact Nat.le_refl _
  | cons e t ih =>
    rw [List.map_cons, lackL, lackL]
    have e1 : hdE (addD n e) = hdE e := rfl
    have e2 : (addD n e).d = e.d + n := rfl
    rw [e1, e2]
    omega
theorem len_cnt {f : FaQ} (h : f.Ok) : f.r.length ≤ cntE f.r ∧ ∀ e ∈ f.r, e.l.length ≤ cntE f.r := by
  have hn := h.ne
  generalize f.r = r at hn
  clear h
  induction r with
  | nil => simp [cntE]
  | cons e t ih =>
    obtain ⟨i1, i2⟩ := ih fun x hx => hn x (List.mem_cons_of_mem _ hx)
    have := hn e (List.mem_cons_self ..)
    have hl : 0 < e.l.length := List.length_pos_iff.2 this
    refine ⟨by simp only [List.length_cons, cntE]; omega, fun x hx => ?_⟩
    rcases List.mem_cons.1 hx with rfl | hx
    · simp only [cntE]; omega
    · have := i2 x hx
      simp only [cntE]; omega
theorem lack_le {f : FaQ} (h : f.Ok) : lackE f ≤ 65535 * f.r.length + 1 := by
  have h1 : ∀ e ∈ f.r, (hdE e).size ≤ 65535 := fun e he => h.hd he
  have h2 := h.d0
  have : ∀ r : List FaE, (∀ e ∈ r, (hdE e).size ≤ 65535) → (∀ e ∈ r, 0 ≤ e.d) → lackL r ≤ 65535 * r.length := fun r => by
    induction r with
    | nil => intro _ _; simp [lackL]
    | cons e t ih =>
      intro a b
      have := ih (fun x hx => a x (List.mem_cons_of_mem _ hx)) fun x hx => b x (List.mem_cons_of_mem _ hx)
      have a1 := a e (List.mem_cons_self ..)
      have b1 := b e (List.mem_cons_self ..)
      rw [lackL, List.length_cons]
      omega
  have := this f.r h1 h2
  unfold lackE
  split <;> omega
theorem addL_mem {r : List FaE} {x : Int} {s : ByteArray} {e : FaE} (h : e ∈ addL r x s) : e ∈ r ∨ (tblE r x = none ∧ e = ⟨x, [s], 0⟩) ∨ ∃ a ∈ r, a.id = x ∧ e = { a with l := a.l ++ [s] } := by
  unfold addL at h
  cases hx : tblE r x with
  | none =>
    rw [hx] at h
    rcases List.mem_append.1 h with q | q
    · exact .inl q
    · exact .inr (.inl ⟨rfl, by simpa using q⟩)
  | some v =>
    rw [hx] at h
    obtain ⟨a, ha, rfl⟩ := List.mem_map.1 h
    by_cases q : a.id = x
    · rw [if_pos q]
      exact .inr (.inr ⟨a, ha, q, rfl⟩)
    · rw [if_neg q]
      exact .inl ha
theorem addL_ids (r : List FaE) (x : Int) (s : ByteArray) : (addL r x s).map FaE.id = match tblE r x with | none => r.map FaE.id ++ [x] | some _ => r.map FaE.id := by
  unfold addL
  cases tblE r x with
  | none => simp
  | some v =>
    simp only [List.map_map]
    apply List.map_congr_left
    intro e _
    simp only [Function.comp_apply]
    split <;> rfl
theorem push_ok {f : FaQ} (h : f.Ok) (x : Int) (s : ByteArray) (hx : -9223372036854775808 ≤ x ∧ x ≤ 9223372036854775807) : (pushQ f x s).Ok := by
  unfold pushQ
  by_cases hp : pushE f x s = 0
  · rw [if_pos hp]
    have hs : s.size ≤ 65535 := by
      unfold pushE at hp
      by_cases q : 65535 < s.size
      · rw [if_pos q] at hp; cases hp
      · omega
    have hln : ∀ a ∈ f.r, a.id = x → (a.l.length : Int) < f.lim := fun a ha q => by
      unfold pushE at hp
      rw [if_neg (by omega), ← q, tbl_mem f.r a h.ids ha] at hp
      simp only at hp
      by_cases z : f.lim ≤ a.l.length
      · rw [if_pos z] at hp; cases hp
      · omega
    have hm := fun e => addL_mem (r := f.r) (x := x) (s := s) (e := e)
    have hl0 := h.l0
    refine ⟨h.l0, h.l1, h.q0, h.q1, ?_, ?_, ?_, ?_, ?_, ?_, ?_, ?_, ?_⟩
    · rw [addL_ids]
      cases hx : tblE f.r x with
      | none =>
        rw [List.nodup_append]
        refine ⟨h.ids, by simp, fun a ha b hb => ?_⟩
        obtain ⟨e, he, rfl⟩ := List.mem_map.1 ha
        have : b = x := by simpa using hb
        subst this
        exact (tbl_none f.r _).1 hx e he
      | some v => exact h.ids
    · intro e he
      rcases hm e he with q | ⟨_, rfl⟩ | ⟨a, ha, _, rfl⟩
      · exact h.i64 e q
      · exact hx
      · exact h.i64 a ha
    · intro e he
      rcases hm e he with q | ⟨_, rfl⟩ | ⟨a, ha, _, rfl⟩
      · exact h.ne e q
      · simp
      · simp
    · intro e he
      rcases hm e he with q | ⟨_, rfl⟩ | ⟨a, ha, q, rfl⟩
      · exact h.ln e q
      · simpa using hl0
      · have := hln a ha q
        simp
        omega
    · intro e he
      rcases hm e he with q | ⟨_, rfl⟩ | ⟨a, ha, q, rfl⟩
      · exact h.sz e q
      · simpa using hs
      · intro t ht
        rcases List.mem_append.1 ht with u | u
        · exact h.sz a ha t u
        · have : t = s := by simpa using u
          subst this
          exact hs
    · intro e he
      rcases hm e he with q | ⟨_, rfl⟩ | ⟨a, ha, q, rfl⟩
      · exact h.d0 e q
      · exact Int.le_refl _
      · exact h.d0 a ha
    · show ∀ e ∈ (addL f.r x s).tail, e.d ≤ 65535
      have hb := h.bt
      unfold addL
      cases hx : tblE f.r x with
      | none =>
        simp only
        intro e he
        cases hr : f.r with
        | nil => rw [hr] at he; simp at he
        | cons a t =>
          rw [hr] at he hb
          rcases List.mem_append.1 (show e ∈ t ++ [⟨x, [s], 0⟩] from he) with q | q
          · exact hb e q
          · have : e = ⟨x, [s], 0⟩ := by simpa using q
            subst this
            show (0 : Int) ≤ 65535
            decide
      | some v =>
        simp only
        intro e he
        rw [← List.map_tail] at he
        obtain ⟨a, ha, rfl⟩ := List.mem_map.1 he
        have := hb a ha
        split <;> exact this
    · intro e t he
      have hb := h.bh
      have he' : addL f.r x s = e :: t := he
      unfold addL at he'
      cases hr : f.r with
      | nil =>
        rw [hr] at he'
        simp [tblE] at he'
        rw [← he'.1]
        show (0 : Int) ≤ if f.sv then 1114111 else 65535
        split <;> decide
      | cons a u =>
        rw [hr] at he'
        have := hb a u hr
        cases hx : tblE (a :: u) x with
        | none =>
          rw [hx] at he'
          injection he' with he' _
          rw [← he']
          exact this
        | some v =>
          rw [hx] at he'
          injection he' with he' _
          rw [← he']
          show (if a.id = x then ({ a with l := a.l ++ [s] } : FaE) else a).d ≤ _
          split <;> exact this
    · have := h.n
      show cntE (addL f.r x s) ≤ f.pz + 1
      rw [cnt_add _ _ _ h.ids]
      omega
  · rw [if_neg hp]
    exact ⟨h.l0, h.l1, h.q0, h.q1, h.ids, h.i64, h.ne, h.ln, h.sz, h.d0, h.bt, h.bh, Nat.le_succ_of_le h.n⟩
theorem drop_ok {f : FaQ} (h : f.Ok) (x : Int) : (dropE f x).Ok := by
  have hm : ∀ e ∈ f.r.filter (fun e => decide (e.id ≠ x)), e ∈ f.r := fun e he => (List.mem_filter.1 he).1
  have htl : ∀ e ∈ (f.r.filter (fun e => decide (e.id ≠ x))).tail, e ∈ f.r.tail := by
    cases f.r with
    | nil => simp
    | cons a t =>
      intro e he
      rw [List.filter_cons] at he
      by_cases q : a.id = x
      · rw [if_neg (by simp [q])] at he
        exact (List.mem_filter.1 (List.mem_of_mem_tail he)).1
      · rw [if_pos (by simp [q])] at he
        exact (List.mem_filter.1 he).1
  refine ⟨h.l0, h.l1, h.q0, h.q1, ?_, fun e he => h.i64 e (hm e he), fun e he => h.ne e (hm e he), fun e he => h.ln e (hm e he), fun e he => h.sz e (hm e he), fun e he => h.d0 e (hm e he), fun e he => h.bt e (htl e he), ?_, ?_⟩
  · exact (List.filter_sublist.map _).nodup h.ids
  · intro e t he
    have he' : f.r.filter (fun e => decide (e.id ≠ x)) = e :: t := he
    show e.d ≤ if (match f.r with | [] => f.sv | e :: _ => if e.id = x then false else f.sv) then 1114111 else 65535
    cases hr : f.r with
    | nil => rw [hr] at he'; cases he'
    | cons a u =>
      rw [hr, List.filter_cons] at he'
      by_cases q : a.id = x
      · rw [if_neg (by simp [q])] at he'
        simp only [q, if_true, Bool.false_eq_true, if_false]
        have : e ∈ u := (List.mem_filter.1 (show e ∈ u.filter _ by rw [he']; exact List.mem_cons_self ..)).1
        exact h.bt e (by rw [hr]; exact this)
      · rw [if_pos (by simp [q])] at he'
        injection he' with he' _
        rw [← he']
        simp only [q, if_false]
        exact h.bh a u hr
  · have h1 := cnt_filter f.r x h.ids
    have h2 := h.n
    show cntE (f.r.filter _) ≤ f.pz
    omega

/-- What is told of the lists alone. -/
theorem ls_step {f : FaQ} (h : f.Ok) (x : Int) : lsE (stepE f).r x = lsE f.r x := by
  unfold stepE
  cases hr : f.r with
  | nil => simp [hr]
  | cons e t =>
    have hid := h.ids
    rw [hr, List.map_cons, List.nodup_cons] at hid
    have hn : ∀ a ∈ t, a.id ≠ e.id := fun a ha q => hid.1 (q ▸ List.mem_map_of_mem ha)
    simp only
    unfold lsE
    have e1 := tbl_rot { e with d := dueE f e } t hn
    rw [e1]
    have e2 := tbl_set_head e t e.l (dueE f e)
    rw [e2]
    unfold updT
    by_cases q : x = e.id
    · rw [if_pos q, q, tbl_head]
    · rw [if_neg q]
theorem cnt_step (f : FaQ) : cntE (stepE f).r = cntE f.r := by
  unfold stepE
  cases hr : f.r with
  | nil => simp [hr]
  | cons e t =>
    simp only [cntE_app, cntE]
    omega
theorem len_step (f : FaQ) : (stepE f).r.length = f.r.length := by
  unfold stepE
  cases hr : f.r with
  | nil => simp [hr]
  | cons e t => simp
theorem keep_step (f : FaQ) : (stepE f).lim = f.lim ∧ (stepE f).qu = f.qu ∧ (stepE f).pz = f.pz := by
  unfold stepE
  split <;> exact ⟨rfl, rfl, rfl⟩
structure SameL (f g : FaQ) : Prop where
  ok : g.Ok
  lim : g.lim = f.lim
  qu : g.qu = f.qu
  pz : g.pz = f.pz
  cnt : cntE g.r = cntE f.r
  len : g.r.length = f.r.length
  ls : ∀ x, lsE g.r x = lsE f.r x
theorem SameL.refl {f : FaQ} (h : f.Ok) : SameL f f := ⟨h, rfl, rfl, rfl, rfl, rfl, fun _ => rfl⟩
theorem SameL.step {f g : FaQ} (h : SameL f g) (ht : turnE g = false) : SameL f (stepE g) := by
  obtain ⟨h1, h2, h3⟩ := keep_step g
  exact ⟨step_ok h.ok ht, h1.trans h.lim, h2.trans h.qu, h3.trans h.pz, (cnt_step g).trans h.cnt, (len_step g).trans h.len, fun x => (ls_step h.ok x).trans (h.ls x)⟩
theorem next_same {f : FaQ} (h : f.Ok) : SameL f (nextG f) := next_ind (.refl h) fun _ hg ht => hg.step ht
/-- What Next tells, and what it leaves. -/
theorem next_tells {f : FaQ} (h : f.Ok) (hr : f.r ≠ []) : ∃ a s l, nextA f = (a, s, true) ∧ lsE f.r a = s :: l ∧ (∀ x, lsE (nextE f).r x = if x = a then l else lsE f.r x) ∧ cntE (nextE f).r + 1 = cntE f.r ∧ (nextE f).Ok ∧ (nextE f).lim = f.lim ∧ (nextE f).qu = f.qu ∧ (nextE f).pz = f.pz := by
  have hs := next_same h
  have hok := take_ok hs.ok (next_turn h.q0)
  have hlen := hs.len
  unfold nextA nextE
  cases hg : (nextG f).r with
  | nil => rw [hg] at hlen; exact absurd (List.eq_nil_of_length_eq_zero hlen.symm) hr
  | cons e t =>
    have hm : e ∈ (nextG f).r := by rw [hg]; exact List.mem_cons_self ..
    have hne := hs.ok.ne e hm
    have hid := hs.ok.ids
    rw [hg, List.map_cons, List.nodup_cons] at hid
    have hn : ∀ a ∈ t, a.id ≠ e.id := fun a ha q => hid.1 (q ▸ List.mem_map_of_mem ha)
    have hl : e.l = hdE e :: e.l.tail := by
      unfold hdE
      cases hl : e.l with
      | nil => exact absurd hl hne
      | cons s t => rfl
    have hle : lsE (nextG f).r e.id = e.l := by unfold lsE; rw [hg, tbl_head]
    refine ⟨e.id, hdE e, e.l.tail, rfl, ?_, ?_, ?_, hok, ?_⟩
    · rw [← hs.ls, hle]
      exact hl
    · intro x
      rw [← hs.ls]
      unfold takeE
      rw [hg]
      simp only
      by_cases q : e.l.tail = []
      · rw [if_pos q]
        simp only
        unfold lsE
        rw [tbl_tail e t hn]
        unfold updT
        by_cases z : x = e.id
        · rw [if_pos z, if_pos z, q]
        · rw [if_neg z, if_neg z]
      · rw [if_neg q]
        simp only
        unfold lsE
        rw [tbl_set_head]
        unfold updT
        by_cases z : x = e.id
        · rw [if_pos z, if_pos z]
        · rw [if_neg z, if_neg z]
    · rw [← hs.cnt]
      unfold takeE
      rw [hg]
      simp only
      have h1 : e.l.length = e.l.tail.length + 1 := by conv => lhs; rw [hl, List.length_cons]
      by_cases q : e.l.tail = []
      · rw [if_pos q]
        rw [q] at h1
        simp only [cntE, List.length_nil] at h1 ⊢
        omega
      · rw [if_neg q]
        simp only [cntE]
        omega
    · unfold takeE
      rw [hg]
      simp only
      by_cases q : e.l.tail = []
      · rw [if_pos q]
        exact ⟨hs.lim, hs.qu, hs.pz⟩
      · rw [if_neg q]
        exact ⟨hs.lim, hs.qu, hs.pz⟩
theorem next_none {f : FaQ} (hr : f.r = []) : nextA f = (0, ByteArray.empty, false) ∧ nextE f = f := by
  have ht : turnE f = true := by unfold turnE; rw [hr]
  unfold nextA nextE
  rw [next_ready ht]
  unfold takeE
  rw [hr]
  exact ⟨rfl, rfl⟩
end Go.Proofs.Ytiamlldooihkdaa
