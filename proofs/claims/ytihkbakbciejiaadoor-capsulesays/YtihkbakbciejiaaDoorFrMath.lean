/-
  Frames: which are right, how each is written, how one is read. Plain facts; no condition.
-/
import Derived.Test.YtihkbakbciejiaaDoorFrRead
namespace Go.Proofs.YtihkbakbciejiaaDoor
set_option maxRecDepth 100000

/-- A frame. -/
structure Fr where
  kind : Int
  id : Int
  off : Int
  fin : Bool
  code : Int
  data : L
  rg : List Rg
/-- Are two frames one and the same? -/
def eqF (a b : Fr) : Bool := decide (a.kind = b.kind ∧ a.id = b.id ∧ a.off = b.off ∧ a.fin = b.fin ∧ a.code = b.code ∧ a.data = b.data ∧ a.rg = b.rg)
theorem eqF_iff {a b : Fr} : eqF a b = true ↔ a = b := by
  unfold eqF
  cases a
  cases b
  simp
theorem eqF_true {a b : Fr} (h : a = b) : eqF a b = true := eqF_iff.2 h
theorem eqF_false {a b : Fr} (h : ¬ a = b) : eqF a b = false := by
  rw [← Bool.not_eq_true, eqF_iff]
  exact h
/-- .. and rows of them? -/
def eqFs : List Fr → List Fr → Bool
  | [], [] => true
  | f :: l, g :: m => eqF f g && eqFs l m
  | [], _ :: _ => false
  | _ :: _, [] => false
theorem eqFs_iff : ∀ {l m : List Fr}, eqFs l m = true ↔ l = m
  | [], [] => by simp [eqFs]
  | f :: l, g :: m => by simp [eqFs, eqF_iff, eqFs_iff]
  | [], _ :: _ => by simp [eqFs]
  | _ :: _, [] => by simp [eqFs]
theorem eqFs_true {l m : List Fr} (h : l = m) : eqFs l m = true := eqFs_iff.2 h
theorem eqFs_false {l m : List Fr} (h : ¬ l = m) : eqFs l m = false := by
  rw [← Bool.not_eq_true, eqFs_iff]
  exact h
def kindB (k : Int) : Bool := decide (k = 0) || decide (k = 1) || decide (k = 2) || decide (k = 4) || decide (k = 8) || decide (k = 17) || decide (k = 28) || decide (k = 48)
theorem kind_iff {k : Int} : kindB k = true ↔ k = 0 ∨ k = 1 ∨ k = 2 ∨ k = 4 ∨ k = 8 ∨ k = 17 ∨ k = 28 ∨ k = 48 := by simp [kindB, or_assoc]
/-- The fields of its kind alone. -/
def bare (f : Fr) : Fr :=
  if f.kind = 2 then ⟨f.kind, 0, 0, false, 0, [], f.rg⟩
  else if f.kind = 4 then ⟨f.kind, f.id, f.off, false, f.code, [], []⟩
  else if f.kind = 8 then ⟨f.kind, f.id, f.off, f.fin, 0, f.data, []⟩
  else if f.kind = 17 then ⟨f.kind, f.id, f.off, false, 0, [], []⟩
  else if f.kind = 28 then ⟨f.kind, 0, 0, false, f.code, [], []⟩
  else if f.kind = 48 then ⟨f.kind, 0, 0, false, 0, f.data, []⟩
  else ⟨f.kind, 0, 0, false, 0, [], []⟩
def numB (n : Int) : Bool := decide (0 ≤ n) && decide (n ≤ 4611686018427387903)
theorem numB_iff {n : Int} : numB n = true ↔ 0 ≤ n ∧ n ≤ 4611686018427387903 := by simp [numB]
/-- What is wrong with a frame. -/
def chkF (f : Fr) : Int :=
  if kindB f.kind = false then 5
  else if eqF f (bare f) = false then 3
  else if (numB f.id && numB f.off && numB f.code) = false then 2
  else if f.kind = 8 ∧ 4611686018427387903 - (f.data.length : Int) < f.off then 2
  else if 1200 < f.data.length then 8
  else if f.kind = 2 ∧ (f.rg = [] ∨ chkR f.rg ≠ 0) then 3
  else 0
/-- A right frame. -/
structure Rt (f : Fr) : Prop where
  kind : kindB f.kind = true
  bare : f = bare f
  id : 0 ≤ f.id ∧ f.id ≤ 4611686018427387903
  off : 0 ≤ f.off ∧ f.off ≤ 4611686018427387903
  code : 0 ≤ f.code ∧ f.code ≤ 4611686018427387903
  sum : f.kind = 8 → f.off + f.data.length ≤ 4611686018427387903
  long : f.data.length ≤ 1200
  rg : f.kind = 2 → f.rg ≠ [] ∧ chkR f.rg = 0
theorem chkF_zero {f : Fr} : chkF f = 0 ↔ Rt f := by
  unfold chkF
  constructor
  · intro h
    split at h
    · omega
    · rename_i h1
      split at h
      · omega
      · rename_i h2
        split at h
        · omega
        · rename_i h3
          split at h
          · omega
          · rename_i h4
            split at h
            · omega
            · rename_i h5
              split at h
              · omega
              · rename_i h6
                simp only [Bool.not_eq_false, Bool.and_eq_true] at h1 h3
                refine ⟨h1, eqF_iff.1 (by simpa using h2), numB_iff.1 h3.1.1, numB_iff.1 h3.1.2, numB_iff.1 h3.2, fun e => ?_, by omega, fun e => ?_⟩
                · by_cases q : 4611686018427387903 - (f.data.length : Int) < f.off
                  · exact absurd ⟨e, q⟩ h4
                  · omega
                · exact ⟨fun q => h6 ⟨e, .inl q⟩, Decidable.byContradiction fun q => h6 ⟨e, .inr q⟩⟩
  · intro h
    rw [if_neg (by rw [h.kind]; simp), if_neg (by rw [eqF_true h.bare]; simp), if_neg (by rw [numB_iff.2 h.id, numB_iff.2 h.off, numB_iff.2 h.code]; simp), if_neg (by rintro ⟨q, r⟩; have := h.sum q; omega), if_neg (by have := h.long; omega), if_neg]
    rintro ⟨q, r | r⟩
    · exact (h.rg q).1 r
    · exact r (h.rg q).2
def putI (n : Int) : L := putL n.toNat
def wrRg (l : List Rg) : L := l.flatMap fun x => putI x.2 ++ putI x.1
/-- A right frame as it is written. -/
def wrF (f : Fr) : L :=
  putI f.kind ++
  (if f.kind = 2 then putL f.rg.length ++ wrRg f.rg
  else if f.kind = 4 then putI f.id ++ putI f.code ++ putI f.off
  else if f.kind = 8 then putI f.id ++ putI f.off ++ [if f.fin then 1 else 0] ++ (putL f.data.length ++ f.data)
  else if f.kind = 17 then putI f.id ++ putI f.off
  else if f.kind = 28 then putI f.code
  else if f.kind = 48 then putL f.data.length ++ f.data
  else [])
def rInt : Rd Int := rNum.bind fun n => Rd.pure (n : Int)
theorem good_int : Good rInt := good_num.bind fun _ => Good.pure _
def rMany : Nat → Rd (List Rg)
  | 0 => Rd.pure []
  | n + 1 => rInt.bind fun hi => rInt.bind fun lo => (rMany n).bind fun l => Rd.pure ((lo, hi) :: l)
theorem good_many (n : Nat) : Good (rMany n) := by
  induction n with
  | zero => exact Good.pure _
  | succ n ih => exact good_int.bind fun _ => good_int.bind fun _ => ih.bind fun _ => Good.pure _
def rRanges : Rd (List Rg) := rNum.bind fun n => (Rd.test (if n = 0 ∨ 16 < n then 3 else 0)).bind fun _ => rMany n
theorem good_ranges : Good rRanges := good_num.bind fun n => (Good.test _).bind fun _ => good_many n
/-- The fields of a kind. -/
def rFields (k : Int) : Rd Fr :=
  if k = 2 then rRanges.bind fun l => Rd.pure ⟨k, 0, 0, false, 0, [], l⟩
  else if k = 4 then rInt.bind fun i => rInt.bind fun c => rInt.bind fun o => Rd.pure ⟨k, i, o, false, c, [], []⟩
  else if k = 8 then rInt.bind fun i => rInt.bind fun o => rFin.bind fun b => rText.bind fun d => Rd.pure ⟨k, i, o, b, 0, d, []⟩
  else if k = 17 then rInt.bind fun i => rInt.bind fun o => Rd.pure ⟨k, i, o, false, 0, [], []⟩
  else if k = 28 then rInt.bind fun c => Rd.pure ⟨k, 0, 0, false, c, [], []⟩
  else if k = 48 then rText.bind fun d => Rd.pure ⟨k, 0, 0, false, 0, d, []⟩
  else Rd.pure ⟨k, 0, 0, false, 0, [], []⟩
theorem good_fields (k : Int) : Good (rFields k) := by
  unfold rFields
  split
  · exact good_ranges.bind fun _ => Good.pure _
  · split
    · exact good_int.bind fun _ => good_int.bind fun _ => good_int.bind fun _ => Good.pure _
    · split
      · exact good_int.bind fun _ => good_int.bind fun _ => good_fin.bind fun _ => good_text.bind fun _ => Good.pure _
      · split
        · exact good_int.bind fun _ => good_int.bind fun _ => Good.pure _
        · split
          · exact good_int.bind fun _ => Good.pure _
          · split
            · exact good_text.bind fun _ => Good.pure _
            · exact Good.pure _
/-- The next frame. -/
def rFrame : Rd Fr := rInt.bind fun k => (Rd.test (if kindB k then 0 else 5)).bind fun _ => (rFields k).bind fun f => (Rd.test (chkF f)).bind fun _ => Rd.pure f
theorem good_frame : Good rFrame := good_int.bind fun k => (Good.test _).bind fun _ => (good_fields k).bind fun _ => (Good.test _).bind fun _ => Good.pure _
theorem bind_ok {α β : Type} {p : Rd α} {q : α → Rd β} {s r : L} {a : α} (h : p s = .ok (a, r)) : p.bind q s = q a r := by unfold Rd.bind; rw [h]
theorem bind_back {α β : Type} {p : Rd α} {q : α → Rd β} {s : L} {x : β × L} (h : p.bind q s = .ok x) : ∃ a r, p s = .ok (a, r) ∧ q a r = .ok x := by
  unfold Rd.bind at h
  cases hs : p s with
  | error e => rw [hs] at h; cases h
  | ok y => rw [hs] at h; exact ⟨y.1, y.2, rfl, h⟩
theorem num_put {n : Nat} (h : n < 4611686018427387904) (t : L) : rNum (putL n ++ t) = .ok (n, t) := by
  unfold rNum
  rw [getL_put n h t]
  simp
theorem int_put {n : Int} (h : 0 ≤ n ∧ n ≤ 4611686018427387903) (t : L) : rInt (putI n ++ t) = .ok (n, t) := by
  unfold rInt putI
  rw [bind_ok (num_put (by omega) t)]
  unfold Rd.pure
  congr 2
  omega
theorem take_ok' (d t : L) : rTake d.length (d ++ t) = .ok (d, t) := by
  unfold rTake
  rw [if_neg (by rw [List.length_append]; omega)]
  simp
theorem text_put {d : L} (h : d.length ≤ 1200) (t : L) : rText (putL d.length ++ d ++ t) = .ok (d, t) := by
  unfold rText
  rw [List.append_assoc, bind_ok (num_put (by omega) _)]
  exact take_ok' d t
theorem many_put (l : List Rg) (h : ∀ x ∈ l, (0 ≤ x.1 ∧ x.1 ≤ 4611686018427387903) ∧ 0 ≤ x.2 ∧ x.2 ≤ 4611686018427387903) (t : L) : rMany l.length (wrRg l ++ t) = .ok (l, t) := by
  induction l with
  | nil => rfl
  | cons x l ih =>
    obtain ⟨h1, h2⟩ := h x (List.mem_cons_self ..)
    have e : wrRg (x :: l) ++ t = putI x.2 ++ (putI x.1 ++ (wrRg l ++ t)) := by simp [wrRg]
    rw [e, List.length_cons, rMany, bind_ok (int_put h2 _), bind_ok (int_put h1 _), bind_ok (ih fun y hy => h y (List.mem_cons_of_mem _ hy))]
    rfl
theorem rg_in {l : List Rg} (h : chkR l = 0) : l.length ≤ 16 ∧ ∀ x ∈ l, (0 ≤ x.1 ∧ x.1 ≤ 4611686018427387903) ∧ 0 ≤ x.2 ∧ x.2 ≤ 4611686018427387903 := by
  unfold chkR at h
  split at h
  · omega
  · rename_i hl
    split at h
    · rename_i ha
      refine ⟨by omega, fun x hx => ?_⟩
      obtain ⟨k, hk, e⟩ := List.getElem_of_mem hx
      have := List.all_eq_true.1 ha k (by simpa using hk)
      unfold okAt at this
      rw [Bool.and_eq_true] at this
      have hf := fine_iff.1 this.1
      have e2 : l.getD k (0, 0) = x := by rw [← e]; simp [List.getD, List.getElem?_eq_getElem hk]
      rw [e2] at hf
      omega
    · omega
/-- What stands behind the kind. -/
def body (f : Fr) : L :=
  if f.kind = 2 then putL f.rg.length ++ wrRg f.rg
  else if f.kind = 4 then putI f.id ++ putI f.code ++ putI f.off
  else if f.kind = 8 then putI f.id ++ putI f.off ++ [if f.fin then 1 else 0] ++ (putL f.data.length ++ f.data)
  else if f.kind = 17 then putI f.id ++ putI f.off
  else if f.kind = 28 then putI f.code
  else if f.kind = 48 then putL f.data.length ++ f.data
  else []
theorem wrF_body (f : Fr) : wrF f = putI f.kind ++ body f := rfl
theorem pure_ok {α : Type} {a b : α} {t : L} (h : a = b) : Rd.pure a t = .ok (b, t) := by rw [h]; rfl
theorem fin_put (b : Bool) (t : L) : rFin ((if b then 1 else 0) :: t) = .ok (b, t) := by cases b <;> rfl
theorem fields_put {f : Fr} (h : Rt f) (t : L) : rFields f.kind (body f ++ t) = .ok (f, t) := by
  have hk := kind_iff.1 h.kind
  have hb := h.bare
  unfold bare at hb
  unfold rFields body
  rcases hk with k | k | k | k | k | k | k | k <;> simp only [k, Int.reduceEq, if_true, if_false] at hb ⊢
  · exact pure_ok hb.symm
  · exact pure_ok hb.symm
  · obtain ⟨hne, hc⟩ := h.rg k
    obtain ⟨hl, hin⟩ := rg_in hc
    have hp : 0 < f.rg.length := List.length_pos_iff.2 hne
    have hr : rRanges (putL f.rg.length ++ wrRg f.rg ++ t) = .ok (f.rg, t) := by
      unfold rRanges
      rw [List.append_assoc, bind_ok (num_put (by omega) _), bind_ok (a := ()) (r := wrRg f.rg ++ t) (by unfold Rd.test; rw [if_neg (show ¬ (f.rg.length = 0 ∨ 16 < f.rg.length) by omega), if_pos rfl])]
      exact many_put f.rg hin t
    rw [bind_ok hr]
    exact pure_ok hb.symm
  · rw [List.append_assoc, List.append_assoc, bind_ok (int_put h.id _), bind_ok (int_put h.code _), bind_ok (int_put h.off _)]
    exact pure_ok hb.symm
  · rw [List.append_assoc, List.append_assoc, List.append_assoc, bind_ok (int_put h.id _), bind_ok (int_put h.off _), List.singleton_append, bind_ok (fin_put f.fin _), bind_ok (text_put h.long t)]
    exact pure_ok hb.symm
  · rw [List.append_assoc, bind_ok (int_put h.id _), bind_ok (int_put h.off _)]
    exact pure_ok hb.symm
  · rw [bind_ok (int_put h.code _)]
    exact pure_ok hb.symm
  · rw [bind_ok (text_put h.long t)]
    exact pure_ok hb.symm
/-- What is written is read again. -/
theorem frame_put {f : Fr} (h : Rt f) (t : L) : rFrame (wrF f ++ t) = .ok (f, t) := by
  have hk := kind_iff.1 h.kind
  unfold rFrame
  rw [wrF_body, List.append_assoc, bind_ok (int_put (by omega) _), bind_ok (a := ()) (r := body f ++ t) (by unfold Rd.test; rw [if_pos h.kind, if_pos rfl]), bind_ok (fields_put h t), bind_ok (a := ()) (r := t) (by unfold Rd.test; rw [if_pos (chkF_zero.2 h)])]
  rfl
theorem num_back {s r : L} {n : Nat} (h : rNum s = .ok (n, r)) : n < 4611686018427387904 ∧ (putL n).length + r.length ≤ s.length := by
  unfold rNum at h
  cases hs : getL s with
  | none => rw [hs] at h; cases h
  | some x =>
    obtain ⟨m, k⟩ := x
    rw [hs] at h
    injection h with h
    injection h with h1 h2
    subst h1 h2
    have hb := getL_bound hs
    have hl := getL_len hs
    rw [List.length_drop]
    omega
theorem int_back {s r : L} {n : Int} (h : rInt s = .ok (n, r)) : (0 ≤ n ∧ n ≤ 4611686018427387903) ∧ (putI n).length + r.length ≤ s.length := by
  obtain ⟨m, r1, h1, h2⟩ := bind_back h
  injection h2 with h2
  injection h2 with h2 h3
  subst h2 h3
  have := num_back h1
  unfold putI
  rw [Int.toNat_natCast]
  omega
theorem text_back {s r : L} {d : L} (h : rText s = .ok (d, r)) : (putL d.length ++ d).length + r.length ≤ s.length := by
  obtain ⟨n, r1, h1, h2⟩ := bind_back h
  have hn := num_back h1
  unfold rTake at h2
  split at h2
  · cases h2
  · injection h2 with h2
    injection h2 with h2 h3
    subst h2 h3
    have e : (r1.take n).length = n := by rw [List.length_take]; omega
    rw [List.length_append, List.length_drop, e]
    omega
theorem fin_back {s r : L} {b : Bool} (h : rFin s = .ok (b, r)) : 1 + r.length ≤ s.length := by
  cases s with
  | nil => cases h
  | cons c s =>
    unfold rFin at h
    simp only at h
    split at h
    · cases h
    · injection h with h
      injection h with _ h
      subst h
      simp
      omega
theorem many_back (n : Nat) : ∀ {s r : L} {l : List Rg}, rMany n s = .ok (l, r) → l.length = n ∧ (wrRg l).length + r.length ≤ s.length := by
  induction n with
  | zero =>
    intro s r l h
    injection h with h
    injection h with h1 h2
    subst h1 h2
    exact ⟨rfl, by simp [wrRg]⟩
  | succ n ih =>
    intro s r l h
    obtain ⟨hi, r1, h1, h⟩ := bind_back h
    obtain ⟨lo, r2, h2, h⟩ := bind_back h
    obtain ⟨m, r3, h3, h⟩ := bind_back h
    injection h with h
    injection h with h4 h5
    subst h4 h5
    have b1 := int_back h1
    have b2 := int_back h2
    have b3 := ih h3
    have e : (wrRg ((lo, hi) :: m)).length = (putI hi).length + (putI lo).length + (wrRg m).length := by simp [wrRg]; omega
    exact ⟨by simp [b3.1], by rw [e]; omega⟩
theorem test_back {e : Int} {s r : L} (h : Rd.test e s = .ok ((), r)) : e = 0 ∧ s = r := by
  unfold Rd.test at h
  split at h
  · rename_i q
    injection h with h
    injection h with _ h
    exact ⟨q, h⟩
  · cases h
theorem pure_back {α : Type} {a b : α} {s r : L} (h : Rd.pure a s = .ok (b, r)) : a = b ∧ s = r := by
  injection h with h
  injection h with h1 h2
  exact ⟨h1, h2⟩
theorem fields_back {k : Int} {s r : L} {f : Fr} (h : rFields k s = .ok (f, r)) : f.kind = k ∧ (body f).length + r.length ≤ s.length := by
  unfold rFields at h
  split at h
  · rename_i k2
    obtain ⟨l, r1, h1, h⟩ := bind_back h
    obtain ⟨rfl, rfl⟩ := pure_back h
    obtain ⟨n, r2, h2, h1⟩ := bind_back h1
    obtain ⟨u, r3, h3, h1⟩ := bind_back h1
    obtain ⟨_, rfl⟩ := test_back h3
    have b1 := num_back h2
    have b2 := many_back n h1
    refine ⟨rfl, ?_⟩
    unfold body
    simp only [k2, if_true, List.length_append]
    rw [b2.1]
    omega
  · rename_i k2
    split at h
    · rename_i k4
      obtain ⟨i, r1, h1, h⟩ := bind_back h
      obtain ⟨c, r2, h2, h⟩ := bind_back h
      obtain ⟨o, r3, h3, h⟩ := bind_back h
      obtain ⟨rfl, rfl⟩ := pure_back h
      have b1 := int_back h1
      have b2 := int_back h2
      have b3 := int_back h3
      refine ⟨rfl, ?_⟩
      unfold body
      simp only [k4, Int.reduceEq, if_true, if_false, List.length_append]
      omega
    · rename_i k4
      split at h
      · rename_i k8
        obtain ⟨i, r1, h1, h⟩ := bind_back h
        obtain ⟨o, r2, h2, h⟩ := bind_back h
        obtain ⟨b, r3, h3, h⟩ := bind_back h
        obtain ⟨d, r4, h4, h⟩ := bind_back h
        obtain ⟨rfl, rfl⟩ := pure_back h
        have b1 := int_back h1
        have b2 := int_back h2
        have b3 := fin_back h3
        have b4 := text_back h4
        refine ⟨rfl, ?_⟩
        unfold body
        simp only [k8, Int.reduceEq, if_true, if_false, List.length_append, List.length_singleton] at b4 ⊢
        omega
      · rename_i k8
        split at h
        · rename_i k17
          obtain ⟨i, r1, h1, h⟩ := bind_back h
          obtain ⟨o, r2, h2, h⟩ := bind_back h
          obtain ⟨rfl, rfl⟩ := pure_back h
          have b1 := int_back h1
          have b2 := int_back h2
          refine ⟨rfl, ?_⟩
          unfold body
          simp only [k17, Int.reduceEq, if_true, if_false, List.length_append]
          omega
        · rename_i k17
          split at h
          · rename_i k28
            obtain ⟨c, r1, h1, h⟩ := bind_back h
            obtain ⟨rfl, rfl⟩ := pure_back h
            have b1 := int_back h1
            refine ⟨rfl, ?_⟩
            unfold body
            simp only [k28, Int.reduceEq, if_true, if_false]
            omega
          · rename_i k28
            split at h
            · rename_i k48
              obtain ⟨d, r1, h1, h⟩ := bind_back h
              obtain ⟨rfl, rfl⟩ := pure_back h
              have b1 := text_back h1
              refine ⟨rfl, ?_⟩
              unfold body
              simp only [k48, Int.reduceEq, if_true, if_false]
              omega
            · rename_i k48
              obtain ⟨rfl, rfl⟩ := pure_back h
              refine ⟨rfl, ?_⟩
              unfold body
              simp only [k2, k4, k8, k17, k28, k48, if_false, List.length_nil]
              omega
/-- What is read is right, and has no more bytes when it is written again. -/
theorem frame_back {s r : L} {f : Fr} (h : rFrame s = .ok (f, r)) : Rt f ∧ (wrF f).length + r.length ≤ s.length := by
  unfold rFrame at h
  obtain ⟨k, r1, h1, h⟩ := bind_back h
  obtain ⟨u, r2, h2, h⟩ := bind_back h
  obtain ⟨g, r3, h3, h⟩ := bind_back h
  obtain ⟨u', r4, h4, h⟩ := bind_back h
  obtain ⟨rfl, rfl⟩ := pure_back h
  obtain ⟨_, rfl⟩ := test_back h2
  obtain ⟨hc, rfl⟩ := test_back h4
  have b1 := int_back h1
  have b3 := fields_back h3
  refine ⟨chkF_zero.1 hc, ?_⟩
  rw [wrF_body, List.length_append, b3.1]
  omega
end Go.Proofs.YtihkbakbciejiaaDoor
