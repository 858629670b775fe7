/-
  The program's stream and the document's, as values: each act leaves the one as it leaves the other. Plain facts; no condition but what always holds of a stream.
-/
import Derived.Test.YtdmoaeegjjenmaaOuPgE
import Derived.Test.YtdmoaeegjjenmaaOuMore
namespace Go.Proofs.Ytdmoaeegjjenmaa
set_option maxRecDepth 100000
open Go.RowKit Go.Sort

def cdM (x : Int) : Int := if x = 3 then 0 else x + 1
def txM (d : Ox) : ByteArray := d.s.extract (thereN d) d.s.size
def fsM (how : List Int) (T : Nat) : List Int := (how.drop T).map (· + 1)
/-- The program's stream that stands for one of the document's. -/
def mOf (d : Ox) : Mb := ⟨ofB (txM d), fsM d.how (thereN d), thereN d, d.lim, cdM d.fin⟩
theorem fsM_len (how : List Int) (T : Nat) : (fsM how T).length = how.length - T := by unfold fsM; rw [List.length_map, List.length_drop]
theorem fsM_get (how : List Int) (T i : Nat) (h : T + i < how.length) : (fsM how T).getD i 0 = how.getD (T + i) 0 + 1 := by
  unfold fsM
  rw [List.getD, List.getElem?_map, List.getElem?_drop, List.getElem?_eq_getElem h]
  simp [List.getD, List.getElem?_eq_getElem h]
theorem there_le (d : Ox) : thereN d ≤ d.how.length := fstP_le notB d.how
theorem there_no (d : Ox) (i : Nat) (h : i < thereN d) : d.how.getD i 0 = 2 := by
  have := fstP_no notB d.how i h
  simpa [notB] using this
theorem there_yes (d : Ox) (h : thereN d < d.how.length) : d.how.getD (thereN d) 0 ≠ 2 := by
  have : notB (d.how.getD (thereN d) 0) = true := fstP_yes notB d.how h
  unfold notB at this
  exact bne_iff_ne.1 this
theorem there_is (l : List Int) (k : Nat) (hk : k ≤ l.length) (h1 : ∀ i, i < k → l.getD i 0 = 2) (h2 : k < l.length → l.getD k 0 ≠ 2) : fstP notB l = k :=
  fstP_is notB l k hk (fun i hi => by rw [h1 i hi]; rfl) (fun q => bne_iff_ne.2 (h2 q))
theorem tx_len (d : Ox) (h : Ok12 d) : (txM d).size = d.s.size - thereN d := by
  have := there_le d
  have := h.len
  unfold txM
  rw [ByteArray.size_extract]
  omega
theorem getD_mem (l : List Int) (i : Nat) (h : i < l.length) : l.getD i 0 ∈ l := by
  simp [List.getD, List.getElem?_eq_getElem h]
theorem mOf_ok {d : Ox} (h : Ok12 d) (hs : d.s.size < 100000000) : MOk (mOf d) := by
  have h1 := there_le d
  have h2 := h.len
  refine ⟨?_, fun x hx => ?_, ?_, h.lim, ?_⟩
  · show (ofB (txM d)).length = (fsM d.how (thereN d)).length
    rw [ofB_len, tx_len d h, fsM_len]
    omega
  · obtain ⟨y, hy, rfl⟩ := List.mem_map.1 hx
    have := h.how y (List.mem_of_mem_drop hy)
    omega
  · have := h.fin
    show 0 ≤ cdM d.fin ∧ cdM d.fin ≤ 3
    unfold cdM
    split <;> omega
  · show thereN d + (fsM d.how (thereN d)).length < _
    rw [fsM_len]
    omega
theorem mOf_len (d : Ox) (h : Ok12 d) : (mOf d).fs.length = d.s.size - thereN d := by
  show (fsM d.how (thereN d)).length = _
  rw [fsM_len, h.len]
theorem there_size (d : Ox) (h : Ok12 d) : thereN d ≤ d.s.size := by have := there_le d; have := h.len; omega
/-- A stream with the same bytes, the same first ones there, by its other parts. -/
theorem mOf_of {d d' : Ox} (hs : d'.s = d.s) (hT : thereN d' = thereN d) : mOf d' = ⟨ofB (txM d), fsM d'.how (thereN d), thereN d, d'.lim, cdM d'.fin⟩ := by
  unfold mOf txM
  rw [hs, hT]
theorem mOf_new : mOf ox0 = mb0 := by
  unfold mOf
  rw [show thereN ox0 = 0 from rfl, show txM ox0 = ⟨#[]⟩ from rfl]
  rfl
theorem mOf_allow (d : Ox) (l : Int) : mOf (alwO d l) = { mOf d with lim := max (mOf d).lim l } := rfl
theorem mOf_all {d : Ox} (h : Ok12 d) : allM (mOf d) = allB d := by
  have h1 := there_size d h
  have h2 := h.fin
  unfold allM allB
  rw [mOf_len d h]
  have e1 : ((mOf d).fin == 3) = (d.fin == 2) := by
    show (cdM d.fin == 3) = _
    unfold cdM
    by_cases q : d.fin = 3
    · rw [if_pos q, q]; rfl
    · rw [if_neg q, Bool.eq_iff_iff, beq_iff_eq, beq_iff_eq]; omega
  have e2 : decide (d.s.size - thereN d = 0) = decide (thereN d = d.s.size) := by
    rw [Bool.eq_iff_iff, decide_eq_true_eq, decide_eq_true_eq]; omega
  rw [e1, e2, Bool.and_comm]
theorem open_cnt (l : List Int) : openN l + cntY 3 (l.map (· + 1)) = l.length := by
  unfold openN cntY
  induction l with
  | nil => rfl
  | cons x l ih =>
    rw [List.map_cons, List.filter_cons, List.filter_cons]
    by_cases q : x = 2
    · subst q
      simp at ih ⊢
      omega
    · have q3 : ¬ (x + 1 = 3) := by omega
      simp [q, q3] at ih ⊢
      omega
theorem open_there (l : List Int) : ∀ T, T ≤ l.length → (∀ i, i < T → l.getD i 0 = 2) → openN l = openN (l.drop T)
  | 0, _, _ => rfl
  | T + 1, h, h1 => by
    have ih := open_there l T (by omega) (fun i hi => h1 i (by omega))
    rw [ih]
    have hT : T < l.length := by omega
    have e : l.drop T = l.getD T 0 :: l.drop (T + 1) := by
      rw [List.drop_eq_getElem_cons hT]
      simp [List.getD, List.getElem?_eq_getElem hT]
    rw [e, h1 T (by omega)]
    rfl
theorem mOf_miss (d : Ox) : msM (mOf d) = openN d.how := by
  have h1 := open_there d.how (thereN d) (there_le d) (there_no d)
  have h2 := open_cnt (d.how.drop (thereN d))
  have h3 : (mOf d).fs.length = (d.how.drop (thereN d)).length := by show (fsM _ _).length = _; rw [fsM_len, List.length_drop]
  unfold msM
  rw [h1, h3]
  show _ - cntY 3 ((d.how.drop (thereN d)).map (· + 1)) = _
  omega
theorem mOf_wrE {d : Ox} (h : Ok12 d) (n : Nat) : wrEM (mOf d) n = wrE d n := by
  unfold wrEM wrE
  rw [mOf_miss d]
  have h2 := h.fin
  have e : ((mOf d).fin ≠ 0) ↔ (d.fin ≠ 3) := by
    show cdM d.fin ≠ 0 ↔ _
    unfold cdM
    by_cases q : d.fin = 3
    · rw [if_pos q]; omega
    · rw [if_neg q]; omega
  by_cases q : d.fin ≠ 3
  · rw [if_pos q, if_pos (e.2 q)]
  · rw [if_neg q, if_neg (fun c => q (e.1 c))]
theorem getD_appL (l r : List Int) (i : Nat) (h : i < l.length) : (l ++ r).getD i 0 = l.getD i 0 := by simp [List.getD, List.getElem?_append_left h]
theorem ofB_cat (s t : ByteArray) (T : Nat) (h : T ≤ s.size) : ofB ((s ++ t).extract T (s ++ t).size) = ofB (s.extract T s.size) ++ ofB t := by
  have hl : (ofB s).length = s.size := ofB_len s
  have hz : (ofB t).length = t.size := ofB_len t
  rw [ofB_ext, ofB_ext, ofB_app, ByteArray.size_append, List.drop_append, List.take_of_length_le (by rw [List.length_append, List.length_drop, List.length_drop]; omega), List.take_of_length_le (by rw [List.length_drop]; omega), show T - (ofB s).length = 0 by omega, List.drop_zero]
theorem mOf_write {d : Ox} (h : Ok12 d) (s : ByteArray) (f : Bool) : mOf (wrO d s f) = wrM (mOf d) s f := by
  unfold wrM
  rw [mOf_wrE h]
  by_cases e : wrE d s.size = 0
  · rw [if_pos e]
    have h1 := there_le d
    have h2 := h.len
    have hw : wrO d s f = { d with s := d.s ++ s, how := d.how ++ List.replicate s.size 0, fin := if f = true then 0 else d.fin } := by unfold wrO; rw [if_pos e]
    have hT : thereN (wrO d s f) = thereN d := by
      rw [hw]
      show fstP notB (d.how ++ List.replicate s.size 0) = thereN d
      refine there_is _ _ (by rw [List.length_append]; omega) (fun i hi => ?_) (fun q => ?_)
      · rw [getD_appL _ _ _ (by omega)]; exact there_no d i hi
      · by_cases c : thereN d < d.how.length
        · rw [getD_appL _ _ _ c]; exact there_yes d c
        · rw [List.length_append, List.length_replicate] at q
          have hc : d.how.length ≤ thereN d := by omega
          simp only [List.getD, List.getElem?_append_right hc, List.getElem?_replicate]
          rw [if_pos (by omega)]
          decide
    have e1 : ofB (txM (wrO d s f)) = ofB (txM d) ++ ofB s := by
      unfold txM
      rw [hT, hw]
      exact ofB_cat d.s s (thereN d) (there_size d h)
    have e2 : fsM (wrO d s f).how (thereN d) = fsM d.how (thereN d) ++ List.replicate s.size 1 := by
      rw [hw]
      show fsM (d.how ++ List.replicate s.size 0) (thereN d) = _
      unfold fsM
      rw [List.drop_append_of_le_length h1, List.map_append, List.map_replicate]
      rfl
    have e3 : cdM (wrO d s f).fin = if f = true then 1 else cdM d.fin := by
      rw [hw]
      show cdM (if f = true then 0 else d.fin) = _
      cases f <;> rfl
    have e4 : (wrO d s f).lim = d.lim := by rw [hw]
    show Mb.mk _ _ _ _ _ = Mb.mk _ _ _ _ _
    rw [e1, hT, e2, e3, e4]
    rfl
  · rw [if_neg e]
    have hw : wrO d s f = d := by unfold wrO; rw [if_neg e]
    rw [hw]
end Go.Proofs.Ytdmoaeegjjenmaa
