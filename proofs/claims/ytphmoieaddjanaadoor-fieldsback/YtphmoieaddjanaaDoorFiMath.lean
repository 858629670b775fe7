/-
  Fields as values: which are right, how they are written and read: what is written is read again, what is read is written in no more bytes. Plain facts; no condition.
-/
import Derived.Test.YtphmoieaddjanaaDoorFrMath
namespace Go.Proofs.YtphmoieaddjanaaDoor
set_option maxRecDepth 100000

/-- A field: its name and its value. -/
abbrev Fd := L × L
def bs (l : List Nat) : L := l.map UInt8.ofNat
def tab : List Fd := [
  (bs [58, 97, 117, 116, 104, 111, 114, 105, 116, 121], bs []),
  (bs [58, 112, 97, 116, 104], bs [47]),
  (bs [58, 109, 101, 116, 104, 111, 100], bs [67, 79, 78, 78, 69, 67, 84]),
  (bs [58, 109, 101, 116, 104, 111, 100], bs [71, 69, 84]),
  (bs [58, 115, 99, 104, 101, 109, 101], bs [104, 116, 116, 112, 115]),
  (bs [58, 115, 99, 104, 101, 109, 101], bs [104, 116, 116, 112]),
  (bs [58, 112, 114, 111, 116, 111, 99, 111, 108], bs [99, 111, 110, 110, 101, 99, 116, 45, 117, 100, 112]),
  (bs [58, 112, 114, 111, 116, 111, 99, 111, 108], bs [99, 111, 110, 110, 101, 99, 116, 45, 105, 112]),
  (bs [58, 115, 116, 97, 116, 117, 115], bs [50, 48, 48]),
  (bs [58, 115, 116, 97, 116, 117, 115], bs [52, 48, 48]),
  (bs [58, 115, 116, 97, 116, 117, 115], bs [52, 48, 51]),
  (bs [58, 115, 116, 97, 116, 117, 115], bs [52, 48, 52]),
  (bs [58, 115, 116, 97, 116, 117, 115], bs [52, 50, 57]),
  (bs [58, 115, 116, 97, 116, 117, 115], bs [53, 48, 48]),
  (bs [58, 115, 116, 97, 116, 117, 115], bs [53, 48, 51]),
  (bs [99, 97, 112, 115, 117, 108, 101, 45, 112, 114, 111, 116, 111, 99, 111, 108], bs [63, 49]),
  (bs [99, 111, 110, 116, 101, 110, 116, 45, 116, 121, 112, 101], bs [116, 101, 120, 116, 47, 112, 108, 97, 105, 110]),
  (bs [112, 114, 111, 120, 121, 45, 115, 116, 97, 116, 117, 115], bs []),
  (bs [117, 115, 101, 114, 45, 97, 103, 101, 110, 116], bs []),
  (bs [97, 99, 99, 101, 112, 116], bs [42, 47, 42])]
theorem tab_len : tab.length = 20 := rfl
def okN (c : UInt8) : Bool := (decide (97 ≤ c.toNat) && decide (c.toNat ≤ 122)) || (decide (48 ≤ c.toNat) && decide (c.toNat ≤ 57)) || decide (c.toNat = 45) || decide (c.toNat = 58)
def okV (c : UInt8) : Bool := decide (32 ≤ c.toNat) && decide (c.toNat ≤ 126)
def rtE (f : Fd) : Int := if 256 < f.1.length ∨ 256 < f.2.length then 8 else if f.1 = [] then 3 else if f.1.all okN = true ∧ f.2.all okV = true then 0 else 3
def fstE : List Fd → Int
  | [] => 0
  | f :: l => if rtE f = 0 then fstE l else rtE f
def chkS (l : List Fd) : Int := if 16 < l.length then 8 else fstE l
/-- The first entry of which something holds, or behind all. -/
def ixT (p : Fd → Bool) : List Fd → Nat
  | [] => 0
  | f :: l => if p f = true then 0 else ixT p l + 1
theorem ixT_le (p : Fd → Bool) : ∀ l, ixT p l ≤ l.length
  | [] => Nat.le_refl _
  | f :: l => by
    unfold ixT
    have := ixT_le p l
    split
    · omega
    · rw [List.length_cons]; omega
theorem ixT_no (p : Fd → Bool) : ∀ (l : List Fd) (i : Nat), i < ixT p l → p (l.getD i ([], [])) = false
  | [], i, h => by simp [ixT] at h
  | f :: l, i, h => by
    unfold ixT at h
    split at h
    · omega
    · rename_i q
      cases i with
      | zero => simpa using q
      | succ i => simpa using ixT_no p l i (by omega)
theorem ixT_yes (p : Fd → Bool) : ∀ l : List Fd, ixT p l < l.length → p (l.getD (ixT p l) ([], [])) = true
  | [], h => by simp at h
  | f :: l, h => by
    unfold ixT at h ⊢
    split
    · rename_i q
      simpa using q
    · rename_i q
      rw [if_neg q] at h
      simpa using ixT_yes p l (by simpa using h)
theorem ixT_mem (p : Fd → Bool) : ∀ l : List Fd, (∃ f ∈ l, p f = true) → ixT p l < l.length
  | [], h => by obtain ⟨f, hf, _⟩ := h; cases hf
  | g :: l, h => by
    unfold ixT
    split
    · simp
    · rename_i q
      obtain ⟨f, hf, hp⟩ := h
      rcases List.mem_cons.1 hf with e | hf
      · subst e; exact absurd hp q
      · have := ixT_mem p l ⟨f, hf, hp⟩
        rw [List.length_cons]; omega
/-- Told by its places. -/
theorem ixT_is (p : Fd → Bool) (l : List Fd) (k : Nat) (hk : k ≤ l.length) (h1 : ∀ i, i < k → p (l.getD i ([], [])) = false) (h2 : k < l.length → p (l.getD k ([], [])) = true) : ixT p l = k := by
  rcases Nat.lt_trichotomy (ixT p l) k with q | q | q
  · have := ixT_yes p l (by omega)
    rw [h1 _ q] at this
    cases this
  · exact q
  · have h3 := ixT_le p l
    have := ixT_no p l k q
    rw [h2 (by omega)] at this
    cases this
def isF (f g : Fd) : Bool := decide (g = f)
def isN (n : L) (g : Fd) : Bool := decide (g.1 = n)
def txt (s : L) : L := putL s.length ++ s
def lineL (f : Fd) : L := if ixT (isF f) tab < 20 then [UInt8.ofNat (128 + ixT (isF f) tab)] else if ixT (isN f.1) tab < 20 then UInt8.ofNat (64 + ixT (isN f.1) tab) :: txt f.2 else 0 :: (txt f.1 ++ txt f.2)
def writeL (l : List Fd) : L := l.flatMap lineL
def rLine : Rd Fd := fun s => match s with
  | [] => .error 5
  | c :: t => if 128 ≤ c.toNat ∧ c.toNat < 148 then .ok (tab.getD (c.toNat - 128) ([], []), t) else if 64 ≤ c.toNat ∧ c.toNat < 84 then (rText.bind fun v => Rd.pure ((tab.getD (c.toNat - 64) ([], [])).1, v)) t else if c.toNat = 0 then (rText.bind fun a => rText.bind fun b => Rd.pure (a, b)) t else .error 5
def readN : Nat → Nat → L → Except Int (List Fd)
  | 0, _, _ => .error 1
  | k + 1, n, s => if s = [] then .ok [] else match rLine s with
    | .error e => .error e
    | .ok (f, r) => if n = 16 then .error 8 else if rtE f = 0 then (match readN k (n + 1) r with
      | .ok l => .ok (f :: l)
      | .error e => .error e) else .error (rtE f)
def readS (s : L) : Except Int (List Fd) := readN (s.length + 1) 0 s
theorem u8n (n : Nat) (h : n < 256) : (UInt8.ofNat n).toNat = n := by simp; omega
theorem rt_len {f : Fd} (h : rtE f = 0) : f.1.length ≤ 256 ∧ f.2.length ≤ 256 := by
  unfold rtE at h
  split at h
  · cases h
  · omega
theorem txt_put {d : L} (h : d.length ≤ 256) (t : L) : rText (txt d ++ t) = .ok (d, t) := text_put (by omega) t
/-- A field's line is that field. -/
theorem line_back {f : Fd} (h : rtE f = 0) (t : L) : rLine (lineL f ++ t) = .ok (f, t) := by
  obtain ⟨h1, h2⟩ := rt_len h
  unfold lineL
  by_cases q : ixT (isF f) tab < 20
  · rw [if_pos q]
    have := ixT_yes (isF f) tab q
    unfold isF at this
    have e := of_decide_eq_true this
    show (if 128 ≤ (UInt8.ofNat (128 + ixT (isF f) tab)).toNat ∧ _ then _ else _) = _
    rw [u8n _ (by omega), if_pos (by omega), show 128 + ixT (isF f) tab - 128 = ixT (isF f) tab by omega]
    unfold isF at e ⊢
    rw [e]
    rfl
  · rw [if_neg q]
    by_cases r : ixT (isN f.1) tab < 20
    · rw [if_pos r]
      have := ixT_yes (isN f.1) tab r
      have e : (tab.getD (ixT (isN f.1) tab) ([], [])).1 = f.1 := of_decide_eq_true this
      show (if 128 ≤ (UInt8.ofNat (64 + ixT (isN f.1) tab)).toNat ∧ _ then _ else if 64 ≤ (UInt8.ofNat (64 + ixT (isN f.1) tab)).toNat ∧ _ then _ else _) = _
      rw [u8n _ (by omega), if_neg (by omega), if_pos (by omega), show 64 + ixT (isN f.1) tab - 64 = ixT (isN f.1) tab by omega, e]
      show (rText.bind _) (txt f.2 ++ t) = _
      rw [bind_ok (txt_put h2 t)]
      rfl
    · rw [if_neg r]
      show (rText.bind _) (txt f.1 ++ txt f.2 ++ t) = _
      rw [List.append_assoc, bind_ok (txt_put h1 _), bind_ok (txt_put h2 t)]
      rfl
theorem line_pos (f : Fd) : lineL f ≠ [] := by
  unfold lineL
  split
  · simp
  · split <;> simp
/-- What is written is read again. -/
theorem readN_write : ∀ (l : List Fd) (k n : Nat), fstE l = 0 → n + l.length ≤ 16 → (writeL l).length < k → readN k n (writeL l) = .ok l
  | [], k, n, _, _, hk => by
    obtain ⟨k, rfl⟩ : ∃ j, k = j + 1 := ⟨k - 1, by simp [writeL] at hk; omega⟩
    unfold readN
    rw [if_pos (show writeL [] = [] from rfl)]
  | f :: l, k, n, h, hn, hk => by
    have hf : rtE f = 0 := by
      unfold fstE at h
      split at h
      · assumption
      · rename_i q; exact absurd h q
    have hl : fstE l = 0 := by
      unfold fstE at h
      rwa [if_pos hf] at h
    have e : writeL (f :: l) = lineL f ++ writeL l := rfl
    have hp := line_pos f
    obtain ⟨k, rfl⟩ : ∃ j, k = j + 1 := ⟨k - 1, by omega⟩
    rw [List.length_cons] at hn
    have hlen : 1 ≤ (lineL f).length := List.length_pos_iff.2 hp
    rw [e, List.length_append] at hk
    unfold readN
    rw [e, if_neg (by simp [hp]), line_back hf]
    simp only
    rw [if_neg (by omega), if_pos hf, readN_write l k (n + 1) hl (by omega) (by omega)]
theorem read_write {l : List Fd} (h : chkS l = 0) : readS (writeL l) = .ok l := by
  unfold chkS at h
  split at h
  · cases h
  · exact readN_write l _ 0 h (by omega) (by omega)
/-- A line is not shorter than that of the field that it is. -/
theorem line_short {s r : L} {f : Fd} (h : rLine s = .ok (f, r)) : (lineL f).length + r.length ≤ s.length := by
  cases s with
  | nil => cases h
  | cons c t =>
    unfold rLine at h
    simp only at h
    split at h
    · injection h with h
      injection h with h1 h2
      subst h2
      rename_i q
      have : ixT (isF f) tab < 20 := by
        refine ixT_mem _ _ ⟨f, ?_, by simp [isF]⟩
        rw [← h1, List.getD, List.getElem?_eq_getElem (by rw [tab_len]; omega)]
        exact List.getElem_mem _
      unfold lineL
      rw [if_pos this]
      simp
      omega
    · split at h
      · rename_i q
        obtain ⟨v, r1, e1, e2⟩ := bind_back h
        injection e2 with e2
        injection e2 with e2 e3
        subst e3
        have b := text_back e1
        have hn : ixT (isN f.1) tab < 20 := by
          refine ixT_mem _ _ ⟨tab.getD (c.toNat - 64) ([], []), ?_, ?_⟩
          · rw [List.getD, List.getElem?_eq_getElem (by rw [tab_len]; omega)]
            exact List.getElem_mem _
          · rw [← e2]
            simp [isN]
        have hv : f.2 = v := by rw [← e2]
        unfold lineL
        split
        · simp
          rw [List.length_append] at b
          omega
        · rw [hv]
          unfold txt
          simp only [List.length_cons]
          omega
      · split at h
        · obtain ⟨a, r1, e1, e2⟩ := bind_back h
          obtain ⟨b, r2, e3, e4⟩ := bind_back e2
          injection e4 with e4
          injection e4 with e4 e5
          subst e5
          have b1 := text_back e1
          have b2 := text_back e3
          have ha : f.1 = a := by rw [← e4]
          have hb : f.2 = b := by rw [← e4]
          have pa : 1 ≤ (putL a.length).length := put_pos _
          unfold lineL
          rw [List.length_append] at b1
          split
          · simp only [List.length_cons, List.length_nil]
            rw [List.length_append] at b2
            omega
          · split
            · rw [hb]
              unfold txt
              simp only [List.length_cons]
              omega
            · rw [ha, hb]
              unfold txt
              simp only [List.length_cons, List.length_append] at b2 ⊢
              omega
        · cases h
theorem readN_back : ∀ (k n : Nat) (s : L) (l : List Fd), readN k n s = .ok l → n ≤ 16 → fstE l = 0 ∧ n + l.length ≤ 16 ∧ (writeL l).length ≤ s.length
  | 0, n, s, l, h, _ => by cases h
  | k + 1, n, s, l, h, hn => by
    unfold readN at h
    split at h
    · injection h with h
      subst h
      exact ⟨rfl, hn, by simp [writeL]⟩
    · split at h
      · cases h
      · rename_i f r e
        split at h
        · cases h
        · rename_i q
          split at h
          · rename_i hf
            split at h
            · rename_i l' e'
              injection h with h
              subst h
              obtain ⟨i1, i2, i3⟩ := readN_back k (n + 1) r l' e' (by omega)
              have b := line_short e
              refine ⟨by unfold fstE; rw [if_pos hf]; exact i1, by rw [List.length_cons]; omega, ?_⟩
              show (lineL f ++ writeL l').length ≤ _
              rw [List.length_append]
              omega
            · cases h
          · cases h
theorem read_back {s : L} {l : List Fd} (h : readS s = .ok l) : chkS l = 0 ∧ (writeL l).length ≤ s.length := by
  obtain ⟨h1, h2, h3⟩ := readN_back _ _ _ _ h (by decide)
  refine ⟨?_, h3⟩
  unfold chkS
  rw [if_neg (by omega)]
  exact h1
theorem write_app (a b : List Fd) : writeL (a ++ b) = writeL a ++ writeL b := by simp [writeL, List.flatMap_append]
theorem fst_app : ∀ (a b : List Fd), fstE (a ++ b) = if fstE a = 0 then fstE b else fstE a
  | [], b => rfl
  | f :: a, b => by
    show (if rtE f = 0 then fstE (a ++ b) else rtE f) = if (if rtE f = 0 then fstE a else rtE f) = 0 then fstE b else (if rtE f = 0 then fstE a else rtE f)
    by_cases q : rtE f = 0
    · rw [if_pos q, if_pos q, fst_app a b]
    · rw [if_neg q, if_neg q, if_neg q]
theorem chk_app {a b : List Fd} (h : a.length + b.length ≤ 16) : chkS (a ++ b) = if chkS a = 0 then chkS b else chkS a := by
  unfold chkS
  rw [List.length_append, if_neg (show ¬ 16 < a.length + b.length by omega), if_neg (show ¬ 16 < a.length by omega), if_neg (show ¬ 16 < b.length by omega), fst_app]
theorem tab_right (i : Nat) (h : i < 20) : rtE (tab.getD i ([], [])) = 0 ∧ (lineL (tab.getD i ([], []))).length = 1 ∧ readS [UInt8.ofNat (128 + i)] = .ok [tab.getD i ([], [])] := by
  have hr : rtE (tab.getD i ([], [])) = 0 := by
    have : ∀ j : Fin 20, rtE (tab.getD j.1 ([], [])) = 0 := by decide +kernel
    exact this ⟨i, h⟩
  refine ⟨hr, ?_, ?_⟩
  · have : ixT (isF (tab.getD i ([], []))) tab < 20 := by
      refine ixT_mem _ _ ⟨tab.getD i ([], []), ?_, by simp [isF]⟩
      rw [List.getD, List.getElem?_eq_getElem (by rw [tab_len]; omega)]
      exact List.getElem_mem _
    unfold lineL
    rw [if_pos this]
    rfl
  · have e : rLine [UInt8.ofNat (128 + i)] = .ok (tab.getD i ([], []), []) := by
      show (if 128 ≤ (UInt8.ofNat (128 + i)).toNat ∧ _ then _ else _) = _
      rw [u8n _ (by omega), if_pos (by omega), show 128 + i - 128 = i by omega]
    show readN 2 0 [UInt8.ofNat (128 + i)] = _
    unfold readN
    rw [if_neg (by simp), e]
    simp only
    rw [if_neg (by decide), if_pos hr]
    rfl
def getS (l : List Fd) (n : L) : Option L := match l.filter (isN n) with
  | [f] => some f.2
  | _ => none
end Go.Proofs.YtphmoieaddjanaaDoor
