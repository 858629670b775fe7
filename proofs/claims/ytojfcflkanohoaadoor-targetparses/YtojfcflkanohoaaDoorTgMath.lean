/-
  Targets, their paths and requests as values: what a request asks for, told by its fields. Plain facts; no condition.
-/
import Derived.Test.YtojfcflkanohoaaDoorTgMem
import Derived.Test.YtojfcflkanohoaaDoorPfParB
import Derived.Test.YtojfcflkanohoaaDoorPfCut
namespace Go.Proofs.YtojfcflkanohoaaDoor
set_option maxRecDepth 100000
open Go.RowKit Go.Sort

abbrev nMeth : L := [58, 109, 101, 116, 104, 111, 100]
abbrev nProt : L := [58, 112, 114, 111, 116, 111, 99, 111, 108]
abbrev nSchm : L := [58, 115, 99, 104, 101, 109, 101]
abbrev nAuth : L := [58, 97, 117, 116, 104, 111, 114, 105, 116, 121]
abbrev nPath : L := [58, 112, 97, 116, 104]
abbrev nCaps : L := [99, 97, 112, 115, 117, 108, 101, 45, 112, 114, 111, 116, 111, 99, 111, 108]
abbrev cConn : L := [67, 79, 78, 78, 69, 67, 84]
abbrev cUdp : L := [99, 111, 110, 110, 101, 99, 116, 45, 117, 100, 112]
abbrev cIp : L := [99, 111, 110, 110, 101, 99, 116, 45, 105, 112]
abbrev cHttps : L := [104, 116, 116, 112, 115]
abbrev cYes : L := [63, 49]
abbrev frontL : L := [47, 46, 119, 101, 108, 108, 45, 107, 110, 111, 119, 110, 47, 109, 97, 115, 113, 117, 101, 47, 117, 100, 112, 47]
abbrev ipL : L := [47, 46, 119, 101, 108, 108, 45, 107, 110, 111, 119, 110, 47, 109, 97, 115, 113, 117, 101, 47, 105, 112, 47, 42, 47, 42, 47]
/-! ### numbers in digits -/
theorem dec_bd : ∀ (u : Nat), ∀ c ∈ Lib.decDigits u, 48 ≤ c.toNat ∧ c.toNat ≤ 57 := by
  intro u
  induction u using Nat.strongRecOn with
  | _ u ih =>
    by_cases h : u < 10
    · rw [Lib.decDigits, dif_pos h]
      intro c hc
      simp only [List.mem_singleton] at hc
      subst hc
      rw [UInt8.toNat_ofNat']
      omega
    · rw [Lib.decDigits, dif_neg h]
      intro c hc
      rcases List.mem_append.1 hc with hc | hc
      · exact ih (u / 10) (by omega) c hc
      · simp only [List.mem_singleton] at hc
        subst hc
        rw [UInt8.toNat_ofNat']
        omega
theorem dec_len (u : Nat) (h : u < 100000) : 1 ≤ (Lib.decDigits u).length ∧ (Lib.decDigits u).length ≤ 5 := by
  rw [Lib.decDigits_length]
  refine ⟨Lib.nDigits_pos u, ?_⟩
  by_cases h1 : u < 10
  · rw [Lib.nDigits_small h1]; omega
  · rw [Lib.nDigits_big h1]
    by_cases h2 : u / 10 < 10
    · rw [Lib.nDigits_small h2]; omega
    · rw [Lib.nDigits_big h2]
      by_cases h3 : u / 10 / 10 < 10
      · rw [Lib.nDigits_small h3]; omega
      · rw [Lib.nDigits_big h3]
        by_cases h4 : u / 10 / 10 / 10 < 10
        · rw [Lib.nDigits_small h4]; omega
        · rw [Lib.nDigits_big h4, Lib.nDigits_small (by omega)]; omega
theorem parse_dec : ∀ (u : Nat), u < 100000 → ∀ r : L, Lib.parseUint10 0 (Lib.decDigits u ++ r) = Lib.parseUint10 u r := by
  intro u
  induction u using Nat.strongRecOn with
  | _ u ih =>
    intro hu r
    by_cases h : u < 10
    · rw [Lib.decDigits, dif_pos h]
      have e : (UInt8.ofNat (48 + u)).toNat = 48 + u := by rw [UInt8.toNat_ofNat']; omega
      simp only [List.cons_append, List.nil_append, Lib.parseUint10, e]
      rw [if_pos (by omega), if_neg (by omega), if_neg (by omega)]
      congr 1
      omega
    · rw [Lib.decDigits, dif_neg h, List.append_assoc, ih (u / 10) (by omega) (by omega)]
      have e : (UInt8.ofNat (48 + u % 10)).toNat = 48 + u % 10 := by rw [UInt8.toNat_ofNat']; omega
      simp only [List.cons_append, List.nil_append, Lib.parseUint10, e]
      rw [if_pos (by omega), if_neg (by omega), if_neg (by omega)]
      congr 1
      omega
theorem dec_head (u : Nat) : ∃ c t, Lib.decDigits u = c :: t ∧ 48 ≤ c.toNat ∧ c.toNat ≤ 57 := by
  cases e : Lib.decDigits u with
  | nil =>
    have := Lib.decDigits_length u
    rw [e] at this
    have := Lib.nDigits_pos u
    simp at *
    omega
  | cons c t => exact ⟨c, t, rfl, dec_bd u c (by rw [e]; exact List.mem_cons_self)⟩
theorem atoi_dec (u : Nat) (h : u < 100000) : Lib.atoiAll (Lib.decDigits u) = .ok (u : Int) := by
  obtain ⟨c, t, e, h0, h1⟩ := dec_head u
  have p := parse_dec u h []
  rw [List.append_nil] at p
  rw [e] at p ⊢
  unfold Lib.atoiAll
  simp only
  rw [if_neg (by omega)]
  unfold Lib.parseMag
  rw [if_neg (by simp), p]
  simp only [Lib.parseUint10]
  rw [if_neg (by omega), if_neg (by omega), if_neg (by omega)]
theorem itoa_dec (n : Int) (h : 0 ≤ n) : Lib.itoa n = Lib.decDigits n.toNat := by unfold Lib.itoa; rw [if_neg (by omega)]
/-- What digits say. -/
def dval (l : L) : Nat := l.foldl (fun n c => 10 * n + (c.toNat - 48)) 0
theorem dval_snoc (l : L) (c : UInt8) : dval (l ++ [c]) = 10 * dval l + (c.toNat - 48) := by simp [dval]
theorem dval_dec : ∀ (u : Nat), dval (Lib.decDigits u) = u := by
  intro u
  induction u using Nat.strongRecOn with
  | _ u ih =>
    by_cases h : u < 10
    · rw [Lib.decDigits, dif_pos h]
      have e : (UInt8.ofNat (48 + u)).toNat = 48 + u := by rw [UInt8.toNat_ofNat']; omega
      show 10 * 0 + ((UInt8.ofNat (48 + u)).toNat - 48) = u
      rw [e]
      omega
    · rw [Lib.decDigits, dif_neg h, dval_snoc, ih (u / 10) (by omega)]
      have e : (UInt8.ofNat (48 + u % 10)).toNat = 48 + u % 10 := by rw [UInt8.toNat_ofNat']; omega
      rw [e]
      omega
def isD (c : UInt8) : Bool := decide (48 ≤ c.toNat) && decide (c.toNat ≤ 57)
/-- The digits at the front, five at most, say n. -/
def DgAt (r : L) (j : Nat) : Prop := j ≤ 5 ∧ j ≤ r.length ∧ ∀ i, i < j → isD (r.getD i 0) = true
theorem dg_end {r : L} {j u : Nat} {t : L} (hr : r = Lib.decDigits u ++ 47 :: t) (hu : u < 100000) (h : DgAt r j) (e : j = 5 ∨ j = r.length ∨ isD (r.getD j 0) = false) : dval (r.take j) = u := by
  have hl := dec_len u hu
  have hlen : r.length = (Lib.decDigits u).length + 1 + t.length := by rw [hr]; simp; omega
  have at0 : ∀ i, i < (Lib.decDigits u).length → isD (r.getD i 0) = true := fun i hi => by
    rw [hr, List.getD, List.getElem?_append_left hi, List.getElem?_eq_getElem hi]
    have := dec_bd u _ (List.getElem_mem hi)
    simp only [Option.getD_some, isD, Bool.and_eq_true, decide_eq_true_eq]
    exact this
  have at1 : isD (r.getD (Lib.decDigits u).length 0) = false := by
    rw [hr, List.getD, List.getElem?_append_right (Nat.le_refl _), Nat.sub_self]
    rfl
  have hj : j = (Lib.decDigits u).length := by
    rcases Nat.lt_trichotomy j (Lib.decDigits u).length with q | q | q
    · rcases e with e | e | e
      · omega
      · omega
      · rw [at0 j q] at e; cases e
    · exact q
    · have := h.2.2 _ q
      rw [at1] at this
      cases this
  rw [hj, hr, List.take_left' rfl, dval_dec]
/-! ### paths -/
/-- The path of a target of payloads. -/
def pthU (a n : Int) : L := frontL ++ (toL (txt a) ++ 47 :: (Lib.itoa n ++ [47]))
structure IsU (s : L) (a n : Int) : Prop where
  a0 : 0 ≤ a
  a1 : a < 4294967296
  n0 : 1 ≤ n
  n1 : n ≤ 65535
  e : pthU a n = s
def rightT (ip : Bool) (a n : Int) : Bool := if ip = true then decide (a = 0 ∧ n = 0) else decide (1 ≤ n ∧ n ≤ 65535)
def pthT (ip : Bool) (a n : Int) : L := if rightT ip a n = true then (if ip = true then ipL else pthU a n) else []
def tgV (ip : Bool) (a n : Int) : Value := .agg #[.bool ip, .int .u32 a, .int .i64 n]
theorem txt_no47 {a : Int} (a0 : 0 ≤ a) (a1 : a < 4294967296) : (47 : UInt8) ∉ toL (txt a) := by
  intro h
  unfold toL at h
  rw [txt_bytes] at h
  have no : ∀ j, (47 : UInt8) ∉ (part a j).data.toList := fun j => part_no a j a0 a1 47 (by decide)
  simp only [List.mem_append, List.mem_cons] at h
  rcases h with h | h | h | h | h | h | h
  · exact no 0 h
  · exact absurd h (by decide)
  · exact no 1 h
  · exact absurd h (by decide)
  · exact no 2 h
  · exact absurd h (by decide)
  · exact no 3 h
theorem itoa_no47 {n : Int} (h : 0 ≤ n) : (47 : UInt8) ∉ Lib.itoa n := by
  rw [itoa_dec n h]
  intro c
  have := dec_bd _ _ c
  exact absurd this.1 (by decide)
theorem IsU.drop {s : L} {a n : Int} (h : IsU s a n) : s.drop 24 = toL (txt a) ++ 47 :: (Lib.itoa n ++ [47]) := by
  rw [← h.e]
  exact List.drop_left' rfl
theorem itoa_len {n : Int} (h0 : 0 ≤ n) (h1 : n ≤ 65535) : 1 ≤ (Lib.itoa n).length ∧ (Lib.itoa n).length ≤ 5 := by
  rw [itoa_dec n h0]
  exact dec_len _ (by omega)
theorem txt_len (a : Int) : 7 ≤ (toL (txt a)).length ∧ (toL (txt a)).length ≤ 15 := by
  rw [toL_len]
  unfold txt
  rw [strOfNums_size]
  exact tl_len a
theorem IsU.len {s : L} {a n : Int} (h : IsU s a n) : 24 < s.length ∧ s.length ≤ 46 := by
  have := txt_len a
  have := itoa_len (n := n) (by have := h.n0; omega) h.n1
  rw [← h.e]
  unfold pthU
  simp only [List.length_append, List.length_cons, List.length_nil]
  omega
theorem itoa_inj {m n : Int} (m0 : 0 ≤ m) (n0 : 0 ≤ n) (h : Lib.itoa m = Lib.itoa n) : m = n := by
  rw [itoa_dec m m0, itoa_dec n n0] at h
  have := congrArg dval h
  rw [dval_dec, dval_dec] at this
  omega
/-- A path is one target's alone. -/
theorem IsU.one {s : L} {a n b m : Int} (h : IsU s a n) (k : IsU s b m) : a = b ∧ n = m := by
  have e := h.drop.symm.trans k.drop
  have q := cut_one (txt_no47 h.a0 h.a1) (txt_no47 k.a0 k.a1) e
  refine ⟨txt_inj h.a0 h.a1 k.a0 k.a1 (toL_inj q.1), ?_⟩
  exact itoa_inj (by have := h.n0; omega) (by have := k.n0; omega) (List.append_cancel_right q.2)
/-- Fields ask for a target, or get a status. -/
def col (n : L) : Bool := decide (n.head? = some 58)
def known (n : L) : Bool := decide (n = nMeth) || decide (n = nProt) || decide (n = nSchm) || decide (n = nAuth) || decide (n = nPath)
def ahd (l : List Fd) : Bool := l.all fun f => col f.1
def okAt (l : List Fd) (k : Nat) : Bool := !col (l.getD k nF).1 || (ahd (l.take k) && (getS l (l.getD k nF).1).isSome && known (l.getD k nF).1)
def marked (l : List Fd) : Bool := (List.range l.length).all (okAt l)
theorem marked_iff (l : List Fd) : marked l = true ↔ ∀ i, i < l.length → okAt l i = true := by
  unfold marked
  rw [List.all_eq_true]
  exact ⟨fun h i hi => h i (List.mem_range.2 hi), fun h i hi => h i (List.mem_range.1 hi)⟩
theorem marked_no {l : List Fd} {i : Nat} (hi : i < l.length) (h : okAt l i = false) : marked l = false := by
  cases e : marked l with
  | false => rfl
  | true => rw [(marked_iff l).1 e i hi] at h; cases h
theorem ahd_take (l : List Fd) (k : Nat) (h : k < l.length) : ahd (l.take (k + 1)) = (ahd (l.take k) && col (l.getD k nF).1) := by
  unfold ahd
  have e : l.getD k nF = l[k] := by simp [List.getD, List.getElem?_eq_getElem h]
  rw [List.take_succ_eq_append_getElem h, List.all_append, e]
  simp
def pre (l : List Fd) : Int :=
  if chkS l = 0 ∧ marked l = true then
    match getS l nMeth, getS l nSchm, getS l nAuth, getS l nPath with
    | some m, some s, some a, some _ =>
      if m = cConn then
        match getS l nProt with
        | some p => if p = cUdp ∨ p = cIp then (if s = cHttps ∧ a ≠ [] ∧ getS l nCaps = some cYes then 0 else 400) else 501
        | none => 400
      else 405
    | _, _, _, _ => 400
  else 400
/-- What a path asks for, of payloads (u) or of packets. -/
structure TAt (p : L) (u ip : Bool) (a n : Int) : Prop where
  k : ip = !u
  q : u = true → IsU p a n
  i : u = false → p = ipL ∧ a = 0 ∧ n = 0
theorem TAt.one {p : L} {u ip ip' : Bool} {a n b m : Int} (h : TAt p u ip a n) (k : TAt p u ip' b m) : ip = ip' ∧ a = b ∧ n = m := by
  refine ⟨h.k.trans k.k.symm, ?_⟩
  cases u
  · have h1 := h.i rfl
    have k1 := k.i rfl
    exact ⟨h1.2.1.trans k1.2.1.symm, h1.2.2.trans k1.2.2.symm⟩
  · exact (h.q rfl).one (k.q rfl)
/-- What fields ask for: the status, and the target. -/
def Asks (l : List Fd) (ip : Bool) (a n st : Int) : Prop :=
  (pre l ≠ 0 ∧ st = pre l ∧ ip = false ∧ a = 0 ∧ n = 0) ∨
  (pre l = 0 ∧ ((st = 200 ∧ TAt ((getS l nPath).getD []) (decide (getS l nProt = some cUdp)) ip a n) ∨
    (st = 404 ∧ ip = false ∧ a = 0 ∧ n = 0 ∧ ∀ ip' a' n', ¬ TAt ((getS l nPath).getD []) (decide (getS l nProt = some cUdp)) ip' a' n')))
theorem Asks.one {l : List Fd} {ip ip' : Bool} {a n st b m sm : Int} (h : Asks l ip a n st) (k : Asks l ip' b m sm) : ip = ip' ∧ a = b ∧ n = m ∧ st = sm := by
  rcases h with ⟨h0, h1, h2, h3, h4⟩ | ⟨h0, h⟩
  · rcases k with ⟨_, k1, k2, k3, k4⟩ | ⟨k0, _⟩
    · exact ⟨h2.trans k2.symm, h3.trans k3.symm, h4.trans k4.symm, h1.trans k1.symm⟩
    · exact absurd k0 h0
  · rcases k with ⟨k0, _⟩ | ⟨_, k⟩
    · exact absurd h0 k0
    · rcases h with ⟨h1, h2⟩ | ⟨h1, h2, h3, h4, h5⟩
      · rcases k with ⟨k1, k2⟩ | ⟨k1, k2, k3, k4, k5⟩
        · obtain ⟨q1, q2, q3⟩ := h2.one k2
          exact ⟨q1, q2, q3, h1.trans k1.symm⟩
        · exact absurd h2 (k5 _ _ _)
      · rcases k with ⟨k1, k2⟩ | ⟨k1, k2, k3, k4, k5⟩
        · exact absurd k2 (h5 _ _ _)
        · exact ⟨h2.trans k2.symm, h3.trans k3.symm, h4.trans k4.symm, h1.trans k1.symm⟩
end Go.Proofs.YtojfcflkanohoaaDoor
