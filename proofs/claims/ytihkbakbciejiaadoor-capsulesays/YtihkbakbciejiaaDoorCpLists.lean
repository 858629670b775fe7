/-
  What chapter 16 says of addresses, routes and datagrams, as plain sums: how they are read and written, and that what is written is read. No condition.
-/
import Derived.Test.YtihkbakbciejiaaDoorCpMath
import Derived.Test.YtihkbakbciejiaaDoorPfMath
import Derived.Test.YtihkbakbciejiaaDoorFrLink
namespace Go.Proofs.YtihkbakbciejiaaDoor
set_option maxRecDepth 100000

/-- Four bytes as a number. -/
def w4 (s : L) : Nat := fold 0 (s.take 4)
/-- A number as four bytes. -/
def b4 (n : Nat) : L := [b8 (n / 16777216), b8 (n / 65536), b8 (n / 256), b8 n]
theorem w4_lt (s : L) : w4 s < 4294967296 := by
  unfold w4
  have h := fold_lt (s.take 4) 0 1 (by decide)
  have hl : (s.take 4).length ≤ 4 := by rw [List.length_take]; omega
  have : 256 ^ (s.take 4).length ≤ 256 ^ 4 := Nat.pow_le_pow_right (by decide) hl
  omega
theorem w4_b4 (n : Nat) (h : n < 4294967296) (t : L) : w4 (b4 n ++ t) = n := by
  unfold w4 b4 fold
  simp only [List.cons_append, List.nil_append, List.take_succ_cons, List.take_zero, List.foldl_cons, List.foldl_nil, b8_nat]
  omega
/-- An address: its number, the prefix. -/
structure Ad where
  id : Int
  addr : Nat
  bits : Int
def adRt (a : Ad) : Bool := rt (a.addr : Int) a.bits
def adrN : Nat → List Ad → L → Except Int (List Ad)
  | 0, _, _ => .error 1
  | k + 1, acc, s => if s = [] then .ok acc else match getL s with
    | none => .error 1
    | some (id, n) => match s.drop n with
      | [] => .error 1
      | c :: r => if c ≠ 4 then .error 5 else if r.length < 5 then .error 1
        else if rt (w4 r : Int) ((r.getD 4 0).toNat : Int) = false then .error 2 else if acc.length = 16 then .error 8
        else adrN k (acc ++ [⟨(id : Int), w4 r, ((r.getD 4 0).toNat : Int)⟩]) (r.drop 5)
theorem adrN_succ (k : Nat) (acc : List Ad) (s : L) : adrN (k + 1) acc s = if s = [] then .ok acc else match getL s with
    | none => .error 1
    | some (id, n) => match s.drop n with
      | [] => .error 1
      | c :: r => if c ≠ 4 then .error 5 else if r.length < 5 then .error 1
        else if rt (w4 r : Int) ((r.getD 4 0).toNat : Int) = false then .error 2 else if acc.length = 16 then .error 8
        else adrN k (acc ++ [⟨(id : Int), w4 r, ((r.getD 4 0).toNat : Int)⟩]) (r.drop 5) := rfl
def adrL (s : L) : Except Int (List Ad) := adrN (s.length + 1) [] s
abbrev numI (n : Int) : Prop := 0 ≤ n ∧ n ≤ 4611686018427387903

def adB (a : Ad) : L := putI a.id ++ ([4] ++ (b4 a.addr ++ [b8 a.bits.toNat]))
/-- Assigns. -/
def asgL (l : List Ad) : L := if ∀ a ∈ l, numI a.id ∧ adRt a = true then l.flatMap adB else []
/-- A route. -/
structure Ro where
  low : Nat
  high : Nat
  pro : Int
def okR (x : Ro) : Bool := decide (x.low ≤ x.high) && decide (0 ≤ x.pro) && decide (x.pro ≤ 255)
def behR (x y : Ro) : Bool := decide (x.pro < y.pro) || (decide (x.pro = y.pro) && decide (x.high < y.low))
def rightR : List Ro → Bool
  | [] => true
  | [x] => okR x
  | x :: y :: l => okR x && behR x y && rightR (y :: l)
def wayN : Nat → List Ro → L → Except Int (List Ro)
  | 0, _, _ => .error 1
  | k + 1, acc, s => match s with
    | [] => .ok acc
    | c :: r => if c ≠ 4 then .error 5 else if r.length < 9 then .error 1
      else if rightR (acc ++ [⟨w4 r, w4 (r.drop 4), ((r.getD 8 0).toNat : Int)⟩]) = false then .error 2 else if acc.length = 16 then .error 8
      else wayN k (acc ++ [⟨w4 r, w4 (r.drop 4), ((r.getD 8 0).toNat : Int)⟩]) (r.drop 9)
theorem wayN_cons (k : Nat) (acc : List Ro) (c : UInt8) (r : L) : wayN (k + 1) acc (c :: r) = if c ≠ 4 then .error 5 else if r.length < 9 then .error 1
      else if rightR (acc ++ [⟨w4 r, w4 (r.drop 4), ((r.getD 8 0).toNat : Int)⟩]) = false then .error 2 else if acc.length = 16 then .error 8
      else wayN k (acc ++ [⟨w4 r, w4 (r.drop 4), ((r.getD 8 0).toNat : Int)⟩]) (r.drop 9) := rfl
def wayL (s : L) : Except Int (List Ro) := wayN (s.length + 1) [] s
def roB (x : Ro) : L := [4] ++ (b4 x.low ++ (b4 x.high ++ [b8 x.pro.toNat]))
/-- Tells. -/
def telL (l : List Ro) : Except Int L := if rightR l = true then .ok (l.flatMap roB) else .error 2
/-- Gram, Open. -/
def grmL (st cx : Int) (d : L) : Except Int L := if (0 ≤ st ∧ st ≤ 28 ∧ st % 4 = 0) ∧ numI cx then .ok (putI (st / 4) ++ (putI cx ++ d)) else .error 2
def opnL (s : L) : Except Int (Nat × Nat × L) := match getL s with
  | none => .error 1
  | some (a, n) => match getL (s.drop n) with
    | none => .error 1
    | some (b, m) => if 7 < a then .error 2 else .ok (4 * a, b, s.drop (n + m))
/-- A datagram that is written is read. -/
theorem opn_grm {st cx : Int} {d s : L} (h : grmL st cx d = .ok s) : opnL s = .ok (st.toNat, cx.toNat, d) := by
  unfold grmL at h
  split at h
  · rename_i hc
    obtain ⟨⟨h0, h1, h2⟩, h3, h4⟩ := hc
    injection h with h
    subst h
    unfold opnL putI
    rw [getL_put _ (by omega)]
    simp only
    rw [List.drop_append_of_le_length (Nat.le_refl _), List.drop_length, List.nil_append, getL_put _ (by omega)]
    simp only
    rw [if_neg (by omega), ← List.drop_drop, List.drop_append_of_le_length (Nat.le_refl _), List.drop_length, List.nil_append, List.drop_append_of_le_length (Nat.le_refl _), List.drop_length, List.nil_append]
    congr 3
    omega
  · cases h
theorem adr_one {a : Ad} {k : Nat} {acc : List Ad} {t : L} (hn : numI a.id) (hr : adRt a = true) (ha : a.addr < 4294967296) (hl : acc.length < 16) : adrN (k + 1) acc (adB a ++ t) = adrN k (acc ++ [a]) t := by
  obtain ⟨id, addr, bits⟩ := a
  unfold adRt at hr
  simp only at hr hn ha
  have hb := rt_bits hr
  obtain ⟨n0, n1⟩ := hn
  have ne : adB ⟨id, addr, bits⟩ ++ t ≠ [] := fun c => by
    have := congrArg List.length c
    unfold adB at this
    simp at this
  have e1 : adB ⟨id, addr, bits⟩ ++ t = putL id.toNat ++ (4 :: (b4 addr ++ ([b8 bits.toNat] ++ t))) := by
    unfold adB putI
    simp
  rw [adrN_succ, if_neg ne, e1, getL_put _ (by omega)]
  simp only
  rw [List.drop_append_of_le_length (Nat.le_refl _), List.drop_length, List.nil_append]
  simp only
  have g : ((b4 addr ++ ([b8 bits.toNat] ++ t)).getD 4 0) = b8 bits.toNat := rfl
  have g2 : ((b8 bits.toNat).toNat : Int) = bits := by rw [b8_nat]; omega
  have g3 : (b4 addr ++ ([b8 bits.toNat] ++ t)).drop 5 = t := rfl
  have g4 : ¬ (b4 addr ++ ([b8 bits.toNat] ++ t)).length < 5 := by simp [b4]
  rw [g, g2, w4_b4 _ ha, g3, if_neg (show ¬ (4 : UInt8) ≠ 4 by simp), if_neg g4, if_neg (show ¬ rt (addr : Int) bits = false by rw [hr]; simp), if_neg (show ¬ acc.length = 16 by omega), show ((id.toNat : Nat) : Int) = id by omega]
theorem adr_all : ∀ (l : List Ad) (k : Nat) (acc : List Ad), (∀ a ∈ l, numI a.id ∧ adRt a = true ∧ a.addr < 4294967296) → acc.length + l.length ≤ 16 → l.length < k → adrN k acc (l.flatMap adB) = .ok (acc ++ l)
  | [], k, acc, _, _, hk => by
    obtain ⟨k, rfl⟩ : ∃ j, k = j + 1 := ⟨k - 1, by simp at hk; omega⟩
    rw [List.flatMap_nil, adrN_succ, if_pos rfl, List.append_nil]
  | a :: l, k, acc, h, hl, hk => by
    rw [List.length_cons] at hl hk
    obtain ⟨k, rfl⟩ : ∃ j, k = j + 1 := ⟨k - 1, by omega⟩
    have ha := h a (List.mem_cons_self ..)
    rw [List.flatMap_cons, adr_one ha.1 ha.2.1 ha.2.2 (by omega), adr_all l k (acc ++ [a]) (fun b hb => h b (List.mem_cons_of_mem _ hb)) (by rw [List.length_append]; simp; omega) (by omega), List.append_assoc]
    rfl
theorem adB_pos (a : Ad) : 1 ≤ (adB a).length := by
  unfold adB
  simp only [List.length_append, List.length_cons, List.length_nil]
  omega
theorem flat_long (l : List Ad) : l.length ≤ (l.flatMap adB).length := by
  induction l with
  | nil => exact Nat.le_refl _
  | cons a l ih =>
    rw [List.flatMap_cons, List.length_append, List.length_cons]
    have := adB_pos a
    omega
/-- Addresses that are written are read. -/
theorem adr_back {l : List Ad} (h : ∀ a ∈ l, numI a.id ∧ adRt a = true) (ha : ∀ a ∈ l, a.addr < 4294967296) (hl : l.length ≤ 16) : adrL (asgL l) = .ok l := by
  unfold asgL adrL
  rw [if_pos h]
  have := flat_long l
  rw [adr_all l _ [] (fun a hx => ⟨(h a hx).1, (h a hx).2, ha a hx⟩) (by simpa using hl) (by omega), List.nil_append]
theorem right_front : ∀ {a b : List Ro}, rightR (a ++ b) = true → rightR a = true
  | [], _, _ => rfl
  | [x], [], h => h
  | [x], y :: b, h => by
    have h' : (okR x && behR x y && rightR (y :: b)) = true := h
    simp only [Bool.and_eq_true] at h'
    exact h'.1.1
  | x :: y :: a, b, h => by
    have h' : (okR x && behR x y && rightR (y :: (a ++ b))) = true := h
    simp only [Bool.and_eq_true] at h'
    show (okR x && behR x y && rightR (y :: a)) = true
    rw [h'.1.1, h'.1.2, right_front (a := y :: a) (b := b) h'.2]
    rfl
theorem right_last : ∀ {a : List Ro} {x : Ro}, rightR (a ++ [x]) = true → okR x = true
  | [], x, h => h
  | [y], x, h => by
    have h' : (okR y && behR y x && okR x) = true := h
    simp only [Bool.and_eq_true] at h'
    exact h'.2
  | y :: z :: a, x, h => by
    have h' : (okR y && behR y z && rightR (z :: (a ++ [x]))) = true := h
    simp only [Bool.and_eq_true] at h'
    exact right_last (a := z :: a) h'.2
theorem way_one {x : Ro} {k : Nat} {acc : List Ro} {t : L} (hr : rightR (acc ++ [x]) = true) (h1 : x.low < 4294967296) (h2 : x.high < 4294967296) (hl : acc.length < 16) : wayN (k + 1) acc (roB x ++ t) = wayN k (acc ++ [x]) t := by
  have ok := right_last hr
  obtain ⟨low, high, pro⟩ := x
  simp only at h1 h2
  unfold okR at ok
  simp only [Bool.and_eq_true, decide_eq_true_eq] at ok
  have e1 : roB ⟨low, high, pro⟩ ++ t = 4 :: (b4 low ++ (b4 high ++ ([b8 pro.toNat] ++ t))) := by
    unfold roB
    simp
  have g : ((b4 low ++ (b4 high ++ ([b8 pro.toNat] ++ t))).getD 8 0) = b8 pro.toNat := rfl
  have g2 : ((b8 pro.toNat).toNat : Int) = pro := by rw [b8_nat]; omega
  have g3 : (b4 low ++ (b4 high ++ ([b8 pro.toNat] ++ t))).drop 9 = t := rfl
  have g4 : ¬ (b4 low ++ (b4 high ++ ([b8 pro.toNat] ++ t))).length < 9 := by simp [b4]
  have g5 : (b4 low ++ (b4 high ++ ([b8 pro.toNat] ++ t))).drop 4 = b4 high ++ ([b8 pro.toNat] ++ t) := rfl
  rw [e1, wayN_cons, g, g2, g5, w4_b4 _ h1, w4_b4 _ h2, g3, if_neg (show ¬ (4 : UInt8) ≠ 4 by simp), if_neg g4, if_neg (show ¬ rightR (acc ++ [⟨low, high, pro⟩]) = false by rw [hr]; simp), if_neg (by omega)]
theorem way_all : ∀ (l : List Ro) (k : Nat) (acc : List Ro), rightR (acc ++ l) = true → (∀ x ∈ l, x.low < 4294967296 ∧ x.high < 4294967296) → acc.length + l.length ≤ 16 → l.length < k → wayN k acc (l.flatMap roB) = .ok (acc ++ l)
  | [], k, acc, _, _, _, hk => by
    obtain ⟨k, rfl⟩ : ∃ j, k = j + 1 := ⟨k - 1, by simp at hk; omega⟩
    rw [List.append_nil]
    rfl
  | x :: l, k, acc, h, hx, hl, hk => by
    rw [List.length_cons] at hl hk
    obtain ⟨k, rfl⟩ : ∃ j, k = j + 1 := ⟨k - 1, by omega⟩
    have e : acc ++ x :: l = (acc ++ [x]) ++ l := by simp
    rw [e] at h
    have h1 := hx x (List.mem_cons_self ..)
    rw [List.flatMap_cons, way_one (right_front h) h1.1 h1.2 (by omega), way_all l k (acc ++ [x]) h (fun b hb => hx b (List.mem_cons_of_mem _ hb)) (by rw [List.length_append]; simp; omega) (by omega), e]
theorem way_back {l : List Ro} (h : rightR l = true) (hx : ∀ x ∈ l, x.low < 4294967296 ∧ x.high < 4294967296) (hl : l.length ≤ 16) : wayL (l.flatMap roB) = .ok l := by
  unfold wayL
  have : l.length ≤ (l.flatMap roB).length := by
    clear h hx hl
    induction l with
    | nil => exact Nat.le_refl _
    | cons a l ih =>
      rw [List.flatMap_cons, List.length_append, List.length_cons]
      have : 1 ≤ (roB a).length := by unfold roB; simp [b4]
      omega
  rw [way_all l _ [] h hx (by simpa using hl) (by omega), List.nil_append]
end Go.Proofs.YtihkbakbciejiaaDoor
