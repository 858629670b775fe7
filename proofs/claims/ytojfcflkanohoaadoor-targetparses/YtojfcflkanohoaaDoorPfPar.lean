/-
  What the program's own Parse answers, for every string of at most 2^48 bytes: the address whose writing it is, or none. The tables of Go's library lie as the row's list gives them.
-/
import Derived.Test.YtojfcflkanohoaaDoorPfTxt
import Derived.Test.YtojfcflkanohoaaDoorPfSpl
namespace Go.Proofs.YtojfcflkanohoaaDoor
open Go.RowKit Go.Sort

theorem cut_one {c : UInt8} : ∀ {l1 l2 r1 r2 : List UInt8}, c ∉ l1 → c ∉ l2 → l1 ++ c :: r1 = l2 ++ c :: r2 → l1 = l2 ∧ r1 = r2
  | [], [], _, _, _, _, h => by simp at h; exact ⟨rfl, h⟩
  | [], b :: l2, _, _, _, h2, h => by
    simp only [List.nil_append, List.cons_append, List.cons.injEq] at h
    exact absurd (h.1 ▸ List.mem_cons_self) h2
  | b :: l1, [], _, _, h1, _, h => by
    simp only [List.nil_append, List.cons_append, List.cons.injEq] at h
    exact absurd (h.1 ▸ List.mem_cons_self) h1
  | b :: l1, b' :: l2, _, _, h1, h2, h => by
    simp only [List.cons_append, List.cons.injEq] at h
    have := cut_one (fun x => h1 (List.mem_cons_of_mem _ x)) (fun x => h2 (List.mem_cons_of_mem _ x)) h.2
    exact ⟨by rw [h.1, this.1], this.2⟩
theorem bytes_inj {p q : ByteArray} (h : p.data.toList = q.data.toList) : p = q := ByteArray.ext (Array.toList_inj.1 h)
theorem spl_cons {b t : List UInt8} {d : List ByteArray} {r : ByteArray} (h : Spl (b ++ 46 :: t) d r) (hb : 46 ∉ b) (hr : d = [] → 46 ∉ r.data.toList) : ∃ p d', d = p :: d' ∧ p.data.toList = b ∧ Spl t d' r := by
  cases d with
  | nil =>
    have e := h.2
    simp at e
    exact absurd (e ▸ List.mem_append_right b List.mem_cons_self) (hr rfl)
  | cons p d =>
    have e := h.2
    simp only [List.flatMap_cons, List.append_assoc, List.cons_append, List.nil_append] at e
    have := cut_one hb (h.1 p List.mem_cons_self) e
    exact ⟨p, d, rfl, this.1.symm, fun q hq => h.1 q (List.mem_cons_of_mem _ hq), this.2⟩
theorem spl_end {b : List UInt8} {d : List ByteArray} {r : ByteArray} (h : Spl b d r) (hb : 46 ∉ b) : d = [] ∧ r.data.toList = b := by
  cases d with
  | nil => exact ⟨rfl, by have := h.2; simp at this; exact this.symm⟩
  | cons p d =>
    refine absurd ?_ hb
    rw [h.2]
    simp
theorem dd_no (n : Int) (h0 : 0 ≤ n) (h : n < 256) (c : UInt8) (hc : c.toNat < 48) : c ∉ (strOfNums (dd n)).data.toList := by
  rw [strOfNums_data]
  intro hm
  obtain ⟨y, hy, e⟩ := List.mem_map.1 hm
  have hb := dd_bd n h0 h y hy
  have : c.toNat = y.toNat := by
    rw [← e]
    simp
    omega
  omega
theorem part_no (a : Int) (j : Nat) (a0 : 0 ≤ a) (a1 : a < 4294967296) (c : UInt8) (hc : c.toNat < 48) : c ∉ (part a j).data.toList := by
  unfold part
  refine dd_no _ ?_ ?_ c hc
  · split
    · omega
    · split
      · omega
      · split <;> omega
  · split
    · omega
    · split
      · omega
      · split <;> omega
theorem txt_bytes (a : Int) : (txt a).data.toList = (part a 0).data.toList ++ 46 :: ((part a 1).data.toList ++ 46 :: ((part a 2).data.toList ++ 46 :: (part a 3).data.toList)) := by
  rw [← txt_four]
  simp [ByteArray.data_append]
/-- An address's writing has its four parts as pieces. -/
theorem txt_pieces (a : Int) (a0 : 0 ≤ a) (a1 : a < 4294967296) (d : List ByteArray) (r : ByteArray) (h : Spl (txt a).data.toList d r) (hr : d.length < 4 → 46 ∉ r.data.toList) : d = [part a 0, part a 1, part a 2] ∧ r = part a 3 := by
  rw [txt_bytes] at h
  have no : ∀ j, 46 ∉ (part a j).data.toList := fun j => part_no a j a0 a1 46 (by decide)
  obtain ⟨p0, d0, rfl, e0, h0⟩ := spl_cons h (no 0) (fun e => hr (by rw [e]; decide))
  obtain ⟨p1, d1, rfl, e1, h1⟩ := spl_cons h0 (no 1) (fun e => hr (by rw [e]; simp))
  obtain ⟨p2, d2, rfl, e2, h2⟩ := spl_cons h1 (no 2) (fun e => hr (by rw [e]; simp))
  obtain ⟨rfl, e3⟩ := spl_end h2 (no 3)
  rw [bytes_inj e0, bytes_inj e1, bytes_inj e2, bytes_inj e3]
  exact ⟨rfl, rfl⟩
/-- Numbers, the highest first, as one. -/
def val (ns : List Int) : Int := ns.foldl (fun a n => a * 256 + n) 0
theorem val_snoc (ns : List Int) (n : Int) : val (ns ++ [n]) = val ns * 256 + n := by unfold val; rw [List.foldl_append]; rfl
/-- The first pieces are numbers. -/
def Nums (P : List ByteArray) (ns : List Int) : Prop := ∀ (j : Nat) (n : Int), ns[j]? = some n → (0 ≤ n ∧ n < 256) ∧ P[j]? = some (strOfNums (dd n))
theorem nums_snoc {P : List ByteArray} {ns : List Int} {n : Int} (h : Nums P ns) (h0 : 0 ≤ n) (h1 : n < 256) (hp : P[ns.length]? = some (strOfNums (dd n))) : Nums P (ns ++ [n]) := by
  intro j m hj
  rcases Nat.lt_or_ge j ns.length with q | q
  · rw [List.getElem?_append_left q] at hj
    exact h j m hj
  · have hl := (List.getElem?_eq_some_iff.1 hj).1
    simp at hl
    obtain rfl : j = ns.length := by omega
    simp at hj
    subst hj
    exact ⟨⟨h0, h1⟩, hp⟩
theorem nums_bd : ∀ (ns : List Int), (∀ n ∈ ns, 0 ≤ n ∧ n < 256) → ∀ k, ns.length = k → k ≤ 4 → 0 ≤ val ns ∧ val ns < 256 ^ k
  | ns, h, 0, hk, _ => by
    obtain rfl : ns = [] := List.eq_nil_of_length_eq_zero hk
    decide
  | ns, h, k + 1, hk, hl => by
    obtain ⟨l, n, rfl⟩ : ∃ l n, ns = l ++ [n] := ⟨ns.dropLast, ns.getLast (by intro e; rw [e] at hk; simp at hk), (List.dropLast_concat_getLast _).symm⟩
    have ih := nums_bd l (fun m hm => h m (List.mem_append_left _ hm)) k (by simpa using hk) (by omega)
    have hn := h n (List.mem_append_right _ List.mem_cons_self)
    rw [val_snoc, Int.pow_succ]
    omega
theorem nums_val {P : List ByteArray} {ns : List Int} (h : Nums P ns) (hl : ns.length ≤ 4) : 0 ≤ val ns ∧ val ns < 256 ^ ns.length :=
  nums_bd ns (fun n hn => by obtain ⟨j, hj⟩ := List.mem_iff_getElem?.1 hn; exact (h j n hj).1) _ rfl hl
/-- Four pieces that are numbers are an address's writing. -/
theorem nums_txt {s : ByteArray} {p0 p1 p2 p3 : ByteArray} {ns : List Int} (hS : Spl s.data.toList [p0, p1, p2] p3) (h : Nums [p0, p1, p2, p3] ns) (hl : ns.length = 4) : txt (val ns) = s := by
  match ns, hl with
  | [n0, n1, n2, n3], _ =>
    have h0 := h 0 n0 rfl
    have h1 := h 1 n1 rfl
    have h2 := h 2 n2 rfl
    have h3 := h 3 n3 rfl
    simp at h0 h1 h2 h3
    have hv : val [n0, n1, n2, n3] = ((n0 * 256 + n1) * 256 + n2) * 256 + n3 := by simp [val]
    rw [hv]
    generalize hv2 : ((n0 * 256 + n1) * 256 + n2) * 256 + n3 = v
    have q0 : part v 0 = p0 := by rw [h0.2]; unfold part; rw [if_pos rfl]; congr 2; omega
    have q1 : part v 1 = p1 := by rw [h1.2]; unfold part; rw [if_neg (by decide), if_pos rfl]; congr 2; omega
    have q2 : part v 2 = p2 := by rw [h2.2]; unfold part; rw [if_neg (by decide), if_neg (by decide), if_pos rfl]; congr 2; omega
    have q3 : part v 3 = p3 := by rw [h3.2]; unfold part; rw [if_neg (by decide), if_neg (by decide), if_neg (by decide)]; congr 2; omega
    refine bytes_inj ?_
    rw [txt_bytes, q0, q1, q2, q3, hS.2]
    simp
/-- What Parse answers. -/
def Parsed (s : ByteArray) (e : Ending) : Prop := (∃ a : Int, (0 ≤ a ∧ a < 4294967296) ∧ txt a = s ∧ e = .returned (.tuple #[.int .u32 a, .bool true])) ∨ ((∀ a : Int, 0 ≤ a → a < 4294967296 → txt a ≠ s) ∧ e = .returned (.tuple #[.int .u32 0, .bool false]))
theorem part_num (a : Int) (j : Nat) (a0 : 0 ≤ a) (a1 : a < 4294967296) : ∃ n : Int, (0 ≤ n ∧ n < 256) ∧ part a j = strOfNums (dd n) := by
  unfold part
  refine ⟨_, ?_, rfl⟩
  split
  · omega
  · split
    · omega
    · split <;> omega
theorem or_join (x n : Int) (x0 : 0 ≤ x) (x1 : x < 16777216) (h0 : 0 ≤ n) (h : n < 256) : bits .or .u32 (x * 256) n = x * 256 + n := by
  obtain ⟨m, rfl⟩ := Int.eq_ofNat_of_zero_le x0
  obtain ⟨k, rfl⟩ := Int.eq_ofNat_of_zero_le h0
  have e : (m : Int) * 256 = ((m * 256 : Nat) : Int) := by omega
  rw [e, u32_or_nat (m * 256) k (by omega) (by omega), nat_join 8 (m * 256) k (by omega) (by omega)]
  omega
set_option maxHeartbeats 2000000 in
theorem parse_any (s : ByteArray) (w : World) (t : Tab w) (hs : s.size ≤ 281474976710656) :
    Calls Tryd.prog 51 #[.string s] w fun e w' => Parsed s e ∧ Below w.heap.size w w' := by
  have SP : Hid (∀ w, _) := fun w => splitn_ok s w (by omega)
  go_enter Tryd.func51, Tryd.ntmps51
  go_wp2_with (go_at_call 61; refine (SP.out _).mono ?_; rintro e w1 ⟨d, r, b, cap, rfl, h4, hcap, hb, X, hS, hr, b1⟩; refine Hid.out ?_)
  refine Lib.hid ?_
  have tr := t.keep b1
  clear t SP
  by_cases h3 : d.length = 3
  · match d, h3 with
    | [p0, p1, p2], _ =>
      have NO : Hid (∀ j : Nat, j < 4 → (∀ n : Int, 0 ≤ n → n ≤ 255 → strOfNums (dd n) ≠ [p0, p1, p2, r].getD j ⟨#[]⟩) → ∀ a : Int, 0 ≤ a → a < 4294967296 → txt a ≠ s) := fun j hj hn a a0 a1 e => by
        subst e
        obtain ⟨q, rfl⟩ := txt_pieces a a0 a1 [p0, p1, p2] r hS hr
        simp only [List.cons.injEq, and_true] at q
        obtain ⟨rfl, rfl, rfl⟩ := q
        obtain ⟨n, hn2, e2⟩ := part_num a j a0 a1
        refine hn n hn2.1 (by omega) ?_
        rw [← e2]
        match j, hj with
        | 0, _ => rfl
        | 1, _ => rfl
        | 2, _ => rfl
        | 3, _ => rfl
      have YE : Hid (∀ ns : List Int, Nums [p0, p1, p2, r] ns → ns.length = 4 → txt (val ns) = s) := fun ns h hl => nums_txt hS h hl
      have SZ : Hid (∀ j : Nat, ([p0, p1, p2, r].getD j ⟨#[]⟩).size ≤ 281474976710656) := fun j => by
        have e := congrArg List.length hS.2
        simp at e
        match j with
        | 0 => show p0.size ≤ _; omega
        | 1 => show p1.size ≤ _; omega
        | 2 => show p2.size ≤ _; omega
        | 3 => show r.size ≤ _; omega
        | j + 4 => show (0 : Nat) ≤ _; omega
      have CE : Hid (∀ j : Nat, j < 4 → w1.cell? ⟨b, j, none⟩ = some (.string ([p0, p1, p2, r].getD j ⟨#[]⟩))) := fun j hj => X.c j _ (by
        match j, hj with
        | 0, _ => rfl
        | 1, _ => rfl
        | 2, _ => rfl
        | 3, _ => rfl)
      have bl := X.lt
      have Z1 : Hid (Below w.heap.size w w1) := b1
      clear hS hr X b1 h4
      generalize hP : [p0, p1, p2, r] = P at *
      simp only [List.length_cons, List.length_nil, Nat.zero_add, Nat.reduceAdd] at hcap ⊢
      go_wp2
      go_loopw [5, 17] (fun a i wr => ∃ ns : List Int, ns.length ≤ 4 ∧ i = .int .i64 ns.length ∧ a = .int .u32 (val ns) ∧ Hid (Nums P ns) ∧ Hid (Below w1.heap.size w1 wr)) (fun _ i _ => 4 - (intOf i).toNat)
      case atStart => exact ⟨[], by simp, rfl, rfl, fun j n h => by simp at h, Below.refl _ _⟩
      case round =>
        obtain ⟨ns, hl, rfl, rfl, hN, bel⟩ := hrel
        have vb := nums_val hN.out hl
        have trr := tr.keep bel.out
        generalize hk : ns.length = k at *
        by_cases hk4 : k < 4
        · have g1 : decide ((k : Int) < 4) = true := decide_eq_true (by omega)
          have ce : wr.cell? ⟨b, k, none⟩ = some (.string (P.getD k ⟨#[]⟩)) := (bel.out.cell bl).trans (CE.out k hk4)
          have sz := SZ.out k
          have vx : 0 ≤ val ns ∧ val ns < 16777216 := ⟨vb.1, Int.lt_of_lt_of_le vb.2 (by
            rcases (show k = 0 ∨ k = 1 ∨ k = 2 ∨ k = 3 by omega) with rfl | rfl | rfl | rfl <;> decide)⟩
          have hPk : P[k]? = some (P.getD k ⟨#[]⟩) := by
            subst hP
            rcases (show k = 0 ∨ k = 1 ∨ k = 2 ∨ k = 3 by omega) with rfl | rfl | rfl | rfl <;> rfl
          by_cases hx : ∃ n : Int, (0 ≤ n ∧ n ≤ 255) ∧ strOfNums (dd n) = P.getD k ⟨#[]⟩
          · obtain ⟨n, hn, en⟩ := hx
            have M : Hid (∀ w, Tab w → _) := fun w t => number_yes n 255 w t hn.1 hn.2 (by decide)
            rw [en] at M
            have N2 : Hid (Nums P (ns ++ [n])) := nums_snoc hN.out hn.1 (by omega) (by rw [hk, en]; exact hPk)
            have V2 : val (ns ++ [n]) = val ns * 256 + n := val_snoc ns n
            have o := or_join (val ns) n vx.1 vx.2 hn.1 (by omega)
            have wn : IntKind.u32.wrap n = n := by simp [IntKind.wrap, IntKind.bits, IntKind.signed]; omega
            clear NO YE CE SZ hPk en hN vb
            generalize P.getD k ⟨#[]⟩ = S at *
            generalize hv : val ns = v at *
            go_wp2_with (go_at_call 62; refine (M.out _ trr).mono ?_; rintro e w2 ⟨rfl, b2⟩; have Z2 : Hid (Below w1.heap.size w1 w2) := bel.out.trans (b2.mono bel.out.size); clear b2)
            go_roundw
            case rel => exact ⟨ns ++ [n], by simp; omega, by simp [hk], by rw [V2], N2, Z2⟩
            case measure => simp [intOf]; omega
          · have M : Hid (∀ w, Tab w → _) := fun w t => number_no (P.getD k ⟨#[]⟩) 255 w t (by decide) sz (fun n h0 h1 e => hx ⟨n, ⟨h0, h1⟩, e⟩)
            have NP : Hid (Parsed s (.returned (.tuple #[.int .u32 0, .bool false]))) := .inr ⟨NO.out k hk4 (fun n h0 h1 e => hx ⟨n, ⟨h0, h1⟩, e⟩), rfl⟩
            clear NO YE CE SZ hPk hx hN
            generalize P.getD k ⟨#[]⟩ = S at *
            go_wp2_with (go_at_call 62; refine (M.out _ trr).mono ?_; rintro e w2 ⟨rfl, b2⟩; have Z2 : Hid (Below w1.heap.size w1 w2) := bel.out.trans (b2.mono bel.out.size); clear b2)
            go_ret2
            exact ⟨NP.out, Z1.out.trans (Z2.out.mono Z1.out.size)⟩
        · obtain rfl : k = 4 := by omega
          have NP : Hid (Parsed s (.returned (.tuple #[.int .u32 (val ns), .bool true]))) := .inl ⟨val ns, ⟨vb.1, by have := vb.2; simpa using this⟩, YE.out ns hN.out hk, rfl⟩
          clear NO YE CE SZ hN
          go_wp2
          go_ret2
          exact ⟨NP.out, Z1.out.trans (bel.out.mono Z1.out.size)⟩
  · have no : ∀ a : Int, 0 ≤ a → a < 4294967296 → txt a ≠ s := fun a a0 a1 e => by
      subst e
      have := txt_pieces a a0 a1 d r hS hr
      exact h3 (by rw [this.1]; rfl)
    have g : ((d.length : Int) + 1 != 4) = true := by
      simp only [bne_iff_ne, ne_eq]
      omega
    clear hS hr X
    have N : Hid (Parsed s (.returned (.tuple #[.int .u32 0, .bool false]))) := .inr ⟨no, rfl⟩
    clear no
    go_wp2
    go_ret2
    exact ⟨N.out, b1⟩
end Go.Proofs.YtojfcflkanohoaaDoor
