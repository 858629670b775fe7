/-
  What the program's own word, takeBody, takeAddress and addressFits answer. The table of sizes lies as the row's list gives it; no condition but the form's own reach.
-/
import Derived.Test.YtihkbakbciejiaaDoorCpPgB
import Derived.Test.YtihkbakbciejiaaDoorCpRight
import Derived.Test.YtihkbakbciejiaaDoorPfOwn
namespace Go.Proofs.YtihkbakbciejiaaDoor
set_option maxRecDepth 100000
open Go.RowKit

theorem or32 (x b : Int) (h0 : 0 ≤ x) (h : x < 16777216) (b0 : 0 ≤ b) (hb : b < 256) : bits .or .u32 (x * 256) b = x * 256 + b := by
  obtain ⟨n, rfl⟩ := Int.eq_ofNat_of_zero_le h0
  obtain ⟨m, rfl⟩ := Int.eq_ofNat_of_zero_le b0
  have e : (n : Int) * 256 = ((n * 256 : Nat) : Int) := by omega
  rw [e, u32_or_nat (n * 256) m (by omega) (by omega), nat_join 8 (n * 256) m (by omega) (by omega)]
  omega
theorem fold_snoc (x : Nat) (l : L) (c : UInt8) : fold x (l ++ [c]) = fold x l * 256 + c.toNat := by
  unfold fold
  rw [List.foldl_append]
  rfl
set_option maxHeartbeats 2000000 in
theorem pword_ok (s : ByteArray) (w : World) (hs : 4 ≤ s.size) (hz : s.size ≤ 4611686018427387903) :
    Calls Tryd.prog 61 #[.string s] w fun e w' => e = .returned (.int .u32 (w4 (toL s) : Int)) ∧ w = w' := by
  have hlen : (toL s).length = s.size := toL_len s
  have IX : Hid (∀ (i : Nat) (w' : World), i < 4 → (Instr.index 9 (.string s) (.int .i64 (i : Int))).run Tryd.prog w' = .ok (.int .u8 (((toL s).getD i 0).toNat : Int)) w') := fun i w' hi => at_str0 s i w' (by omega) i rfl
  have NX : Hid (∀ i, i < 4 → fold 0 ((toL s).take (i + 1)) = fold 0 ((toL s).take i) * 256 + ((toL s).getD i 0).toNat) := fun i hi => by
    have hl : i < (toL s).length := by omega
    rw [List.take_add_one, List.getElem?_eq_getElem hl, List.getD, List.getElem?_eq_getElem hl]
    exact fold_snoc _ _ _
  have BD : Hid (∀ i, i ≤ 3 → fold 0 ((toL s).take i) < 16777216) := fun i hi => by
    have h := fold_lt ((toL s).take i) 0 1 (by decide)
    have hl : ((toL s).take i).length ≤ 3 := by rw [List.length_take]; omega
    have : 256 ^ ((toL s).take i).length ≤ 256 ^ 3 := Nat.pow_le_pow_right (by decide) hl
    omega
  have FI : Hid (w4 (toL s) = fold 0 ((toL s).take 4)) := rfl
  generalize toL s = T at *
  clear hlen
  go_enter Tryd.func61, Tryd.ntmps61
  go_wp2_with fail
  go_loopg [3, 5] 4 (fun g av iv wr => ∃ i : Nat, i + g = 4 ∧ iv = .int .i64 (i : Int) ∧ av = .int .u32 ((fold 0 (T.take i) : Nat) : Int) ∧ w = wr)
  case atStart => exact ⟨0, by omega, rfl, rfl, rfl⟩
  case round =>
    obtain ⟨i, hi, rfl, rfl, rfl⟩ := hrel
    by_cases h4 : i < 4
    · have q4 : decide ((i : Int) < 4) = true := decide_eq_true (by omega)
      have ix := fun w' => IX.out i w' h4
      have nx := NX.out i h4
      have bd := BD.out i (by omega)
      have hb : (T.getD i 0).toNat < 256 := (T.getD i 0).toNat_lt
      obtain ⟨x, hx⟩ : ∃ x, x = fold 0 (T.take i) := ⟨_, rfl⟩
      obtain ⟨b, hbb⟩ : ∃ b, b = (T.getD i 0).toNat := ⟨_, rfl⟩
      rw [← hx] at nx bd ⊢
      rw [← hbb] at nx hb ix
      have o1 := or32 (x : Int) (b : Int) (by omega) (by omega) (by omega) (by omega)
      have w1 : IntKind.u32.wrap ((x : Int) * 256) = (x : Int) * 256 := by rw [IntKind.wrap_u32]; omega
      have w2 : IntKind.u32.wrap (b : Int) = (b : Int) := by rw [IntKind.wrap_u32]; omega
      have nxI : Hid (((fold 0 (T.take (i + 1)) : Nat) : Int) = (x : Int) * 256 + (b : Int)) := by unfold Hid; rw [nx]; omega
      clear nx hx hbb IX NX BD
      go_wp2_with fail
      go_roundg (3 - i)
      case measure => omega
      case rel => exact ⟨i + 1, by omega, by simp, by rw [nxI.out], rfl⟩
    · have q4 : decide ((i : Int) < 4) = false := decide_eq_false (by omega)
      obtain rfl : i = 4 := by omega
      rw [← FI.out]
      clear IX NX BD FI
      go_wp2_with fail
      go_ret
      exact ⟨rfl, rfl⟩
/-- So many bytes behind the version. -/
def bod (N : Nat) (s : L) : Except Int (L × L) := match s with
  | [] => .error 1
  | c :: r => if c ≠ 4 then .error 5 else if r.length < N then .error 1 else .ok (r.take N, r.drop N)
def BdA (N : Nat) (s : ByteArray) (e : Ending) : Prop := (∃ b r : ByteArray, bod N (toL s) = .ok (toL b, toL r) ∧ b.size = N ∧ r.size < s.size ∧ e = .returned (.tuple #[.string b, .string r, .int .i64 0])) ∨ (∃ x : Int, bod N (toL s) = .error x ∧ (x = 1 ∨ x = 5) ∧ e = .returned (.tuple #[.string ⟨#[]⟩, .string ⟨#[]⟩, .int .i64 x]))
set_option maxHeartbeats 2000000 in
theorem pbody_ok (s : ByteArray) (N : Nat) (w : World) (hs : s.size ≤ 4611686018427387903) (hN : N ≤ 100) :
    Calls Tryd.prog 60 #[.string s, .int .i64 (N : Int)] w fun e w' => BdA N s e ∧ Below w.heap.size w w' := by
  cases h : toL s with
  | nil =>
    have hz : s = ⟨#[]⟩ := toL_inj (by rw [h]; rfl)
    have AN : Hid (BdA N s (.returned (.tuple #[.string ⟨#[]⟩, .string ⟨#[]⟩, .int .i64 1]))) := .inr ⟨1, by rw [h]; rfl, .inl rfl, rfl⟩
    subst hz
    clear h
    go_enter Tryd.func60, Tryd.ntmps60
    go_wp2_with fail
    go_ret3
    exact ⟨AN.out, Below.refl _ _⟩
  | cons c t =>
    have zl : s.size = t.length + 1 := by rw [← toL_len, h]; rfl
    have s0 : s.toList.isEmpty = false := by
      rw [toL_empC, h]
      rfl
    have ix0 : ∀ w', (Instr.index 9 (.string s) (.int .i64 0)).run Tryd.prog w' = .ok (.int .u8 (c.toNat : Int)) w' := fun w' => by
      have := at_str0 s 0 w' (by omega) 0 rfl
      rw [h] at this
      exact this
    by_cases hc : c = 4
    · subst hc
      obtain ⟨m, hm⟩ : ∃ m : Nat, m = t.length := ⟨_, rfl⟩
      have sub : (s.size : Int) - 1 = (m : Int) := by omega
      by_cases hl : t.length < N
      · have AN : Hid (BdA N s (.returned (.tuple #[.string ⟨#[]⟩, .string ⟨#[]⟩, .int .i64 1]))) := .inr ⟨1, by rw [h]; unfold bod; simp [hl], .inl rfl, rfl⟩
        have ql : decide ((m : Int) < (N : Int)) = true := decide_eq_true (by omega)
        have qn : m < N := by omega
        replace hm := Lib.hid hm
        clear h hl zl
        go_enter Tryd.func60, Tryd.ntmps60
        go_wp2_with fail
        go_ret3
        exact ⟨AN.out, Below.refl _ _⟩
      · obtain ⟨P, hP⟩ : ∃ P : Nat, P = N + 1 := ⟨_, rfl⟩
        have hPs : P ≤ s.size := by omega
        have h1P : 1 ≤ P := by omega
        have sumP : (1 : Int) + (N : Int) = (P : Int) := by omega
        have AN : Hid (BdA N s (.returned (.tuple #[.string (s.extract 1 P), .string (s.extract P s.size), .int .i64 0]))) := by
          refine .inl ⟨_, _, ?_, ?_, ?_, rfl⟩
          · rw [toL_cut, toL_extract, h, hP]
            unfold bod
            simp [hl]
          · rw [ByteArray.size_extract]; omega
          · rw [ByteArray.size_extract]; omega
        have ql : decide ((m : Int) < (N : Int)) = false := decide_eq_false (by omega)
        have qn : ¬ m < N := by omega
        replace hm := Lib.hid hm
        replace hP := Lib.hid hP
        clear h hl zl
        go_enter Tryd.func60, Tryd.ntmps60
        go_wp2_with fail
        go_region
        all_goals
          go_wp2_with fail
          go_ret3
          exact ⟨AN.out, drewB _ _⟩
    · have AN : Hid (BdA N s (.returned (.tuple #[.string ⟨#[]⟩, .string ⟨#[]⟩, .int .i64 5]))) := .inr ⟨5, by rw [h]; unfold bod; simp [hc], .inr rfl, rfl⟩
      have qc : ((c.toNat : Int) == 4) = false := by
        have h3 : c.toNat ≠ 4 := fun q => hc (UInt8.toNat_inj.1 q)
        have : ¬ (c.toNat : Int) = 4 := by omega
        simpa using this
      clear h hc zl
      go_enter Tryd.func60, Tryd.ntmps60
      go_wp2_with fail
      go_ret3
      exact ⟨AN.out, Below.refl _ _⟩
/-- An address at the front of bytes. -/
def tkA (s : L) : Except Int (Ad × L) := match getL s with
  | none => .error 1
  | some (id, n) => match bod 5 (s.drop n) with
    | .error x => .error x
    | .ok (b, r) => .ok (⟨(id : Int), w4 b, ((b.getD 4 0).toNat : Int)⟩, r)
theorem adr_step (k : Nat) (acc : List Ad) (s : L) (hs : s ≠ []) : adrN (k + 1) acc s = match tkA s with
    | .error x => .error x
    | .ok (a, r) => if adRt a = false then .error 2 else if acc.length = 16 then .error 8 else adrN k (acc ++ [a]) r := by
  rw [adrN_succ, if_neg hs]
  unfold tkA
  cases getL s with
  | none => rfl
  | some p =>
    obtain ⟨id, n⟩ := p
    simp only
    cases s.drop n with
    | nil => rfl
    | cons c r =>
      unfold bod
      simp only
      by_cases hc : c ≠ 4
      · rw [if_pos hc, if_pos hc]
      · rw [if_neg hc, if_neg hc]
        by_cases h5 : r.length < 5
        · rw [if_pos h5, if_pos h5]
        · rw [if_neg h5, if_neg h5]
          have e1 : w4 (r.take 5) = w4 r := by
            unfold w4
            rw [List.take_take]
            rfl
          have e2 : (r.take 5).getD 4 0 = r.getD 4 0 := by
            simp [List.getD]
          simp only [e1, e2]
          rfl
/-- What takeAddress answers. -/
def TaA (s : ByteArray) (e : Ending) : Prop := (∃ (a : Ad) (r : ByteArray), tkA (toL s) = .ok (a, toL r) ∧ r.size < s.size ∧ a.addr < 4294967296 ∧ (0 ≤ a.bits ∧ a.bits < 256) ∧ e = .returned (.tuple #[.agg #[.int .i64 a.id, .int .u32 (a.addr : Int), .int .i64 a.bits], .string r, .int .i64 0])) ∨ (∃ x : Int, tkA (toL s) = .error x ∧ (x = 1 ∨ x = 5) ∧ e = .returned (.tuple #[.agg #[.int .i64 0, .int .u32 0, .int .i64 0], .string ⟨#[]⟩, .int .i64 x]))
/-- An address in a box. -/
structure Ba (w wr : World) (K : Nat) (i a b : Int) : Prop where
  k : Lies wr K [.int .i64 i, .int .u32 a, .int .i64 b]
  g : w.heap.size ≤ K
  bel : Below w.heap.size w wr
section
variable {w wr w' : World} {K : Nat} {i a b : Int}
theorem Ba.new (w : World) (i a b : Int) (t : TypeId) : Ba w (w.alloc (.cells #[.int .i64 i, .int .u32 a, .int .i64 b] t)) w.heap.size i a b := ⟨Lies.new w _ _, Nat.le_refl _, (Below.refl _ _).alloc (Nat.le_refl _) _⟩
theorem Ba.keep (h : Ba w wr K i a b) (q : Below wr.heap.size wr w') : Ba w w' K i a b := ⟨h.k.keep (by show 0 < 3; decide) q, h.g, h.bel.trans (q.mono h.bel.size)⟩
theorem Ba.put (h : Ba w wr K i a b) (x y z : Int) : Ba w (((wr.setCell ⟨K, 0, none⟩ (.int .i64 x)).setCell ⟨K, 1, none⟩ (.int .u32 y)).setCell ⟨K, 2, none⟩ (.int .i64 z)) K x y z :=
  ⟨((h.k.put 0 (by show 0 < 3; decide) (.int .i64 x)).put 1 (by show 1 < 3; decide) (.int .u32 y)).put 2 (by show 2 < 3; decide) (.int .i64 z), h.g, ((h.bel.setCell (p := ⟨K, 0, none⟩) h.g _).setCell (p := ⟨K, 1, none⟩) h.g _).setCell (p := ⟨K, 2, none⟩) h.g _⟩
theorem Ba.c0 (h : Ba w wr K i a b) : wr.cell? ⟨K, 0, none⟩ = some (.int .i64 i) := h.k.cell 0 rfl
theorem Ba.c1 (h : Ba w wr K i a b) : wr.cell? ⟨K, 1, none⟩ = some (.int .u32 a) := h.k.cell 1 rfl
theorem Ba.c2 (h : Ba w wr K i a b) : wr.cell? ⟨K, 2, none⟩ = some (.int .i64 b) := h.k.cell 2 rfl
theorem Ba.f0 (h : Ba w wr K i a b) : wr.frozen? ⟨K, 0, none⟩ = false := h.k.free 0 (by show 0 < 3; decide)
theorem Ba.f1 (h : Ba w wr K i a b) : wr.frozen? ⟨K, 1, none⟩ = false := h.k.free 1 (by show 1 < 3; decide)
theorem Ba.f2 (h : Ba w wr K i a b) : wr.frozen? ⟨K, 2, none⟩ = false := h.k.free 2 (by show 2 < 3; decide)
end
set_option maxHeartbeats 8000000 in
theorem ptadr_ok (s : ByteArray) (w : World) (t : VTab w) (hs : s.size ≤ 4611686018427387903) :
    Calls Tryd.prog 41 #[.string s] w fun e w' => TaA s e ∧ Below w.heap.size w w' := by
  have N0 := Ba.new w 0 0 0 51
  have t0 := t.below N0.bel
  obtain ⟨w1, hw1⟩ : ∃ w1, w1 = w.alloc (.cells #[.int .i64 0, .int .u32 0, .int .i64 0] 51) := ⟨_, rfl⟩
  rw [← hw1] at N0 t0
  obtain ⟨K, hK⟩ : ∃ K, K = w.heap.size := ⟨_, rfl⟩
  have N1 : Ba w w1 K 0 0 0 := by rw [hK]; exact N0
  clear N0
  have ERR : Hid (∀ x : Int, tkA (toL s) = .error x → (x = 1 ∨ x = 5) → TaA s (.returned (.tuple #[.agg #[.int .i64 0, .int .u32 0, .int .i64 0], .string ⟨#[]⟩, .int .i64 x]))) := fun x h1 h2 => .inr ⟨x, h1, h2, rfl⟩
  have TK : Hid (tkA (toL s) = _) := rfl
  unfold tkA at TK
  cases h1 : getL (toL s) with
  | none =>
    rw [h1] at TK
    have G := Lib.hid (ptn_none s w1 t0 hs h1)
    have k0 := N1.c0
    have k1 := N1.c1
    have k2 := N1.c2
    have kf0 := N1.f0
    have kf1 := N1.f1
    have kf2 := N1.f2
    have NP := Lib.hid (N1.put 0 0 0)
    have AN := Lib.hid (ERR.out 1 (by unfold tkA; rw [h1]) (.inl rfl))
    clear h1 N1 t t0 TK ERR
    go_enter Tryd.func41, Tryd.ntmps41
    go_upto_region 1 with fail
    rw [← hw1, ← hK]
    clear hw1
    replace hK := Lib.hid hK
    go_wp2_with fail
    refine G.out.mono ?_
    rintro e w2 ⟨rfl, rfl⟩
    clear G
    go_wp2_with fail
    generalize ((w1.setCell ⟨K, 0, none⟩ (.int .i64 0)).setCell ⟨K, 1, none⟩ (.int .u32 0)).setCell ⟨K, 2, none⟩ (.int .i64 0) = wf at *
    have q0 := NP.out.c0
    have q1 := NP.out.c1
    have q2 := NP.out.c2
    exact bodyPost_ret (v := .tuple #[.agg #[.int .i64 0, .int .u32 0, .int .i64 0], .string ⟨#[]⟩, .int .i64 1]) (by simp [results, Tryd.results41, go_sem, q0, q1, q2]) rfl ⟨AN.out, NP.out.bel⟩
  | some p =>
    obtain ⟨id, n⟩ := p
    have hk := get_len h1
    have hkb := (getL_bound h1).1
    have G := Lib.hid (ptn_some s w1 t0 hs h1)
    have e2 : toL (s.extract n s.size) = (toL s).drop n := toL_extract s n
    have z2 : (s.extract n s.size).size = s.size - n := by rw [ByteArray.size_extract]; omega
    obtain ⟨r, hr⟩ : ∃ r, r = s.extract n s.size := ⟨_, rfl⟩
    rw [← hr] at z2 e2 G
    have TE : Hid (∀ x : Int, bod 5 (toL r) = .error x → tkA (toL s) = .error x) := fun x hx => by
      unfold tkA
      rw [h1]
      simp only
      rw [← e2, hx]
    have TO : Hid (∀ b q : L, bod 5 (toL r) = .ok (b, q) → tkA (toL s) = .ok (⟨(id : Int), w4 b, ((b.getD 4 0).toNat : Int)⟩, q)) := fun b q hx => by
      unfold tkA
      rw [h1]
      simp only
      rw [← e2, hx]
    have rz : r.size ≤ 4611686018427387903 := by omega
    have rs : r.size < s.size := by omega
    have BO : Hid (∀ w', _) := fun w' => pbody_ok r 5 w' rz (by decide)
    replace N1 := Lib.hid N1
    replace hr := Lib.hid hr
    clear h1 t t0 TK e2 z2
    go_enter Tryd.func41, Tryd.ntmps41
    go_upto_region 1 with fail
    rw [← hw1, ← hK]
    clear hw1
    replace hK := Lib.hid hK
    go_wp2_with fail
    refine G.out.mono ?_
    rintro e w2 ⟨rfl, b2⟩
    have N2 := Lib.hid (N1.out.keep b2)
    clear G b2 N1
    go_wp2_with fail
    refine (BO.out w2).mono ?_
    rintro e w3 ⟨hA, b3⟩
    have N3 := Lib.hid (N2.out.keep b3)
    have k0 := N3.out.c0
    have k1 := N3.out.c1
    have k2 := N3.out.c2
    have kf0 := N3.out.f0
    have kf1 := N3.out.f1
    have kf2 := N3.out.f2
    clear BO b3 N2
    rcases hA with ⟨b, q, hb, zb, zq, rfl⟩ | ⟨x, hb, hx, rfl⟩
    · have W := Lib.hid (fun w' => pword_ok b w' (by omega) (by omega))
      have ix4 : ∀ w', (Instr.index 9 (.string b) (.int .i64 4)).run Tryd.prog w' = .ok (.int .u8 (((toL b).getD 4 0).toNat : Int)) w' := fun w' => at_str0 b 4 w' (by omega) 4 rfl
      have hcf : ∀ (x : Value) (w : World), (callFunc 61 #[x]).run Tryd.prog w = .ok (.enter 61 #[x]) w := fun x w => by simp [go_sem]
      have a1 := w4_lt (toL b)
      have b1 : ((toL b).getD 4 0).toNat < 256 := ((toL b).getD 4 0).toNat_lt
      have AN : Hid (TaA s (.returned (.tuple #[.agg #[.int .i64 (id : Int), .int .u32 (w4 (toL b) : Int), .int .i64 (((toL b).getD 4 0).toNat : Int)], .string q, .int .i64 0]))) := .inl ⟨⟨(id : Int), w4 (toL b), (((toL b).getD 4 0).toNat : Int)⟩, q, TO.out _ _ hb, by omega, a1, ⟨by show (0 : Int) ≤ ((((toL b).getD 4 0).toNat : Nat) : Int); omega, by show ((((toL b).getD 4 0).toNat : Nat) : Int) < 256; omega⟩, rfl⟩
      obtain ⟨A, hA⟩ : ∃ A, A = w4 (toL b) := ⟨_, rfl⟩
      obtain ⟨Bt, hBt⟩ : ∃ Bt, Bt = ((toL b).getD 4 0).toNat := ⟨_, rfl⟩
      rw [← hA] at W a1 AN
      rw [← hBt] at ix4 b1 AN
      replace hA := Lib.hid hA
      replace hBt := Lib.hid hBt
      have B2 : Below w3.heap.size w3 (w3.alloc (.cells #[.int .u32 (A : Int), .int .i64 (Bt : Int)] 48)) := (Below.refl w3.heap.size w3).alloc (Nat.le_refl w3.heap.size) _
      have N4a := N3.out.keep B2
      have N4 := Lib.hid (N4a.keep (drewB _ _))
      have g5 : (4 : Int) < (b.size : Int) := by omega
      have g5n : 4 < b.size := by omega
      replace zb := Lib.hid zb
      have l0 := N4a.c0
      have l1 := N4a.c1
      have l2 := N4a.c2
      have lf0 := N4a.f0
      have lf1 := N4a.f1
      have lf2 := N4a.f2
      have NP := Lib.hid ((N4a.put (id : Int) (A : Int) (Bt : Int)).keep (drewB _ _))
      have j0 := N4.out.c0
      have j1 := N4.out.c1
      have j2 := N4.out.c2
      have jf0 := N4.out.f0
      have jf1 := N4.out.f1
      have jf2 := N4.out.f2
      clear ERR TE TO hb zq B2 N3 N4a N4
      go_wp2_with fail
      go_region_law (refine cal1S 61 (.string b) (.int .u32 (A : Int)) (W.out _) (hcf _) rfl rfl (by simp [Act.eval, Act.put]) ?_)
      all_goals
        clear W k0 k1 k2 kf0 kf1 kf2
        go_wp2_with fail
        generalize ((((w3.alloc (.cells #[.int .u32 (A : Int), .int .i64 (Bt : Int)] 48)).setCell ⟨K, 0, none⟩ (.int .i64 (id : Int))).setCell ⟨K, 1, none⟩ (.int .u32 (A : Int))).setCell ⟨K, 2, none⟩ (.int .i64 (Bt : Int))).drew = wf at *
        have q0 := NP.out.c0
        have q1 := NP.out.c1
        have q2 := NP.out.c2
        exact bodyPost_ret (v := .tuple #[.agg #[.int .i64 (id : Int), .int .u32 (A : Int), .int .i64 (Bt : Int)], .string q, .int .i64 0]) (by simp [results, Tryd.results41, go_sem, q0, q1, q2]) rfl ⟨AN.out, NP.out.bel⟩
    · have NP := Lib.hid (N3.out.put 0 0 0)
      have AN := Lib.hid (ERR.out x (TE.out x hb) hx)
      have hx0 : (x == 0) = false := by rcases hx with rfl | rfl <;> rfl
      have hx1 : ¬ x = 0 := by rcases hx with rfl | rfl <;> decide
      replace hx := Lib.hid hx
      clear ERR TE TO hb N3
      go_wp2_with fail
      generalize ((w3.setCell ⟨K, 0, none⟩ (.int .i64 0)).setCell ⟨K, 1, none⟩ (.int .u32 0)).setCell ⟨K, 2, none⟩ (.int .i64 0) = wf at *
      have q0 := NP.out.c0
      have q1 := NP.out.c1
      have q2 := NP.out.c2
      exact bodyPost_ret (v := .tuple #[.agg #[.int .i64 0, .int .u32 0, .int .i64 0], .string ⟨#[]⟩, .int .i64 x]) (by simp [results, Tryd.results41, go_sem, q0, q1, q2]) rfl ⟨AN.out, NP.out.bel⟩
theorem pafit_ok (v : Value) (i a b : Int) (w : World) (a0 : 0 ≤ a) (a1 : a < 4294967296) :
    Calls Tryd.prog 42 #[v, .agg #[.int .i64 i, .int .u32 a, .int .i64 b]] w fun e w' => e = .returned (.bool (rt a b)) ∧ Below w.heap.size w w' := by
  have N0 := Ba.new w i a b 51
  obtain ⟨w1, hw1⟩ : ∃ w1, w1 = w.alloc (.cells #[.int .i64 i, .int .u32 a, .int .i64 b] 51) := ⟨_, rfl⟩
  rw [← hw1] at N0
  obtain ⟨K, hK⟩ : ∃ K, K = w.heap.size := ⟨_, rfl⟩
  have N1 : Ba w w1 K i a b := by rw [hK]; exact N0
  clear N0
  have k1 := N1.c1
  have k2 := N1.c2
  have CK := Lib.hid (check_ok a b w1 a0 a1)
  unfold pv at CK
  replace N1 := Lib.hid N1
  go_enter Tryd.func42, Tryd.ntmps42
  go_upto_region 1 with fail
  rw [← hw1, ← hK]
  clear hw1
  replace hK := Lib.hid hK
  go_wp2_with fail
  refine CK.out.mono ?_
  rintro e w2 ⟨rfl, b2⟩
  have Z := Lib.hid (N1.out.keep b2).bel
  clear b2 CK N1
  go_wp2_with fail
  go_ret
  exact ⟨rfl, Z.out⟩
end Go.Proofs.YtihkbakbciejiaaDoor
