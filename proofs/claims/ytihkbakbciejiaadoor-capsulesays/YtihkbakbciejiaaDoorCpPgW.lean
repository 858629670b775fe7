/-
  What the program's own writeWord, Assigns and Tells answer. The table of sizes lies as the row's list gives it; no condition but the form's own reach.
-/
import Derived.Test.YtihkbakbciejiaaDoorCpPgM
import Derived.Test.YtihkbakbciejiaaDoorCpPgN
import Derived.Test.YtihkbakbciejiaaDoorCpPgC
import Derived.Test.YtihkbakbciejiaaDoorObBld
namespace Go.Proofs.YtihkbakbciejiaaDoor
set_option maxRecDepth 100000
open Go.RowKit Go.Sort

/-- A builder that is being written, and three cells in a box beside it. -/
structure Wx (w0 w : World) (B b K : Nat) (X : L) (x y z : Value) (T : TypeId) : Prop where
  ws : Ws w0 w B b X
  bx : w.heap[K]? = some (.cells #[x, y, z] T)
  ne : K ≠ b
section
variable {w0 w w' : World} {B b K : Nat} {X Y : L} {x y z : Value} {T : TypeId}
theorem Wx.keep (h : Wx w0 w B b K X x y z T) (k : Below w.heap.size w w') : Wx w0 w' B b K X x y z T := ⟨h.ws.keep k, (k.block K (heap_lt h.bx)).trans h.bx, h.ne⟩
theorem Wx.more (h : Wx w0 w B b K X x y z T) (hT : T ≠ 5) (k : Bk B b w w') (d : Bd w' B b Y) : Wx w0 w' B b K Y x y z T :=
  ⟨h.ws.more k d, k.oth K _ h.bx (by intro c; injection c with c; exact h.ne c) (by
    intro c fz q
    injection q with q1 q2
    exact absurd q2 hT), h.ne⟩
theorem Wx.new (h : Ws w0 w B b X) (x y z : Value) (T : TypeId) : Wx w0 (w.alloc (.cells #[x, y, z] T)) B b w.heap.size X x y z T :=
  ⟨h.keep ((Below.refl _ _).alloc (Nat.le_refl _) _), heap_alloc_new _ _, fun c => Nat.lt_irrefl _ (c ▸ h.bd.lt)⟩
theorem Wx.c0 (h : Wx w0 w B b K X x y z T) : w.cell? ⟨K, 0, none⟩ = some x := by rw [Lib.cell_of_heap h.bx]; rfl
theorem Wx.c1 (h : Wx w0 w B b K X x y z T) : w.cell? ⟨K, 1, none⟩ = some y := by rw [Lib.cell_of_heap h.bx]; rfl
theorem Wx.c2 (h : Wx w0 w B b K X x y z T) : w.cell? ⟨K, 2, none⟩ = some z := by rw [Lib.cell_of_heap h.bx]; rfl
end
theorem b4_take (n i : Nat) (h : i < 4) : (b4 n).take (i + 1) = (b4 n).take i ++ [b8 (n / 256 ^ (3 - i))] := by
  have c : i = 0 ∨ i = 1 ∨ i = 2 ∨ i = 3 := by omega
  rcases c with rfl | rfl | rfl | rfl
  · rfl
  · rfl
  · show [b8 (n / 16777216), b8 (n / 65536), b8 (n / 256)] = [b8 (n / 16777216), b8 (n / 65536)] ++ [b8 (n / 256 ^ 1)]
    rw [Nat.pow_one]
    rfl
  · show [b8 (n / 16777216), b8 (n / 65536), b8 (n / 256), b8 n] = [b8 (n / 16777216), b8 (n / 65536), b8 (n / 256)] ++ [b8 (n / 256 ^ 0)]
    rw [Nat.pow_zero, Nat.div_one]
    rfl
set_option maxHeartbeats 4000000 in
theorem pww_ok (n : Nat) (B b : Nat) (X : L) (w : World) (h : Bd w B b X) (hn : n < 4294967296) (hX : X.length + 4 ≤ 140737488355328) :
    Calls Tryd.prog 50 #[.pointer (some ⟨b, 0, none⟩), .int .u32 (n : Int)] w fun e w' => e = .returned (.tuple #[]) ∧ Bd w' B b (X ++ b4 n) ∧ Bk B b w w' := by
  have S : Hid (Bd w B b (X ++ (b4 n).take 0) ∧ Bk B b w w) := ⟨by rw [List.take_zero, List.append_nil]; exact h, Bk.refl _ _ _⟩
  have WB : Hid (∀ (i : Nat) (x : Int), i < 4 → ((b8 (n / 256 ^ (3 - i))).toNat : Int) = x → ∀ w', Bd w' B b (X ++ (b4 n).take i) → Calls Tryd.prog 49 #[.pointer (some ⟨b, 0, none⟩), .int .u8 x] w' fun e w'' => e = .returned .nilIface ∧ Bd w'' B b (X ++ (b4 n).take (i + 1)) ∧ Bk B b w' w'') := fun i x hi hx w' hb => by
    have := wbyte_ok' B b (X ++ (b4 n).take i) (b8 (n / 256 ^ (3 - i))) x hx w' hb (by
      rw [List.length_append, List.length_take]
      have : (b4 n).length = 4 := rfl
      omega)
    rw [List.append_assoc, ← b4_take n i hi] at this
    exact this
  clear h
  go_enter Tryd.func50, Tryd.ntmps50
  go_wp2_with fail
  go_loopg [5] 4 (fun g iv wr => ∃ i : Nat, i + g = 4 ∧ iv = .int .i64 (i : Int) ∧ Hid (Bd wr B b (X ++ (b4 n).take i) ∧ Bk B b w wr))
  case atStart => exact ⟨0, by omega, rfl, S⟩
  case round =>
    clear S
    obtain ⟨i, hi, rfl, S⟩ := hrel
    by_cases h4 : i < 4
    · have c : i = 0 ∨ i = 1 ∨ i = 2 ∨ i = 3 := by omega
      rcases c with rfl | rfl | rfl | rfl
      all_goals
        go_wp2_with fail
        refine (WB.out _ _ (by decide) ?hx _ S.out.1).mono ?_
        case hx =>
          rw [b8_nat]
          first
          | omega
          | (simp only [Nat.sub_zero, Nat.reduceSub, Nat.reducePow, Nat.div_one, Nat.sub_self, Nat.pow_zero]; omega)
          | (simp [IntKind.wrap_u8]; omega)
        rintro e w2 ⟨rfl, h2, k2⟩
        have S2 := Lib.hid (And.intro h2 (S.out.2.trans k2))
        clear h2 k2 S
        go_wp2_with fail
        first
        | go_roundg 3
          case measure => omega
          case rel => exact ⟨1, by omega, rfl, S2⟩
        | go_roundg 2
          case measure => omega
          case rel => exact ⟨2, by omega, rfl, S2⟩
        | go_roundg 1
          case measure => omega
          case rel => exact ⟨3, by omega, rfl, S2⟩
        | go_roundg 0
          case measure => omega
          case rel => exact ⟨4, by omega, rfl, S2⟩
    · have q4 : decide ((i : Int) < 4) = false := decide_eq_false (by omega)
      obtain rfl : i = 4 := by omega
      have S2 : Hid (Bd wr B b (X ++ b4 n) ∧ Bk B b w wr) := S.out
      clear WB S
      go_wp2_with fail
      go_end0
      exact ⟨rfl, S2.out⟩
theorem at_adp (B o N cap i : Nat) (w : World) (h : i < N) (z : Int) (hz : z = i) (p : Nat) (hp : p = o + 3 * i) :
    (Instr.indexAt 45 (.slice (some ⟨B, o, none⟩) N cap) (.int .i64 z)).run Tryd.prog w = .ok (.pointer (some ⟨B, p, none⟩)) w := by
  subst hz hp
  have e : Tryd.prog.elem 45 = 51 := by kernel_rfl
  rw [run_indexAt_slice (P := Tryd.prog) w 45 ⟨B, o, none⟩ N cap .i64 i (by rw [e]; exact Tryd.underlying45), if_pos (by omega), e]
  have s : (sizeOf 51).run Tryd.prog w = .ok 3 w := Tryd.sizeOf51 w
  rw [s]
  simp [Addr.add_mid, Nat.mul_comm]
theorem adB_len (a : Ad) : (adB a).length ≤ 14 := by
  unfold adB putI
  have := put_len a.id.toNat
  simp only [List.length_append, List.length_cons, List.length_nil]
  have : (b4 a.addr).length = 4 := rfl
  omega
theorem adF_len : ∀ l : List Ad, (l.flatMap adB).length ≤ 14 * l.length
  | [] => Nat.le_refl _
  | a :: l => by
    rw [List.flatMap_cons, List.length_append, List.length_cons]
    have := adB_len a
    have := adF_len l
    omega
theorem roB_len (x : Ro) : (roB x).length = 10 := rfl
theorem roF_len : ∀ l : List Ro, (l.flatMap roB).length = 10 * l.length
  | [] => rfl
  | a :: l => by
    rw [List.flatMap_cons, List.length_append, List.length_cons, roB_len, roF_len l]
    omega
theorem asg_ok {l : List Ad} (h : ∀ a ∈ l, numI a.id ∧ adRt a = true) : asgL l = l.flatMap adB := if_pos h
theorem asg_bad {l : List Ad} {a : Ad} (h : a ∈ l) (hb : ¬ (numI a.id ∧ adRt a = true)) : asgL l = [] := if_neg fun c => hb (c a h)
theorem take_next {X : Type} (l : List X) (x0 : X) (i : Nat) (h : i < l.length) : l.take (i + 1) = l.take i ++ [l.getD i x0] := by
  rw [List.take_add_one, List.getElem?_eq_getElem h, List.getD, List.getElem?_eq_getElem h]
  rfl
theorem getD_in {X : Type} (l : List X) (x0 : X) (i : Nat) (h : i < l.length) : l.getD i x0 ∈ l := by
  rw [List.getD, List.getElem?_eq_getElem h]
  exact List.getElem_mem h
/-- The addresses written so far. -/
structure AsI (w wr : World) (b : Nat) (l : List Ad) (i : Nat) : Prop where
  ws : Ws w wr b b ((l.take i).flatMap adB)
  ok : ∀ a ∈ l.take i, numI a.id ∧ adRt a = true
theorem ne_adr : (51 : TypeId) ≠ 5 := by decide
theorem ne_rou : (55 : TypeId) ≠ 5 := by decide
set_option maxHeartbeats 8000000 in
theorem pasg_ok (v : Value) (l : List Ad) (w : World) (t : VTab w) (hv : RowAt 3 adc nA w v l) (hl : l.length * 24 ≤ 140737488351232) (hb : ∀ a ∈ l, a.addr < 4294967296) :
    Calls Tryd.prog 25 #[v] w fun e w' => e = .returned (.string (strL (asgL l))) ∧ Below w.heap.size w w' := by
  obtain ⟨a, cap, rfl, -, hc⟩ := hv
  obtain ⟨M, hM⟩ : ∃ M, M = l.length := ⟨_, rfl⟩
  have T0 := Lib.hid t
  have S0 : Ws w (w.alloc (.cells #[.pointer none, .slice none 0 0] 102)) w.heap.size w.heap.size [] := ⟨Bd.new w, Nat.le_refl _, (Below.refl _ _).alloc (Nat.le_refl _) _⟩
  obtain ⟨w1, hw1⟩ : ∃ w1, w1 = w.alloc (.cells #[.pointer none, .slice none 0 0] 102) := ⟨_, rfl⟩
  rw [← hw1] at S0
  obtain ⟨b, hbk⟩ : ∃ b, b = w.heap.size := ⟨_, rfl⟩
  rw [← hbk] at S0
  have P0 : Hid (AsI w w1 b l 0) := ⟨by rw [List.take_zero]; exact S0, fun a h => by rw [List.take_zero] at h; cases h⟩
  have CC := Lib.hid hc
  have HB := Lib.hid hb
  rw [← hM] at hl CC ⊢
  clear t hc hb S0
  go_enter Tryd.func25, Tryd.ntmps25
  go_upto_region 2 with fail
  rw [← hw1, ← hbk]
  clear hw1
  replace hM := Lib.hid hM
  replace hbk := Lib.hid hbk
  go_wp2_with fail
  go_loopg [9] M (fun g iv wr => ∃ i : Nat, i + g = M ∧ iv = .int .i64 (i : Int) ∧ Hid (AsI w wr b l i))
  case atStart => exact ⟨0, by omega, rfl, P0⟩
  case round =>
    obtain ⟨i, hi, rfl, I⟩ := hrel
    clear P0
    by_cases hin : i < M
    · have il : i < l.length := by have := hM.out; omega
      obtain ⟨g, o, rfl, hgw, cs⟩ := CC.out i hin
      have xin := getD_in l nA i il
      have tk := take_next l nA i il
      have hadr := HB.out _ xin
      obtain ⟨x, hx⟩ : ∃ x, x = l.getD i nA := ⟨_, rfl⟩
      rw [← hx] at cs xin tk hadr
      obtain ⟨id, ad, bi⟩ := x
      simp only at hadr
      have k0 : wr.cell? ⟨g, o + 3 * i, none⟩ = some (.int .i64 id) := (I.out.ws.bel.cell hgw).trans (cs 0 (by decide))
      have k1 : wr.cell? ⟨g, o + 3 * i + 1, none⟩ = some (.int .u32 (ad : Int)) := (I.out.ws.bel.cell hgw).trans (cs 1 (by decide))
      have k2 : wr.cell? ⟨g, o + 3 * i + 2, none⟩ = some (.int .i64 bi) := (I.out.ws.bel.cell hgw).trans (cs 2 (by decide))
      have ia := fun w' => at_adp g o M cap i w' hin (i : Int) rfl (o + 3 * i) rfl
      have X1 := Wx.new I.out.ws (.int .i64 id) (.int .u32 (ad : Int)) (.int .i64 bi) 51
      obtain ⟨wb, hwb⟩ : ∃ wb, wb = wr.alloc (.cells #[.int .i64 id, .int .u32 (ad : Int), .int .i64 bi] 51) := ⟨_, rfl⟩
      rw [← hwb] at X1
      obtain ⟨K, hK⟩ : ∃ K, K = wr.heap.size := ⟨_, rfl⟩
      rw [← hK] at X1
      have Xlen : ((l.take i).flatMap adB).length ≤ 14 * i := by
        have := adF_len (l.take i)
        rw [List.length_take] at this
        omega
      have OK := Lib.hid I.out.ok
      obtain ⟨X, hX⟩ : ∃ X, X = (l.take i).flatMap adB := ⟨_, rfl⟩
      rw [← hX] at X1 Xlen
      have nxt : Hid ((l.take (i + 1)).flatMap adB = X ++ (putI id ++ ([4] ++ (b4 ad ++ [b8 bi.toNat])))) := by
        unfold Hid
        rw [tk, List.flatMap_append, ← hX]
        simp [adB]
      have t1 := T0.out.below X1.ws.bel
      have BAD : Hid (¬ (numI id ∧ adRt ⟨id, ad, bi⟩ = true) → strL (asgL l) = ⟨#[]⟩) := fun h => by rw [asg_bad xin h]; rfl
      have c0 := X1.c0
      replace X1 := Lib.hid X1
      clear cs xin hx I hX
      by_cases hn : numI id
      · have P := Lib.hid (pputI_ok id wb t1 hn)
        have s1 := putI_some id
        have z1 := putI_len id
        have eP : toL (strL (putI id)) = putI id := rfl
        clear t1
        go_upto_region 5 with fail
        rw [← hwb, ← hK]
        clear hwb
        replace hK := Lib.hid hK
        go_wp2_with fail
        refine P.out.mono ?_
        rintro e w2 ⟨rfl, b2⟩
        have X2 := Lib.hid (X1.out.keep b2)
        have d1 := X2.out.c1
        have d2 := X2.out.c2
        have CK := Lib.hid (check_ok (ad : Int) bi w2 (by omega) (by omega))
        unfold pv at CK
        generalize strL (putI id) = PI at *
        clear b2 P X1 c0
        go_wp2_with fail
        refine CK.out.mono ?_
        rintro e w3 ⟨rfl, b3⟩
        have X3 := Lib.hid (X2.out.keep b3)
        clear b3 CK X2 d1 d2
        cases hrt : rt (ad : Int) bi with
        | false =>
          have E := BAD.out (fun c => by have h2 : rt (ad : Int) bi = true := c.2; rw [hrt] at h2; cases h2)
          replace E := Lib.hid E
          have Z := Lib.hid X3.out.ws.bel
          clear BAD hrt
          go_wp2_with fail
          go_ret
          exact ⟨by rw [E.out]; rfl, Z.out⟩
        | true =>
          have hbi := rt_bits hrt
          have wB : IntKind.u8.wrap bi = bi := by rw [IntKind.wrap_u8]; omega
          have OK2 : Hid (∀ a ∈ l.take (i + 1), numI a.id ∧ adRt a = true) := fun a h => by
            rw [tk] at h
            rcases List.mem_append.1 h with h | h
            · exact OK.out a h
            · rw [List.mem_singleton] at h
              rw [h]
              exact ⟨hn, hrt⟩
          have WS1 : Hid (∀ _ : Unit, _) := fun _ => wstr_ok b b X PI w3 X3.out.ws.bd (by omega)
          clear BAD hrt tk OK
          go_wp2_with fail
          refine (WS1.out ()).mono ?_
          rintro e w4 ⟨rfl, d4, k4⟩
          rw [eP] at d4
          have X4 := Lib.hid (X3.out.more ne_adr k4 d4)
          have zp : (putI id).length ≤ 8 := by rw [← eP, toL_len]; exact z1
          have WB1 : Hid (∀ _ : Unit, _) := fun _ => wbyte_ok' b b (X ++ putI id) 4 4 rfl w4 X4.out.ws.bd (by rw [List.length_append]; omega)
          clear d4 k4 X3 WS1
          go_wp2_with fail
          refine (WB1.out ()).mono ?_
          rintro e w5 ⟨rfl, d5, k5⟩
          have X5 := Lib.hid (X4.out.more ne_adr k5 d5)
          have e1 := X5.out.c1
          have WW : Hid (∀ _ : Unit, _) := fun _ => pww_ok ad b b (X ++ putI id ++ [4]) w5 X5.out.ws.bd hadr (by simp only [List.length_append, List.length_cons, List.length_nil]; omega)
          clear d5 k5 X4 WB1
          go_wp2_with fail
          refine (WW.out ()).mono ?_
          rintro e w6 ⟨rfl, d6, k6⟩
          have X6 := Lib.hid (X5.out.more ne_adr k6 d6)
          have e2 := X6.out.c2
          have l4 : (b4 ad).length = 4 := rfl
          have WB2 : Hid (∀ _ : Unit, _) := fun _ => wbyte_ok' b b (X ++ putI id ++ [4] ++ b4 ad) (b8 bi.toNat) bi (by unfold Hid; rw [b8_nat]; omega) w6 X6.out.ws.bd (by simp only [List.length_append, List.length_cons, List.length_nil]; omega)
          clear d6 k6 X5 WW e1 l4
          go_wp2_with fail
          refine (WB2.out ()).mono ?_
          rintro e w7 ⟨rfl, d7, k7⟩
          have X7 := X6.out.more ne_adr k7 d7
          have NX : Hid (AsI w w7 b l (i + 1)) := ⟨by
            rw [nxt.out]
            have := X7.ws
            simp only [List.append_assoc] at this
            exact this, OK2.out⟩
          clear d7 k7 X6 X7 WB2 e2 OK2 nxt
          go_wp2_with fail
          go_roundg (M - (i + 1))
          case measure => omega
          case rel => exact ⟨i + 1, by omega, by simp, NX⟩
      · have P := Lib.hid (pput_none id wb t1 hn)
        have E := BAD.out (fun c => hn c.1)
        replace E := Lib.hid E
        clear t1 BAD tk OK nxt
        go_upto_region 5 with fail
        rw [← hwb, ← hK]
        clear hwb
        replace hK := Lib.hid hK
        go_wp2_with fail
        refine P.out.mono ?_
        rintro e w2 ⟨rfl, b2⟩
        have Z := Lib.hid (X1.out.keep b2).ws.bel
        clear b2 P X1
        go_wp2_with fail
        go_ret
        exact ⟨by rw [E.out]; rfl, Z.out⟩
    · have E : strL (asgL l) = ⟨(l.flatMap adB).toArray⟩ := by
        have h := I.out.ok
        have e : l.take i = l := List.take_of_length_le (by have := hM.out; omega)
        rw [e] at h
        rw [asg_ok h]
        rfl
      have S : Ws w wr b b (l.flatMap adB) := by
        have e : l.take i = l := List.take_of_length_le (by have := hM.out; omega)
        have h := I.out.ws
        rw [e] at h
        exact h
      replace E := Lib.hid E
      have BS := Lib.hid (bstr_ok b b (l.flatMap adB) wr S.bd)
      have Z0 := Lib.hid S.bel
      have hbw := Lib.hid S.le
      generalize (⟨(l.flatMap adB).toArray⟩ : ByteArray) = OUT at *
      clear I CC S HB
      go_wp2_with fail
      refine BS.out.mono ?_
      rintro e w2 ⟨rfl, b2⟩
      have Z := Lib.hid (Z0.out.trans (b2.mono hbw.out))
      clear BS b2 Z0
      go_wp2_with fail
      go_ret
      exact ⟨by rw [E.out]; rfl, Z.out⟩
/-- What Tells answers. -/
def telV (l : List Ro) : Value := match telL l with
  | .ok s => .tuple #[.string (strL s), .int .i64 0]
  | .error x => .tuple #[.string ⟨#[]⟩, .int .i64 x]
theorem telV_yes {l : List Ro} (h : rightR l = true) : telV l = .tuple #[.string (strL (l.flatMap roB)), .int .i64 0] := by
  unfold telV telL
  rw [if_pos h]
theorem telV_no {l : List Ro} (h : rightR l = false) : telV l = .tuple #[.string ⟨#[]⟩, .int .i64 2] := by
  unfold telV telL
  rw [if_neg (by rw [h]; simp)]
structure TlI (w wr : World) (b : Nat) (l : List Ro) (i : Nat) : Prop where
  ws : Ws w wr b b ((l.take i).flatMap roB)
  ok : rightR (l.take i) = true
set_option maxHeartbeats 8000000 in
theorem ptel_ok (v : Value) (l : List Ro) (w : World) (hv : RowAt 3 roC nR w v l) (hl : l.length * 16 ≤ 140737488351232) (hb : ∀ x ∈ l, x.low < 4294967296 ∧ x.high < 4294967296) :
    Calls Tryd.prog 21 #[v] w fun e w' => e = .returned (telV l) ∧ Below w.heap.size w w' := by
  obtain ⟨a, cap, rfl, hcap, hc⟩ := hv
  obtain ⟨M, hM⟩ : ∃ M, M = l.length := ⟨_, rfl⟩
  have S0 : Ws w (w.alloc (.cells #[.pointer none, .slice none 0 0] 102)) w.heap.size w.heap.size [] := ⟨Bd.new w, Nat.le_refl _, (Below.refl _ _).alloc (Nat.le_refl _) _⟩
  obtain ⟨w1, hw1⟩ : ∃ w1, w1 = w.alloc (.cells #[.pointer none, .slice none 0 0] 102) := ⟨_, rfl⟩
  rw [← hw1] at S0
  obtain ⟨b, hbk⟩ : ∃ b, b = w.heap.size := ⟨_, rfl⟩
  rw [← hbk] at S0
  have P0 : Hid (TlI w w1 b l 0) := ⟨by rw [List.take_zero]; exact S0, by rw [List.take_zero]; rfl⟩
  have CC := Lib.hid hc
  have HB := Lib.hid hb
  rw [← hM] at hl CC hcap ⊢
  clear hc hb S0
  go_enter Tryd.func21, Tryd.ntmps21
  go_upto_region 2 with fail
  rw [← hw1, ← hbk]
  clear hw1
  replace hM := Lib.hid hM
  replace hbk := Lib.hid hbk
  go_wp2_with fail
  go_loopg [9] M (fun g iv wr => ∃ i : Nat, i + g = M ∧ iv = .int .i64 (i : Int) ∧ Hid (TlI w wr b l i))
  case atStart => exact ⟨0, by omega, rfl, P0⟩
  case round =>
    obtain ⟨i, hi, rfl, I⟩ := hrel
    clear P0
    by_cases hin : i < M
    · have il : i < l.length := by have := hM.out; omega
      have CT : Hid (∀ k, k < i → ∃ g o, a = some ⟨g, o, none⟩ ∧ g < w.heap.size ∧ ∀ j, j < 3 → w.cell? ⟨g, o + 3 * k + j, none⟩ = (roC ((l.take i).getD k nR))[j]?) := fun k hk => by
        obtain ⟨g, o, e, hg, cs⟩ := CC.out k (by omega)
        refine ⟨g, o, e, hg, fun j hj => ?_⟩
        rw [cs j hj]
        have e2 : (l.take i).getD k nR = l.getD k nR := by simp [List.getD, hk]
        rw [e2]
      obtain ⟨g, o, rfl, hgw, cs⟩ := CC.out i hin
      have xin := getD_in l nR i il
      have tk := take_next l nR i il
      have hadr := HB.out _ xin
      obtain ⟨x, hx⟩ : ∃ x, x = l.getD i nR := ⟨_, rfl⟩
      rw [← hx] at cs xin tk hadr
      obtain ⟨lo, hi', pr⟩ := x
      simp only at hadr
      have k0 : wr.cell? ⟨g, o + 3 * i, none⟩ = some (.int .u32 (lo : Int)) := (I.out.ws.bel.cell hgw).trans (cs 0 (by decide))
      have k1 : wr.cell? ⟨g, o + 3 * i + 1, none⟩ = some (.int .u32 (hi' : Int)) := (I.out.ws.bel.cell hgw).trans (cs 1 (by decide))
      have k2 : wr.cell? ⟨g, o + 3 * i + 2, none⟩ = some (.int .i64 pr) := (I.out.ws.bel.cell hgw).trans (cs 2 (by decide))
      have ia := fun w' => at_rop g o M cap i w' hin (i : Int) rfl (o + 3 * i) rfl
      have X1 := Wx.new I.out.ws (.int .u32 (lo : Int)) (.int .u32 (hi' : Int)) (.int .i64 pr) 55
      obtain ⟨wb, hwb⟩ : ∃ wb, wb = wr.alloc (.cells #[.int .u32 (lo : Int), .int .u32 (hi' : Int), .int .i64 pr] 55) := ⟨_, rfl⟩
      rw [← hwb] at X1
      obtain ⟨K, hK⟩ : ∃ K, K = wr.heap.size := ⟨_, rfl⟩
      rw [← hK] at X1
      have Xlen : ((l.take i).flatMap roB).length ≤ 10 * i := by
        have := roF_len (l.take i)
        rw [List.length_take] at this
        omega
      have FT : Hid (∀ d' os', Calls Tryd.prog 47 #[.slice (some ⟨g, o, none⟩) i cap, .agg #[.int .u32 (lo : Int), .int .u32 (hi' : Int), .int .i64 pr]] (grow (redrawn wb d') os') fun e w' => e = .returned (.bool (fitR (l.take i) ⟨lo, hi', pr⟩)) ∧ Below (grow (redrawn wb d') os').heap.size (grow (redrawn wb d') os') w') := fun d' os' => by
        have bb : Below w.heap.size w (grow (redrawn wb d') os') := X1.ws.bel.trans ((below_regrown wb d' os').mono X1.ws.bel.size)
        have hti : (l.take i).length = i := by rw [List.length_take]; omega
        refine pfit_ok _ (l.take i) lo hi' pr _ ⟨some ⟨g, o, none⟩, cap, by rw [hti], fun k hk => ?_⟩ (by rw [hti]; omega)
        rw [hti] at hk
        obtain ⟨g2, o2, e2, hg2, cs2⟩ := CT.out k hk
        exact ⟨g2, o2, e2, Nat.lt_of_lt_of_le hg2 bb.size, (bb.cell hg2).trans (cs2 0 (by decide)), (bb.cell hg2).trans (cs2 1 (by decide)), (bb.cell hg2).trans (cs2 2 (by decide))⟩
      have RF : Hid (rightR (l.take (i + 1)) = fitR (l.take i) ⟨lo, hi', pr⟩) := by
        unfold Hid
        rw [tk]
        exact right_fit I.out.ok _
      obtain ⟨X, hX⟩ : ∃ X, X = (l.take i).flatMap roB := ⟨_, rfl⟩
      rw [← hX] at X1 Xlen
      have nxt : Hid ((l.take (i + 1)).flatMap roB = X ++ ([4] ++ (b4 lo ++ (b4 hi' ++ [b8 pr.toNat])))) := by
        unfold Hid
        rw [tk, List.flatMap_append, ← hX]
        simp [roB]
      have okx : Hid (fitR (l.take i) ⟨lo, hi', pr⟩ = true → 0 ≤ pr ∧ pr ≤ 255) := fun h => by
        unfold fitR okR at h
        simp only [Bool.and_eq_true, decide_eq_true_eq] at h
        exact ⟨h.1.1.2, h.1.2⟩
      have him : i ≤ M := by omega
      have hicap : i ≤ cap := by omega
      have hicapI : (i : Int) ≤ (cap : Int) := by omega
      have x0 : ∀ d' os', (grow (redrawn wb d') os').cell? ⟨K, 0, none⟩ = some (.int .u32 (lo : Int)) := fun d' os' => cell_regrown X1.c0 d' os'
      have x1 : ∀ d' os', (grow (redrawn wb d') os').cell? ⟨K, 1, none⟩ = some (.int .u32 (hi' : Int)) := fun d' os' => cell_regrown X1.c1 d' os'
      have x2 : ∀ d' os', (grow (redrawn wb d') os').cell? ⟨K, 2, none⟩ = some (.int .i64 pr) := fun d' os' => cell_regrown X1.c2 d' os'
      replace X1 := Lib.hid X1
      clear cs xin hx I hX CT tk
      generalize fitR (l.take i) ⟨lo, hi', pr⟩ = FB at *
      go_upto_region 5 with fail
      rw [← hwb, ← hK]
      clear hwb
      replace hK := Lib.hid hK
      refine wp_region_quiet_below (by kernel_rfl) (by kernel_rfl) ?_
      repeat (go_big_quiet_step ((go_at_call 47; exact Calls.regrown_of (FT.out _ _))))
      refine wpQuiet_nil ?_
      intro _ hw'
      obtain ⟨⟨dq, osq⟩, hw''⟩ := hw'
      subst hw''
      have X3 := Lib.hid (X1.out.keep (below_regrown wb dq osq))
      clear X1 FT x0 x1 x2
      simp only
      generalize grow (redrawn wb dq) osq = w3 at *
      cases FB with
      | false =>
        have E := Lib.hid (telV_no (right_not RF.out))
        have Z := Lib.hid X3.out.ws.bel
        clear RF nxt okx
        go_wp2_with fail
        go_ret2
        exact ⟨by rw [E.out]; rfl, Z.out⟩
      | true =>
        have hp := okx.out rfl
        have wB : IntKind.u8.wrap pr = pr := by rw [IntKind.wrap_u8]; omega
        have WB1 : Hid (∀ _ : Unit, _) := fun _ => wbyte_ok' b b X 4 4 rfl w3 X3.out.ws.bd (by omega)
        have f4 : ∀ n, (b4 n).length = 4 := fun _ => rfl
        replace f4 := Lib.hid f4
        go_wp2_with fail
        refine (WB1.out ()).mono ?_
        rintro e w4 ⟨rfl, d4, k4⟩
        have X4 := Lib.hid (X3.out.more ne_rou k4 d4)
        have e0 := X4.out.c0
        have WW : Hid (∀ _ : Unit, _) := fun _ => pww_ok lo b b (X ++ [4]) w4 X4.out.ws.bd hadr.1 (by simp only [List.length_append, List.length_cons, List.length_nil]; omega)
        clear d4 k4 X3 WB1
        go_wp2_with fail
        refine (WW.out ()).mono ?_
        rintro e w5 ⟨rfl, d5, k5⟩
        have X5 := Lib.hid (X4.out.more ne_rou k5 d5)
        have e1 := X5.out.c1
        have W2 : Hid (∀ _ : Unit, _) := fun _ => pww_ok hi' b b (X ++ [4] ++ b4 lo) w5 X5.out.ws.bd hadr.2 (by simp only [List.length_append, List.length_cons, List.length_nil, f4.out]; omega)
        clear d5 k5 X4 WW e0
        go_wp2_with fail
        refine (W2.out ()).mono ?_
        rintro e w6 ⟨rfl, d6, k6⟩
        have X6 := Lib.hid (X5.out.more ne_rou k6 d6)
        have e2 := X6.out.c2
        have WB2 : Hid (∀ _ : Unit, _) := fun _ => wbyte_ok' b b (X ++ [4] ++ b4 lo ++ b4 hi') (b8 pr.toNat) pr (by unfold Hid; rw [b8_nat]; omega) w6 X6.out.ws.bd (by simp only [List.length_append, List.length_cons, List.length_nil, f4.out]; omega)
        clear d6 k6 X5 W2 e1
        go_wp2_with fail
        refine (WB2.out ()).mono ?_
        rintro e w7 ⟨rfl, d7, k7⟩
        have X7 := X6.out.more ne_rou k7 d7
        have NX : Hid (TlI w w7 b l (i + 1)) := ⟨by
          rw [nxt.out]
          have := X7.ws
          simp only [List.append_assoc] at this
          exact this, RF.out⟩
        clear d7 k7 X6 X7 WB2 e2 nxt RF okx
        go_wp2_with fail
        go_roundg (M - (i + 1))
        case measure => omega
        case rel => exact ⟨i + 1, by omega, by simp, NX⟩
    · have e : l.take i = l := List.take_of_length_le (by have := hM.out; omega)
      have h := I.out.ok
      rw [e] at h
      have S := I.out.ws
      rw [e] at S
      have EV := Lib.hid (telV_yes h)
      have BS := Lib.hid (bstr_ok b b (l.flatMap roB) wr S.bd)
      have E : (⟨(l.flatMap roB).toArray⟩ : ByteArray) = strL (l.flatMap roB) := rfl
      rw [E] at BS
      have Z0 := Lib.hid S.bel
      have hbw := Lib.hid S.le
      generalize strL (l.flatMap roB) = OUT at *
      clear I CC E S HB e h
      go_wp2_with fail
      refine BS.out.mono ?_
      rintro e w2 ⟨rfl, b2⟩
      have Z := Lib.hid (Z0.out.trans (b2.mono hbw.out))
      clear BS b2 Z0
      go_wp2_with fail
      go_ret2
      exact ⟨by rw [EV.out]; rfl, Z.out⟩
end Go.Proofs.YtihkbakbciejiaaDoor
