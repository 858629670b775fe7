/-
  The document's own fresh end, as far as Dial and Accept ask: an end is made, and nothing that was there is changed. No condition. The document's own Dial and Accept, and Send of a client that waits. Texts below 2^30 bytes. No other condition.
-/
import Derived.Test.YtbicfhilehllnaaGreatDoorCnB
import Derived.Test.YtbicfhilehllnaaGreatDoorObRun
import Derived.Deep.RegionWith
import Derived.RegionTactic
import Derived.Test.YtbicfhilehllnaaGreatDoorCnA
namespace Go.Proofs.YtbicfhilehllnaaGreatDoor.cn
set_option maxRecDepth 100000
open Go.RowKit

/-- The document's end, its cells. -/
def rcells (psk cid : ByteArray) (sv : Bool) (th ou : ByteArray) (ph : Int) (hl : Bool) (ha : Int) (we : Bool) (se ca le s sn : Value) : List Value :=
  [.string psk, .string cid, .bool sv, .string th, .string ou, .int .i64 ph, .int .i64 0, .bool false, .bool hl, .int .i64 ha, .bool we, .bool false, .int .i64 0, se, ca, le, s, sn, .slice none 0 0, .slice none 0 0]
theorem rinew_ok : Makes 104 #[] := fun w => by
  have b1 : Below w.heap.size w (w.alloc (.map #[] 0)) := (Below.refl _ _).alloc (Nat.le_refl _) _
  have b2 := Lib.hid (fun o => b1.alloc b1.size o)
  have hmm := @run_makeMap Tryz.prog
  clear b1
  go_enter Tryz.func104, Tryz.ntmps104
  go_wp2
  go_ret
  exact ⟨_, rfl, b2.out _⟩
theorem ronew_ok : Makes 105 #[] := fun w => by
  go_enter Tryz.func105, Tryz.ntmps105
  go_wp2
  go_ret
  exact ⟨_, rfl, (Below.refl _ _).alloc (Nat.le_refl _) _⟩
theorem rlnew_ok : Makes 103 #[] := fun w => by
  go_enter Tryz.func103, Tryz.ntmps103
  go_wp2
  go_ret
  exact ⟨_, rfl, (Below.refl _ _).alloc (Nat.le_refl _) _⟩
theorem info_ps : ∃ i, Tryz.prog.info? 148 = some i ∧ i.zero = some (.pointer none) ∧ i.size = 1 ∧ i.bytes = 8 := by
  have h : (Tryz.prog.info? 148).map (fun i => (i.zero, i.size, i.bytes)) = some (some (.pointer none), 1, 8) := by kernel_rfl
  obtain ⟨i, hi, e⟩ := Option.map_eq_some_iff.1 h
  injection e with e1 e2
  injection e2 with e2 e3
  exact ⟨i, hi, e1, e2, e3⟩
/-- The end so far: so many streams. -/
structure RS (w wr : World) (B : Nat) (psk cid th ou : ByteArray) (i : Nat) : Prop where
  bel : Below w.heap.size w wr
  ge : w.heap.size ≤ B
  ex : ∃ (v : Value) (n : Nat) (xs : List Value) (se ca le sn : Value), ob.Lies wr B (rcells psk cid false th ou 0 false 0 false se ca le v sn) ∧ wr.ownsRow w.heap.size 148 1 v n xs ∧ n ≤ i ∧ v.ownBlock ≠ some B
theorem RS.keep {w wr wr' : World} {B : Nat} {psk cid th ou : ByteArray} {i : Nat} (h : RS w wr B psk cid th ou i) (b : Below wr.heap.size wr wr') : RS w wr' B psk cid th ou i := by
  obtain ⟨v, n, xs, se, ca, le, sn, h1, h2, h3, h4⟩ := h.ex
  exact ⟨h.bel.trans (b.mono h.bel.size), h.ge, v, n, xs, se, ca, le, sn, h1.keep (by simp [rcells]) b, owns_below h2 b, h3, h4⟩
section
variable {ops : Array Oper} {o : Oper} {a : Act} {w : World} {K : Act → World → Prop} {Q : Exit → Act → World → Prop} {E : Prop}
/-- A call that makes something new, in a region that draws its order. -/
theorem call0S (f : FuncId) (M : Makes f #[]) (hcf : ∀ w, (callFunc f #[]).run Tryz.prog w = .ok (.enter f #[]) w) (hg : o.guard = none) (ho : o.op = .call { callee := .value (.func f), args := #[], argTypes := #[] })
    (h : ∀ p w', Below w.heap.size w w' → K (a.put o.dst (.pointer (some p))) w') : if Region.wanted o (yielded ops a.tmps) = true then Oper.wp Tryz.prog o a w K Q else E := by
  rw [if_pos (by simp [Region.wanted, hg])]
  unfold Oper.wp
  have hr : (execOp a.eval o).run Tryz.prog w = .ok (.enter f #[]) w := by
    unfold execOp
    rw [ho]
    simp [go_sem, hcf]
  rw [hr]
  exact (M w).mono fun e w' ⟨p, he, b⟩ => by
    subst he
    exact h p w' b
end
/-- One more stream behind the others. -/
theorem app_ps {base : Nat} {wr X : World} {v u : Value} {n C : Nat} {xs : List Value} (r : wr.ownsRow base 148 1 v n xs) (b : Below wr.heap.size wr X) (hn : n ≤ 32) (hb : base ≤ wr.heap.size) (hc : X.cell? ⟨C, 0, none⟩ = some u) (hu : u.oneCell' = true) :
    ∃ v' w', (∀ z, (builtin .append #[76, 76] 76 z #[v, .slice (some ⟨C, 0, none⟩) 1 1]).run Tryz.prog X = .ok (.value v') w') ∧ w'.ownsRow base 148 1 v' (n + 1) (xs ++ [u]) ∧ X.grownBy w' v.ownBlock ∧ (v'.ownBlock = v.ownBlock ∨ v'.ownBlock = some X.heap.size) := by
  obtain ⟨i0, hi0, hz0, hz1, hz2⟩ := info_ps
  have hbs := b.size
  obtain ⟨v', w', hr, h1, h2, -, h4⟩ := run_append_own_at (P := Tryz.prog) X base 76 76 148 i0 (.pointer none) 1 8 Tryz.underlying76 hi0 hz0 hz1 hz2 rfl (by decide) v n xs (owns_below r b) ⟨C, 0, none⟩ 1 1 [u] rfl (fun j x hj => by
    match j, hj with
    | 0, hj => injection hj with hj; subst hj; exact hc
    | j + 1, hj => cases hj) (fun x hx => by simp only [List.mem_singleton] at hx; subst hx; exact hu) (by unfold maxLen; omega) (by omega) (by omega)
  exact ⟨v', w', fun z => by simp only [builtin, Sem.run_bind, Sem.run_pure, hr, Result.andThen_ok], h1, h2, h4⟩
theorem rs_next {w wr X w3 : World} {B n i : Nat} {psk cid th ou : ByteArray} {v v3 se ca le sn : Value} {xs ys : List Value} (bel : Below w.heap.size w wr) (ge : w.heap.size ≤ B) (l0 : ob.Lies wr B (rcells psk cid false th ou 0 false 0 false se ca le v sn)) (r0 : wr.ownsRow w.heap.size 148 1 v n xs) (hn : n ≤ i) (hv : v.ownBlock ≠ some B) (b : Below wr.heap.size wr X)
    (hr : w3.ownsRow w.heap.size 148 1 v3 (n + 1) ys) (hg : X.grownBy w3 v.ownBlock) (ho : v3.ownBlock = v.ownBlock ∨ v3.ownBlock = some X.heap.size) :
    w3.cell? ⟨B, 16, none⟩ = some v ∧ w3.frozen? ⟨B, 16, none⟩ = false ∧ RS w (w3.setCell ⟨B, 16, none⟩ v3) B psk cid th ou (i + 1) := by
  have hl := l0.lt (by simp [rcells])
  have hbs := b.size
  have lX := l0.keep (by simp [rcells]) b
  have l3 := lX.of_block (hg.block B (by omega) (by intro c; exact hv c.symm))
  refine ⟨l3.cell 16 (v := v) rfl, l3.free 16 (by simp [rcells]), ?_, ge, v3, n + 1, ys, se, ca, le, sn, l3.put 16 (by simp [rcells]) v3, ?_, by omega, ?_⟩
  · exact ((bel.trans (b.mono bel.size)).grown hg (Nat.le_trans bel.size hbs) (fun k hk => ownsRow_ge r0 k hk)).setCell (p := ⟨B, 16, none⟩) ge _
  · refine ownsRow_other hr ?_
    intro c
    rcases ho with q | q
    · exact hv (q ▸ c)
    · rw [q] at c
      injection c with c
      omega
  · intro c
    rcases ho with q | q
    · exact hv (q ▸ c)
    · rw [q] at c
      injection c with c
      omega
set_option maxHeartbeats 4000000 in
theorem fresh_ok (psk cid th ou : ByteArray) (w : World) :
    Calls Tryz.prog 52 #[.string psk, .string cid, .string th, .string ou] w fun e w' => ∃ (B : Nat) (se ca le s sn : Value), e = .returned (.pointer (some ⟨B, 0, none⟩)) ∧ ob.Lies w' B (rcells psk cid false th ou 0 false 0 false se ca le s sn) ∧ w.heap.size ≤ B ∧ Below w.heap.size w w' := by
  have IN : Hid (Makes 104 #[]) := rinew_ok
  have ON : Hid (Makes 105 #[]) := ronew_ok
  have LN : Hid (Makes 103 #[]) := rlnew_ok
  obtain ⟨i0, hi0, hz0, hz1, hz2⟩ := info_ps
  have hmm := @run_makeMap Tryz.prog
  go_enter Tryz.func52, Tryz.ntmps52
  go_wp2_with fail
  refine (LN.out _).mono ?_
  rintro e w1 ⟨a1, rfl, b1⟩
  have Z1 : Hid (Below w.heap.size w w1) := (((Below.refl _ _).alloc (Nat.le_refl _) _).alloc (by simp) _).trans (b1.mono (by simp; omega))
  clear b1 LN
  have R0 : Hid (RS w ((w1.alloc (.map #[] 0)).alloc (.cells (rcells psk cid false th ou 0 false 0 false (.pointer (some ⟨w.heap.size, 0, none⟩)) (.pointer (some ⟨w.heap.size + 1, 0, none⟩)) (.pointer (some a1)) (.slice none 0 0) (.map (some w1.heap.size))).toArray 79)) (w1.heap.size + 1) psk cid th ou 0) := by
    have z : (w1.alloc (.map #[] 0)).heap.size = w1.heap.size + 1 := by simp
    have l := ob.Lies.new (w1.alloc (.map #[] 0)) (rcells psk cid false th ou 0 false 0 false (.pointer (some ⟨w.heap.size, 0, none⟩)) (.pointer (some ⟨w.heap.size + 1, 0, none⟩)) (.pointer (some a1)) (.slice none 0 0) (.map (some w1.heap.size))) 79
    rw [z] at l
    have := Z1.out.size
    refine ⟨(Z1.out.alloc Z1.out.size _).alloc (by simp; omega) _, by omega, _, 0, [], _, _, _, _, l, World.ownsRow_nil _ _ _ _, Nat.le_refl _, by intro c; cases c⟩
  unfold rcells at R0
  go_upto_region 2 with fail
  generalize hw2 : (w1.alloc (.map #[] 0)).alloc (.cells #[.string psk, .string cid, .bool false, .string th, .string ou, .int .i64 0, .int .i64 0, .bool false, .bool false, .int .i64 0, .bool false, .bool false, .int .i64 0, .pointer (some ⟨w.heap.size, 0, none⟩), .pointer (some ⟨w.heap.size + 1, 0, none⟩), .pointer (some a1), .slice none 0 0, .map (some w1.heap.size), .slice none 0 0, .slice none 0 0] 79) = w2 at R0 ⊢
  clear hw2 Z1
  generalize w1.heap.size + 1 = B at R0 ⊢
  go_wp2_with fail
  go_loopg [10] 32 (fun g iv wr => ∃ i : Nat, i + g = 32 ∧ iv = .int .i64 (i : Int) ∧ Hid (RS w wr B psk cid th ou i))
  case atStart => exact ⟨0, by omega, rfl, R0⟩
  case round =>
    obtain ⟨i, hi, rfl, X⟩ := hrel
    clear R0 hmm
    by_cases hlt : i < 32
    · have g1 : decide ((i : Int) < 32) = true := decide_eq_true (by omega)
      obtain ⟨v, n, xs, se, ca, le, sn, l0, r0, hn, hv⟩ := X.out.ex
      have c16 := l0.cell 16 (v := v) rfl
      have hb0 := X.out.bel.size
      go_upto_region 5 with fail
      go_cut [37] (fun s wc => ∃ q, s = .bool q ∧ wr = wc)
      case first =>
        obtain ⟨sh, hsh⟩ : ∃ sh : Bool, ((i : Int) % 4 == 0) = sh := ⟨_, rfl⟩
        obtain ⟨qa, hqa⟩ : ∃ qa : Bool, ((i : Int) == 2) = qa := ⟨_, rfl⟩
        obtain ⟨qb, hqb⟩ : ∃ qb : Bool, ((i : Int) == 3) = qb := ⟨_, rfl⟩
        cases sh <;> cases qa <;> cases qb
        all_goals
          go_wp2_with fail
          go_meet
          exact ⟨_, rfl, rfl⟩
      case rest =>
        obtain ⟨q, rfl, rfl⟩ := hcut
        cases q
        · have bA : Below wr.heap.size wr (wr.alloc (.cells #[.pointer none] 148)) := (Below.refl _ _).alloc (Nat.le_refl _) _
          obtain ⟨v3, w3, hap, hr, hg, ho⟩ := app_ps (u := .pointer none) (C := wr.heap.size) r0 bA (by omega) hb0 (World.cell?_alloc_new wr #[.pointer none] 148 0) rfl
          obtain ⟨av, cv, rfl⟩ := ownsRow_slice hr
          obtain ⟨c16w, f16w, nx⟩ := rs_next X.out.bel X.out.ge l0 r0 hn hv bA hr hg ho
          have NX := Lib.hid nx
          replace hap : Hid _ := hap
          clear nx hr hg ho bA l0 r0 X
          go_wp2_with (refine ob.obB2L _ rfl .append _ _ 76 76 rfl _ _ rfl rfl hap.out ?_)
          go_roundg (31 - i)
          case measure => omega
          case rel => exact ⟨i + 1, by omega, by simp, NX⟩
        · have KK : Hid (∀ w', Below wr.heap.size wr w' → w'.cell? ⟨B, 16, none⟩ = some v) := fun w' b => (l0.keep (by simp [rcells]) b).cell 16 (v := v) rfl
          have c16d : wr.drew.cell? ⟨B, 16, none⟩ = some v := c16
          have hcf1 : ∀ w, (callFunc 104 #[]).run Tryz.prog w = .ok (.enter 104 #[]) w := fun w => by simp [go_sem]
          have hcf2 : ∀ w, (callFunc 105 #[]).run Tryz.prog w = .ok (.enter 105 #[]) w := fun w => by simp [go_sem]
          go_upto_region 6 with fail
          go_region_law (first | (refine call0S 104 IN.out hcf1 rfl rfl ?_; intro a1 w1 b1; have b1' := (ob.drewB wr.heap.size wr).trans b1; have c16a := KK.out w1 b1') | (refine call0S 105 ON.out hcf2 rfl rfl ?_; intro a2 w2 b2; have b2' := b1'.trans (b2.mono b1'.size); have c16b := KK.out w2 b2'; have b3' := fun o => b2'.alloc b2'.size o; have c16c := fun o => KK.out (w2.alloc o) (b3' o); have b4' := fun o o' => (b3' o).alloc (b3' o).size o'; have c16e := fun o o' => KK.out ((w2.alloc o).alloc o') (b4' o o')) | (obtain ⟨v3, w3, hap, hr, hg, ho⟩ := app_ps (u := .pointer (some ⟨w2.heap.size, 0, none⟩)) (C := w2.heap.size + 1) r0 (b4' (.cells #[.pointer (some a1), .pointer (some a2), .bool false, .int .i64 4096, .bool false, .int .i64 0, .int .i64 0, .int .i64 0] 147) (.cells #[.pointer (some ⟨w2.heap.size, 0, none⟩)] 148)) (by omega) hb0 (by simp) rfl; obtain ⟨av, cv, rfl⟩ := ownsRow_slice hr; obtain ⟨c16w, f16w, nx⟩ := rs_next X.out.bel X.out.ge l0 r0 hn hv (b4' _ _) hr hg ho; refine ob.obB2S rfl .append _ _ 76 76 rfl _ _ rfl rfl hap ?_))
          all_goals
            have NX := Lib.hid nx
            clear nx hr hg ho hap c16w f16w c16a c16b c16c c16e b1 b2 b1' b2' b3' b4' l0 r0 X KK
            generalize w3.setCell ⟨B, 16, none⟩ (.slice av (n + 1) cv) = w4 at NX ⊢
            go_wp2_with fail
            go_roundg (31 - i)
            case measure => omega
            case rel => exact ⟨i + 1, by omega, by simp, NX⟩
    · have hE : i = 32 := by omega
      subst hE
      obtain ⟨v, n, xs, se, ca, le, sn, l0, -, -, -⟩ := X.out.ex
      have ZZ : Hid (Below w.heap.size w wr) := X.out.bel
      have GE := Lib.hid X.out.ge
      have LL := Lib.hid l0
      clear X l0
      go_wp2
      go_ret
      exact ⟨B, se, ca, le, v, sn, rfl, LL.out, GE.out, ZZ.out⟩
end Go.Proofs.YtbicfhilehllnaaGreatDoor.cn
namespace Go.Proofs.YtbicfhilehllnaaGreatDoor.cn
set_option maxRecDepth 100000
open Go.RowKit Go.Sort

theorem rdial_no (psk cid nonce : ByteArray) (w : World) (h : ¬ (cid.size = 8 ∧ nonce.size = 16)) :
    Calls Tryz.prog 15 #[.string psk, .string cid, .string nonce] w fun e w' => e = .returned (.tuple #[.pointer none, .int .i64 3]) ∧ w = w' := by
  by_cases h1 : cid.size = 8
  · have q1 : ((cid.size : Int) == 8) = true := by simp; omega
    have q2 : ((nonce.size : Int) == 16) = false := by simp; omega
    go_enter Tryz.func15, Tryz.ntmps15
    go_wp2
    go_ret2
    exact ⟨rfl, rfl⟩
  · have q1 : ((cid.size : Int) == 8) = false := by simp; omega
    go_enter Tryz.func15, Tryz.ntmps15
    go_wp2
    go_ret2
    exact ⟨rfl, rfl⟩
set_option maxHeartbeats 2000000 in
theorem rdial_ok (psk cid nonce : ByteArray) (w : World) (h2 : cid.size = 8) (h3 : nonce.size = 16) :
    Calls Tryz.prog 15 #[.string psk, .string cid, .string nonce] w fun e w' => ∃ (B : Nat) (se ca le s sn : Value), e = .returned (.tuple #[.pointer (some ⟨B, 0, none⟩), .int .i64 0]) ∧ ob.Lies w' B (rcells psk cid false nonce ⟨#[]⟩ 1 false 0 false se ca le s sn) ∧ w.heap.size ≤ B ∧ Below w.heap.size w w' := by
  have q1 : ((cid.size : Int) == 8) = true := by simp; omega
  have q2 : ((nonce.size : Int) == 16) = true := by simp; omega
  have F : Hid (∀ w, _) := fun w => fresh_ok psk cid nonce ⟨#[]⟩ w
  go_enter Tryz.func15, Tryz.ntmps15
  go_wp2_with fail
  refine (F.out _).mono ?_
  rintro e w1 ⟨B, se, ca, le, s, sn, rfl, l1, hB, b1⟩
  have c5 := l1.cell 5 (v := .int .i64 0) rfl
  have f5 := l1.free 5 (by simp [rcells])
  have L2 : Hid (ob.Lies (w1.setCell ⟨B, 5, none⟩ (.int .i64 1)) B (rcells psk cid false nonce ⟨#[]⟩ 1 false 0 false se ca le s sn)) := l1.put 5 (by simp [rcells]) _
  have Z2 : Hid (Below w.heap.size w (w1.setCell ⟨B, 5, none⟩ (.int .i64 1))) := b1.setCell (p := ⟨B, 5, none⟩) hB _
  clear F l1 b1
  go_wp2_with fail
  go_ret2
  exact ⟨B, se, ca, le, s, sn, rfl, L2.out, hB, Z2.out⟩
theorem raccept_no (psk cid theirs nonce : ByteArray) (w : World) (h : ¬ (cid.size = 8 ∧ theirs.size = 16 ∧ nonce.size = 16)) :
    Calls Tryz.prog 17 #[.string psk, .string cid, .string theirs, .string nonce] w fun e w' => e = .returned (.tuple #[.pointer none, .int .i64 3]) ∧ w = w' := by
  by_cases h1 : cid.size = 8
  · have q1 : ((cid.size : Int) == 8) = true := by simp; omega
    by_cases h2 : theirs.size = 16
    · have q2 : ((theirs.size : Int) == 16) = true := by simp; omega
      have q3 : ((nonce.size : Int) == 16) = false := by simp; omega
      go_enter Tryz.func17, Tryz.ntmps17
      go_wp2
      go_ret2
      exact ⟨rfl, rfl⟩
    · have q2 : ((theirs.size : Int) == 16) = false := by simp; omega
      go_enter Tryz.func17, Tryz.ntmps17
      go_wp2
      go_ret2
      exact ⟨rfl, rfl⟩
  · have q1 : ((cid.size : Int) == 8) = false := by simp; omega
    go_enter Tryz.func17, Tryz.ntmps17
    go_wp2
    go_ret2
    exact ⟨rfl, rfl⟩
set_option maxHeartbeats 2000000 in
theorem raccept_ok (psk cid theirs nonce : ByteArray) (w : World) (h2 : cid.size = 8) (h3 : theirs.size = 16) (h4 : nonce.size = 16) :
    Calls Tryz.prog 17 #[.string psk, .string cid, .string theirs, .string nonce] w fun e w' => ∃ B : Nat, e = .returned (.tuple #[.pointer (some ⟨B, 0, none⟩), .int .i64 0]) ∧ Below w.heap.size w w' := by
  have q1 : ((cid.size : Int) == 8) = true := by simp; omega
  have q2 : ((theirs.size : Int) == 16) = true := by simp; omega
  have q3 : ((nonce.size : Int) == 16) = true := by simp; omega
  have F : Hid (∀ w, _) := fun w => fresh_ok psk cid theirs nonce w
  go_enter Tryz.func17, Tryz.ntmps17
  go_wp2_with fail
  refine (F.out _).mono ?_
  rintro e w1 ⟨B, se, ca, le, s, sn, rfl, l1, hB, b1⟩
  have c2 := l1.cell 2 (v := .bool false) rfl
  have f2 := l1.free 2 (by simp [rcells])
  have L2 : Hid (ob.Lies (w1.setCell ⟨B, 2, none⟩ (.bool true)) B (rcells psk cid true theirs nonce 0 false 0 false se ca le s sn)) := l1.put 2 (by simp [rcells]) _
  have c5 := L2.out.cell 5 (v := .int .i64 0) rfl
  have f5 := L2.out.free 5 (by simp [rcells])
  have L3 : Hid (ob.Lies ((w1.setCell ⟨B, 2, none⟩ (.bool true)).setCell ⟨B, 5, none⟩ (.int .i64 2)) B (rcells psk cid true theirs nonce 2 false 0 false se ca le s sn)) := L2.out.put 5 (by simp [rcells]) _
  have c10 := L3.out.cell 10 (v := .bool false) rfl
  have f10 := L3.out.free 10 (by simp [rcells])
  have Z2 : Hid (Below w.heap.size w (((w1.setCell ⟨B, 2, none⟩ (.bool true)).setCell ⟨B, 5, none⟩ (.int .i64 2)).setCell ⟨B, 10, none⟩ (.bool true))) := ((b1.setCell (p := ⟨B, 2, none⟩) hB _).setCell (p := ⟨B, 5, none⟩) hB _).setCell (p := ⟨B, 10, none⟩) hB _
  clear F l1 b1 L2 L3
  go_wp2_with fail
  go_ret2
  exact ⟨B, rfl, Z2.out⟩
set_option maxHeartbeats 4000000 in
theorem rsend1_ok (B : Nat) (psk cid : ByteArray) (sv : Bool) (th ou : ByteArray) (ha : Int) (we : Bool) (se ca le s sn : Value) (now : Int) (size : Nat) (w0 w : World) (b0 : Below w0.heap.size w0 w) (hB : w0.heap.size ≤ B)
    (h : ob.Lies w B (rcells psk cid sv th ou 1 false ha we se ca le s sn)) (h1 : psk.size < 1073741824) (h2 : cid.size = 8) (h3 : th.size = 16) (hs : 128 ≤ size) (hs2 : size ≤ 1200) :
    Calls Tryz.prog 19 #[.pointer (some ⟨B, 0, none⟩), .int .i64 now, .int .i64 (size : Int)] w fun e w' => e = .returned (.tuple #[.string (pk (kHello psk) 1 cid 0 th), .bool true]) ∧ Below w0.heap.size w0 w' := by
  have D : Hid (∀ w, _) := fun w => rderive_ok psk sHello ⟨#[]⟩ w (by omega) (by decide) (by decide)
  have P : Hid (∀ w, _) := fun w => rpack_ok (kHello psk) 1 0 cid th w (by decide) (by decide) (by omega) (der_small _ _ _) (by omega)
  generalize pk (kHello psk) 1 cid 0 th = X at *
  unfold kHello at P
  generalize der psk sHello ⟨#[]⟩ = K at *
  unfold sHello at D
  have g1 : decide ((size : Int) < 128) = false := decide_eq_false (by omega)
  have g2 : decide ((1200 : Int) < (size : Int)) = false := decide_eq_false (by omega)
  have c5 := h.cell 5 (v := .int .i64 1) rfl
  have c8 := h.cell 8 (v := .bool false) rfl
  have f8 := h.free 8 (by simp [rcells])
  have L1 : Hid (ob.Lies (w.setCell ⟨B, 8, none⟩ (.bool true)) B (rcells psk cid sv th ou 1 true ha we se ca le s sn)) := h.put 8 (by simp [rcells]) _
  have c9 := L1.out.cell 9 (v := .int .i64 ha) rfl
  have f9 := L1.out.free 9 (by simp [rcells])
  have L2 : Hid (ob.Lies ((w.setCell ⟨B, 8, none⟩ (.bool true)).setCell ⟨B, 9, none⟩ (.int .i64 now)) B (rcells psk cid sv th ou 1 true now we se ca le s sn)) := L1.out.put 9 (by simp [rcells]) _
  have Z2 : Hid (Below w0.heap.size w0 ((w.setCell ⟨B, 8, none⟩ (.bool true)).setCell ⟨B, 9, none⟩ (.int .i64 now))) := (b0.setCell (p := ⟨B, 8, none⟩) hB _).setCell (p := ⟨B, 9, none⟩) hB _
  clear L1 h b0
  go_enter Tryz.func19, Tryz.ntmps19
  go_upto_region 8 with fail
  generalize (w.setCell ⟨B, 8, none⟩ (.bool true)).setCell ⟨B, 9, none⟩ (.int .i64 now) = w2 at *
  clear c5 c8 f8 c9 f9
  have c0 := L2.out.cell 0 (v := .string psk) rfl
  have c1 := L2.out.cell 1 (v := .string cid) rfl
  have c3 := L2.out.cell 3 (v := .string th) rfl
  have hBl := L2.out.lt (by simp [rcells])
  have c0q : ∀ d os, (grow (redrawn w2 d) os).cell? ⟨B, 0, none⟩ = some (.string psk) := fun d os => ((below_regrown w2 d os).cell (p := ⟨B, 0, none⟩) hBl).trans c0
  have c1q : ∀ d os, (grow (redrawn w2 d) os).cell? ⟨B, 1, none⟩ = some (.string cid) := fun d os => ((below_regrown w2 d os).cell (p := ⟨B, 1, none⟩) hBl).trans c1
  have c3q : ∀ d os, (grow (redrawn w2 d) os).cell? ⟨B, 3, none⟩ = some (.string th) := fun d os => ((below_regrown w2 d os).cell (p := ⟨B, 3, none⟩) hBl).trans c3
  clear L2
  refine wp_region_quiet_below (by kernel_rfl) (by kernel_rfl) ?_
  repeat (go_big_quiet_step (first | (go_at_call 49; exact Calls.regrown_of (D.out _)) | (go_at_call 60; exact Calls.regrown_of (P.out _))))
  refine wpQuiet_nil ?_
  intro _ hw'
  obtain ⟨⟨dq, osq⟩, hw''⟩ := hw'
  subst hw''
  have bq := below_regrown w2 dq osq
  have Z3 : Hid (Below w0.heap.size w0 (grow (redrawn w2 dq) osq)) := Z2.out.trans (bq.mono Z2.out.size)
  clear bq D P Z2
  simp only
  generalize grow (redrawn w2 dq) osq = w3 at *
  go_wp2
  go_ret2
  exact ⟨rfl, Z3.out⟩
end Go.Proofs.YtbicfhilehllnaaGreatDoor.cn
