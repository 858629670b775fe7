/-
  The program's own newStreams and newConn, as far as Dial and Accept ask: an end is made, and nothing that was there is changed. No condition. The program's own Dial and Accept, and the hello that a client sends. Texts below 2^30 bytes; the tables lie where the program's text lays them. No other condition. The program's own Accept, and the hello that a client sends. Texts below 2^30 bytes; the tables lie where the program's text lays them. No other condition. The program's own Accept, and Send of a client that waits: its hello. Texts below 2^30 bytes; the tables lie where the program's text lays them. No other condition.
-/
import Derived.Test.YtbicfhilehllnaaGreatDoorObCells
import Derived.Handy
import Derived.Deep.LoopGhost
import Derived.OwnWalk
import Derived.Laws.OwnMore
import Derived.Lib.Hide
import Derived.Deep.DeepCutAuto
import Derived.Below
import Derived.Maps.Own
import Derived.Test.YtbicfhilehllnaaGreatDoorCnA
namespace Go.Proofs.YtbicfhilehllnaaGreatDoor.cn
set_option maxRecDepth 100000
open Go.RowKit

/-- A call that makes something new, and changes nothing that was there. -/
abbrev Makes (f : FuncId) (args : Array Value) : Prop := ∀ w : World, Calls Tryz.prog f args w fun e w' => ∃ a : Addr, e = .returned (.pointer (some a)) ∧ Below w.heap.size w w'
theorem inew_ok : Makes 150 #[] := fun w => by
  have b1 : Below w.heap.size w (w.alloc (.map #[] 0)) := (Below.refl _ _).alloc (Nat.le_refl _) _
  have b2 := Lib.hid (fun o => b1.alloc b1.size o)
  have hmm := @run_makeMap Tryz.prog
  clear b1
  go_enter Tryz.func150, Tryz.ntmps150
  go_wp2
  go_ret
  exact ⟨_, rfl, b2.out _⟩
theorem onew_ok : Makes 151 #[] := fun w => by
  go_enter Tryz.func151, Tryz.ntmps151
  go_wp2
  go_ret
  exact ⟨_, rfl, (Below.refl _ _).alloc (Nat.le_refl _) _⟩
theorem wnew_ok : Makes 97 #[] := fun w => by
  go_enter Tryz.func97, Tryz.ntmps97
  go_wp2
  go_ret
  exact ⟨_, rfl, (Below.refl _ _).alloc (Nat.le_refl _) _⟩
theorem anew_ok : Makes 98 #[] := fun w => by
  go_enter Tryz.func98, Tryz.ntmps98
  go_wp2
  go_ret
  exact ⟨_, rfl, (Below.refl _ _).alloc (Nat.le_refl _) _⟩
theorem lnew_ok : Makes 99 #[] := fun w => by
  go_enter Tryz.func99, Tryz.ntmps99
  go_wp2
  go_ret
  exact ⟨_, rfl, (Below.refl _ _).alloc (Nat.le_refl _) _⟩
theorem owns_below {w w' : World} {base size n : Nat} {e : TypeId} {v : Value} {xs : List Value} (h : w.ownsRow base e size v n xs) (b : Below w.heap.size w w') : w'.ownsRow base e size v n xs := by
  obtain ⟨h1, h2⟩ := h
  refine ⟨h1, ?_⟩
  rcases h2 with h2 | ⟨g, cap, cur, e1, e2, e3, e4⟩
  · exact .inl h2
  · exact .inr ⟨g, cap, cur, e1, e2, (b.block g (Array.getElem?_eq_some_iff.1 e3).1).trans e3, e4⟩
theorem ownsRow_ge {w : World} {base size n : Nat} {e : TypeId} {v : Value} {xs : List Value} (h : w.ownsRow base e size v n xs) : ∀ k, v.ownBlock = some k → base ≤ k := fun k hk => by
  rcases h.2 with ⟨rfl, -⟩ | ⟨g, cap, cur, rfl, e2, -⟩
  · cases hk
  · injection hk with hk
    subst hk
    exact e2
theorem ownsRow_slice {w : World} {base size n : Nat} {e : TypeId} {v : Value} {xs : List Value} (h : w.ownsRow base e size v n xs) : ∃ a c, v = .slice a n c := by
  rcases h.2 with ⟨rfl, rfl⟩ | ⟨g, cap, cur, rfl, -⟩
  · exact ⟨_, _, rfl⟩
  · exact ⟨_, _, rfl⟩
theorem ownsRow_other {w : World} {base size n B j : Nat} {e : TypeId} {v x : Value} {xs : List Value} (h : w.ownsRow base e size v n xs) (hv : v.ownBlock ≠ some B) : (w.setCell ⟨B, j, none⟩ x).ownsRow base e size v n xs := by
  obtain ⟨h1, h2⟩ := h
  refine ⟨h1, ?_⟩
  rcases h2 with h2 | ⟨g, cap, cur, e1, e2, e3, e4⟩
  · exact .inl h2
  · subst e1
    exact .inr ⟨g, cap, cur, rfl, e2, (Below.heap_setCell w ⟨B, j, none⟩ x g (fun c => hv (by rw [c]; rfl))).trans e3, e4⟩
theorem info_st : ∃ i, Tryz.prog.info? 151 = some i ∧ i.zero = some (.agg #[.int .i64 0, .pointer none, .pointer none]) ∧ i.size = 3 ∧ i.bytes = 24 := by
  have h : (Tryz.prog.info? 151).map (fun i => (i.zero, i.size, i.bytes)) = some (some (.agg #[.int .i64 0, .pointer none, .pointer none]), 3, 24) := by kernel_rfl
  obtain ⟨i, hi, e⟩ := Option.map_eq_some_iff.1 h
  injection e with e1 e2
  injection e2 with e2 e3
  exact ⟨i, hi, e1, e2, e3⟩
/-- The streams so far. -/
structure NS (w wr : World) (av : Value) (i : Nat) : Prop where
  bel : Below w.heap.size w wr
  row : ∃ n xs, wr.ownsRow w.heap.size 151 3 av n xs ∧ n ≤ i
theorem NS.keep {w wr wr' : World} {av : Value} {i : Nat} (h : NS w wr av i) (b : Below wr.heap.size wr wr') : NS w wr' av i := by
  obtain ⟨n, xs, h1, h2⟩ := h.row
  exact ⟨h.bel.trans (b.mono h.bel.size), n, xs, owns_below h1 b, h2⟩
theorem NS.up {w wr : World} {av : Value} {i : Nat} (h : NS w wr av i) : NS w wr av (i + 1) := by
  obtain ⟨n, xs, h1, h2⟩ := h.row
  exact ⟨h.bel, n, xs, h1, by omega⟩
set_option maxHeartbeats 4000000 in
theorem streams_ok (sv : Bool) (w : World) :
    Calls Tryz.prog 100 #[.bool sv] w fun e w' => ∃ a n c, e = .returned (.slice a n c) ∧ Below w.heap.size w w' := by
  have IN : Hid (Makes 150 #[]) := inew_ok
  have ON : Hid (Makes 151 #[]) := onew_ok
  obtain ⟨i0, hi0, hz0, hz1, hz2⟩ := info_st
  have N0 : Hid (NS w w (.slice none 0 0) 0) := ⟨Below.refl _ _, 0, [], World.ownsRow_nil _ _ _ _, Nat.le_refl _⟩
  cases sv
  · go_enter Tryz.func100, Tryz.ntmps100
    go_wp2_with fail
    go_loopg [5, 12] 32 (fun g av iv wr => ∃ i : Nat, i + g = 32 ∧ iv = .int .i64 (i : Int) ∧ Hid (NS w wr av i))
    case atStart => exact ⟨0, by omega, rfl, N0⟩
    case round =>
      obtain ⟨i, hi, rfl, X⟩ := hrel
      clear N0
      by_cases hlt : i < 32
      · have g1 : decide ((i : Int) < 32) = true := decide_eq_true (by omega)
        obtain ⟨sh, hsh⟩ : ∃ sh : Bool, ((i : Int) % 4 == 0) = sh := ⟨_, rfl⟩
        obtain ⟨qa, hqa⟩ : ∃ qa : Bool, ((i : Int) == 2) = qa := ⟨_, rfl⟩
        obtain ⟨qb, hqb⟩ : ∃ qb : Bool, ((i : Int) == 3) = qb := ⟨_, rfl⟩
        cases sh
        · cases qa
          · cases qb
            · skip
              have Z0 : Hid (Below wr.heap.size wr (wr.alloc (.cells #[.int .i64 (i : Int), .pointer none, .pointer none] 151))) := (Below.refl _ _).alloc (Nat.le_refl _) _
              have L0 : Hid (ob.Lies (wr.alloc (.cells #[.int .i64 (i : Int), .pointer none, .pointer none] 151)) wr.heap.size [.int .i64 (i : Int), .pointer none, .pointer none]) := ob.Lies.new wr [.int .i64 (i : Int), .pointer none, .pointer none] 151
              obtain ⟨S, hS⟩ : ∃ S, S = wr.heap.size := ⟨_, rfl⟩
              replace hS : Hid _ := hS
              rw [← hS.out] at Z0 L0
              go_upto_region 10 with fail
              rw [← hS.out]
              obtain ⟨w0, hw0⟩ : ∃ w0, w0 = wr.alloc (.cells #[.int .i64 (i : Int), .pointer none, .pointer none] 151) := ⟨_, rfl⟩
              rw [← hw0] at Z0 L0 ⊢
              clear hw0
              have c0 := L0.out.cell 0 (v := .int .i64 (i : Int)) rfl
              have c1 := L0.out.cell 1 (v := .pointer none) rfl
              have c2 := L0.out.cell 2 (v := .pointer none) rfl
              have NX : Hid (NS w w0 u5 (i + 1)) := (X.out.keep (hS.out ▸ Z0.out)).up
              clear X Z0 L0
              go_wp2_with fail
              go_roundg (31 - i)
              case measure => omega
              case rel => exact ⟨i + 1, by omega, by simp, NX⟩
            · skip
              have Z0 : Hid (Below wr.heap.size wr (wr.alloc (.cells #[.int .i64 (i : Int), .pointer none, .pointer none] 151))) := (Below.refl _ _).alloc (Nat.le_refl _) _
              have L0 : Hid (ob.Lies (wr.alloc (.cells #[.int .i64 (i : Int), .pointer none, .pointer none] 151)) wr.heap.size [.int .i64 (i : Int), .pointer none, .pointer none]) := ob.Lies.new wr [.int .i64 (i : Int), .pointer none, .pointer none] 151
              obtain ⟨S, hS⟩ : ∃ S, S = wr.heap.size := ⟨_, rfl⟩
              replace hS : Hid _ := hS
              rw [← hS.out] at Z0 L0
              go_upto_region 10 with fail
              rw [← hS.out]
              obtain ⟨w0, hw0⟩ : ∃ w0, w0 = wr.alloc (.cells #[.int .i64 (i : Int), .pointer none, .pointer none] 151) := ⟨_, rfl⟩
              rw [← hw0] at Z0 L0 ⊢
              clear hw0
              go_wp2_with fail
              refine (IN.out _).mono ?_
              rintro e w1n ⟨a1, rfl, b1⟩
              have Zn : Hid (Below S wr w1n) := Z0.out.trans (b1.mono (by have := L0.out.lt (by simp); omega))
              have Ln := Lib.hid (L0.out.keep (by simp) b1)
              have Lm : Hid (ob.Lies (w1n.alloc (.cells #[.pointer (some a1), .int .i64 4096, .bool false, .bool false] 136)) S [.int .i64 (i : Int), .pointer none, .pointer none]) := Ln.out.keep (by simp) ((Below.refl _ _).alloc (Nat.le_refl _) _)
              have c1x := Lm.out.cell 1 (v := .pointer none) rfl
              have f1x := Lm.out.free 1 (by simp)
              have L1 : Hid (ob.Lies ((w1n.alloc (.cells #[.pointer (some a1), .int .i64 4096, .bool false, .bool false] 136)).setCell ⟨S, 1, none⟩ (.pointer (some ⟨w1n.heap.size, 0, none⟩))) S [.int .i64 (i : Int), .pointer (some ⟨w1n.heap.size, 0, none⟩), .pointer none]) := Lm.out.put 1 (by simp) _
              have Z1 : Hid (Below S wr ((w1n.alloc (.cells #[.pointer (some a1), .int .i64 4096, .bool false, .bool false] 136)).setCell ⟨S, 1, none⟩ (.pointer (some ⟨w1n.heap.size, 0, none⟩)))) := (Zn.out.alloc (by have := Ln.out.lt (by simp); omega) _).setCell (p := ⟨S, 1, none⟩) (Nat.le_refl _) _
              clear b1 Zn Ln Lm Z0 L0
              go_upto_region 12 with fail
              clear c1x f1x
              generalize hw1 : (w1n.alloc (.cells #[.pointer (some a1), .int .i64 4096, .bool false, .bool false] 136)).setCell ⟨S, 1, none⟩ (.pointer (some ⟨w1n.heap.size, 0, none⟩)) = w1 at Z1 L1 ⊢
              clear hw1
              generalize (⟨w1n.heap.size, 0, none⟩ : Addr) = p1 at L1 ⊢
              have c0 := L1.out.cell 0 (v := .int .i64 (i : Int)) rfl
              have c1 := L1.out.cell 1 (v := .pointer (some p1)) rfl
              have c2 := L1.out.cell 2 (v := .pointer none) rfl
              obtain ⟨n, xs, hrow, hn⟩ := (X.out.keep (hS.out ▸ Z1.out)).row
              have bX := (X.out.keep (hS.out ▸ Z1.out)).bel
              have hrow2 := Lib.hid (owns_below hrow ((Below.refl _ _).alloc (Nat.le_refl _) (.cells #[.int .i64 (i : Int), .pointer (some p1), .pointer none] 151)))
              have bX2 := Lib.hid (bX.alloc bX.size (.cells #[.int .i64 (i : Int), .pointer (some p1), .pointer none] 151))
              clear hrow bX X Z1 L1 hS
              go_wp2_with (at_builtin; refine wpList_append_own _ rfl _ _ 93 rfl w.heap.size 151 i0 (.agg #[.int .i64 0, .pointer none, .pointer none]) 3 24 Tryz.underlying93 hi0 hz0 hz1 hz2 rfl (by decide) _ n xs rfl hrow2.out ⟨w1.heap.size, 0, none⟩ 1 1 [.int .i64 (i : Int), .pointer (some p1), .pointer none] rfl rfl (fun j u hj => ?_) (fun u hu => ?_) (by unfold maxLen; omega) (by omega) bX2.out.size (fun v2 w2x hr2 hg2 _ => ?_))
              · match j, hj with
                | 0, hj => injection hj with hj; subst hj; exact World.cell?_alloc_new _ _ _ 0
                | 1, hj => injection hj with hj; subst hj; exact World.cell?_alloc_new _ _ _ 1
                | 2, hj => injection hj with hj; subst hj; exact World.cell?_alloc_new _ _ _ 2
                | j + 3, hj => cases hj
              · simp only [List.mem_cons, List.not_mem_nil, or_false] at hu
                rcases hu with rfl | rfl | rfl <;> rfl
              · have NX : Hid (NS w w2x v2 (i + 1)) := ⟨bX2.out.grown hg2 bX2.out.size (fun k hk => ownsRow_ge hrow2.out k hk), n + 1, _, hr2, by omega⟩
                clear hr2 hg2 bX2 hrow2
                go_roundg (31 - i)
                case measure => omega
                case rel => exact ⟨i + 1, by omega, by simp, NX⟩
          · cases qb
            · skip
              have Z0 : Hid (Below wr.heap.size wr (wr.alloc (.cells #[.int .i64 (i : Int), .pointer none, .pointer none] 151))) := (Below.refl _ _).alloc (Nat.le_refl _) _
              have L0 : Hid (ob.Lies (wr.alloc (.cells #[.int .i64 (i : Int), .pointer none, .pointer none] 151)) wr.heap.size [.int .i64 (i : Int), .pointer none, .pointer none]) := ob.Lies.new wr [.int .i64 (i : Int), .pointer none, .pointer none] 151
              obtain ⟨S, hS⟩ : ∃ S, S = wr.heap.size := ⟨_, rfl⟩
              replace hS : Hid _ := hS
              rw [← hS.out] at Z0 L0
              go_upto_region 10 with fail
              rw [← hS.out]
              obtain ⟨w0, hw0⟩ : ∃ w0, w0 = wr.alloc (.cells #[.int .i64 (i : Int), .pointer none, .pointer none] 151) := ⟨_, rfl⟩
              rw [← hw0] at Z0 L0 ⊢
              clear hw0
              go_wp2_with fail
              refine (ON.out _).mono ?_
              rintro e w1n ⟨a1, rfl, b1⟩
              have Zn : Hid (Below S wr w1n) := Z0.out.trans (b1.mono (by have := L0.out.lt (by simp); omega))
              have Ln := Lib.hid (L0.out.keep (by simp) b1)
              have Lm : Hid (ob.Lies (w1n.alloc (.cells #[.pointer (some a1), .int .i64 0, .bool false, .bool false, .int .i64 0] 127)) S [.int .i64 (i : Int), .pointer none, .pointer none]) := Ln.out.keep (by simp) ((Below.refl _ _).alloc (Nat.le_refl _) _)
              have c1x := Lm.out.cell 2 (v := .pointer none) rfl
              have f1x := Lm.out.free 2 (by simp)
              have L1 : Hid (ob.Lies ((w1n.alloc (.cells #[.pointer (some a1), .int .i64 0, .bool false, .bool false, .int .i64 0] 127)).setCell ⟨S, 2, none⟩ (.pointer (some ⟨w1n.heap.size, 0, none⟩))) S [.int .i64 (i : Int), .pointer none, .pointer (some ⟨w1n.heap.size, 0, none⟩)]) := Lm.out.put 2 (by simp) _
              have Z1 : Hid (Below S wr ((w1n.alloc (.cells #[.pointer (some a1), .int .i64 0, .bool false, .bool false, .int .i64 0] 127)).setCell ⟨S, 2, none⟩ (.pointer (some ⟨w1n.heap.size, 0, none⟩)))) := (Zn.out.alloc (by have := Ln.out.lt (by simp); omega) _).setCell (p := ⟨S, 2, none⟩) (Nat.le_refl _) _
              clear b1 Zn Ln Lm Z0 L0
              go_upto_region 14 with fail
              clear c1x f1x
              generalize hw1 : (w1n.alloc (.cells #[.pointer (some a1), .int .i64 0, .bool false, .bool false, .int .i64 0] 127)).setCell ⟨S, 2, none⟩ (.pointer (some ⟨w1n.heap.size, 0, none⟩)) = w1 at Z1 L1 ⊢
              clear hw1
              generalize (⟨w1n.heap.size, 0, none⟩ : Addr) = p1 at L1 ⊢
              have c0 := L1.out.cell 0 (v := .int .i64 (i : Int)) rfl
              have c1 := L1.out.cell 1 (v := .pointer none) rfl
              have c2 := L1.out.cell 2 (v := .pointer (some p1)) rfl
              obtain ⟨n, xs, hrow, hn⟩ := (X.out.keep (hS.out ▸ Z1.out)).row
              have bX := (X.out.keep (hS.out ▸ Z1.out)).bel
              have hrow2 := Lib.hid (owns_below hrow ((Below.refl _ _).alloc (Nat.le_refl _) (.cells #[.int .i64 (i : Int), .pointer none, .pointer (some p1)] 151)))
              have bX2 := Lib.hid (bX.alloc bX.size (.cells #[.int .i64 (i : Int), .pointer none, .pointer (some p1)] 151))
              clear hrow bX X Z1 L1 hS
              go_wp2_with (at_builtin; refine wpList_append_own _ rfl _ _ 93 rfl w.heap.size 151 i0 (.agg #[.int .i64 0, .pointer none, .pointer none]) 3 24 Tryz.underlying93 hi0 hz0 hz1 hz2 rfl (by decide) _ n xs rfl hrow2.out ⟨w1.heap.size, 0, none⟩ 1 1 [.int .i64 (i : Int), .pointer none, .pointer (some p1)] rfl rfl (fun j u hj => ?_) (fun u hu => ?_) (by unfold maxLen; omega) (by omega) bX2.out.size (fun v2 w2x hr2 hg2 _ => ?_))
              · match j, hj with
                | 0, hj => injection hj with hj; subst hj; exact World.cell?_alloc_new _ _ _ 0
                | 1, hj => injection hj with hj; subst hj; exact World.cell?_alloc_new _ _ _ 1
                | 2, hj => injection hj with hj; subst hj; exact World.cell?_alloc_new _ _ _ 2
                | j + 3, hj => cases hj
              · simp only [List.mem_cons, List.not_mem_nil, or_false] at hu
                rcases hu with rfl | rfl | rfl <;> rfl
              · have NX : Hid (NS w w2x v2 (i + 1)) := ⟨bX2.out.grown hg2 bX2.out.size (fun k hk => ownsRow_ge hrow2.out k hk), n + 1, _, hr2, by omega⟩
                clear hr2 hg2 bX2 hrow2
                go_roundg (31 - i)
                case measure => omega
                case rel => exact ⟨i + 1, by omega, by simp, NX⟩
            · exfalso
              simp only [beq_iff_eq] at hqa hqb
              omega
        · skip
          have Z0 : Hid (Below wr.heap.size wr (wr.alloc (.cells #[.int .i64 (i : Int), .pointer none, .pointer none] 151))) := (Below.refl _ _).alloc (Nat.le_refl _) _
          have L0 : Hid (ob.Lies (wr.alloc (.cells #[.int .i64 (i : Int), .pointer none, .pointer none] 151)) wr.heap.size [.int .i64 (i : Int), .pointer none, .pointer none]) := ob.Lies.new wr [.int .i64 (i : Int), .pointer none, .pointer none] 151
          obtain ⟨S, hS⟩ : ∃ S, S = wr.heap.size := ⟨_, rfl⟩
          replace hS : Hid _ := hS
          rw [← hS.out] at Z0 L0
          go_upto_region 10 with fail
          rw [← hS.out]
          obtain ⟨w0, hw0⟩ : ∃ w0, w0 = wr.alloc (.cells #[.int .i64 (i : Int), .pointer none, .pointer none] 151) := ⟨_, rfl⟩
          rw [← hw0] at Z0 L0 ⊢
          clear hw0
          go_wp2_with fail
          refine (IN.out _).mono ?_
          rintro e w1n ⟨a1, rfl, b1⟩
          have Zn : Hid (Below S wr w1n) := Z0.out.trans (b1.mono (by have := L0.out.lt (by simp); omega))
          have Ln := Lib.hid (L0.out.keep (by simp) b1)
          have Lm : Hid (ob.Lies (w1n.alloc (.cells #[.pointer (some a1), .int .i64 4096, .bool false, .bool false] 136)) S [.int .i64 (i : Int), .pointer none, .pointer none]) := Ln.out.keep (by simp) ((Below.refl _ _).alloc (Nat.le_refl _) _)
          have c1x := Lm.out.cell 1 (v := .pointer none) rfl
          have f1x := Lm.out.free 1 (by simp)
          have L1 : Hid (ob.Lies ((w1n.alloc (.cells #[.pointer (some a1), .int .i64 4096, .bool false, .bool false] 136)).setCell ⟨S, 1, none⟩ (.pointer (some ⟨w1n.heap.size, 0, none⟩))) S [.int .i64 (i : Int), .pointer (some ⟨w1n.heap.size, 0, none⟩), .pointer none]) := Lm.out.put 1 (by simp) _
          have Z1 : Hid (Below S wr ((w1n.alloc (.cells #[.pointer (some a1), .int .i64 4096, .bool false, .bool false] 136)).setCell ⟨S, 1, none⟩ (.pointer (some ⟨w1n.heap.size, 0, none⟩)))) := (Zn.out.alloc (by have := Ln.out.lt (by simp); omega) _).setCell (p := ⟨S, 1, none⟩) (Nat.le_refl _) _
          clear b1 Zn Ln Lm Z0 L0
          go_upto_region 12 with fail
          clear c1x f1x
          generalize hw1 : (w1n.alloc (.cells #[.pointer (some a1), .int .i64 4096, .bool false, .bool false] 136)).setCell ⟨S, 1, none⟩ (.pointer (some ⟨w1n.heap.size, 0, none⟩)) = w1 at Z1 L1 ⊢
          clear hw1
          generalize (⟨w1n.heap.size, 0, none⟩ : Addr) = p1 at L1 ⊢
          go_wp2_with fail
          refine (ON.out _).mono ?_
          rintro e w2n ⟨a2, rfl, b2⟩
          have Zn : Hid (Below S wr w2n) := Z1.out.trans (b2.mono (by have := L1.out.lt (by simp); omega))
          have Ln := Lib.hid (L1.out.keep (by simp) b2)
          have Lm : Hid (ob.Lies (w2n.alloc (.cells #[.pointer (some a2), .int .i64 0, .bool false, .bool false, .int .i64 0] 127)) S [.int .i64 (i : Int), .pointer (some p1), .pointer none]) := Ln.out.keep (by simp) ((Below.refl _ _).alloc (Nat.le_refl _) _)
          have c2x := Lm.out.cell 2 (v := .pointer none) rfl
          have f2x := Lm.out.free 2 (by simp)
          have L2 : Hid (ob.Lies ((w2n.alloc (.cells #[.pointer (some a2), .int .i64 0, .bool false, .bool false, .int .i64 0] 127)).setCell ⟨S, 2, none⟩ (.pointer (some ⟨w2n.heap.size, 0, none⟩))) S [.int .i64 (i : Int), .pointer (some p1), .pointer (some ⟨w2n.heap.size, 0, none⟩)]) := Lm.out.put 2 (by simp) _
          have Z2 : Hid (Below S wr ((w2n.alloc (.cells #[.pointer (some a2), .int .i64 0, .bool false, .bool false, .int .i64 0] 127)).setCell ⟨S, 2, none⟩ (.pointer (some ⟨w2n.heap.size, 0, none⟩)))) := (Zn.out.alloc (by have := Ln.out.lt (by simp); omega) _).setCell (p := ⟨S, 2, none⟩) (Nat.le_refl _) _
          clear b2 Zn Ln Lm Z1 L1
          go_upto_region 14 with fail
          clear c2x f2x
          generalize hw2 : (w2n.alloc (.cells #[.pointer (some a2), .int .i64 0, .bool false, .bool false, .int .i64 0] 127)).setCell ⟨S, 2, none⟩ (.pointer (some ⟨w2n.heap.size, 0, none⟩)) = w2 at Z2 L2 ⊢
          clear hw2
          generalize (⟨w2n.heap.size, 0, none⟩ : Addr) = p2 at L2 ⊢
          have c0 := L2.out.cell 0 (v := .int .i64 (i : Int)) rfl
          have c1 := L2.out.cell 1 (v := .pointer (some p1)) rfl
          have c2 := L2.out.cell 2 (v := .pointer (some p2)) rfl
          obtain ⟨n, xs, hrow, hn⟩ := (X.out.keep (hS.out ▸ Z2.out)).row
          have bX := (X.out.keep (hS.out ▸ Z2.out)).bel
          have hrow2 := Lib.hid (owns_below hrow ((Below.refl _ _).alloc (Nat.le_refl _) (.cells #[.int .i64 (i : Int), .pointer (some p1), .pointer (some p2)] 151)))
          have bX2 := Lib.hid (bX.alloc bX.size (.cells #[.int .i64 (i : Int), .pointer (some p1), .pointer (some p2)] 151))
          clear hrow bX X Z2 L2 hS
          go_wp2_with (at_builtin; refine wpList_append_own _ rfl _ _ 93 rfl w.heap.size 151 i0 (.agg #[.int .i64 0, .pointer none, .pointer none]) 3 24 Tryz.underlying93 hi0 hz0 hz1 hz2 rfl (by decide) _ n xs rfl hrow2.out ⟨w2.heap.size, 0, none⟩ 1 1 [.int .i64 (i : Int), .pointer (some p1), .pointer (some p2)] rfl rfl (fun j u hj => ?_) (fun u hu => ?_) (by unfold maxLen; omega) (by omega) bX2.out.size (fun v2 w2x hr2 hg2 _ => ?_))
          · match j, hj with
            | 0, hj => injection hj with hj; subst hj; exact World.cell?_alloc_new _ _ _ 0
            | 1, hj => injection hj with hj; subst hj; exact World.cell?_alloc_new _ _ _ 1
            | 2, hj => injection hj with hj; subst hj; exact World.cell?_alloc_new _ _ _ 2
            | j + 3, hj => cases hj
          · simp only [List.mem_cons, List.not_mem_nil, or_false] at hu
            rcases hu with rfl | rfl | rfl <;> rfl
          · have NX : Hid (NS w w2x v2 (i + 1)) := ⟨bX2.out.grown hg2 bX2.out.size (fun k hk => ownsRow_ge hrow2.out k hk), n + 1, _, hr2, by omega⟩
            clear hr2 hg2 bX2 hrow2
            go_roundg (31 - i)
            case measure => omega
            case rel => exact ⟨i + 1, by omega, by simp, NX⟩
      · have hE : i = 32 := by omega
        subst hE
        obtain ⟨n, xs, hrow, -⟩ := X.out.row
        obtain ⟨a, c, rfl⟩ := ownsRow_slice hrow
        have ZZ : Hid (Below w.heap.size w wr) := X.out.bel
        clear X hrow
        go_wp2
        go_ret
        exact ⟨_, _, _, rfl, ZZ.out⟩
  · go_enter Tryz.func100, Tryz.ntmps100
    go_wp2_with fail
    go_loopg [5, 12] 32 (fun g av iv wr => ∃ i : Nat, i + g = 32 ∧ iv = .int .i64 (i : Int) ∧ Hid (NS w wr av i))
    case atStart => exact ⟨0, by omega, rfl, N0⟩
    case round =>
      obtain ⟨i, hi, rfl, X⟩ := hrel
      clear N0
      by_cases hlt : i < 32
      · have g1 : decide ((i : Int) < 32) = true := decide_eq_true (by omega)
        obtain ⟨sh, hsh⟩ : ∃ sh : Bool, ((i : Int) % 4 == 0) = sh := ⟨_, rfl⟩
        obtain ⟨qa, hqa⟩ : ∃ qa : Bool, ((i : Int) == 2) = qa := ⟨_, rfl⟩
        obtain ⟨qb, hqb⟩ : ∃ qb : Bool, ((i : Int) == 3) = qb := ⟨_, rfl⟩
        cases sh
        · cases qa
          · cases qb
            · skip
              have Z0 : Hid (Below wr.heap.size wr (wr.alloc (.cells #[.int .i64 (i : Int), .pointer none, .pointer none] 151))) := (Below.refl _ _).alloc (Nat.le_refl _) _
              have L0 : Hid (ob.Lies (wr.alloc (.cells #[.int .i64 (i : Int), .pointer none, .pointer none] 151)) wr.heap.size [.int .i64 (i : Int), .pointer none, .pointer none]) := ob.Lies.new wr [.int .i64 (i : Int), .pointer none, .pointer none] 151
              obtain ⟨S, hS⟩ : ∃ S, S = wr.heap.size := ⟨_, rfl⟩
              replace hS : Hid _ := hS
              rw [← hS.out] at Z0 L0
              go_upto_region 10 with fail
              rw [← hS.out]
              obtain ⟨w0, hw0⟩ : ∃ w0, w0 = wr.alloc (.cells #[.int .i64 (i : Int), .pointer none, .pointer none] 151) := ⟨_, rfl⟩
              rw [← hw0] at Z0 L0 ⊢
              clear hw0
              have c0 := L0.out.cell 0 (v := .int .i64 (i : Int)) rfl
              have c1 := L0.out.cell 1 (v := .pointer none) rfl
              have c2 := L0.out.cell 2 (v := .pointer none) rfl
              have NX : Hid (NS w w0 u5 (i + 1)) := (X.out.keep (hS.out ▸ Z0.out)).up
              clear X Z0 L0
              go_wp2_with fail
              go_roundg (31 - i)
              case measure => omega
              case rel => exact ⟨i + 1, by omega, by simp, NX⟩
            · skip
              have Z0 : Hid (Below wr.heap.size wr (wr.alloc (.cells #[.int .i64 (i : Int), .pointer none, .pointer none] 151))) := (Below.refl _ _).alloc (Nat.le_refl _) _
              have L0 : Hid (ob.Lies (wr.alloc (.cells #[.int .i64 (i : Int), .pointer none, .pointer none] 151)) wr.heap.size [.int .i64 (i : Int), .pointer none, .pointer none]) := ob.Lies.new wr [.int .i64 (i : Int), .pointer none, .pointer none] 151
              obtain ⟨S, hS⟩ : ∃ S, S = wr.heap.size := ⟨_, rfl⟩
              replace hS : Hid _ := hS
              rw [← hS.out] at Z0 L0
              go_upto_region 10 with fail
              rw [← hS.out]
              obtain ⟨w0, hw0⟩ : ∃ w0, w0 = wr.alloc (.cells #[.int .i64 (i : Int), .pointer none, .pointer none] 151) := ⟨_, rfl⟩
              rw [← hw0] at Z0 L0 ⊢
              clear hw0
              go_wp2_with fail
              refine (ON.out _).mono ?_
              rintro e w1n ⟨a1, rfl, b1⟩
              have Zn : Hid (Below S wr w1n) := Z0.out.trans (b1.mono (by have := L0.out.lt (by simp); omega))
              have Ln := Lib.hid (L0.out.keep (by simp) b1)
              have Lm : Hid (ob.Lies (w1n.alloc (.cells #[.pointer (some a1), .int .i64 0, .bool false, .bool false, .int .i64 0] 127)) S [.int .i64 (i : Int), .pointer none, .pointer none]) := Ln.out.keep (by simp) ((Below.refl _ _).alloc (Nat.le_refl _) _)
              have c1x := Lm.out.cell 2 (v := .pointer none) rfl
              have f1x := Lm.out.free 2 (by simp)
              have L1 : Hid (ob.Lies ((w1n.alloc (.cells #[.pointer (some a1), .int .i64 0, .bool false, .bool false, .int .i64 0] 127)).setCell ⟨S, 2, none⟩ (.pointer (some ⟨w1n.heap.size, 0, none⟩))) S [.int .i64 (i : Int), .pointer none, .pointer (some ⟨w1n.heap.size, 0, none⟩)]) := Lm.out.put 2 (by simp) _
              have Z1 : Hid (Below S wr ((w1n.alloc (.cells #[.pointer (some a1), .int .i64 0, .bool false, .bool false, .int .i64 0] 127)).setCell ⟨S, 2, none⟩ (.pointer (some ⟨w1n.heap.size, 0, none⟩)))) := (Zn.out.alloc (by have := Ln.out.lt (by simp); omega) _).setCell (p := ⟨S, 2, none⟩) (Nat.le_refl _) _
              clear b1 Zn Ln Lm Z0 L0
              go_upto_region 14 with fail
              clear c1x f1x
              generalize hw1 : (w1n.alloc (.cells #[.pointer (some a1), .int .i64 0, .bool false, .bool false, .int .i64 0] 127)).setCell ⟨S, 2, none⟩ (.pointer (some ⟨w1n.heap.size, 0, none⟩)) = w1 at Z1 L1 ⊢
              clear hw1
              generalize (⟨w1n.heap.size, 0, none⟩ : Addr) = p1 at L1 ⊢
              have c0 := L1.out.cell 0 (v := .int .i64 (i : Int)) rfl
              have c1 := L1.out.cell 1 (v := .pointer none) rfl
              have c2 := L1.out.cell 2 (v := .pointer (some p1)) rfl
              obtain ⟨n, xs, hrow, hn⟩ := (X.out.keep (hS.out ▸ Z1.out)).row
              have bX := (X.out.keep (hS.out ▸ Z1.out)).bel
              have hrow2 := Lib.hid (owns_below hrow ((Below.refl _ _).alloc (Nat.le_refl _) (.cells #[.int .i64 (i : Int), .pointer none, .pointer (some p1)] 151)))
              have bX2 := Lib.hid (bX.alloc bX.size (.cells #[.int .i64 (i : Int), .pointer none, .pointer (some p1)] 151))
              clear hrow bX X Z1 L1 hS
              go_wp2_with (at_builtin; refine wpList_append_own _ rfl _ _ 93 rfl w.heap.size 151 i0 (.agg #[.int .i64 0, .pointer none, .pointer none]) 3 24 Tryz.underlying93 hi0 hz0 hz1 hz2 rfl (by decide) _ n xs rfl hrow2.out ⟨w1.heap.size, 0, none⟩ 1 1 [.int .i64 (i : Int), .pointer none, .pointer (some p1)] rfl rfl (fun j u hj => ?_) (fun u hu => ?_) (by unfold maxLen; omega) (by omega) bX2.out.size (fun v2 w2x hr2 hg2 _ => ?_))
              · match j, hj with
                | 0, hj => injection hj with hj; subst hj; exact World.cell?_alloc_new _ _ _ 0
                | 1, hj => injection hj with hj; subst hj; exact World.cell?_alloc_new _ _ _ 1
                | 2, hj => injection hj with hj; subst hj; exact World.cell?_alloc_new _ _ _ 2
                | j + 3, hj => cases hj
              · simp only [List.mem_cons, List.not_mem_nil, or_false] at hu
                rcases hu with rfl | rfl | rfl <;> rfl
              · have NX : Hid (NS w w2x v2 (i + 1)) := ⟨bX2.out.grown hg2 bX2.out.size (fun k hk => ownsRow_ge hrow2.out k hk), n + 1, _, hr2, by omega⟩
                clear hr2 hg2 bX2 hrow2
                go_roundg (31 - i)
                case measure => omega
                case rel => exact ⟨i + 1, by omega, by simp, NX⟩
          · cases qb
            · skip
              have Z0 : Hid (Below wr.heap.size wr (wr.alloc (.cells #[.int .i64 (i : Int), .pointer none, .pointer none] 151))) := (Below.refl _ _).alloc (Nat.le_refl _) _
              have L0 : Hid (ob.Lies (wr.alloc (.cells #[.int .i64 (i : Int), .pointer none, .pointer none] 151)) wr.heap.size [.int .i64 (i : Int), .pointer none, .pointer none]) := ob.Lies.new wr [.int .i64 (i : Int), .pointer none, .pointer none] 151
              obtain ⟨S, hS⟩ : ∃ S, S = wr.heap.size := ⟨_, rfl⟩
              replace hS : Hid _ := hS
              rw [← hS.out] at Z0 L0
              go_upto_region 10 with fail
              rw [← hS.out]
              obtain ⟨w0, hw0⟩ : ∃ w0, w0 = wr.alloc (.cells #[.int .i64 (i : Int), .pointer none, .pointer none] 151) := ⟨_, rfl⟩
              rw [← hw0] at Z0 L0 ⊢
              clear hw0
              go_wp2_with fail
              refine (IN.out _).mono ?_
              rintro e w1n ⟨a1, rfl, b1⟩
              have Zn : Hid (Below S wr w1n) := Z0.out.trans (b1.mono (by have := L0.out.lt (by simp); omega))
              have Ln := Lib.hid (L0.out.keep (by simp) b1)
              have Lm : Hid (ob.Lies (w1n.alloc (.cells #[.pointer (some a1), .int .i64 4096, .bool false, .bool false] 136)) S [.int .i64 (i : Int), .pointer none, .pointer none]) := Ln.out.keep (by simp) ((Below.refl _ _).alloc (Nat.le_refl _) _)
              have c1x := Lm.out.cell 1 (v := .pointer none) rfl
              have f1x := Lm.out.free 1 (by simp)
              have L1 : Hid (ob.Lies ((w1n.alloc (.cells #[.pointer (some a1), .int .i64 4096, .bool false, .bool false] 136)).setCell ⟨S, 1, none⟩ (.pointer (some ⟨w1n.heap.size, 0, none⟩))) S [.int .i64 (i : Int), .pointer (some ⟨w1n.heap.size, 0, none⟩), .pointer none]) := Lm.out.put 1 (by simp) _
              have Z1 : Hid (Below S wr ((w1n.alloc (.cells #[.pointer (some a1), .int .i64 4096, .bool false, .bool false] 136)).setCell ⟨S, 1, none⟩ (.pointer (some ⟨w1n.heap.size, 0, none⟩)))) := (Zn.out.alloc (by have := Ln.out.lt (by simp); omega) _).setCell (p := ⟨S, 1, none⟩) (Nat.le_refl _) _
              clear b1 Zn Ln Lm Z0 L0
              go_upto_region 12 with fail
              clear c1x f1x
              generalize hw1 : (w1n.alloc (.cells #[.pointer (some a1), .int .i64 4096, .bool false, .bool false] 136)).setCell ⟨S, 1, none⟩ (.pointer (some ⟨w1n.heap.size, 0, none⟩)) = w1 at Z1 L1 ⊢
              clear hw1
              generalize (⟨w1n.heap.size, 0, none⟩ : Addr) = p1 at L1 ⊢
              have c0 := L1.out.cell 0 (v := .int .i64 (i : Int)) rfl
              have c1 := L1.out.cell 1 (v := .pointer (some p1)) rfl
              have c2 := L1.out.cell 2 (v := .pointer none) rfl
              obtain ⟨n, xs, hrow, hn⟩ := (X.out.keep (hS.out ▸ Z1.out)).row
              have bX := (X.out.keep (hS.out ▸ Z1.out)).bel
              have hrow2 := Lib.hid (owns_below hrow ((Below.refl _ _).alloc (Nat.le_refl _) (.cells #[.int .i64 (i : Int), .pointer (some p1), .pointer none] 151)))
              have bX2 := Lib.hid (bX.alloc bX.size (.cells #[.int .i64 (i : Int), .pointer (some p1), .pointer none] 151))
              clear hrow bX X Z1 L1 hS
              go_wp2_with (at_builtin; refine wpList_append_own _ rfl _ _ 93 rfl w.heap.size 151 i0 (.agg #[.int .i64 0, .pointer none, .pointer none]) 3 24 Tryz.underlying93 hi0 hz0 hz1 hz2 rfl (by decide) _ n xs rfl hrow2.out ⟨w1.heap.size, 0, none⟩ 1 1 [.int .i64 (i : Int), .pointer (some p1), .pointer none] rfl rfl (fun j u hj => ?_) (fun u hu => ?_) (by unfold maxLen; omega) (by omega) bX2.out.size (fun v2 w2x hr2 hg2 _ => ?_))
              · match j, hj with
                | 0, hj => injection hj with hj; subst hj; exact World.cell?_alloc_new _ _ _ 0
                | 1, hj => injection hj with hj; subst hj; exact World.cell?_alloc_new _ _ _ 1
                | 2, hj => injection hj with hj; subst hj; exact World.cell?_alloc_new _ _ _ 2
                | j + 3, hj => cases hj
              · simp only [List.mem_cons, List.not_mem_nil, or_false] at hu
                rcases hu with rfl | rfl | rfl <;> rfl
              · have NX : Hid (NS w w2x v2 (i + 1)) := ⟨bX2.out.grown hg2 bX2.out.size (fun k hk => ownsRow_ge hrow2.out k hk), n + 1, _, hr2, by omega⟩
                clear hr2 hg2 bX2 hrow2
                go_roundg (31 - i)
                case measure => omega
                case rel => exact ⟨i + 1, by omega, by simp, NX⟩
            · exfalso
              simp only [beq_iff_eq] at hqa hqb
              omega
        · skip
          have Z0 : Hid (Below wr.heap.size wr (wr.alloc (.cells #[.int .i64 (i : Int), .pointer none, .pointer none] 151))) := (Below.refl _ _).alloc (Nat.le_refl _) _
          have L0 : Hid (ob.Lies (wr.alloc (.cells #[.int .i64 (i : Int), .pointer none, .pointer none] 151)) wr.heap.size [.int .i64 (i : Int), .pointer none, .pointer none]) := ob.Lies.new wr [.int .i64 (i : Int), .pointer none, .pointer none] 151
          obtain ⟨S, hS⟩ : ∃ S, S = wr.heap.size := ⟨_, rfl⟩
          replace hS : Hid _ := hS
          rw [← hS.out] at Z0 L0
          go_upto_region 10 with fail
          rw [← hS.out]
          obtain ⟨w0, hw0⟩ : ∃ w0, w0 = wr.alloc (.cells #[.int .i64 (i : Int), .pointer none, .pointer none] 151) := ⟨_, rfl⟩
          rw [← hw0] at Z0 L0 ⊢
          clear hw0
          go_wp2_with fail
          refine (IN.out _).mono ?_
          rintro e w1n ⟨a1, rfl, b1⟩
          have Zn : Hid (Below S wr w1n) := Z0.out.trans (b1.mono (by have := L0.out.lt (by simp); omega))
          have Ln := Lib.hid (L0.out.keep (by simp) b1)
          have Lm : Hid (ob.Lies (w1n.alloc (.cells #[.pointer (some a1), .int .i64 4096, .bool false, .bool false] 136)) S [.int .i64 (i : Int), .pointer none, .pointer none]) := Ln.out.keep (by simp) ((Below.refl _ _).alloc (Nat.le_refl _) _)
          have c1x := Lm.out.cell 1 (v := .pointer none) rfl
          have f1x := Lm.out.free 1 (by simp)
          have L1 : Hid (ob.Lies ((w1n.alloc (.cells #[.pointer (some a1), .int .i64 4096, .bool false, .bool false] 136)).setCell ⟨S, 1, none⟩ (.pointer (some ⟨w1n.heap.size, 0, none⟩))) S [.int .i64 (i : Int), .pointer (some ⟨w1n.heap.size, 0, none⟩), .pointer none]) := Lm.out.put 1 (by simp) _
          have Z1 : Hid (Below S wr ((w1n.alloc (.cells #[.pointer (some a1), .int .i64 4096, .bool false, .bool false] 136)).setCell ⟨S, 1, none⟩ (.pointer (some ⟨w1n.heap.size, 0, none⟩)))) := (Zn.out.alloc (by have := Ln.out.lt (by simp); omega) _).setCell (p := ⟨S, 1, none⟩) (Nat.le_refl _) _
          clear b1 Zn Ln Lm Z0 L0
          go_upto_region 12 with fail
          clear c1x f1x
          generalize hw1 : (w1n.alloc (.cells #[.pointer (some a1), .int .i64 4096, .bool false, .bool false] 136)).setCell ⟨S, 1, none⟩ (.pointer (some ⟨w1n.heap.size, 0, none⟩)) = w1 at Z1 L1 ⊢
          clear hw1
          generalize (⟨w1n.heap.size, 0, none⟩ : Addr) = p1 at L1 ⊢
          go_wp2_with fail
          refine (ON.out _).mono ?_
          rintro e w2n ⟨a2, rfl, b2⟩
          have Zn : Hid (Below S wr w2n) := Z1.out.trans (b2.mono (by have := L1.out.lt (by simp); omega))
          have Ln := Lib.hid (L1.out.keep (by simp) b2)
          have Lm : Hid (ob.Lies (w2n.alloc (.cells #[.pointer (some a2), .int .i64 0, .bool false, .bool false, .int .i64 0] 127)) S [.int .i64 (i : Int), .pointer (some p1), .pointer none]) := Ln.out.keep (by simp) ((Below.refl _ _).alloc (Nat.le_refl _) _)
          have c2x := Lm.out.cell 2 (v := .pointer none) rfl
          have f2x := Lm.out.free 2 (by simp)
          have L2 : Hid (ob.Lies ((w2n.alloc (.cells #[.pointer (some a2), .int .i64 0, .bool false, .bool false, .int .i64 0] 127)).setCell ⟨S, 2, none⟩ (.pointer (some ⟨w2n.heap.size, 0, none⟩))) S [.int .i64 (i : Int), .pointer (some p1), .pointer (some ⟨w2n.heap.size, 0, none⟩)]) := Lm.out.put 2 (by simp) _
          have Z2 : Hid (Below S wr ((w2n.alloc (.cells #[.pointer (some a2), .int .i64 0, .bool false, .bool false, .int .i64 0] 127)).setCell ⟨S, 2, none⟩ (.pointer (some ⟨w2n.heap.size, 0, none⟩)))) := (Zn.out.alloc (by have := Ln.out.lt (by simp); omega) _).setCell (p := ⟨S, 2, none⟩) (Nat.le_refl _) _
          clear b2 Zn Ln Lm Z1 L1
          go_upto_region 14 with fail
          clear c2x f2x
          generalize hw2 : (w2n.alloc (.cells #[.pointer (some a2), .int .i64 0, .bool false, .bool false, .int .i64 0] 127)).setCell ⟨S, 2, none⟩ (.pointer (some ⟨w2n.heap.size, 0, none⟩)) = w2 at Z2 L2 ⊢
          clear hw2
          generalize (⟨w2n.heap.size, 0, none⟩ : Addr) = p2 at L2 ⊢
          have c0 := L2.out.cell 0 (v := .int .i64 (i : Int)) rfl
          have c1 := L2.out.cell 1 (v := .pointer (some p1)) rfl
          have c2 := L2.out.cell 2 (v := .pointer (some p2)) rfl
          obtain ⟨n, xs, hrow, hn⟩ := (X.out.keep (hS.out ▸ Z2.out)).row
          have bX := (X.out.keep (hS.out ▸ Z2.out)).bel
          have hrow2 := Lib.hid (owns_below hrow ((Below.refl _ _).alloc (Nat.le_refl _) (.cells #[.int .i64 (i : Int), .pointer (some p1), .pointer (some p2)] 151)))
          have bX2 := Lib.hid (bX.alloc bX.size (.cells #[.int .i64 (i : Int), .pointer (some p1), .pointer (some p2)] 151))
          clear hrow bX X Z2 L2 hS
          go_wp2_with (at_builtin; refine wpList_append_own _ rfl _ _ 93 rfl w.heap.size 151 i0 (.agg #[.int .i64 0, .pointer none, .pointer none]) 3 24 Tryz.underlying93 hi0 hz0 hz1 hz2 rfl (by decide) _ n xs rfl hrow2.out ⟨w2.heap.size, 0, none⟩ 1 1 [.int .i64 (i : Int), .pointer (some p1), .pointer (some p2)] rfl rfl (fun j u hj => ?_) (fun u hu => ?_) (by unfold maxLen; omega) (by omega) bX2.out.size (fun v2 w2x hr2 hg2 _ => ?_))
          · match j, hj with
            | 0, hj => injection hj with hj; subst hj; exact World.cell?_alloc_new _ _ _ 0
            | 1, hj => injection hj with hj; subst hj; exact World.cell?_alloc_new _ _ _ 1
            | 2, hj => injection hj with hj; subst hj; exact World.cell?_alloc_new _ _ _ 2
            | j + 3, hj => cases hj
          · simp only [List.mem_cons, List.not_mem_nil, or_false] at hu
            rcases hu with rfl | rfl | rfl <;> rfl
          · have NX : Hid (NS w w2x v2 (i + 1)) := ⟨bX2.out.grown hg2 bX2.out.size (fun k hk => ownsRow_ge hrow2.out k hk), n + 1, _, hr2, by omega⟩
            clear hr2 hg2 bX2 hrow2
            go_roundg (31 - i)
            case measure => omega
            case rel => exact ⟨i + 1, by omega, by simp, NX⟩
      · have hE : i = 32 := by omega
        subst hE
        obtain ⟨n, xs, hrow, -⟩ := X.out.row
        obtain ⟨a, c, rfl⟩ := ownsRow_slice hrow
        have ZZ : Hid (Below w.heap.size w wr) := X.out.bel
        clear X hrow
        go_wp2
        go_ret
        exact ⟨_, _, _, rfl, ZZ.out⟩
end Go.Proofs.YtbicfhilehllnaaGreatDoor.cn
namespace Go.Proofs.YtbicfhilehllnaaGreatDoor.cn
set_option maxRecDepth 100000
open Go.RowKit Go.Sort

/-- An end's cells. -/
def cells (sv : Bool) (name : ByteArray) (ph code : Int) (psk nonce gr : ByteArray) (gd : Bool) (ga : Int) (ow oa oc : Bool) (ou th : Value) (nx : Int) (se ca le sn st wa ar : Value) : List Value :=
  [.bool sv, .string name, .int .i64 ph, .int .i64 code, .string psk, .string nonce, .string gr, .bool gd, .int .i64 ga, .bool ow, .bool oa, .bool oc, ou, th, .int .i64 nx, se, ca, le, sn, st, wa, ar]
set_option maxHeartbeats 2000000 in
theorem newConn_ok (psk name nonce : ByteArray) (sv : Bool) (w : World) :
    Calls Tryz.prog 50 #[.string psk, .string name, .string nonce, .bool sv] w fun e w' => ∃ (B : Nat) (se ca le sn st : Value), e = .returned (.pointer (some ⟨B, 0, none⟩)) ∧ ob.Lies w' B (cells sv name 0 0 psk nonce ⟨#[]⟩ false 0 false false false (.pointer none) (.pointer none) 0 se ca le sn st (.slice none 0 0) (.slice none 0 0)) ∧ w.heap.size ≤ B ∧ Below w.heap.size w w' := by
  have A1 : Hid (Makes 97 #[]) := wnew_ok
  have A2 : Hid (Makes 98 #[]) := anew_ok
  have A3 : Hid (Makes 99 #[]) := lnew_ok
  have A4 : Hid (∀ w, _) := fun w => streams_ok sv w
  have hmm := @run_makeMap Tryz.prog
  go_enter Tryz.func50, Tryz.ntmps50
  go_wp2_with fail
  refine (A1.out _).mono ?_
  rintro e w1 ⟨a1, rfl, b1⟩
  have Z1 : Hid (Below w.heap.size w w1) := b1
  clear b1 A1
  go_wp2_with fail
  refine (A2.out _).mono ?_
  rintro e w2 ⟨a2, rfl, b2⟩
  have Z2 : Hid (Below w.heap.size w w2) := Z1.out.trans (b2.mono Z1.out.size)
  clear b2 A2 Z1
  go_wp2_with fail
  refine (A3.out _).mono ?_
  rintro e w3 ⟨a3, rfl, b3⟩
  have Z3 : Hid (Below w.heap.size w w3) := Z2.out.trans (b3.mono Z2.out.size)
  clear b3 A3 Z2
  go_wp2_with fail
  refine (A4.out _).mono ?_
  rintro e w4 ⟨a4, n4, c4, rfl, b4⟩
  have Z4 : Hid (Below w.heap.size w w4) := (Z3.out.alloc Z3.out.size _).trans (b4.mono (Z3.out.alloc Z3.out.size _).size)
  clear b4 A4 Z3
  go_wp2_with fail
  go_ret
  have l := ob.Lies.new w4 (cells sv name 0 0 psk nonce ⟨#[]⟩ false 0 false false false (.pointer none) (.pointer none) 0 (.pointer (some a1)) (.pointer (some a2)) (.pointer (some a3)) (.map (some w3.heap.size)) (.slice a4 n4 c4) (.slice none 0 0) (.slice none 0 0)) 95
  exact ⟨w4.heap.size, _, _, _, _, _, rfl, l, Z4.out.size, Z4.out.alloc Z4.out.size _⟩
set_option maxHeartbeats 2000000 in
theorem dial_ok (psk cid nonce : ByteArray) (w : World) (t : STab w) (h1 : psk.size < 1073741824) (h2 : cid.size = 8) (h3 : nonce.size = 16) :
    Calls Tryz.prog 14 #[.string psk, .string cid, .string nonce] w fun e w' => ∃ (B : Nat) (se ca le sn st : Value), e = .returned (.tuple #[.pointer (some ⟨B, 0, none⟩), .int .i64 0]) ∧ ob.Lies w' B (cells false cid 1 0 psk nonce (pk (kHello psk) 1 cid 0 nonce) false 0 false false false (.pointer none) (.pointer none) 0 se ca le sn st (.slice none 0 0) (.slice none 0 0)) ∧ w.heap.size ≤ B ∧ Below w.heap.size w w' := by
  have N : Hid (∀ w, _) := fun w => newConn_ok psk cid nonce false w
  have HK : Hid (∀ w1, STab w1 → _) := fun w1 t1 => helloKey_ok psk w1 w1 (Below.refl _ _) t1 h1
  have SP : Hid (∀ w0 w1 v, STab w0 → SInv w0 w1 v (kHello psk) 0 0 → _) := fun w0 w1 v t0 h => sealPacket_ok 1 0 cid nonce w0 w1 t0 h (by decide) (by decide) (by omega) (by omega) (der_small _ _ _) (by decide) (by decide)
  have q1 : ((cid.size : Int) == 8) = true := by simp; omega
  have q2 : ((nonce.size : Int) == 16) = true := by simp; omega
  have T : Hid (STab w) := t
  clear t
  generalize pk (kHello psk) 1 cid 0 nonce = P at *
  generalize kHello psk = K at *
  go_enter Tryz.func14, Tryz.ntmps14
  go_wp2_with fail
  refine (N.out _).mono ?_
  rintro e w1 ⟨B, se, ca, le, sn, st, rfl, l1, hB, b1⟩
  have Z1 : Hid (Below w.heap.size w w1) := b1
  have L1 := Lib.hid l1
  have T1 : Hid (STab (w1.setCell ⟨B, 2, none⟩ (.int .i64 1))) := T.out.keep (b1.setCell (p := ⟨B, 2, none⟩) hB _)
  have Z2 : Hid (Below w.heap.size w (w1.setCell ⟨B, 2, none⟩ (.int .i64 1))) := b1.setCell (p := ⟨B, 2, none⟩) hB _
  have L2 : Hid (ob.Lies (w1.setCell ⟨B, 2, none⟩ (.int .i64 1)) B (cells false cid 1 0 psk nonce ⟨#[]⟩ false 0 false false false (.pointer none) (.pointer none) 0 se ca le sn st (.slice none 0 0) (.slice none 0 0))) := l1.put 2 (by simp [cells]) _
  have c2 := l1.cell 2 (v := .int .i64 0) rfl
  have f2 := l1.free 2 (by simp [cells])
  clear l1 b1 N Z1 L1
  go_upto_region 5 with fail
  generalize w1.setCell ⟨B, 2, none⟩ (.int .i64 1) = w2 at *
  clear c2 f2
  go_wp2_with fail
  refine (HK.out _ T1.out).mono ?_
  rintro e w3 ⟨a3, rfl, n3⟩
  have N3 := Lib.hid n3
  clear n3 HK
  go_wp2_with fail
  refine (SP.out _ _ _ T1.out N3.out).mono ?_
  rintro e w4 ⟨rfl, n4⟩
  have b4 := n4.below
  have Z4 : Hid (Below w.heap.size w w4) := Z2.out.trans (b4.mono Z2.out.size)
  have L4 := Lib.hid (L2.out.keep (by simp [cells]) b4)
  have c6 := L4.out.cell 6 (v := .string ⟨#[]⟩) rfl
  have f6 := L4.out.free 6 (by simp [cells])
  have L5 : Hid (ob.Lies (w4.setCell ⟨B, 6, none⟩ (.string P)) B (cells false cid 1 0 psk nonce P false 0 false false false (.pointer none) (.pointer none) 0 se ca le sn st (.slice none 0 0) (.slice none 0 0))) := L4.out.put 6 (by simp [cells]) _
  have Z5 : Hid (Below w.heap.size w (w4.setCell ⟨B, 6, none⟩ (.string P))) := Z4.out.setCell (p := ⟨B, 6, none⟩) hB _
  clear b4 n4 SP N3 T1 Z2 L2 Z4 L4
  go_wp2_with fail
  go_ret2
  exact ⟨B, se, ca, le, sn, st, rfl, L5.out, hB, Z5.out⟩
theorem dial_no (psk cid nonce : ByteArray) (w : World) (h : ¬ (cid.size = 8 ∧ nonce.size = 16)) :
    Calls Tryz.prog 14 #[.string psk, .string cid, .string nonce] w fun e w' => e = .returned (.tuple #[.pointer none, .int .i64 3]) ∧ w = w' := by
  by_cases h1 : cid.size = 8
  · have q1 : ((cid.size : Int) == 8) = true := by simp; omega
    have q2 : ((nonce.size : Int) == 16) = false := by simp; omega
    go_enter Tryz.func14, Tryz.ntmps14
    go_wp2
    go_ret2
    exact ⟨rfl, rfl⟩
  · have q1 : ((cid.size : Int) == 8) = false := by simp; omega
    go_enter Tryz.func14, Tryz.ntmps14
    go_wp2
    go_ret2
    exact ⟨rfl, rfl⟩
end Go.Proofs.YtbicfhilehllnaaGreatDoor.cn
namespace Go.Proofs.YtbicfhilehllnaaGreatDoor.cn
set_option maxRecDepth 100000
open Go.RowKit Go.Sort

set_option maxHeartbeats 4000000 in
theorem open_ok (B : Nat) (sv : Bool) (name : ByteArray) (ph code : Int) (psk nonce gr other : ByteArray) (gd : Bool) (ga : Int) (ow oa oc : Bool) (ou th : Value) (nx : Int) (se ca le sn st wa ar : Value) (w0 w : World) (b0 : Below w0.heap.size w0 w) (hB : w0.heap.size ≤ B) (t : STab w0)
    (h : ob.Lies w B (cells sv name ph code psk nonce gr gd ga ow oa oc ou th nx se ca le sn st wa ar)) (h1 : psk.size < 1073741824) (h2 : nonce.size < 1000) (h3 : other.size < 1000) :
    Calls Tryz.prog 54 #[.pointer (some ⟨B, 0, none⟩), .string other] w fun e w' => ∃ ou th : Value, e = .returned (.tuple #[]) ∧ ob.Lies w' B (cells sv name 2 code psk nonce gr gd ga ow oa oc ou th nx se ca le sn st wa ar) ∧ Below w0.heap.size w0 w' := by
  have z : (nonce ++ other).size = nonce.size + other.size := ByteArray.size_append
  have K1 : Hid (∀ w1, Below w0.heap.size w0 w1 → _) := fun w1 b1 => keyOf_ok psk sUp (nonce ++ other) w1 w1 (Below.refl _ _) (t.keep b1) h1 (by decide) (by omega)
  have K2 : Hid (∀ w1, Below w0.heap.size w0 w1 → _) := fun w1 b1 => keyOf_ok psk sDown (nonce ++ other) w1 w1 (Below.refl _ _) (t.keep b1) h1 (by decide) (by omega)
  unfold sUp at K1
  unfold sDown at K2
  generalize der psk ⟨#[117, 112]⟩ (nonce ++ other) = D1 at *
  generalize der psk ⟨#[100, 111, 119, 110]⟩ (nonce ++ other) = D2 at *
  have c4 := h.cell 4 (v := .string psk) rfl
  have c5 := h.cell 5 (v := .string nonce) rfl
  have c4d : w.drew.cell? ⟨B, 4, none⟩ = some (.string psk) := c4
  have c5d : w.drew.cell? ⟨B, 5, none⟩ = some (.string nonce) := c5
  have L := Lib.hid h
  have Z : Hid (Below w0.heap.size w0 w) := b0
  have ZD : Hid (Below w0.heap.size w0 w.drew) := b0.drew
  have LD : Hid (ob.Lies w.drew B (cells sv name ph code psk nonce gr gd ga ow oa oc ou th nx se ca le sn st wa ar)) := h.of_block rfl
  clear h b0 t
  go_enter Tryz.func54, Tryz.ntmps54
  go_upto_region 0 with fail
  go_cut [4] (fun s wc => ∃ p : Addr, s = .pointer (some p) ∧ Hid (Below w0.heap.size w0 wc) ∧ Hid (ob.Lies wc B (cells sv name ph code psk nonce gr gd ga ow oa oc ou th nx se ca le sn st wa ar)))
  case first =>
    go_region_with (go_at_call 93; first | (refine (K1.out _ Z.out).mono ?_; rintro e w1 ⟨a1, rfl, n1⟩) | (refine (K1.out _ ZD.out).mono ?_; rintro e w1 ⟨a1, rfl, n1⟩))
    all_goals
      have bb := n1.below
      have ZZ : Hid (Below w0.heap.size w0 w1) := by first | exact Z.out.trans (bb.mono Z.out.size) | exact ZD.out.trans (bb.mono ZD.out.size)
      have LL : Hid (ob.Lies w1 B (cells sv name ph code psk nonce gr gd ga ow oa oc ou th nx se ca le sn st wa ar)) := by first | exact L.out.keep (by simp [cells]) bb | exact LD.out.keep (by simp [cells]) bb
      clear bb n1 K1 K2 Z ZD L LD
      go_wp2_with fail
      go_meet
      exact ⟨a1, rfl, ZZ, LL⟩
  case rest =>
    clear K1 Z ZD L LD c4 c5 c4d c5d
    obtain ⟨p1, rfl, Z, L⟩ := hcut
    have c4 := L.out.cell 4 (v := .string psk) rfl
    have c5 := L.out.cell 5 (v := .string nonce) rfl
    have c4d : wc.drew.cell? ⟨B, 4, none⟩ = some (.string psk) := c4
    have c5d : wc.drew.cell? ⟨B, 5, none⟩ = some (.string nonce) := c5
    have ZD : Hid (Below w0.heap.size w0 wc.drew) := Z.out.drew
    have LD : Hid (ob.Lies wc.drew B (cells sv name ph code psk nonce gr gd ga ow oa oc ou th nx se ca le sn st wa ar)) := L.out.of_block rfl
    go_upto_region 1 with fail
    go_cut [5] (fun s wc => ∃ p : Addr, s = .pointer (some p) ∧ Hid (Below w0.heap.size w0 wc) ∧ Hid (ob.Lies wc B (cells sv name ph code psk nonce gr gd ga ow oa oc ou th nx se ca le sn st wa ar)))
    case first =>
      go_region_with (go_at_call 93; first | (refine (K2.out _ Z.out).mono ?_; rintro e w1 ⟨a1, rfl, n1⟩) | (refine (K2.out _ ZD.out).mono ?_; rintro e w1 ⟨a1, rfl, n1⟩))
      all_goals
        have bb := n1.below
        have ZZ : Hid (Below w0.heap.size w0 w1) := by first | exact Z.out.trans (bb.mono Z.out.size) | exact ZD.out.trans (bb.mono ZD.out.size)
        have LL : Hid (ob.Lies w1 B (cells sv name ph code psk nonce gr gd ga ow oa oc ou th nx se ca le sn st wa ar)) := by first | exact L.out.keep (by simp [cells]) bb | exact LD.out.keep (by simp [cells]) bb
        clear bb n1 K2 Z ZD L LD
        go_wp2_with fail
        go_meet
        exact ⟨a1, rfl, ZZ, LL⟩
    case rest =>
      clear K2 Z ZD L LD c4 c5 c4d c5d
      obtain ⟨p2, rfl, Z, L⟩ := hcut
      have c0 := L.out.cell 0 (v := .bool sv) rfl
      have c12 := L.out.cell 12 (v := ou) rfl
      have f12 := L.out.free 12 (by simp [cells])
      cases sv
      · have L1 : Hid (ob.Lies (wc.setCell ⟨B, 12, none⟩ (.pointer (some p1))) B (cells false name ph code psk nonce gr gd ga ow oa oc (.pointer (some p1)) th nx se ca le sn st wa ar)) := L.out.put 12 (by simp [cells]) _
        have Z1 : Hid (Below w0.heap.size w0 (wc.setCell ⟨B, 12, none⟩ (.pointer (some p1)))) := Z.out.setCell (p := ⟨B, 12, none⟩) hB _
        have c13 := L1.out.cell 13 (v := th) rfl
        have f13 := L1.out.free 13 (by simp [cells])
        have L2 : Hid (ob.Lies ((wc.setCell ⟨B, 12, none⟩ (.pointer (some p1))).setCell ⟨B, 13, none⟩ (.pointer (some p2))) B (cells false name ph code psk nonce gr gd ga ow oa oc (.pointer (some p1)) (.pointer (some p2)) nx se ca le sn st wa ar)) := L1.out.put 13 (by simp [cells]) _
        have Z2 : Hid (Below w0.heap.size w0 ((wc.setCell ⟨B, 12, none⟩ (.pointer (some p1))).setCell ⟨B, 13, none⟩ (.pointer (some p2)))) := Z1.out.setCell (p := ⟨B, 13, none⟩) hB _
        have c2 := L2.out.cell 2 (v := .int .i64 ph) rfl
        have f2 := L2.out.free 2 (by simp [cells])
        have L3 : Hid (ob.Lies (((wc.setCell ⟨B, 12, none⟩ (.pointer (some p1))).setCell ⟨B, 13, none⟩ (.pointer (some p2))).setCell ⟨B, 2, none⟩ (.int .i64 2)) B (cells false name 2 code psk nonce gr gd ga ow oa oc (.pointer (some p1)) (.pointer (some p2)) nx se ca le sn st wa ar)) := L2.out.put 2 (by simp [cells]) _
        have Z3 : Hid (Below w0.heap.size w0 (((wc.setCell ⟨B, 12, none⟩ (.pointer (some p1))).setCell ⟨B, 13, none⟩ (.pointer (some p2))).setCell ⟨B, 2, none⟩ (.int .i64 2))) := Z2.out.setCell (p := ⟨B, 2, none⟩) hB _
        clear L L1 L2 Z Z1 Z2
        go_wp2_with fail
        first | (refine bodyPost_ret (results_none rfl _ _ _) rfl ?_; exact ⟨_, _, rfl, L3.out, Z3.out⟩) | (go_end0; exact ⟨_, _, rfl, L3.out, Z3.out⟩)
      · have L1 : Hid (ob.Lies (wc.setCell ⟨B, 12, none⟩ (.pointer (some p2))) B (cells true name ph code psk nonce gr gd ga ow oa oc (.pointer (some p2)) th nx se ca le sn st wa ar)) := L.out.put 12 (by simp [cells]) _
        have Z1 : Hid (Below w0.heap.size w0 (wc.setCell ⟨B, 12, none⟩ (.pointer (some p2)))) := Z.out.setCell (p := ⟨B, 12, none⟩) hB _
        have c13 := L1.out.cell 13 (v := th) rfl
        have f13 := L1.out.free 13 (by simp [cells])
        have L2 : Hid (ob.Lies ((wc.setCell ⟨B, 12, none⟩ (.pointer (some p2))).setCell ⟨B, 13, none⟩ (.pointer (some p1))) B (cells true name ph code psk nonce gr gd ga ow oa oc (.pointer (some p2)) (.pointer (some p1)) nx se ca le sn st wa ar)) := L1.out.put 13 (by simp [cells]) _
        have Z2 : Hid (Below w0.heap.size w0 ((wc.setCell ⟨B, 12, none⟩ (.pointer (some p2))).setCell ⟨B, 13, none⟩ (.pointer (some p1)))) := Z1.out.setCell (p := ⟨B, 13, none⟩) hB _
        have c2 := L2.out.cell 2 (v := .int .i64 ph) rfl
        have f2 := L2.out.free 2 (by simp [cells])
        have L3 : Hid (ob.Lies (((wc.setCell ⟨B, 12, none⟩ (.pointer (some p2))).setCell ⟨B, 13, none⟩ (.pointer (some p1))).setCell ⟨B, 2, none⟩ (.int .i64 2)) B (cells true name 2 code psk nonce gr gd ga ow oa oc (.pointer (some p2)) (.pointer (some p1)) nx se ca le sn st wa ar)) := L2.out.put 2 (by simp [cells]) _
        have Z3 : Hid (Below w0.heap.size w0 (((wc.setCell ⟨B, 12, none⟩ (.pointer (some p2))).setCell ⟨B, 13, none⟩ (.pointer (some p1))).setCell ⟨B, 2, none⟩ (.int .i64 2))) := Z2.out.setCell (p := ⟨B, 2, none⟩) hB _
        clear L L1 L2 Z Z1 Z2
        go_wp2_with fail
        first | (refine bodyPost_ret (results_none rfl _ _ _) rfl ?_; exact ⟨_, _, rfl, L3.out, Z3.out⟩) | (go_end0; exact ⟨_, _, rfl, L3.out, Z3.out⟩)
end Go.Proofs.YtbicfhilehllnaaGreatDoor.cn
namespace Go.Proofs.YtbicfhilehllnaaGreatDoor.cn
set_option maxRecDepth 100000
open Go.RowKit Go.Sort

set_option maxHeartbeats 2000000 in
theorem accept_ok (psk cid theirs nonce : ByteArray) (w : World) (t : STab w) (h1 : psk.size < 1073741824) (h2 : cid.size = 8) (h3 : theirs.size = 16) (h4 : nonce.size = 16) :
    Calls Tryz.prog 16 #[.string psk, .string cid, .string theirs, .string nonce] w fun e w' => ∃ B : Nat, e = .returned (.tuple #[.pointer (some ⟨B, 0, none⟩), .int .i64 0]) ∧ Below w.heap.size w w' := by
  have N : Hid (∀ w, _) := fun w => newConn_ok psk cid theirs true w
  have HK : Hid (∀ w1, STab w1 → _) := fun w1 t1 => welcomeKey_ok psk theirs w1 w1 (Below.refl _ _) t1 h1 (by omega)
  have SP : Hid (∀ w0 w1 v, STab w0 → SInv w0 w1 v (kWelcome psk theirs) 0 0 → _) := fun w0 w1 v t0 h => sealPacket_ok 2 0 cid nonce w0 w1 t0 h (by decide) (by decide) (by omega) (by omega) (der_small _ _ _) (by decide) (by decide)
  have OP : Hid (∀ (B : Nat) (w1 : World) (gr : ByteArray) (se ca le sn st : Value), Below w.heap.size w w1 → w.heap.size ≤ B → ob.Lies w1 B (cells true cid 0 0 psk theirs gr false 0 true false false (.pointer none) (.pointer none) 0 se ca le sn st (.slice none 0 0) (.slice none 0 0)) → _) := fun B w1 gr se ca le sn st b hB l => open_ok B true cid 0 0 psk theirs gr nonce false 0 true false false (.pointer none) (.pointer none) 0 se ca le sn st (.slice none 0 0) (.slice none 0 0) w w1 b hB t l h1 (by omega) (by omega)
  have q1 : ((cid.size : Int) == 8) = true := by simp; omega
  have q2 : ((theirs.size : Int) == 16) = true := by simp; omega
  have q3 : ((nonce.size : Int) == 16) = true := by simp; omega
  have T : Hid (STab w) := t
  clear t
  generalize pk (kWelcome psk theirs) 2 cid 0 nonce = P at *
  generalize kWelcome psk theirs = K at *
  go_enter Tryz.func16, Tryz.ntmps16
  go_wp2_with fail
  refine (N.out _).mono ?_
  rintro e w1 ⟨B, se, ca, le, sn, st, rfl, l1, hB, b1⟩
  have Z1 : Hid (Below w.heap.size w w1) := b1
  have L1 := Lib.hid l1
  have T1 : Hid (STab w1) := T.out.keep b1
  clear l1 b1 N
  go_wp2_with fail
  refine (HK.out _ T1.out).mono ?_
  rintro e w3 ⟨a3, rfl, n3⟩
  have N3 := Lib.hid n3
  clear n3 HK
  go_wp2_with fail
  refine (SP.out _ _ _ T1.out N3.out).mono ?_
  rintro e w4 ⟨rfl, n4⟩
  have b4 := n4.below
  have Z4 : Hid (Below w.heap.size w w4) := Z1.out.trans (b4.mono Z1.out.size)
  have L4 := Lib.hid (L1.out.keep (by simp [cells]) b4)
  have c6 := L4.out.cell 6 (v := .string ⟨#[]⟩) rfl
  have f6 := L4.out.free 6 (by simp [cells])
  have L5 : Hid (ob.Lies (w4.setCell ⟨B, 6, none⟩ (.string P)) B (cells true cid 0 0 psk theirs P false 0 false false false (.pointer none) (.pointer none) 0 se ca le sn st (.slice none 0 0) (.slice none 0 0))) := L4.out.put 6 (by simp [cells]) _
  have Z5 : Hid (Below w.heap.size w (w4.setCell ⟨B, 6, none⟩ (.string P))) := Z4.out.setCell (p := ⟨B, 6, none⟩) hB _
  have c9 := L5.out.cell 9 (v := .bool false) rfl
  have f9 := L5.out.free 9 (by simp [cells])
  have L6 : Hid (ob.Lies ((w4.setCell ⟨B, 6, none⟩ (.string P)).setCell ⟨B, 9, none⟩ (.bool true)) B (cells true cid 0 0 psk theirs P false 0 true false false (.pointer none) (.pointer none) 0 se ca le sn st (.slice none 0 0) (.slice none 0 0))) := L5.out.put 9 (by simp [cells]) _
  have Z6 : Hid (Below w.heap.size w ((w4.setCell ⟨B, 6, none⟩ (.string P)).setCell ⟨B, 9, none⟩ (.bool true))) := Z5.out.setCell (p := ⟨B, 9, none⟩) hB _
  clear b4 n4 SP N3 T1 Z4 L4 Z1 L1 L5 Z5
  go_wp2_with fail
  refine (OP.out B _ P se ca le sn st Z6.out hB L6.out).mono ?_
  rintro e w7 ⟨ou, th, rfl, -, b7⟩
  have Z7 : Hid (Below w.heap.size w w7) := b7
  clear b7 OP L6 Z6
  go_wp2_with fail
  go_ret2
  exact ⟨B, rfl, Z7.out⟩
theorem accept_no (psk cid theirs nonce : ByteArray) (w : World) (h : ¬ (cid.size = 8 ∧ theirs.size = 16 ∧ nonce.size = 16)) :
    Calls Tryz.prog 16 #[.string psk, .string cid, .string theirs, .string nonce] w fun e w' => e = .returned (.tuple #[.pointer none, .int .i64 3]) ∧ w = w' := by
  by_cases h1 : cid.size = 8
  · have q1 : ((cid.size : Int) == 8) = true := by simp; omega
    by_cases h2 : theirs.size = 16
    · have q2 : ((theirs.size : Int) == 16) = true := by simp; omega
      have q3 : ((nonce.size : Int) == 16) = false := by simp; omega
      go_enter Tryz.func16, Tryz.ntmps16
      go_wp2
      go_ret2
      exact ⟨rfl, rfl⟩
    · have q2 : ((theirs.size : Int) == 16) = false := by simp; omega
      go_enter Tryz.func16, Tryz.ntmps16
      go_wp2
      go_ret2
      exact ⟨rfl, rfl⟩
  · have q1 : ((cid.size : Int) == 8) = false := by simp; omega
    go_enter Tryz.func16, Tryz.ntmps16
    go_wp2
    go_ret2
    exact ⟨rfl, rfl⟩
set_option maxHeartbeats 2000000 in
theorem sendHello_ok (B : Nat) (sv : Bool) (name : ByteArray) (ph code : Int) (psk nonce gr : ByteArray) (ga : Int) (ow oa oc : Bool) (ou th : Value) (nx : Int) (se ca le sn st wa ar : Value) (now : Int) (w : World)
    (h : ob.Lies w B (cells sv name ph code psk nonce gr false ga ow oa oc ou th nx se ca le sn st wa ar)) :
    Calls Tryz.prog 55 #[.pointer (some ⟨B, 0, none⟩), .int .i64 now] w fun e w' => e = .returned (.tuple #[.string gr, .bool true]) ∧ ob.Kept (fun k => k = B) w w' := by
  have c7 := h.cell 7 (v := .bool false) rfl
  have f7 := h.free 7 (by simp [cells])
  have L1 : Hid (ob.Lies (w.setCell ⟨B, 7, none⟩ (.bool true)) B (cells sv name ph code psk nonce gr true ga ow oa oc ou th nx se ca le sn st wa ar)) := h.put 7 (by simp [cells]) _
  have c8 := L1.out.cell 8 (v := .int .i64 ga) rfl
  have f8 := L1.out.free 8 (by simp [cells])
  have L2 : Hid (ob.Lies ((w.setCell ⟨B, 7, none⟩ (.bool true)).setCell ⟨B, 8, none⟩ (.int .i64 now)) B (cells sv name ph code psk nonce gr true now ow oa oc ou th nx se ca le sn st wa ar)) := L1.out.put 8 (by simp [cells]) _
  have c6 := L2.out.cell 6 (v := .string gr) rfl
  have Z2 : Hid (ob.Kept (fun k => k = B) w ((w.setCell ⟨B, 7, none⟩ (.bool true)).setCell ⟨B, 8, none⟩ (.int .i64 now))) := ((ob.Kept.refl (fun k => k = B) w).set ⟨B, 7, none⟩ rfl _).set ⟨B, 8, none⟩ rfl _
  clear h L1 L2
  go_enter Tryz.func55, Tryz.ntmps55
  go_wp2_with fail
  go_ret2
  exact ⟨rfl, Z2.out⟩
set_option maxHeartbeats 2000000 in
theorem send1_ok (B : Nat) (sv : Bool) (name : ByteArray) (code : Int) (psk nonce gr : ByteArray) (ga : Int) (ow oa oc : Bool) (ou th : Value) (nx : Int) (se ca le sn st wa ar : Value) (now : Int) (size : Nat) (w : World)
    (h : ob.Lies w B (cells sv name 1 code psk nonce gr false ga ow oa oc ou th nx se ca le sn st wa ar)) (hs : 128 ≤ size) (hs2 : size ≤ 1200) :
    Calls Tryz.prog 18 #[.pointer (some ⟨B, 0, none⟩), .int .i64 now, .int .i64 (size : Int)] w fun e w' => e = .returned (.tuple #[.string gr, .bool true]) ∧ ob.Kept (fun k => k = B) w w' := by
  have SH : Hid (∀ _ : Unit, _) := fun _ => sendHello_ok B sv name 1 code psk nonce gr ga ow oa oc ou th nx se ca le sn st wa ar now w h
  have c2 := h.cell 2 (v := .int .i64 1) rfl
  have g1 : decide ((size : Int) < 128) = false := decide_eq_false (by omega)
  have g2 : decide ((1200 : Int) < (size : Int)) = false := decide_eq_false (by omega)
  clear h
  go_enter Tryz.func18, Tryz.ntmps18
  go_wp2_with fail
  refine (SH.out ()).mono ?_
  rintro e w1 ⟨rfl, b1⟩
  have Z1 : Hid (ob.Kept (fun k => k = B) w w1) := b1
  clear b1 SH
  go_wp2_with fail
  go_ret2
  exact ⟨rfl, Z1.out⟩
end Go.Proofs.YtbicfhilehllnaaGreatDoor.cn
