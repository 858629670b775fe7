/-
  The law ReplayBack returns true for every greatest number and every row of turns: behind a greatest number others come once. No condition.
-/
import Derived.Test.YtjdkmjpajijkdaaRpInv
import Derived.Test.YtjdkmjpajijkdaaObMapB
import Derived.Test.YtjdkmjpajijkdaaRpOpen
import Derived.LaidLaws
namespace Go.Proofs.Ytjdkmjpajijkdaa.replayBack
set_option maxRecDepth 100000
open Go.ChangeShapes Go.WideShapes Go.ChangeAt Go.RowKit
open Go.ChangeMaps (open_string shut_string)

theorem place (a : Int) (c : Int) (hc : 0 < c) (hc2 : c < 4611686018427387904) : ∃ x : Nat, wrap64 ((IntKind.u64.wrap a).tmod c) = x ∧ (x : Int) < c := by
  have h : 0 ≤ IntKind.u64.wrap a := by rw [IntKind.wrap_u64]; omega
  rw [Int.tmod_eq_emod_of_nonneg h]
  have h1 := Int.emod_nonneg (IntKind.u64.wrap a) (by omega : c ≠ 0)
  have h2 := Int.emod_lt_of_pos (IntKind.u64.wrap a) hc
  refine ⟨(IntKind.u64.wrap a % c).toNat, ?_, by omega⟩
  unfold wrap64
  omega
theorem at_ints (B o N cap i : Nat) (w : World) (h : i < N) :
    (Instr.indexAt 35 (.slice (some ⟨B, o, none⟩) N cap) (.int .i64 (i : Int))).run Try.prog w = .ok (.pointer (some ⟨B, o + i, none⟩)) w := by
  have e : Try.prog.elem 35 = 3 := by kernel_rfl
  rw [run_indexAt_slice (P := Try.prog) w 35 ⟨B, o, none⟩ N cap .i64 i (by rw [e]; exact Try.underlying35), if_pos (by omega), e]
  have s : (sizeOf 3).run Try.prog w = .ok 1 w := Try.sizeOf3 w
  rw [s]
  simp [Addr.add_mid]
theorem grownInv {w0 w w' : World} {B b : Nat} {l : List Int} (h : WInv w0 w B l) (g : w.grownBy w' (some b)) (hb : B < b) (hge : w0.heap.size ≤ b) : WInv w0 w' B l :=
  ⟨h.win.of_block (g.block B h.win.lt (fun e => by injection e with e; omega)), h.ge, h.bel.trans ⟨g.os, g.tape, g.output, g.size, fun k hk => g.block k (Nat.lt_of_lt_of_le hk h.bel.size) (fun e => by injection e with e; omega)⟩⟩
set_option maxHeartbeats 8000000 in
theorem walk_some (top0 : Int) (f : Nat → Int) (b off m cap M : Nat) (w : World) (hb : b < w.heap.size) (hm : m ≤ 9223372036854775807) (hM : (M = m ∧ m ≤ 100) ∨ (M = 100 ∧ 100 < m))
    (hc : ∀ i, i < m → w.cell? ⟨b, off + i, none⟩ = some (.int .i64 (f i))) :
    Calls Try.prog 5 #[.int .i64 top0, .slice (some ⟨b, off, none⟩) m cap] w fun e w' => e = .returned (.bool true) ∧ Below w.heap.size w w' := by
  have hMn : M ≤ m ∧ M ≤ 100 := by omega
  replace hc : Hid _ := hc
  obtain ⟨x0, ex0, hx0⟩ := place top0 1152921504606846976 (by decide) (by decide)
  have hmm := @run_makeMap Try.prog
  have WO : Hid (∀ w, _) := works_ok
  have NA : Hid (∀ w', Below w.heap.size w w' → _) := fun w' b => winv_new w w' b
  go_enter Try.func5, Try.ntmps5
  go_wp2_with fail
  refine (WO.out _).mono ?_
  rintro e w1 ⟨rfl, b1⟩
  have Z1 := Lib.hid b1
  clear b1 WO
  go_wp2_with fail
  refine (NA.out _ Z1.out).mono ?_
  rintro e w2 ⟨B, rfl, n2⟩
  have N2 : Hid (WInv w w2 B []) := n2
  clear n2 NA Z1
  obtain ⟨T, hT⟩ : ∃ T : Int, T = 100 + x0 := ⟨_, rfl⟩
  have hT1 : 100 ≤ T ∧ T ≤ 1152921504606847100 := by omega
  have eT : (100 : Int) + (x0 : Int) = T := hT.symm
  have ez : chk [] T = 0 := by rw [chk_in (by omega) (by omega)]; simp
  have S1 : Hid (∀ w', WInv w w' B [] → Calls Try.prog 10 #[.pointer (some ⟨B, 0, none⟩), .int .i64 T] w' fun e w'' => e = .returned (.int .i64 0) ∧ WInv w w'' B [T]) := fun w' h => by
    have := winv_see T h
    have e : nxt [] T = [T] := if_pos ez
    rw [ez, e] at this
    exact this
  clear ez
  clear hT
  go_wp2_with fail
  refine (S1.out _ N2.out).mono ?_
  rintro e w3 ⟨rfl, n3⟩
  have N3 : Hid (WInv w w3 B [T]) := n3
  have N3' : Hid (WInv w (w3.alloc (.map #[] 0)) B [T]) := n3.keep ((Below.refl _ _).alloc (Nat.le_refl _) _)
  have M3 := Lib.hid (MapB.made w3)
  have hBm : Hid (B < w3.heap.size) := n3.win.lt
  have hge : Hid (w.heap.size ≤ w3.heap.size) := n3.bel.size
  clear n3 N2 S1 N3
  go_wp2_with (refine M3.out.wput (by unfold maxLen; omega) rfl _ _ _ (.inr rfl) (x := T) (v := true) (by omega) rfl rfl rfl ?_)
  intro w4 m4 g4
  have N4 : Hid (WInv w w4 B [T]) := grownInv N3'.out g4 hBm.out hge.out
  have M4 : Hid (MapB w4 w3.heap.size 1 fun y => decide (y ∈ [T])) := by
    have e : (fun y : Int => if y = T then true else false) = fun y => decide (y ∈ [T]) := by funext y; by_cases q : y = T <;> simp [q]
    rw [← e]
    exact m4
  have hlm : Hid (∃ m0, m0 = w3.heap.size) := ⟨_, rfl⟩
  clear m4 g4 M3 N3'
  obtain ⟨m0, hm0⟩ := hlm.out
  rw [← hm0] at M4 hBm hge ⊢
  clear hlm hm0
  go_wp2_with fail
  go_loopg [7] M (fun g iv wr => ∃ (i : Nat) (L : List Int), i + g = M ∧ iv = .int .i64 i ∧ Hid (top L = T) ∧ Hid (T ∈ L) ∧ Hid (WInv w wr B L) ∧ Hid (MapB wr m0 (i + 1) fun y => decide (y ∈ L)))
  case atStart => exact ⟨0, [T], by omega, rfl, by unfold Hid top; simp; omega, by unfold Hid; simp, N4, M4⟩
  case round =>
    clear N4 M4
    obtain ⟨i, L, hi, rfl, htop, hTL, N, MM⟩ := hrel
    by_cases hlt : i < M
    · have q1 : decide (i < m) = true := decide_eq_true (by omega)
      have q2 : decide ((i : Int) < 100) = true := decide_eq_true (by omega)
      have q3 : decide (i < 100) = true := decide_eq_true (by omega)
      obtain ⟨y, ey, hy⟩ := place (f i) 70 (by decide) (by decide)
      obtain ⟨n, hn⟩ : ∃ n : Int, n = T - y := ⟨_, rfl⟩
      have en : T - (y : Int) = n := hn.symm
      have hnb : 31 ≤ n ∧ n ≤ 1152921504606847100 := by omega
      clear hn
      have ia := fun w' => at_ints b off m cap i w' (by omega)
      have c1 := (N.out.bel.cell (p := ⟨b, off + i, none⟩) hb).trans (hc.out i (by omega))
      have S5 : Hid (∀ _ : Unit, _) := fun _ => winv_seeK n N.out
      have ei := chk_in (l := L) (n := n) (by omega) (by omega)
      rw [htop.out] at ei
      have hne : L ≠ [] := fun e => by have := hTL.out; rw [e] at this; cases this
      have hcase : (chk L n = 0 ∧ n ∉ L ∧ T - 64 < n) ∨ (chk L n = 11 ∧ n ∈ L) ∨ (chk L n = 11 ∧ n ∉ L ∧ ¬ T - 64 < n) := by
        rw [ei]
        by_cases g1 : n ∈ L
        · exact .inr (.inl ⟨if_pos (.inr g1), g1⟩)
        · by_cases g2 : n ≤ T - 64
          · exact .inr (.inr ⟨if_pos (.inl ⟨hne, g2⟩), g1, by omega⟩)
          · exact .inl ⟨if_neg (by rintro (q | q); exact g2 q.2; exact g1 q), g1, by omega⟩
      clear ei hne
      have mb := MM.out.lt
      go_wp2_with fail
      refine (S5.out ()).mono ?_
      rintro e w5 ⟨rfl, n5, k5⟩
      have N5 : Hid (WInv w w5 B (nxt L n)) := n5
      have M5 : Hid (MapB w5 m0 (i + 1) fun y => decide (y ∈ L)) := MM.out.of_block (k5.block m0 mb (by have := hBm.out; omega))
      clear n5 k5 S5 N MM c1 ia ey mb
      rcases hcase with ⟨ec, hnm, hgt⟩ | ⟨ec, hnm⟩ | ⟨ec, hnm, hgt⟩
      · have e2 : nxt L n = L ++ [n] := if_pos ec
        rw [ec]
        have hsv : decide (n ∈ L) = false := decide_eq_false hnm
        have gg : decide (T - 64 < n) = true := decide_eq_true hgt
        have eS : (fun y : Int => decide (y = n) || decide (y ∈ L)) = fun y => decide (y ∈ L ++ [n]) := by
          funext y
          by_cases q : y = n
          · simp [q]
          · simp [q]
        have htop2 : Hid (top (L ++ [n]) = T) := by unfold Hid; rw [top_snoc, htop.out]; omega
        have hTL2 : Hid (T ∈ L ++ [n]) := List.mem_append_left _ hTL.out
        clear ec htop hTL hnm
        replace eS : Hid _ := eS
        have N6 : Hid (WInv w w5 B (L ++ [n])) := by unfold Hid; rw [← e2]; exact N5.out
        clear N5 e2
        have lk := M5.out.look (x := n) (by omega)
        rw [hsv] at lk
        go_wp2_with (at_mapUpdate; refine M5.out.wput (by unfold maxLen; omega) rfl _ _ _ (.inl rfl) (x := n) (v := true) (by omega) rfl rfl rfl ?_)
        intro w6 m6 g6
        have N7 : Hid (WInv w w6 B (L ++ [n])) := grownInv N6.out g6 hBm.out hge.out
        have M7 : Hid (MapB w6 m0 (i + 1 + 1) fun y => decide (y ∈ (L ++ [n]))) := by
          unfold Hid
          rw [← eS.out]
          exact m6
        clear m6 g6 M5 N6 lk eS
        go_wp2_with fail
        go_roundg (M - (i + 1))
        case measure => omega
        case rel => exact ⟨i + 1, (L ++ [n]), by omega, by go_num, htop2, hTL2, N7, M7⟩
      · have e2 : nxt L n = L := if_neg (by rw [ec]; decide)
        rw [ec]
        have hsv : decide (n ∈ L) = true := decide_eq_true hnm
        have eS : (fun y : Int => decide (y = n) || decide (y ∈ L)) = fun y => decide (y ∈ L) := by
          funext y
          by_cases q : y = n
          · rw [q, hsv]; simp
          · simp [q]
        have htop2 := htop
        have hTL2 := hTL
        clear ec htop hTL hnm
        replace eS : Hid _ := eS
        have N6 : Hid (WInv w w5 B L) := by unfold Hid; rw [← e2]; exact N5.out
        clear N5 e2
        have lk := M5.out.look (x := n) (by omega)
        rw [hsv] at lk
        go_wp2_with (at_mapUpdate; refine M5.out.wput (by unfold maxLen; omega) rfl _ _ _ (.inl rfl) (x := n) (v := true) (by omega) rfl rfl rfl ?_)
        intro w6 m6 g6
        have N7 : Hid (WInv w w6 B L) := grownInv N6.out g6 hBm.out hge.out
        have M7 : Hid (MapB w6 m0 (i + 1 + 1) fun y => decide (y ∈ L)) := by
          unfold Hid
          rw [← eS.out]
          exact m6
        clear m6 g6 M5 N6 lk eS
        go_wp2_with fail
        go_roundg (M - (i + 1))
        case measure => omega
        case rel => exact ⟨i + 1, L, by omega, by go_num, htop2, hTL2, N7, M7⟩
      · have e2 : nxt L n = L := if_neg (by rw [ec]; decide)
        rw [ec]
        have hsv : decide (n ∈ L) = false := decide_eq_false hnm
        have gg : decide (T - 64 < n) = false := decide_eq_false (by omega)
        have eS : (fun y : Int => !decide (y = n) && decide (y ∈ L)) = fun y => decide (y ∈ L) := by
          funext y
          by_cases q : y = n
          · rw [q, hsv]; simp
          · simp [q]
        have htop2 := htop
        have hTL2 := hTL
        clear ec htop hTL hnm
        replace eS : Hid _ := eS
        have N6 : Hid (WInv w w5 B L) := by unfold Hid; rw [← e2]; exact N5.out
        clear N5 e2
        have lk := M5.out.look (x := n) (by omega)
        rw [hsv] at lk
        go_wp2_with (at_mapUpdate; refine M5.out.wput (by unfold maxLen; omega) rfl _ _ _ (.inl rfl) (x := n) (v := false) (by omega) rfl rfl rfl ?_)
        intro w6 m6 g6
        have N7 : Hid (WInv w w6 B L) := grownInv N6.out g6 hBm.out hge.out
        have M7 : Hid (MapB w6 m0 (i + 1 + 1) fun y => decide (y ∈ L)) := by
          unfold Hid
          rw [← eS.out]
          exact m6
        clear m6 g6 M5 N6 lk eS
        go_wp2_with fail
        go_roundg (M - (i + 1))
        case measure => omega
        case rel => exact ⟨i + 1, L, by omega, by go_num, htop2, hTL2, N7, M7⟩
    · clear hc
      by_cases hin : i < m
      · have q1 : decide (i < m) = true := decide_eq_true hin
        have q2 : decide ((i : Int) < 100) = false := decide_eq_false (by omega)
        have q3 : decide (i < 100) = false := decide_eq_false (by omega)
        have TP : Hid (∀ _ : Unit, _) := fun _ => winv_top N.out
        have hpos : decide (0 < L.length) = true := decide_eq_true (List.length_pos_iff.2 fun e => by have := hTL.out; rw [e] at this; cases this)
        rw [htop.out, hpos] at TP
        clear htop hTL MM hpos
        go_wp2_with fail
        refine (TP.out ()).mono ?_
        rintro e w9 ⟨rfl, n9⟩
        have N9 := Lib.hid n9
        clear n9 TP N
        go_wp2_with fail
        go_ret
        exact ⟨rfl, N9.out.bel⟩
      · have q1 : decide (i < m) = false := decide_eq_false hin
        have TP : Hid (∀ _ : Unit, _) := fun _ => winv_top N.out
        have hpos : decide (0 < L.length) = true := decide_eq_true (List.length_pos_iff.2 fun e => by have := hTL.out; rw [e] at this; cases this)
        rw [htop.out, hpos] at TP
        clear htop hTL MM hpos
        go_wp2_with fail
        refine (TP.out ()).mono ?_
        rintro e w9 ⟨rfl, n9⟩
        have N9 := Lib.hid n9
        clear n9 TP N
        go_wp2_with fail
        go_ret
        exact ⟨rfl, N9.out.bel⟩


set_option maxHeartbeats 4000000 in
theorem walk_none (top0 : Int) (a : Option Addr) (m cap : Nat) (hm : m = 0) (w : World) :
    Calls Try.prog 5 #[.int .i64 top0, .slice a m cap] w fun e w' => e = .returned (.bool true) ∧ Below w.heap.size w w' := by
  obtain ⟨x0, ex0, hx0⟩ := place top0 1152921504606846976 (by decide) (by decide)
  have hmm := @run_makeMap Try.prog
  have WO : Hid (∀ w, _) := works_ok
  have NA : Hid (∀ w', Below w.heap.size w w' → _) := fun w' b => winv_new w w' b
  go_enter Try.func5, Try.ntmps5
  go_wp2_with fail
  refine (WO.out _).mono ?_
  rintro e w1 ⟨rfl, b1⟩
  have Z1 := Lib.hid b1
  clear b1 WO
  go_wp2_with fail
  refine (NA.out _ Z1.out).mono ?_
  rintro e w2 ⟨B, rfl, n2⟩
  have N2 : Hid (WInv w w2 B []) := n2
  clear n2 NA Z1
  obtain ⟨T, hT⟩ : ∃ T : Int, T = 100 + x0 := ⟨_, rfl⟩
  have hT1 : 100 ≤ T ∧ T ≤ 1152921504606847100 := by omega
  have eT : (100 : Int) + (x0 : Int) = T := hT.symm
  have ez : chk [] T = 0 := by rw [chk_in (by omega) (by omega)]; simp
  have S1 : Hid (∀ w', WInv w w' B [] → Calls Try.prog 10 #[.pointer (some ⟨B, 0, none⟩), .int .i64 T] w' fun e w'' => e = .returned (.int .i64 0) ∧ WInv w w'' B [T]) := fun w' h => by
    have := winv_see T h
    have e : nxt [] T = [T] := if_pos ez
    rw [ez, e] at this
    exact this
  clear ez
  clear hT
  go_wp2_with fail
  refine (S1.out _ N2.out).mono ?_
  rintro e w3 ⟨rfl, n3⟩
  have N3 : Hid (WInv w w3 B [T]) := n3
  have N3' : Hid (WInv w (w3.alloc (.map #[] 0)) B [T]) := n3.keep ((Below.refl _ _).alloc (Nat.le_refl _) _)
  have M3 := Lib.hid (MapB.made w3)
  have hBm : Hid (B < w3.heap.size) := n3.win.lt
  have hge : Hid (w.heap.size ≤ w3.heap.size) := n3.bel.size
  clear n3 N2 S1 N3
  go_wp2_with (refine M3.out.wput (by unfold maxLen; omega) rfl _ _ _ (.inr rfl) (x := T) (v := true) (by omega) rfl rfl rfl ?_)
  intro w4 m4 g4
  have N4 : Hid (WInv w w4 B [T]) := grownInv N3'.out g4 hBm.out hge.out
  have M4 : Hid (MapB w4 w3.heap.size 1 fun y => decide (y ∈ [T])) := by
    have e : (fun y : Int => if y = T then true else false) = fun y => decide (y ∈ [T]) := by funext y; by_cases q : y = T <;> simp [q]
    rw [← e]
    exact m4
  have hlm : Hid (∃ m0, m0 = w3.heap.size) := ⟨_, rfl⟩
  clear m4 g4 M3 N3'
  obtain ⟨m0, hm0⟩ := hlm.out
  rw [← hm0] at M4 hBm hge ⊢
  clear hlm hm0
  go_wp2_with fail
  go_loopg [7] 0 (fun g iv wr => ∃ (i : Nat) (L : List Int), i + g = 0 ∧ iv = .int .i64 i ∧ Hid (top L = T) ∧ Hid (T ∈ L) ∧ Hid (WInv w wr B L) ∧ Hid (MapB wr m0 (i + 1) fun y => decide (y ∈ L)))
  case atStart => exact ⟨0, [T], by omega, rfl, by unfold Hid top; simp; omega, by unfold Hid; simp, N4, M4⟩
  case round =>
    clear N4 M4
    obtain ⟨i, L, hi, rfl, htop, hTL, N, MM⟩ := hrel
    obtain rfl : i = 0 := by omega
    subst hm
    have q1 : decide ((0 : Nat) < 0) = false := rfl
    clear ex0 eT hmm hx0 hi
    have TP : Hid (∀ _ : Unit, _) := fun _ => winv_top N.out
    have hpos : decide (0 < L.length) = true := decide_eq_true (List.length_pos_iff.2 fun e => by have := hTL.out; rw [e] at this; cases this)
    rw [htop.out, hpos] at TP
    clear htop hTL MM hpos
    go_wp2_with fail
    refine (TP.out ()).mono ?_
    rintro e w9 ⟨rfl, n9⟩
    have N9 := Lib.hid n9
    clear n9 TP N
    go_wp2_with fail
    go_ret
    exact ⟨rfl, N9.out.bel⟩

theorem walk (top0 : Int) (a : Option Addr) (m cap : Nat) (f : Nat → Int) (w : World) (hm : m ≤ maxLen) (hs : Nums w a m f) :
    Calls Try.prog 5 #[.int .i64 top0, .slice a m cap] w fun e w' => e = .returned (.bool true) ∧ Below w.heap.size w w' := by
  have hm' : m ≤ 9223372036854775807 := by unfold maxLen at hm; omega
  rcases hs with h0 | ⟨b, off, rfl, hb, hc⟩
  · exact walk_none top0 a m cap h0 w
  · by_cases h : m ≤ 100
    · exact walk_some top0 f b off m cap m w hb hm' (.inl ⟨rfl, h⟩) hc
    · exact walk_some top0 f b off m cap 100 w hb hm' (.inr ⟨rfl, by omega⟩) hc

theorem contract (H : Type) (enc : TypeId × Value → H) (W : World) (base : Nat) (args : Array Value) (ds gs : List (DataW H)) (before : List MemPlace)
    (hval : ∀ (j : Nat) t v, Try.f5.params[j]? = some t → args[j]? = some v → Value.okWide Try.prog W .any base t v)
    (hW : DataW.Whole enc Try.prog Try.f5.params.toList Rows.replayBackSpec.vars false W args.toList ds gs before) :
    Calls Try.prog 5 args W fun e W' => ∃ v, e = .returned v ∧ Rows.replayBackSpec.post enc Try.prog Try.f5 false true false false W args v W' := by
  have hW' := hW
  obtain ⟨p, q, hA0, hV, rfl, hfz, hnd⟩ := hW
  have hA : DataW.TrodAll enc Try.prog W 0 (fun _ => true) true Try.f5.params.toList args.toList ds p := hA0
  rw [Try.params5] at hA hval
  obtain ⟨v0, vs0, d0, ds0, p0, q0, hargs, rfl, rfl, h0, r0⟩ := trodAll_cons hA
  obtain ⟨v1, vs1, d1, ds1, p1, q1, rfl, rfl, rfl, h1, r1⟩ := trodAll_cons r0
  obtain ⟨rfl, rfl, rfl⟩ := trodAll_nil r1
  obtain rfl : args = #[v0, v1] := by cases args; simp_all
  obtain ⟨rfl, rfl⟩ := trodVars_none hV
  obtain ⟨a0, rfl, rfl, rfl, w0⟩ := open_int Try.underlying2 (hval 0 2 v0 rfl rfl) h0
  have b0 := bounds_i64 w0
  have k1 := h1
  have lt1 : ∀ x ∈ p1, x.block < W.heap.size := by obtain ⟨m, hm⟩ := k1; exact DataW.trod_lt m _ _ _ hm
  obtain ⟨a1, n1, c1, f1, rfl, hn1, hz1, hs1⟩ := open_i64s Try.underlying35 Try.underlying3 (by kernel_rfl) (hval 1 35 v1 rfl rfl) h1
  clear hA0
  simp only [List.append_nil] at hW'
  refine (walk a0 a1 n1 c1 f1 W hn1 hs1).mono fun e W' ⟨he, bel⟩ => ?_
  subst he
  exact ⟨_, rfl, _, _, _, [], _, [], hW', trodAll_mk1 (shut_bool Try.underlying4 _), (trodAll_cons_mk (shut_int Try.underlying2 w0) (trodAll_cons_mk (Below.trod laidOut (by kernel_rfl) (of_decide_eq_true (by kernel_rfl)) k1 bel lt1) trodAll_mk0)), rfl, bel.frame _, fun h => by cases h⟩

theorem laid_met (os : Os) : laidMet Try.prog Rows.replayBackRow.laid ((startWorld Try.prog os).forCall (fun _ _ => 0) ⟨#[], #[.int .i64 0, .slice none 0 0], []⟩).memory :=
  laidMet_of_run' 8 (by kernel_rfl) (by kernel_rfl)
theorem reads (os : Os) {H : Type} (enc : TypeId × Value → H) : ∃ places, DataW.whole enc Try.prog ((startWorld Try.prog os).forCall (fun _ _ => 0) ⟨#[], #[.int .i64 0, .slice none 0 0], []⟩).memory Try.f5.params.toList Rows.replayBackSpec.vars false #[Value.int .i64 0, Value.slice none 0 0].toList 8 = some ([.lit (.int .i64 0), .nil], [], places) :=
  ⟨[], by kernel_rfl⟩

set_option maxRecDepth 100000 in
theorem lifted (os : Os) (started : os.Started) (H : Type) (enc : TypeId × Value → H) (F : Stop.Interp) :
    ReturnsInHanded {} Try.checked os 5 .any ((OpenSpec.ofChange Rows.replayBackSpec).preRow enc Try.prog Try.f5 Rows.replayBackRow.domain false Rows.replayBackRow.laid) (((OpenSpec.ofChange Rows.replayBackSpec).at F).post enc Try.prog Try.f5 false true false false) := by
  obtain ⟨places, hx⟩ := reads os enc
  refine returnsInHanded_of_row (C := Try.checked) (s := OpenSpec.ofChange Rows.replayBackSpec) own started (by kernel_rfl) Try.func5
    (witness_row_at (enc := enc) (C := Try.checked) false (startWorld Try.prog os) #[.int .i64 0, .slice none 0 0] rfl (by kernel_rfl) (by kernel_rfl) (by kernel_rfl)
      (OpenSpec.preRow_of_cond 8 hx (by kernel_rfl) (fun k hk => by cases hk) (by kernel_rfl) (laid_met os))) ?_
  intro W base args ds gs before hval hW _ _ _ _ _ _
  exact contract H enc W base args ds gs before hval hW

theorem said : Rows.ReplayBackSaid :=
  OpenClaim.holds_of_cond 5 Try.f5 rfl rfl rfl rfl rfl rfl rfl ⟨rfl, rfl, rfl, rfl, rfl⟩ rfl rfl rfl rfl rfl (by kernel_rfl) Try.func5 (by kernel_rfl)
    (of_decide_eq_true (by kernel_rfl)) (by unfold Func.isWrapper; first | (rw [if_pos (by decide +kernel)]; kernel_rfl) | (rw [if_neg (by decide +kernel)]; exact ⟨rfl, rfl⟩))
    (fun os started H enc _ F => by rw [OpenClaim.pre_eq_preRow]; exact lifted os started H enc F)
end Go.Proofs.Ytjdkmjpajijkdaa.replayBack
namespace Go.Proofs.Ytjdkmjpajijkdaa
theorem replayBack_said : Rows.ReplayBackSaid := replayBack.said
end Go.Proofs.Ytjdkmjpajijkdaa
