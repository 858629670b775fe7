/-
  The law SealOwn returns true for every secret, row of texts and number: two keys of one secret seal and open alike. No condition but the form's own reach.
-/
import Derived.Test.YteajkegokaggcaaDoorSeWorks
import Derived.Test.YteajkegokaggcaaDoorSeDraw
import Derived.Test.YteajkegokaggcaaDoorSeTab
import Derived.Test.YteajkegokaggcaaDoorShOpen
import Derived.LaidLaws
namespace Go.Proofs.YteajkegokaggcaaDoor.sealOwn
set_option maxRecDepth 100000
open Go.ChangeShapes Go.WideShapes Go.ChangeAt Go.RowKit
open Go.ChangeMaps (open_string shut_string)

theorem at_strs (B o N cap i : Nat) (w : World) (h : i < N) :
    (Instr.indexAt 37 (.slice (some ⟨B, o, none⟩) N cap) (.int .i64 (i : Int))).run Tryd.prog w = .ok (.pointer (some ⟨B, o + i, none⟩)) w := by
  have e : Tryd.prog.elem 37 = 9 := by kernel_rfl
  rw [run_indexAt_slice (P := Tryd.prog) w 37 ⟨B, o, none⟩ N cap .i64 i (by rw [e]; exact Tryd.underlying37), if_pos (by omega), e]
  have s : (sizeOf 9).run Tryd.prog w = .ok 1 w := Tryd.sizeOf9 w
  rw [s]
  simp [Addr.add_mid]
set_option maxHeartbeats 8000000 in
set_option maxRecDepth 100000 in
theorem walk_some (secret : ByteArray) (f : Nat → ByteArray) (b off m cap M : Nat) (n : Int) (w : World) (t : STab w) (hs : secret.size ≤ 500) (hb : b < w.heap.size) (hm : m ≤ 8796093022208) (hM : (M = m ∧ m ≤ 10) ∨ (M = 10 ∧ 10 < m))
    (hc : ∀ i, i < m → w.cell? ⟨b, off + i, none⟩ = some (.string (f i))) :
    Calls Tryd.prog 5 #[.string secret, .slice (some ⟨b, off, none⟩) m cap, .int .i64 n] w fun e w' => e = .returned (.bool true) ∧ Below w.heap.size w w' := by
  have hMn : M ≤ m ∧ M ≤ 10 := by omega
  replace hc : Hid _ := hc
  have WO : Hid (∀ w, STab w → _) := works_ok
  have NA : Hid (∀ w', Below w.heap.size w w' → _) := fun w' b => sinv_new secret w w' b t
  have NB : Hid (∀ w' v, SInv w w' v secret 0 0 → _) := fun w' v h => sinv2_new t secret h
  have q0 : decide ((500 : Int) < (secret.size : Int)) = false := decide_eq_false (by omega)
  go_enter Tryd.func5, Tryd.ntmps5
  go_wp2_with fail
  refine (WO.out _ t).mono ?_
  rintro e w1 ⟨rfl, b1⟩
  have Z1 := Lib.hid b1
  clear b1 WO
  go_wp2_with fail
  refine (NA.out _ Z1.out).mono ?_
  rintro e w2 ⟨p, rfl, n2⟩
  have N2 := Lib.hid n2
  clear n2 NA Z1
  go_wp2_with fail
  refine (NB.out _ _ N2.out).mono ?_
  rintro e w3 ⟨q, rfl, n3⟩
  have N3 : Hid (SInv2 w w3 (.pointer (some p)) secret 0 0 (.pointer (some q)) secret 0 0) := n3
  clear n3 NB N2
  go_wp2_with fail
  go_loopg [9] M (fun g iv wr => ∃ i : Nat, i + g = M ∧ iv = .int .i64 i ∧ Hid (SInv2 w wr (.pointer (some p)) secret i 0 (.pointer (some q)) secret 0 i))
  case atStart => exact ⟨0, by omega, rfl, N3⟩
  case round =>
    clear N3
    obtain ⟨i, hi, rfl, N⟩ := hrel
    by_cases hlt : i < M
    · have q1 : decide (i < m) = true := decide_eq_true (by omega)
      have q2 : decide ((i : Int) < 10) = true := decide_eq_true (by omega)
      have q3 : decide (i < 10) = true := decide_eq_true (by omega)
      have c1 := (N.out.below.cell (p := ⟨b, off + i, none⟩) hb).trans (hc.out i (by omega))
      by_cases hf : 300 < (f i).size
      · have q4 : decide ((300 : Int) < ((f i).size : Int)) = true := decide_eq_true (by omega)
        go_wp2_with fail
        go_ret
        exact ⟨rfl, N.out.below⟩
      · have q4 : decide ((300 : Int) < ((f i).size : Int)) = false := decide_eq_false (by omega)
        obtain ⟨o1, o2⟩ := open_seal secret n ⟨#[]⟩ (f i)
        have zs := sld_size secret n ⟨#[]⟩ (f i)
        have SA : Hid (∀ w' , SInv2 w w' (.pointer (some p)) secret i 0 (.pointer (some q)) secret 0 i → _) := fun w' h => sinv2_seal t n ⟨#[]⟩ (f i) h (by omega) (by decide) (by omega) (by omega) (by decide)
        have OB : Hid (∀ w' , SInv2 w w' (.pointer (some q)) secret 0 i (.pointer (some p)) secret (i + 1) 0 → _) := fun w' h => sinv2_open t n ⟨#[]⟩ (sld secret n ⟨#[]⟩ (f i)) h (by omega) (by decide) (by omega) (by decide) (by omega)
        rw [o1, o2, if_pos rfl] at OB
        have NW : Hid (∀ w', STab w' → _) := fun w' h => sinv_new secret w' w' (Below.refl _ _) h
        have SN : Hid (∀ w' w'' v, STab w' → SInv w' w'' v secret 0 0 → _) := fun w' w'' v tw h => sinv_seal tw n ⟨#[]⟩ (f i) h (by omega) (by decide) (by omega) (by decide) (by decide)
        clear o1 o2 zs
        generalize sld secret n ⟨#[]⟩ (f i) = X at *
        go_wp2_with fail
        refine (SA.out _ N.out).mono ?_
        rintro e w4' ⟨rfl, n4⟩
        have N4' := Lib.hid n4.swap
        have c2 := (n4.below.cell (p := ⟨b, off + i, none⟩) hb).trans (hc.out i (by omega))
        clear n4 SA N c1
        go_wp2_with fail
        refine (OB.out _ N4'.out).mono ?_
        rintro e w4 ⟨rfl, n4⟩
        have N4 : Hid (SInv2 w w4 (.pointer (some p)) secret (i + 1) 0 (.pointer (some q)) secret 0 (i + 1)) := n4.swap
        have c4 := (n4.below.cell (p := ⟨b, off + i, none⟩) hb).trans (hc.out i (by omega))
        have hb4 : b < w4.heap.size := Nat.lt_of_lt_of_le hb n4.below.size
        have N4d : Hid (SInv2 w w4.drew (.pointer (some p)) secret (i + 1) 0 (.pointer (some q)) secret 0 (i + 1)) := N4.out.keep t (dr _ _)
        clear n4 OB N4' c2 N4
        go_wp2_with fail
        refine wp_region_any (by kernel_rfl) ?_
        change wpAny _ .any _ _ 22 (Array.replicate 22 false) _ w4.drew
        have c5 : w4.drew.cell? ⟨b, off + i, none⟩ = some (.string (f i)) := c4
        have ixs := fun w' => at_strs b off m cap i w' (by omega)
        refine take_slot (i := 0) (d := 52) (v := .string (f i)) rfl rfl (by kernel_rfl) (by kernel_rfl) (by kernel_rfl) (fun _ _ _ h => h) rfl (fun w => by go_simp) ?_
        refine take_slot (i := 1) (d := 53) (v := (.slice (some ⟨b, off, none⟩) m cap)) rfl rfl (by kernel_rfl) (by kernel_rfl) (by kernel_rfl) (fun _ _ _ h => h) rfl (fun w => by go_simp) ?_
        refine take_slot (i := 2) (d := 54) (v := .int .i64 (i : Int)) rfl rfl (by kernel_rfl) (by kernel_rfl) (by kernel_rfl) (fun _ _ _ h => h) rfl (fun w => by go_simp) ?_
        refine take_slot (i := 3) (d := 55) (v := .pointer (some ⟨b, off + i, none⟩)) rfl rfl (by kernel_rfl) (by kernel_rfl) (by kernel_rfl) (fun _ _ _ h => h) rfl (fun w => by go_simp) ?_
        simp only [Act.put, List.setIfInBounds_toArray, List.set_cons_succ, List.set_cons_zero]
        refine wpAny_all (rs := [4]) (by kernel_rfl) (by simp) (fun j hj => ?_)
        obtain rfl : j = 4 := by simpa using hj
        refine wpOp_step rfl (fun K' hK => ?_)
        clear hj
        go_simp
        refine hK _ _ ?_
        clear hK K'
        refine take_slot (i := 5) (d := 57) (v := .bool false) rfl rfl (by kernel_rfl) (by kernel_rfl) (by kernel_rfl) (fun _ _ _ h => h) rfl (fun w => by go_simp) ?_
        refine take_slot (i := 6) (d := 58) (v := .bool false) rfl rfl (by kernel_rfl) (by kernel_rfl) (by kernel_rfl) (fun _ _ _ h => h) rfl (fun w => by go_simp) ?_
        simp only [Act.put, List.setIfInBounds_toArray, List.set_cons_succ, List.set_cons_zero]
        refine take_slotG (i := 7) (d := 59) (v := .int .i64 0) rfl rfl (by kernel_rfl) (by kernel_rfl) (by kernel_rfl) (fun _ _ _ h => h) (by kernel_rfl) (fun w => by go_simp) ?_
        refine take_slotG (i := 8) (d := 60) (v := .bool false) rfl rfl (by kernel_rfl) (by kernel_rfl) (by kernel_rfl) (fun _ _ _ h => h) (by kernel_rfl) (fun w => by go_simp) ?_
        refine take_slot (i := 9) (d := 61) (v := .bool false) rfl rfl (by kernel_rfl) (by kernel_rfl) (by kernel_rfl) (fun _ _ _ h => h) rfl (fun w => by go_simp) ?_
        refine take_slot (i := 10) (d := 62) (v := .bool false) rfl rfl (by kernel_rfl) (by kernel_rfl) (by kernel_rfl) (fun _ _ _ h => h) rfl (fun w => by go_simp) ?_
        simp only [Act.put, List.setIfInBounds_toArray, List.set_cons_succ, List.set_cons_zero]
        refine take_slotG (i := 11) (d := 63) (v := .string secret) rfl rfl (by kernel_rfl) (by kernel_rfl) (by kernel_rfl) (fun _ _ _ h => h) (by kernel_rfl) (fun w => by go_simp) ?_
        refine take_slotG (i := 13) (d := 65) (v := .int .i64 n) rfl rfl (by kernel_rfl) (by kernel_rfl) (by kernel_rfl) (fun _ _ _ h => h) (by kernel_rfl) (fun w => by go_simp) ?_
        refine take_slotG (i := 14) (d := 66) (v := (.slice (some ⟨b, off, none⟩) m cap)) rfl rfl (by kernel_rfl) (by kernel_rfl) (by kernel_rfl) (fun _ _ _ h => h) (by kernel_rfl) (fun w => by go_simp) ?_
        refine take_slotG (i := 15) (d := 67) (v := .int .i64 (i : Int)) rfl rfl (by kernel_rfl) (by kernel_rfl) (by kernel_rfl) (fun _ _ _ h => h) (by kernel_rfl) (fun w => by go_simp) ?_
        simp only [Act.put, List.setIfInBounds_toArray, List.set_cons_succ, List.set_cons_zero]
        refine take_slotG (i := 16) (d := 68) (v := .pointer (some ⟨b, off + i, none⟩)) rfl rfl (by kernel_rfl) (by kernel_rfl) (by kernel_rfl) (fun _ _ _ h => h) (by kernel_rfl) (fun w => by go_simp) ?_
        refine take_slotG (i := 19) (d := 71) (v := .string X) rfl rfl (by kernel_rfl) (by kernel_rfl) (by kernel_rfl) (fun _ _ _ h => h) (by kernel_rfl) (fun w => by go_simp) ?_
        simp only [Act.put, List.setIfInBounds_toArray, List.set_cons_succ, List.set_cons_zero]
        refine wpAny_all (rs := [12, 17]) (by kernel_rfl) (by simp) (fun j hj => ?_)
        rcases (show j = 12 ∨ j = 17 by simpa using hj) with rfl | rfl
        · refine wpOp_stepG rfl (by kernel_rfl) (fun K' hK => ?_)
          clear hj
          refine call1_wp (k := 63) (d := 64) (x := .string secret) 8 _ rfl rfl _ _ _ _ (enter_new _) rfl (NW.out _ N4d.out.tab) (fun e w5 hR => ?_)
          obtain ⟨p5, rfl, n5⟩ := hR
          refine ⟨_, rfl, hK _ _ ?_⟩
          clear hK K'
          have N5 := Lib.hid n5
          have c6 := (n5.below.cell (p := ⟨b, off + i, none⟩) hb4).trans c5
          clear n5
          simp only [Act.put, List.setIfInBounds_toArray, List.set_cons_succ, List.set_cons_zero]
          refine wpAny_all (rs := [17]) (by kernel_rfl) (by simp) (fun j hj => ?_)
          obtain rfl : j = 17 := by simpa using hj
          refine wpOp_stepG rfl (by kernel_rfl) (fun K' hK => ?_)
          clear hj
          go_simp
          refine hK _ _ ?_
          clear hK K'
          refine wpAny_all (rs := [18]) (by kernel_rfl) (by simp) (fun j hj => ?_)
          obtain rfl : j = 18 := by simpa using hj
          refine wpOp_stepG rfl (by kernel_rfl) (fun K' hK => ?_)
          clear hj
          refine call4_wp (k1 := 64) (k2 := 65) (k3 := 69) (d := 70) (x1 := .pointer (some p5)) (x2 := .int .i64 n) (x3 := .string (f i)) (c := .string ⟨#[]⟩) 9 _ rfl rfl _ _ _ _ (enter_seal _ _ _ _) rfl rfl rfl (SN.out _ _ _ N4d.out.tab N5.out) (fun e w6 hR => ?_)
          obtain ⟨rfl, n6⟩ := hR
          refine ⟨_, rfl, hK _ _ ?_⟩
          clear hK K'
          have N6 := Lib.hid (N4d.out.keep t n6.below)
          have c7 := (n6.below.cell (p := ⟨b, off + i, none⟩) hb4).trans c5
          clear n6 N5 N4d
          simp only [Act.put, List.setIfInBounds_toArray, List.set_cons_succ, List.set_cons_zero]
          refine take_slotG (i := 20) (d := 72) (v := .bool false) rfl rfl (by kernel_rfl) (by kernel_rfl) (by kernel_rfl) (fun _ _ _ h => h) (by kernel_rfl) (fun w => by go_simp) ?_
          refine take_slot (i := 21) (d := 73) (v := .bool false) rfl rfl (by kernel_rfl) (by kernel_rfl) (by kernel_rfl) (fun _ _ _ h => h) rfl (fun w => by go_simp) ?_
          simp only [Act.put, List.setIfInBounds_toArray, List.set_cons_succ, List.set_cons_zero]
          refine wpAny_done (by kernel_rfl) ?_ 0
          go_wp2_with fail
          go_roundg (M - (i + 1))
          case measure => omega
          case rel => exact ⟨i + 1, by omega, by go_num, N6⟩
        · refine wpOp_stepG rfl (by kernel_rfl) (fun K' hK => ?_)
          clear hj
          go_simp
          refine hK _ _ ?_
          clear hK K'
          refine wpAny_all (rs := [12]) (by kernel_rfl) (by simp) (fun j hj => ?_)
          obtain rfl : j = 12 := by simpa using hj
          refine wpOp_stepG rfl (by kernel_rfl) (fun K' hK => ?_)
          clear hj
          refine call1_wp (k := 63) (d := 64) (x := .string secret) 8 _ rfl rfl _ _ _ _ (enter_new _) rfl (NW.out _ N4d.out.tab) (fun e w5 hR => ?_)
          obtain ⟨p5, rfl, n5⟩ := hR
          refine ⟨_, rfl, hK _ _ ?_⟩
          clear hK K'
          have N5 := Lib.hid n5
          have c6 := (n5.below.cell (p := ⟨b, off + i, none⟩) hb4).trans c5
          clear n5
          simp only [Act.put, List.setIfInBounds_toArray, List.set_cons_succ, List.set_cons_zero]
          refine wpAny_all (rs := [18]) (by kernel_rfl) (by simp) (fun j hj => ?_)
          obtain rfl : j = 18 := by simpa using hj
          refine wpOp_stepG rfl (by kernel_rfl) (fun K' hK => ?_)
          clear hj
          refine call4_wp (k1 := 64) (k2 := 65) (k3 := 69) (d := 70) (x1 := .pointer (some p5)) (x2 := .int .i64 n) (x3 := .string (f i)) (c := .string ⟨#[]⟩) 9 _ rfl rfl _ _ _ _ (enter_seal _ _ _ _) rfl rfl rfl (SN.out _ _ _ N4d.out.tab N5.out) (fun e w6 hR => ?_)
          obtain ⟨rfl, n6⟩ := hR
          refine ⟨_, rfl, hK _ _ ?_⟩
          clear hK K'
          have N6 := Lib.hid (N4d.out.keep t n6.below)
          have c7 := (n6.below.cell (p := ⟨b, off + i, none⟩) hb4).trans c5
          clear n6 N5 N4d
          simp only [Act.put, List.setIfInBounds_toArray, List.set_cons_succ, List.set_cons_zero]
          refine take_slotG (i := 20) (d := 72) (v := .bool false) rfl rfl (by kernel_rfl) (by kernel_rfl) (by kernel_rfl) (fun _ _ _ h => h) (by kernel_rfl) (fun w => by go_simp) ?_
          refine take_slot (i := 21) (d := 73) (v := .bool false) rfl rfl (by kernel_rfl) (by kernel_rfl) (by kernel_rfl) (fun _ _ _ h => h) rfl (fun w => by go_simp) ?_
          simp only [Act.put, List.setIfInBounds_toArray, List.set_cons_succ, List.set_cons_zero]
          refine wpAny_done (by kernel_rfl) ?_ 0
          go_wp2_with fail
          go_roundg (M - (i + 1))
          case measure => omega
          case rel => exact ⟨i + 1, by omega, by go_num, N6⟩
    · clear hc
      by_cases hin : i < m
      · have q1 : decide (i < m) = true := decide_eq_true hin
        have q2 : decide ((i : Int) < 10) = false := decide_eq_false (by omega)
        have q3 : decide (i < 10) = false := decide_eq_false (by omega)
        go_wp2_with fail
        go_ret
        exact ⟨rfl, N.out.below⟩
      · have q1 : decide (i < m) = false := decide_eq_false hin
        go_wp2_with fail
        go_ret
        exact ⟨rfl, N.out.below⟩

set_option maxHeartbeats 2000000 in
theorem walk_none (secret : ByteArray) (a : Option Addr) (m cap : Nat) (n : Int) (hm : m = 0) (w : World) (t : STab w) (hs : secret.size ≤ 500) :
    Calls Tryd.prog 5 #[.string secret, .slice a m cap, .int .i64 n] w fun e w' => e = .returned (.bool true) ∧ Below w.heap.size w w' := by
  have WO : Hid (∀ w, STab w → _) := works_ok
  have NA : Hid (∀ w', Below w.heap.size w w' → _) := fun w' b => sinv_new secret w w' b t
  have NB : Hid (∀ w' v, SInv w w' v secret 0 0 → _) := fun w' v h => sinv2_new t secret h
  have q0 : decide ((500 : Int) < (secret.size : Int)) = false := decide_eq_false (by omega)
  go_enter Tryd.func5, Tryd.ntmps5
  go_wp2_with fail
  refine (WO.out _ t).mono ?_
  rintro e w1 ⟨rfl, b1⟩
  have Z1 := Lib.hid b1
  clear b1 WO
  go_wp2_with fail
  refine (NA.out _ Z1.out).mono ?_
  rintro e w2 ⟨p, rfl, n2⟩
  have N2 := Lib.hid n2
  clear n2 NA Z1
  go_wp2_with fail
  refine (NB.out _ _ N2.out).mono ?_
  rintro e w3 ⟨q, rfl, n3⟩
  have N3 : Hid (SInv2 w w3 (.pointer (some p)) secret 0 0 (.pointer (some q)) secret 0 0) := n3
  clear n3 NB N2
  go_wp2_with fail
  go_loopg [9] 0 (fun g iv wr => ∃ i : Nat, i + g = 0 ∧ iv = .int .i64 i ∧ Hid (SInv2 w wr (.pointer (some p)) secret i 0 (.pointer (some q)) secret 0 i))
  case atStart => exact ⟨0, by omega, rfl, N3⟩
  case round =>
    clear N3
    obtain ⟨i, hi, rfl, N⟩ := hrel
    have q1 : decide (i < m) = false := decide_eq_false (by omega)
    go_wp2_with fail
    go_ret
    exact ⟨rfl, N.out.below⟩

set_option maxHeartbeats 2000000 in
theorem walk_out (secret : ByteArray) (a : Option Addr) (m cap : Nat) (n : Int) (w : World) (t : STab w) (hs : 500 < secret.size) :
    Calls Tryd.prog 5 #[.string secret, .slice a m cap, .int .i64 n] w fun e w' => e = .returned (.bool true) ∧ Below w.heap.size w w' := by
  have WO : Hid (∀ w, STab w → _) := works_ok
  have q0 : decide ((500 : Int) < (secret.size : Int)) = true := decide_eq_true (by omega)
  go_enter Tryd.func5, Tryd.ntmps5
  go_wp2_with fail
  refine (WO.out _ t).mono ?_
  rintro e w1 ⟨rfl, b1⟩
  have Z1 := Lib.hid b1
  clear b1 WO
  go_wp2_with fail
  go_ret
  exact ⟨rfl, Z1.out⟩
theorem walk (secret : ByteArray) (a : Option Addr) (m cap : Nat) (f : Nat → ByteArray) (n : Int) (w : World) (t : STab w) (hm : m ≤ 8796093022208) (hs : Strs w a m f) :
    Calls Tryd.prog 5 #[.string secret, .slice a m cap, .int .i64 n] w fun e w' => e = .returned (.bool true) ∧ Below w.heap.size w w' := by
  by_cases h5 : secret.size ≤ 500
  · rcases hs with h0 | ⟨b, off, rfl, hb, hc⟩
    · exact walk_none secret a m cap n h0 w t h5
    · by_cases h : m ≤ 10
      · exact walk_some secret f b off m cap m n w t h5 hb hm (.inl ⟨rfl, h⟩) hc
      · exact walk_some secret f b off m cap 10 n w t h5 hb hm (.inr ⟨rfl, by omega⟩) hc
  · exact walk_out secret a m cap n w t (by omega)

set_option maxRecDepth 100000 in
theorem contract (H : Type) (enc : TypeId × Value → H) (W : World) (base : Nat) (args : Array Value) (ds gs : List (DataW H)) (before : List MemPlace)
    (hval : ∀ (j : Nat) t v, Tryd.f5.params[j]? = some t → args[j]? = some v → Value.okWide Tryd.prog W .any base t v)
    (hW : DataW.Whole enc Tryd.prog Tryd.f5.params.toList Rows.sealOwnSpec.vars false W args.toList ds gs before) (hT : STab W)
    (hsz : (DataW.weightsEach Tryd.prog (Tryd.f5.params.toList ++ (OpenSpec.ofChange Rows.sealOwnSpec).bare.plain.varTypes Tryd.prog) (ds ++ gs)).all (· ≤ reachBytes) = true) :
    Calls Tryd.prog 5 args W fun e W' => ∃ v, e = .returned v ∧ Rows.sealOwnSpec.post enc Tryd.prog Tryd.f5 false true false false W args v W' := by
  have hW' := hW
  obtain ⟨p, q, hA0, hV, rfl, hfz, hnd⟩ := hW
  have hA : DataW.TrodAll enc Tryd.prog W 0 (fun _ => true) true Tryd.f5.params.toList args.toList ds p := hA0
  rw [Tryd.params5] at hA hval hsz
  obtain ⟨v0, vs0, d0, ds0, p0, q0, hargs, rfl, rfl, h0, r0⟩ := trodAll_cons hA
  obtain ⟨v1, vs1, d1, ds1, p1, q1, rfl, rfl, rfl, h1, r1⟩ := trodAll_cons r0
  obtain ⟨v2, vs2, d2, ds2, p2, q2, rfl, rfl, rfl, h2, r2⟩ := trodAll_cons r1
  obtain ⟨rfl, rfl, rfl⟩ := trodAll_nil r2
  obtain rfl : args = #[v0, v1, v2] := by cases args; simp_all
  obtain ⟨rfl, rfl⟩ := trodVars_none hV
  obtain ⟨a0, rfl, rfl, rfl, w0⟩ := open_string Tryd.underlying9 (hval 0 9 v0 rfl rfl) h0
  have k1 := h1
  have lt1 : ∀ x ∈ p1, x.block < W.heap.size := by obtain ⟨m, hm⟩ := k1; exact DataW.trod_lt m _ _ _ hm
  obtain ⟨a1, n1, c1, f1, rfl, hn1, hz1, hs1⟩ := open_strs (hval 1 37 v1 rfl rfl) h1 (fun n hn => by simpa using List.all_eq_true.1 hsz _ (DataW.weights_mem_each (j := 1) (t := 37) rfl rfl n hn))
  obtain ⟨a2, rfl, rfl, rfl, w2⟩ := open_int Tryd.underlying2 (hval 2 2 v2 rfl rfl) h2
  have b2 := bounds_i64 w2
  have z0 : a0.size ≤ 140737488351232 := by
    have hz := sized_string hsz (j := 0) (t := 9) (bytes := a0.data.toList) rfl rfl
    simpa [reachBytes] using hz
  clear hA0
  simp only [List.append_nil] at hW'
  refine (walk a0 a1 n1 c1 f1 a2 W hT hn1 hs1).mono fun e W' ⟨he, bel⟩ => ?_
  subst he
  exact ⟨_, rfl, _, _, _, [], _, [], hW', trodAll_mk1 (shut_bool Tryd.underlying4 _), (trodAll_cons_mk (shut_string Tryd.underlying9 w0) (trodAll_cons_mk (Below.trod laidOut (by kernel_rfl) (of_decide_eq_true (by kernel_rfl)) k1 bel lt1) (trodAll_cons_mk (shut_int Tryd.underlying2 w2) trodAll_mk0))), rfl, bel.frame _, fun h => by cases h⟩

set_option maxRecDepth 100000 in
theorem lifted (os : Os) (started : os.Started) (H : Type) (enc : TypeId × Value → H) :
    ReturnsInHanded {} Tryd.checked os 5 .any (fun w args => (Rows.sealOwnSpec.pre enc Tryd.prog Tryd.f5 Rows.sealOwnRow.domain false w args ∧ laidMetH Tryd.prog Rows.sealOwnRow.laid w) ∧ sizedMet enc Tryd.prog Tryd.f5 (OpenSpec.ofChange Rows.sealOwnSpec) false w args)
      (Rows.sealOwnSpec.post enc Tryd.prog Tryd.f5 false true false false) := by
  refine returnsInHanded_of_change_and (C := Tryd.checked) (X := fun w _ => laidMetH Tryd.prog Rows.sealOwnRow.laid w) (fun _ _ _ hh h => h.of_heap hh) own started (by kernel_rfl) Tryd.func5
    (ChangeSpec.witness_shaped (enc := enc) (C := Tryd.checked) (os := os) (X := fun w _ => laidMetH Tryd.prog Rows.sealOwnRow.laid w) false (World.laidAll Tryd.prog os Rows.sealOwnRow.laid) #[.string ByteArray.empty, .slice none 0 0, .int .i64 0] 8 (World.laidAll_os _ _ _)
      (World.shaped_of_ZipB (by kernel_rfl) (by kernel_rfl)) (by kernel_rfl) (by kernel_rfl) (by kernel_rfl)
      (by rw [MakeChecks.laidMetH_plain _ _ _ (by kernel_rfl)]; exact laidMet_laidAll _ (by kernel_rfl) (by kernel_rfl))) ?_
  intro W base args ds gs before hval hW _ hsz hL _
  have hL' : laidMet Tryd.prog Rows.sealOwnRow.laid W := by
    rw [MakeChecks.laidMetH_plain _ _ _ (by kernel_rfl)] at hL
    exact hL
  exact contract H enc W base args ds gs before hval hW (stabOf rfl hL') hsz

theorem said : Rows.SealOwnSaid :=
  OpenClaim.holds_of_wide 5 Tryd.f5 rfl rfl rfl rfl rfl rfl rfl ⟨rfl, rfl, rfl, rfl, rfl⟩ rfl rfl rfl rfl rfl (by kernel_rfl) Tryd.func5 (by kernel_rfl)
    (of_decide_eq_true (by kernel_rfl)) (by unfold Func.isWrapper; first | (rw [if_pos (by decide +kernel)]; kernel_rfl) | (rw [if_neg (by decide +kernel)]; exact ⟨rfl, rfl⟩))
    (fun os started H enc _ => lifted os started H enc)

theorem plain (f : FuncId) (fn : Func) (hf : Tryd.pinned.checked.prog.funcNamed Rows.sealOwnRow.func = some f) (hfn : Tryd.pinned.checked.prog.funcs[f]? = some fn) :
    (Tryd.pinned.checked.prog.looks [] = Tryd.pinned.checked.prog.looks []) ∧ ∀ (j : Nat) t, fn.params[j]? = some t → Tryd.pinned.checked.prog.wantsStandIn t = false := by
  obtain rfl : f = 5 := Option.some.inj ((show Tryd.prog.funcNamed Rows.sealOwnRow.func = some 5 by kernel_rfl).symm.trans hf) |>.symm
  obtain rfl : fn = Tryd.f5 := (Option.some.inj (Tryd.func5.symm.trans hfn)).symm
  refine ⟨rfl, fun j t ht => ?_⟩
  rw [Tryd.params5] at ht
  have hm : t ∈ [9, 37, 2] := by simpa using Array.mem_of_getElem? ht
  have hall : ([9, 37, 2].all fun u => !Tryd.prog.wantsStandIn u) = true := by kernel_rfl
  exact (show Tryd.prog.wantsStandIn t = false by simpa using List.all_eq_true.1 hall t hm)
theorem card : Rows.SealOwnCardSaid :=
  Claim7.holds_tied_plain_at .later [] _ _ _ _ said (fun _ h => by cases h) (by kernel_rfl) (fun _ h => by cases h) sealOwn_row_tie rfl ⟨rfl, rfl⟩ (by kernel_rfl) rfl (fun f fn hf hfn => ⟨by kernel_rfl, (plain f fn hf hfn).2⟩) (by kernel_rfl)
end Go.Proofs.YteajkegokaggcaaDoor.sealOwn
namespace Go.Proofs.YteajkegokaggcaaDoor
theorem sealOwn_card : Rows.SealOwnCardSaid := sealOwn.card
end Go.Proofs.YteajkegokaggcaaDoor
