/-
  What the program's own turn answers: each byte turned by the stream's at its place. Texts below 2^37 bytes; the tables lie where the program's text lays them. No other condition.
-/
import Derived.Test.YtbicfhilehllnaaGreatDoorSePiece
import Derived.Test.YtbicfhilehllnaaGreatDoorSeTurn
namespace Go.Proofs.YtbicfhilehllnaaGreatDoor
set_option maxRecDepth 100000
open Go.RowKit Go.Sort

theorem cr_get (key : ByteArray) (n : Int) (D : List Nat) (k : Nat) : (hdn key n D k ++ D.drop k).getD k 0 = D.getD k 0 := by
  have e := hdn_length key n D k
  simp only [List.getD]
  rw [List.getElem?_append_right (by omega), e, Nat.sub_self, List.getElem?_drop, Nat.add_zero]
theorem cr_set (key : ByteArray) (n : Int) (D : List Nat) (k : Nat) (h : k < D.length) : (hdn key n D k ++ D.drop k).set k (D.getD k 0 ^^^ sbyte key n k) = hdn key n D (k + 1) ++ D.drop (k + 1) := by
  have e := hdn_length key n D k
  rw [List.set_append_right _ _ (by omega), e, Nat.sub_self, List.drop_eq_getElem_cons h, List.set_cons_zero, hdn_succ]
  simp
set_option maxHeartbeats 4000000 in
theorem pturn_ok (key : ByteArray) (n : Int) (data : ByteArray) (w : World) (tab : Tab w) (hk : key.size < 137438953472) (hd : data.size < 137438953472) :
    Calls Tryz.prog 155 #[.string key, .int .i64 n, .string data] w fun e w' => e = .returned (.string (bstr (hdn key n (nb data) data.size))) ∧ Below w.heap.size w w' := by
  have hcv := tb_conv w data
  have A0 : Hid (At .u8 (Lib.bytesWorld w 5 data) w.heap.size 0 (nb data)) := tb_at w data
  have Z0 : Hid (Below w.heap.size w (Lib.bytesWorld w 5 data)) := tb_below w data
  have hcap := tb_cap w data
  have hDl : Hid ((nb data).length = data.size) := nb_length data
  have hDlt : Hid (∀ x ∈ nb data, x < 256) := nb_lt data
  have PC : Hid (∀ (i : Nat) w, Tab w → i < 4294967296 → _) := fun i w t h => piece_ok key n i w t hk h
  have T0 : Hid (Tab w) := tab
  clear tab
  generalize hN : data.size = N at *
  generalize grownCap w N 0 5 = cap at *
  generalize Lib.bytesWorld w 5 data = w0 at *
  generalize nb data = D at *
  replace hN : Hid _ := hN
  obtain ⟨B, hBe⟩ : ∃ B, B = w.heap.size := ⟨_, rfl⟩
  have hB : Hid (w.heap.size ≤ B) := by unfold Hid; omega
  have hA1 : Hid (At .u8 w0 B 0 D) := by rw [hBe]; exact A0
  rw [← hBe] at hcv
  clear A0
  replace hBe : Hid _ := hBe
  go_enter Tryz.func155, Tryz.ntmps155
  go_wp2
  clear hcv
  go_loopg [8, 15] N (fun g sv iv wr => ∃ (k : Nat) (s : ByteArray), k + g = N ∧ iv = .int .i64 k ∧ sv = .string s ∧ Hid (k % 32 ≠ 0 → s = bstr (strm key n (k / 32))) ∧ Hid (At .u8 wr B 0 (hdn key n D k ++ D.drop k)) ∧ Hid (Below w.heap.size w wr))
  case atStart => exact ⟨0, ⟨#[]⟩, by omega, rfl, rfl, fun h => absurd rfl h, hA1, Z0⟩
  case round =>
    clear Z0 hA1
    obtain ⟨k, s, hk2, rfl, rfl, hs, X, bel⟩ := hrel
    by_cases hlt : k < N
    · have g1 : decide ((k : Int) < (N : Int)) = true := decide_eq_true (by omega)
      have hxx := xor8 (D.getD k 0) (sbyte key n k) (get_lt hDlt.out k) (sbyte_lt _ _ _)
      have zS : (bstr (strm key n (k / 32))).size = 32 := by rw [bstr_size, strm_length]
      have hm32 : k % 32 < (bstr (strm key n (k / 32))).size := by rw [zS]; exact Nat.mod_lt _ (by decide)
      have hsd : (((bstr (strm key n (k / 32)))[k % 32].toNat : Nat) : Int) = ((sbyte key n k : Nat) : Int) := by
        rw [nb_get _ _ hm32, nb_bstr (strm_lt _ _ _)]
        rfl
      have ix2 := fun w => idx_at (bstr (strm key n (k / 32))) (k % 32) ((sbyte key n k : Nat) : Int) w hm32 hsd ((k % 32 : Nat) : Int) rfl
      have ia := fun w' => at_u8s B 0 N cap k w' hlt (k : Int) rfl k (by omega)
      have hr : (k : Int) % 32 = ((k % 32 : Nat) : Int) := by omega
      have hrt : (k : Int).tmod 32 = ((k % 32 : Nat) : Int) := by rw [Int.tmod_eq_emod_of_nonneg (by omega)]; exact hr
      have hnext : Hid ((k + 1) % 32 ≠ 0 → bstr (strm key n (k / 32)) = bstr (strm key n ((k + 1) / 32))) := fun h => by
        rw [show (k + 1) / 32 = k / 32 by omega]
      clear hsd hm32 zS
      have h32i : ((k : Int) % 32 == 0) = decide (k % 32 = 0) := by
        by_cases h : k % 32 = 0
        · rw [decide_eq_true h]; simp; omega
        · rw [decide_eq_false h]; simp; omega
      have hs' : k % 32 ≠ 0 → s = bstr (strm key n (k / 32)) := hs.out
      have P1 : Hid (∀ w, Tab w → _) := fun w t => PC.out (k / 32) w t (by omega)
      have hq : (k : Int) / 32 = ((k / 32 : Nat) : Int) := by omega
      clear hs
      generalize hrr : k % 32 = r at *
      generalize bstr (strm key n (k / 32)) = SS at *
      generalize k / 32 = q at *
      replace hrr : Hid _ := hrr
      by_cases h32 : r = 0
      · have g2 : ((k : Int) % 32 == 0) = true := by rw [h32i]; exact decide_eq_true h32
        have g3 : ((r : Int) == 0) = true := by rw [h32]; rfl
        clear h32i hs'
        replace h32 : Hid _ := h32
        go_wp2_with fail
        refine (P1.out _ (T0.out.keep bel.out)).mono ?_
        rintro e w4 ⟨rfl, b4⟩
        have X4 : Hid (At .u8 w4 B 0 (hdn key n D k ++ D.drop k)) := X.out.keep (by
          refine X.out.lt ?_
          rw [List.length_append, hdn_length, List.length_drop, hDl.out]
          omega) b4
        have Z4 : Hid (Below w.heap.size w w4) := bel.out.trans (b4.mono bel.out.size)
        clear b4 P1 X bel hq
        have hkl : k < (hdn key n D k ++ D.drop k).length := by rw [List.length_append, hdn_length, List.length_drop, hDl.out]; omega
        have c0 := X4.out.cell0 k hkl
        have f0 := X4.out.free0 k hkl
        rw [cr_get key n D k] at c0
        have c1 : w4.drew.cell? ⟨B, k, none⟩ = some (.int .u8 ((D.getD k 0 : Nat) : Int)) := c0
        have f1 : w4.drew.frozen? ⟨B, k, none⟩ = false := f0
        have X2 : Hid (At .u8 (w4.drew.setCell ⟨B, k, none⟩ (.int .u8 ((D.getD k 0 ^^^ sbyte key n k : Nat) : Int))) B 0 (hdn key n D (k + 1) ++ D.drop (k + 1))) := by
          have := X4.out.drew.put k hkl (D.getD k 0 ^^^ sbyte key n k)
          rw [cr_set key n D k (by have := hDl.out; omega), Nat.zero_add] at this
          exact this
        have Z2 : Hid (Below w.heap.size w (w4.drew.setCell ⟨B, k, none⟩ (.int .u8 ((D.getD k 0 ^^^ sbyte key n k : Nat) : Int)))) := Z4.out.drew.setCell (p := ⟨B, k, none⟩) hB.out _
        clear hkl c0 f0 X4 Z4
        generalize D.getD k 0 ^^^ sbyte key n k = z at *
        generalize D.getD k 0 = x at *
        generalize sbyte key n k = y at *
        have hx := hxx
        clear hxx
        go_wp2_with fail
        refine wp_region_any (by kernel_rfl) ?_
        change wpAny _ .any _ _ 10 (Array.replicate 10 false) _ w4.drew
        refine take_slot (i := 0) (d := 27) (v := .slice (some ⟨B, 0, none⟩) N cap) rfl rfl (by kernel_rfl) (by kernel_rfl) (by kernel_rfl) (fun _ _ _ h => h) rfl (fun w => by go_simp) ?_
        refine take_slot (i := 1) (d := 28) (v := .int .i64 (k : Int)) rfl rfl (by kernel_rfl) (by kernel_rfl) (by kernel_rfl) (fun _ _ _ h => h) rfl (fun w => by go_simp) ?_
        refine take_slot (i := 2) (d := 29) (v := .pointer (some ⟨B, k, none⟩)) rfl rfl (by kernel_rfl) (by kernel_rfl) (by kernel_rfl) (fun _ _ _ h => h) rfl (fun w => by go_simp) ?_
        refine take_slot (i := 4) (d := 31) (v := .string SS) rfl rfl (by kernel_rfl) (by kernel_rfl) (by kernel_rfl) (fun _ _ _ h => h) rfl (fun w => by go_simp) ?_
        refine take_slot (i := 5) (d := 32) (v := .int .i64 (r : Int)) rfl rfl (by kernel_rfl) (by kernel_rfl) (by kernel_rfl) (fun _ _ _ h => h) rfl (fun w => by go_simp) ?_
        refine take_slot (i := 6) (d := 33) (v := .int .u8 (y : Int)) rfl rfl (by kernel_rfl) (by kernel_rfl) (by kernel_rfl) (fun _ _ _ h => h) rfl (fun w => by go_simp) ?_
        simp only [Act.put, List.setIfInBounds_toArray, List.set_cons_succ, List.set_cons_zero]
        clear ix2
        refine wpAny_all (rs := [3]) (by kernel_rfl) (by simp) (fun i hi => ?_)
        obtain rfl : i = 3 := by simpa using hi
        refine wpOp_step rfl (fun K' hK => ?_)
        clear hi
        go_simp
        refine hK _ _ ?_
        clear hK K'
        refine wpAny_all (rs := [7]) (by kernel_rfl) (by simp) (fun i hi => ?_)
        obtain rfl : i = 7 := by simpa using hi
        refine wpOp_step rfl (fun K' hK => ?_)
        clear hi
        go_simp
        refine hK _ _ ?_
        clear hK K'
        refine wpAny_all (rs := [8]) (by kernel_rfl) (by simp) (fun i hi => ?_)
        obtain rfl : i = 8 := by simpa using hi
        refine wpOp_step rfl (fun K' hK => ?_)
        clear hi
        go_simp
        refine hK _ _ ?_
        clear hK K' ia
        refine wpAny_all (rs := [9]) (by kernel_rfl) (by simp) (fun i hi => ?_)
        obtain rfl : i = 9 := by simpa using hi
        refine wpOp_step rfl (fun K' hK => ?_)
        clear hi
        go_simp
        refine hK _ _ ?_
        clear hK K'
        refine wpAny_done (by kernel_rfl) ?_ 0
        go_wp2
        go_roundg (N - (k + 1))
        case measure => omega
        case rel => exact ⟨k + 1, SS, by omega, by go_num, rfl, hnext, X2, Z2⟩
      · have g2 : ((k : Int) % 32 == 0) = false := by rw [h32i]; exact decide_eq_false h32
        have g3 : ((r : Int) == 0) = false := by simp; omega
        have hss := (hs' h32).symm
        subst hss
        clear h32i hs' P1 hq
        replace h32 : Hid _ := h32
        have hkl : k < (hdn key n D k ++ D.drop k).length := by rw [List.length_append, hdn_length, List.length_drop, hDl.out]; omega
        have c0 := X.out.cell0 k hkl
        have f0 := X.out.free0 k hkl
        rw [cr_get key n D k] at c0
        have c1 : wr.drew.cell? ⟨B, k, none⟩ = some (.int .u8 ((D.getD k 0 : Nat) : Int)) := c0
        have f1 : wr.drew.frozen? ⟨B, k, none⟩ = false := f0
        have X2 : Hid (At .u8 (wr.drew.setCell ⟨B, k, none⟩ (.int .u8 ((D.getD k 0 ^^^ sbyte key n k : Nat) : Int))) B 0 (hdn key n D (k + 1) ++ D.drop (k + 1))) := by
          have := X.out.drew.put k hkl (D.getD k 0 ^^^ sbyte key n k)
          rw [cr_set key n D k (by have := hDl.out; omega), Nat.zero_add] at this
          exact this
        have Z2 : Hid (Below w.heap.size w (wr.drew.setCell ⟨B, k, none⟩ (.int .u8 ((D.getD k 0 ^^^ sbyte key n k : Nat) : Int)))) := bel.out.drew.setCell (p := ⟨B, k, none⟩) hB.out _
        clear hkl c0 f0 X bel
        generalize D.getD k 0 ^^^ sbyte key n k = z at *
        generalize D.getD k 0 = x at *
        generalize sbyte key n k = y at *
        have hx := hxx
        clear hxx
        go_wp2_with fail
        refine wp_region_any (by kernel_rfl) ?_
        change wpAny _ .any _ _ 10 (Array.replicate 10 false) _ wr.drew
        refine take_slot (i := 0) (d := 27) (v := .slice (some ⟨B, 0, none⟩) N cap) rfl rfl (by kernel_rfl) (by kernel_rfl) (by kernel_rfl) (fun _ _ _ h => h) rfl (fun w => by go_simp) ?_
        refine take_slot (i := 1) (d := 28) (v := .int .i64 (k : Int)) rfl rfl (by kernel_rfl) (by kernel_rfl) (by kernel_rfl) (fun _ _ _ h => h) rfl (fun w => by go_simp) ?_
        refine take_slot (i := 2) (d := 29) (v := .pointer (some ⟨B, k, none⟩)) rfl rfl (by kernel_rfl) (by kernel_rfl) (by kernel_rfl) (fun _ _ _ h => h) rfl (fun w => by go_simp) ?_
        refine take_slot (i := 4) (d := 31) (v := .string SS) rfl rfl (by kernel_rfl) (by kernel_rfl) (by kernel_rfl) (fun _ _ _ h => h) rfl (fun w => by go_simp) ?_
        refine take_slot (i := 5) (d := 32) (v := .int .i64 (r : Int)) rfl rfl (by kernel_rfl) (by kernel_rfl) (by kernel_rfl) (fun _ _ _ h => h) rfl (fun w => by go_simp) ?_
        refine take_slot (i := 6) (d := 33) (v := .int .u8 (y : Int)) rfl rfl (by kernel_rfl) (by kernel_rfl) (by kernel_rfl) (fun _ _ _ h => h) rfl (fun w => by go_simp) ?_
        simp only [Act.put, List.setIfInBounds_toArray, List.set_cons_succ, List.set_cons_zero]
        clear ix2
        refine wpAny_all (rs := [3]) (by kernel_rfl) (by simp) (fun i hi => ?_)
        obtain rfl : i = 3 := by simpa using hi
        refine wpOp_step rfl (fun K' hK => ?_)
        clear hi
        go_simp
        refine hK _ _ ?_
        clear hK K'
        refine wpAny_all (rs := [7]) (by kernel_rfl) (by simp) (fun i hi => ?_)
        obtain rfl : i = 7 := by simpa using hi
        refine wpOp_step rfl (fun K' hK => ?_)
        clear hi
        go_simp
        refine hK _ _ ?_
        clear hK K'
        refine wpAny_all (rs := [8]) (by kernel_rfl) (by simp) (fun i hi => ?_)
        obtain rfl : i = 8 := by simpa using hi
        refine wpOp_step rfl (fun K' hK => ?_)
        clear hi
        go_simp
        refine hK _ _ ?_
        clear hK K' ia
        refine wpAny_all (rs := [9]) (by kernel_rfl) (by simp) (fun i hi => ?_)
        obtain rfl : i = 9 := by simpa using hi
        refine wpOp_step rfl (fun K' hK => ?_)
        clear hi
        go_simp
        refine hK _ _ ?_
        clear hK K'
        refine wpAny_done (by kernel_rfl) ?_ 0
        go_wp2
        go_roundg (N - (k + 1))
        case measure => omega
        case rel => exact ⟨k + 1, SS, by omega, by go_num, rfl, hnext, X2, Z2⟩
    · obtain rfl : k = N := by omega
      have g1 : decide ((k : Int) < (k : Int)) = false := decide_eq_false (by omega)
      have XE : At .u8 wr B 0 (hdn key n D k) := by
        have := X.out
        rw [← hDl.out, List.drop_length, List.append_nil, hDl.out] at this
        exact this
      have hcv := XE.str k cap (hdn_length _ _ _ _).symm
      clear X XE
      go_wp2
      go_ret
      exact ⟨rfl, bel.out⟩
end Go.Proofs.YtbicfhilehllnaaGreatDoor
