/-
  What the document's own Number, Get and Take answer, for every string. No condition.
-/
import Derived.Test.YtihkbakbciejiaaDoorVaTake
import Derived.Test.YtihkbakbciejiaaDoorVaRefPut
namespace Go.Proofs.YtihkbakbciejiaaDoor
set_option maxRecDepth 100000
open Go.RowKit

theorem ret_int {a b : Int} (h : a = b) : Ending.returned (.int .i64 a) = .returned (.int .i64 b) := by rw [h]
set_option maxHeartbeats 1000000 in
theorem rnumber (t : ByteArray) (w : World) (m k : Nat) (hk : Mk m k) (hs : t.size = k) (h0 : byt t 0 < 64) :
    Calls Tryd.prog 43 #[.string t] w fun e w' => e = .returned (.int .i64 (gva (byt t) k)) ∧ w = w' := by
  have hb := byt_bd t
  rcases hk with ⟨rfl, rfl⟩ | ⟨rfl, rfl⟩ | ⟨rfl, rfl⟩ | ⟨rfl, rfl⟩
  · have e0 := byt_eq t 0 (by omega); have b0 := hb 0
    clear hb
    go_enter Tryd.func43, Tryd.ntmps43
    go_wp2
    go_rounds 2
    go_ret
    exact ⟨ret_int (by rw [gva1]; omega), rfl⟩
  · have e0 := byt_eq t 0 (by omega); have b0 := hb 0; have e1 := byt_eq t 1 (by omega); have b1 := hb 1
    clear hb
    go_enter Tryd.func43, Tryd.ntmps43
    go_wp2
    go_rounds 3
    go_ret
    exact ⟨ret_int (by rw [gva2]; omega), rfl⟩
  · have e0 := byt_eq t 0 (by omega); have b0 := hb 0; have e1 := byt_eq t 1 (by omega); have b1 := hb 1; have e2 := byt_eq t 2 (by omega); have b2 := hb 2; have e3 := byt_eq t 3 (by omega); have b3 := hb 3
    clear hb
    go_enter Tryd.func43, Tryd.ntmps43
    go_wp2
    go_rounds 5
    go_ret
    exact ⟨ret_int (by rw [gva4]; omega), rfl⟩
  · have e0 := byt_eq t 0 (by omega); have b0 := hb 0; have e1 := byt_eq t 1 (by omega); have b1 := hb 1; have e2 := byt_eq t 2 (by omega); have b2 := hb 2; have e3 := byt_eq t 3 (by omega); have b3 := hb 3; have e4 := byt_eq t 4 (by omega); have b4 := hb 4; have e5 := byt_eq t 5 (by omega); have b5 := hb 5; have e6 := byt_eq t 6 (by omega); have b6 := hb 6; have e7 := byt_eq t 7 (by omega); have b7 := hb 7
    clear hb
    go_enter Tryd.func43, Tryd.ntmps43
    go_wp2
    go_rounds 9
    go_ret
    exact ⟨ret_int (by rw [gva8]; omega), rfl⟩

theorem front_data (s : ByteArray) (x : Int) (k : Nat) : (strOfNums [x] ++ s.extract 1 k).data.toList = UInt8.ofNat x.toNat :: (s.data.toList.drop 1).take (k - 1) := by
  simp [ByteArray.data_append, strOfNums, ByteArray.data_extract]
theorem front_size (s : ByteArray) (x : Int) (k : Nat) (h1 : 1 ≤ k) (hk : k ≤ s.size) : (strOfNums [x] ++ s.extract 1 k).size = k := by
  rw [ByteArray.size_append, strOfNums_size, ByteArray.size_extract]
  simp; omega
theorem front_zero (s : ByteArray) (x : Int) (k : Nat) (h0 : 0 ≤ x) (h : x < 256) : byt (strOfNums [x] ++ s.extract 1 k) 0 = x := by
  unfold byt
  rw [front_data]
  simp; omega
theorem front_more (s : ByteArray) (x : Int) (k i : Nat) (h1 : 1 ≤ i) (hi : i < k) : byt (strOfNums [x] ++ s.extract 1 k) i = byt s i := by
  unfold byt
  rw [front_data]
  obtain ⟨j, rfl⟩ : ∃ j, i = j + 1 := ⟨i - 1, by omega⟩
  have hj : j < k - 1 := by omega
  simp [List.getD, hj]

theorem front_number (s : ByteArray) (w : World) (m k : Nat) (hk : Mk m k) (hl : k ≤ s.size) :
    Calls Tryd.prog 43 #[.string (strOfNums [byt s 0 % 64] ++ s.extract 1 k)] w fun e w' => e = .returned (.int .i64 (gva (byt s) k)) ∧ w = w' := by
  have h1 : 1 ≤ k := by unfold Mk at hk; omega
  have f0 := front_zero s (byt s 0 % 64) k (by omega) (by omega)
  have h := rnumber (strOfNums [byt s 0 % 64] ++ s.extract 1 k) w m k hk (front_size s _ k h1 hl) (by rw [f0]; omega)
  rwa [gva_congr _ (byt s) (by rw [f0]; omega) k (fun i a b => front_more s _ k i a b)] at h
set_option maxHeartbeats 1000000 in
theorem rget_cut (s : ByteArray) (w : World) (hs : s.size ≤ 9223372036854775807) (h : VCut s) :
    Calls Tryd.prog 39 #[.string s] w fun e w' => e = .returned (.tuple #[.int .i64 0, .int .i64 0, .int .i64 1]) ∧ w = w' := by
  rcases h with h | ⟨hp, m, k, hk, hl, hm⟩
  · go_enter Tryd.func39, Tryd.ntmps39
    go_wp2
    go_ret3
    exact ⟨rfl, rfl⟩
  · have e0 := byt_eq s 0 hp
    have bd := byt_bd s 0
    rcases hk with ⟨rfl, rfl⟩ | ⟨rfl, rfl⟩ | ⟨rfl, rfl⟩ | ⟨rfl, rfl⟩
    · omega
    · go_enter Tryd.func39, Tryd.ntmps39
      go_wp2
      go_rounds 2
      go_ret3
      exact ⟨rfl, rfl⟩
    · go_enter Tryd.func39, Tryd.ntmps39
      go_wp2
      go_rounds 3
      go_ret3
      exact ⟨rfl, rfl⟩
    · go_enter Tryd.func39, Tryd.ntmps39
      go_wp2
      go_rounds 4
      go_ret3
      exact ⟨rfl, rfl⟩
set_option maxHeartbeats 1000000 in
theorem rget1 (s : ByteArray) (w : World) (hs : s.size ≤ 9223372036854775807) (hp : 0 < s.size) (hl : 1 ≤ s.size) (hm : byt s 0 / 64 = 0) :
    Calls Tryd.prog 39 #[.string s] w fun e w' => e = .returned (.tuple #[.int .i64 (gva (byt s) 1), .int .i64 1, .int .i64 0]) ∧ Below w.heap.size w w' := by
  have N := fun w => front_number s w 0 1 (by unfold Mk; omega) hl
  have ee : strOfNums [byt s 0 % 64] ++ s.extract 1 1 = strOfNums [byt s 0 % 64] := by simp
  rw [ee] at N
  have N' : Hid (∀ w, Calls Tryd.prog 43 #[.string (strOfNums [byt s 0 % 64])] w fun e w' => e = .returned (.int .i64 (gva (byt s) 1)) ∧ w = w') := N
  clear N ee
  have e0 := byt_eq s 0 hp
  have bd := byt_bd s 0
  have e1 : (byt s 0).tmod 64 = byt s 0 % 64 := Int.tmod_eq_emod_of_nonneg bd.1
  have z2 : (strOfNums [byt s 0 % 64]).size = 1 := strOfNums_size _
  have hcvd : ∀ (w : World) (a : Int), (convert 80 9 (.slice (some ⟨w.heap.size, 0, none⟩) 1 1)).run Tryd.prog (w.alloc (.cells #[.int .u8 a] 5)).drew = .ok (.string (strOfNums [a])) (w.alloc (.cells #[.int .u8 a] 5)).drew := fun w a => conv1_later (World.cell?_alloc_mark w _ 5 (0, 0) 0)
  go_enter Tryd.func39, Tryd.ntmps39
  go_wp2
  go_rounds 1
  go_region_with (go_at_call 43; refine (N'.out _).mono ?_; rintro e w' ⟨rfl, rfl⟩)
  all_goals
    go_wp2
    go_ret3
    exact ⟨rfl, ((Below.refl _ _).alloc (Nat.le_refl _) _).drew⟩
set_option maxHeartbeats 1000000 in
theorem rget2 (s : ByteArray) (w : World) (hs : s.size ≤ 9223372036854775807) (hp : 0 < s.size) (hl : 2 ≤ s.size) (hm : byt s 0 / 64 = 1) :
    Calls Tryd.prog 39 #[.string s] w fun e w' => e = .returned (.tuple #[.int .i64 (gva (byt s) 2), .int .i64 2, .int .i64 0]) ∧ Below w.heap.size w w' := by
  have N := fun w => front_number s w 1 2 (by unfold Mk; omega) hl
  have N' : Hid (∀ w, Calls Tryd.prog 43 #[.string (strOfNums [byt s 0 % 64] ++ s.extract 1 2)] w fun e w' => e = .returned (.int .i64 (gva (byt s) 2)) ∧ w = w') := N
  clear N
  have e0 := byt_eq s 0 hp
  have bd := byt_bd s 0
  have e1 : (byt s 0).tmod 64 = byt s 0 % 64 := Int.tmod_eq_emod_of_nonneg bd.1
  have z2 : (strOfNums [byt s 0 % 64]).size = 1 := strOfNums_size _
  have z3 : (s.extract 1 2).size = 2 - 1 := by rw [ByteArray.size_extract]; omega
  have hcvd : ∀ (w : World) (a : Int), (convert 80 9 (.slice (some ⟨w.heap.size, 0, none⟩) 1 1)).run Tryd.prog (w.alloc (.cells #[.int .u8 a] 5)).drew = .ok (.string (strOfNums [a])) (w.alloc (.cells #[.int .u8 a] 5)).drew := fun w a => conv1_later (World.cell?_alloc_mark w _ 5 (0, 0) 0)
  go_enter Tryd.func39, Tryd.ntmps39
  go_wp2
  go_rounds 2
  go_region_with (go_at_call 43; refine (N'.out _).mono ?_; rintro e w' ⟨rfl, rfl⟩)
  all_goals
    go_wp2
    go_ret3
    exact ⟨rfl, ((Below.refl _ _).alloc (Nat.le_refl _) _).drew⟩
set_option maxHeartbeats 1000000 in
theorem rget4 (s : ByteArray) (w : World) (hs : s.size ≤ 9223372036854775807) (hp : 0 < s.size) (hl : 4 ≤ s.size) (hm : byt s 0 / 64 = 2) :
    Calls Tryd.prog 39 #[.string s] w fun e w' => e = .returned (.tuple #[.int .i64 (gva (byt s) 4), .int .i64 4, .int .i64 0]) ∧ Below w.heap.size w w' := by
  have N := fun w => front_number s w 2 4 (by unfold Mk; omega) hl
  have N' : Hid (∀ w, Calls Tryd.prog 43 #[.string (strOfNums [byt s 0 % 64] ++ s.extract 1 4)] w fun e w' => e = .returned (.int .i64 (gva (byt s) 4)) ∧ w = w') := N
  clear N
  have e0 := byt_eq s 0 hp
  have bd := byt_bd s 0
  have e1 : (byt s 0).tmod 64 = byt s 0 % 64 := Int.tmod_eq_emod_of_nonneg bd.1
  have z2 : (strOfNums [byt s 0 % 64]).size = 1 := strOfNums_size _
  have z3 : (s.extract 1 4).size = 4 - 1 := by rw [ByteArray.size_extract]; omega
  have hcvd : ∀ (w : World) (a : Int), (convert 80 9 (.slice (some ⟨w.heap.size, 0, none⟩) 1 1)).run Tryd.prog (w.alloc (.cells #[.int .u8 a] 5)).drew = .ok (.string (strOfNums [a])) (w.alloc (.cells #[.int .u8 a] 5)).drew := fun w a => conv1_later (World.cell?_alloc_mark w _ 5 (0, 0) 0)
  go_enter Tryd.func39, Tryd.ntmps39
  go_wp2
  go_rounds 3
  go_region_with (go_at_call 43; refine (N'.out _).mono ?_; rintro e w' ⟨rfl, rfl⟩)
  all_goals
    go_wp2
    go_ret3
    exact ⟨rfl, ((Below.refl _ _).alloc (Nat.le_refl _) _).drew⟩
set_option maxHeartbeats 1000000 in
theorem rget8 (s : ByteArray) (w : World) (hs : s.size ≤ 9223372036854775807) (hp : 0 < s.size) (hl : 8 ≤ s.size) (hm : byt s 0 / 64 = 3) :
    Calls Tryd.prog 39 #[.string s] w fun e w' => e = .returned (.tuple #[.int .i64 (gva (byt s) 8), .int .i64 8, .int .i64 0]) ∧ Below w.heap.size w w' := by
  have N := fun w => front_number s w 3 8 (by unfold Mk; omega) hl
  have N' : Hid (∀ w, Calls Tryd.prog 43 #[.string (strOfNums [byt s 0 % 64] ++ s.extract 1 8)] w fun e w' => e = .returned (.int .i64 (gva (byt s) 8)) ∧ w = w') := N
  clear N
  have e0 := byt_eq s 0 hp
  have bd := byt_bd s 0
  have e1 : (byt s 0).tmod 64 = byt s 0 % 64 := Int.tmod_eq_emod_of_nonneg bd.1
  have z2 : (strOfNums [byt s 0 % 64]).size = 1 := strOfNums_size _
  have z3 : (s.extract 1 8).size = 8 - 1 := by rw [ByteArray.size_extract]; omega
  have hcvd : ∀ (w : World) (a : Int), (convert 80 9 (.slice (some ⟨w.heap.size, 0, none⟩) 1 1)).run Tryd.prog (w.alloc (.cells #[.int .u8 a] 5)).drew = .ok (.string (strOfNums [a])) (w.alloc (.cells #[.int .u8 a] 5)).drew := fun w a => conv1_later (World.cell?_alloc_mark w _ 5 (0, 0) 0)
  go_enter Tryd.func39, Tryd.ntmps39
  go_wp2
  go_rounds 4
  go_region_with (go_at_call 43; refine (N'.out _).mono ?_; rintro e w' ⟨rfl, rfl⟩)
  all_goals
    go_wp2
    go_ret3
    exact ⟨rfl, ((Below.refl _ _).alloc (Nat.le_refl _) _).drew⟩
theorem rget_has (s : ByteArray) (w : World) (k : Nat) (hs : s.size ≤ 9223372036854775807) (h : VHas s k) :
    Calls Tryd.prog 39 #[.string s] w fun e w' => e = .returned (.tuple #[.int .i64 (gva (byt s) k), .int .i64 k, .int .i64 0]) ∧ Below w.heap.size w w' := by
  obtain ⟨hp, hl, m, hk, hm⟩ := h
  rcases hk with ⟨rfl, rfl⟩ | ⟨rfl, rfl⟩ | ⟨rfl, rfl⟩ | ⟨rfl, rfl⟩
  · exact rget1 s w hs hp hl hm
  · exact rget2 s w hs hp hl hm
  · exact rget4 s w hs hp hl hm
  · exact rget8 s w hs hp hl hm

end Go.Proofs.YtihkbakbciejiaaDoor
