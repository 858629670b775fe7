/-
  What Fields answers of any authority and target, the program's own and the document's: six fields in a new block, or none. Addresses are uint32's; the tables of Go's library lie as the row's list gives them.
-/
import Derived.Test.YtojfcflkanohoaaDoorTgNum
namespace Go.Proofs.YtojfcflkanohoaaDoor
set_option maxRecDepth 100000
open Go.RowKit Go.Sort

/-- A request for a target. -/
def fld6 (au : L) (ip : Bool) (a n : Int) : List Fd := [(nMeth, cConn), (nProt, if ip = true then cIp else cUdp), (nSchm, cHttps), (nAuth, au), (nPath, pthT ip a n), (nCaps, cYes)]
/-- Six fields in a block of their own. -/
def Flds (w w' : World) (e : Ending) (l : List Fd) : Prop := ∃ g, e = .returned (.slice (some ⟨g, 0, none⟩) 6 6) ∧ Lies w' g (fCells l) ∧ w.heap.size ≤ g ∧ Below w.heap.size w w'
theorem pth_some (a n : Int) (n0 : 1 ≤ n) (n1 : n ≤ 65535) : (strL (pthT false a n)).toList.isEmpty = false := by
  rw [emp_strL]
  have h : rightT false a n = true := by unfold rightT; rw [if_neg (by decide)]; exact decide_eq_true ⟨n0, n1⟩
  unfold pthT
  rw [if_pos h, if_neg (by decide)]
  rfl
theorem pth_some_ip : (strL (pthT true 0 0)).toList.isEmpty = false := by
  rw [emp_strL]
  rfl
set_option maxHeartbeats 4000000 in
theorem flds_udp (au : L) (a n : Int) (w : World) (t : TabP w) (a0 : 0 ≤ a) (a1 : a < 4294967296) (n0 : 1 ≤ n) (n1 : n ≤ 65535) :
    Calls Tryd.prog 13 #[.string (strL au), tgV false a n] w fun e w' => Flds w w' e (fld6 au false a n) := by
  have P : Hid (∀ w, TabP w → Calls Tryd.prog 11 #[tgV false a n] w fun e w' => e = .returned (.string (strL (pthT false a n))) ∧ Below w.heap.size w w') := fun w t => path_ok false a n w t a0 a1
  have tA : Hid (∀ w2, Below w.heap.size w w2 → TabP w2) := fun w2 h => t.keep h
  clear t
  obtain ⟨wa, hwa⟩ : ∃ wa, wa = w.alloc (.cells #[.bool false, .int .u32 a, .int .i64 n] 25) := ⟨_, rfl⟩
  have lA := tbox w false a n
  have bA : Below w.heap.size w (w.alloc (.cells #[.bool false, .int .u32 a, .int .i64 n] 25)) := bx w _
  rw [← hwa] at lA bA
  have c0 := lA.cell 0 (v := .bool false) rfl
  have c1 := lA.cell 1 (v := .int .u32 a) rfl
  have c2 := lA.cell 2 (v := .int .i64 n) rfl
  have LA := Lib.hid lA
  have Z : Hid (Below w.heap.size w wa) := bA
  have FN : Hid (∀ w2 : World, Below w.heap.size w w2 → Flds w (w2.alloc (.cells #[.string ⟨#[58, 109, 101, 116, 104, 111, 100]⟩, .string ⟨#[67, 79, 78, 78, 69, 67, 84]⟩, .string ⟨#[58, 112, 114, 111, 116, 111, 99, 111, 108]⟩, .string ⟨#[99, 111, 110, 110, 101, 99, 116, 45, 117, 100, 112]⟩, .string ⟨#[58, 115, 99, 104, 101, 109, 101]⟩, .string ⟨#[104, 116, 116, 112, 115]⟩, .string ⟨#[58, 97, 117, 116, 104, 111, 114, 105, 116, 121]⟩, .string (strL au), .string ⟨#[58, 112, 97, 116, 104]⟩, .string (strL (pthT false a n)), .string ⟨#[99, 97, 112, 115, 117, 108, 101, 45, 112, 114, 111, 116, 111, 99, 111, 108]⟩, .string ⟨#[63, 49]⟩] 35)) (.returned (.slice (some ⟨w2.heap.size, 0, none⟩) 6 6)) (fld6 au false a n)) := fun w2 h2 => ⟨w2.heap.size, rfl, Lies.new w2 (fCells (fld6 au false a n)) 35, h2.size, h2.trans ((bx w2 _).mono h2.size)⟩
  have pe := pth_some a n n0 n1
  generalize strL (pthT false a n) = PP at *
  clear lA bA
  unfold tgV at P ⊢
  go_enter Tryd.func13, Tryd.ntmps13
  go_upto_region 1 with fail
  rw [← hwa]
  clear hwa
  go_wp2_with fail
  refine (P.out wa (tA.out _ Z.out)).mono ?_
  rintro e w1 ⟨rfl, b1⟩
  have L1 := LA.out.keep (by show 0 < 3; decide) b1
  have Z1 := Lib.hid (Z.out.trans (b1.mono Z.out.size))
  clear b1 LA Z c0 c1 c2
  have c0 := L1.cell 0 (v := .bool false) rfl

  go_wp2_with fail
  go_ret
  exact FN.out _ Z1.out
set_option maxHeartbeats 4000000 in
theorem flds_ip (au : L) (w : World) (t : TabP w) :
    Calls Tryd.prog 13 #[.string (strL au), tgV true 0 0] w fun e w' => Flds w w' e (fld6 au true 0 0) := by
  have P : Hid (∀ w, TabP w → Calls Tryd.prog 11 #[tgV true 0 0] w fun e w' => e = .returned (.string (strL (pthT true 0 0))) ∧ Below w.heap.size w w') := fun w t => path_ok true 0 0 w t (by decide) (by decide)
  have tA : Hid (∀ w2, Below w.heap.size w w2 → TabP w2) := fun w2 h => t.keep h
  clear t
  obtain ⟨wa, hwa⟩ : ∃ wa, wa = w.alloc (.cells #[.bool true, .int .u32 0, .int .i64 0] 25) := ⟨_, rfl⟩
  have lA := tbox w true 0 0
  have bA : Below w.heap.size w (w.alloc (.cells #[.bool true, .int .u32 0, .int .i64 0] 25)) := bx w _
  rw [← hwa] at lA bA
  have c0 := lA.cell 0 (v := .bool true) rfl
  have c1 := lA.cell 1 (v := .int .u32 0) rfl
  have c2 := lA.cell 2 (v := .int .i64 0) rfl
  have LA := Lib.hid lA
  have Z : Hid (Below w.heap.size w wa) := bA
  have FN : Hid (∀ w2 : World, Below w.heap.size w w2 → Flds w (w2.alloc (.cells #[.string ⟨#[58, 109, 101, 116, 104, 111, 100]⟩, .string ⟨#[67, 79, 78, 78, 69, 67, 84]⟩, .string ⟨#[58, 112, 114, 111, 116, 111, 99, 111, 108]⟩, .string ⟨#[99, 111, 110, 110, 101, 99, 116, 45, 105, 112]⟩, .string ⟨#[58, 115, 99, 104, 101, 109, 101]⟩, .string ⟨#[104, 116, 116, 112, 115]⟩, .string ⟨#[58, 97, 117, 116, 104, 111, 114, 105, 116, 121]⟩, .string (strL au), .string ⟨#[58, 112, 97, 116, 104]⟩, .string (strL (pthT true 0 0)), .string ⟨#[99, 97, 112, 115, 117, 108, 101, 45, 112, 114, 111, 116, 111, 99, 111, 108]⟩, .string ⟨#[63, 49]⟩] 35)) (.returned (.slice (some ⟨w2.heap.size, 0, none⟩) 6 6)) (fld6 au true 0 0)) := fun w2 h2 => ⟨w2.heap.size, rfl, Lies.new w2 (fCells (fld6 au true 0 0)) 35, h2.size, h2.trans ((bx w2 _).mono h2.size)⟩
  have pe := pth_some_ip
  generalize strL (pthT true 0 0) = PP at *
  clear lA bA
  unfold tgV at P ⊢
  go_enter Tryd.func13, Tryd.ntmps13
  go_upto_region 1 with fail
  rw [← hwa]
  clear hwa
  go_wp2_with fail
  refine (P.out wa (tA.out _ Z.out)).mono ?_
  rintro e w1 ⟨rfl, b1⟩
  have L1 := LA.out.keep (by show 0 < 3; decide) b1
  have Z1 := Lib.hid (Z.out.trans (b1.mono Z.out.size))
  clear b1 LA Z c0 c1 c2
  have c0 := L1.cell 0 (v := .bool true) rfl

  go_wp2_with fail
  go_ret
  exact FN.out _ Z1.out
set_option maxHeartbeats 4000000 in
theorem flds_no (au : L) (ip : Bool) (a n : Int) (w : World) (h : rightT ip a n = false) :
    Calls Tryd.prog 13 #[.string (strL au), tgV ip a n] w fun e w' => e = .returned (.slice none 0 0) ∧ Below w.heap.size w w' := by
  have P : Hid (∀ w, Calls Tryd.prog 11 #[tgV ip a n] w fun e w' => e = .returned (.string ⟨#[]⟩) ∧ Below w.heap.size w w') := fun w => path_no ip a n w h
  obtain ⟨wa, hwa⟩ : ∃ wa, wa = w.alloc (.cells #[.bool ip, .int .u32 a, .int .i64 n] 25) := ⟨_, rfl⟩
  have lA := tbox w ip a n
  have bA : Below w.heap.size w (w.alloc (.cells #[.bool ip, .int .u32 a, .int .i64 n] 25)) := bx w _
  rw [← hwa] at lA bA
  have c0 := lA.cell 0 (v := .bool ip) rfl
  have c1 := lA.cell 1 (v := .int .u32 a) rfl
  have c2 := lA.cell 2 (v := .int .i64 n) rfl
  have Z : Hid (Below w.heap.size w wa) := bA
  clear lA bA h
  unfold tgV at P ⊢
  go_enter Tryd.func13, Tryd.ntmps13
  go_upto_region 1 with fail
  rw [← hwa]
  clear hwa
  go_wp2_with fail
  refine (P.out wa).mono ?_
  rintro e w1 ⟨rfl, b1⟩
  have Z1 := Lib.hid (Z.out.trans (b1.mono Z.out.size))
  clear b1 Z c0 c1 c2
  go_wp2_with fail
  go_ret
  exact ⟨rfl, Z1.out⟩
set_option maxHeartbeats 4000000 in
theorem rflds_udp (au : L) (a n : Int) (w : World) (a0 : 0 ≤ a) (a1 : a < 4294967296) (n0 : 1 ≤ n) (n1 : n ≤ 65535) :
    Calls Tryd.prog 14 #[.string (strL au), tgV false a n] w fun e w' => Flds w w' e (fld6 au false a n) := by
  have R : Hid (∀ w, Calls Tryd.prog 24 #[tgV false a n] w fun e w' => e = .returned (.bool true) ∧ Below w.heap.size w w') := fun w => by
    have := rright17_ok false a n w
    rwa [show rightT false a n = true by unfold rightT; rw [if_neg (by decide)]; exact decide_eq_true ⟨n0, n1⟩] at this
  have P : Hid (∀ w, Calls Tryd.prog 12 #[tgV false a n] w fun e w' => e = .returned (.string (strL (pthT false a n))) ∧ Below w.heap.size w w') := fun w => rpath_ok false a n w a0 a1
  obtain ⟨wa, hwa⟩ : ∃ wa, wa = w.alloc (.cells #[.bool false, .int .u32 a, .int .i64 n] 25) := ⟨_, rfl⟩
  have lA := tbox w false a n
  have bA : Below w.heap.size w (w.alloc (.cells #[.bool false, .int .u32 a, .int .i64 n] 25)) := bx w _
  rw [← hwa] at lA bA
  have c0 := lA.cell 0 (v := .bool false) rfl
  have c1 := lA.cell 1 (v := .int .u32 a) rfl
  have c2 := lA.cell 2 (v := .int .i64 n) rfl
  have LA := Lib.hid lA
  have Z : Hid (Below w.heap.size w wa) := bA
  have FN : Hid (∀ w2 : World, Below w.heap.size w w2 → Flds w (w2.alloc (.cells #[.string ⟨#[58, 109, 101, 116, 104, 111, 100]⟩, .string ⟨#[67, 79, 78, 78, 69, 67, 84]⟩, .string ⟨#[58, 112, 114, 111, 116, 111, 99, 111, 108]⟩, .string ⟨#[99, 111, 110, 110, 101, 99, 116, 45, 117, 100, 112]⟩, .string ⟨#[58, 115, 99, 104, 101, 109, 101]⟩, .string ⟨#[104, 116, 116, 112, 115]⟩, .string ⟨#[58, 97, 117, 116, 104, 111, 114, 105, 116, 121]⟩, .string (strL au), .string ⟨#[58, 112, 97, 116, 104]⟩, .string (strL (pthT false a n)), .string ⟨#[99, 97, 112, 115, 117, 108, 101, 45, 112, 114, 111, 116, 111, 99, 111, 108]⟩, .string ⟨#[63, 49]⟩] 35)) (.returned (.slice (some ⟨w2.heap.size, 0, none⟩) 6 6)) (fld6 au false a n)) := fun w2 h2 => ⟨w2.heap.size, rfl, Lies.new w2 (fCells (fld6 au false a n)) 35, h2.size, h2.trans ((bx w2 _).mono h2.size)⟩
  have pe := pth_some a n n0 n1
  generalize strL (pthT false a n) = PP at *
  clear lA bA
  unfold tgV at R P ⊢
  go_enter Tryd.func14, Tryd.ntmps14
  go_upto_region 1 with fail
  rw [← hwa]
  clear hwa
  go_wp2_with fail
  refine (R.out wa).mono ?_
  rintro e w1 ⟨rfl, b1⟩
  have L1 := LA.out.keep (by show 0 < 3; decide) b1
  have Z1 := Lib.hid (Z.out.trans (b1.mono Z.out.size))
  clear b1 LA Z c0 c1 c2
  have c0 := L1.cell 0 (v := .bool false) rfl
  have c1 := L1.cell 1 (v := .int .u32 a) rfl
  have c2 := L1.cell 2 (v := .int .i64 n) rfl
  clear L1
  go_wp2_with fail
  refine (P.out w1).mono ?_
  rintro e w2 ⟨rfl, b2⟩
  have Z2 := Lib.hid (Z1.out.trans (b2.mono Z1.out.size))
  clear b2 Z1 c0 c1 c2
  go_wp2_with fail
  go_ret
  exact FN.out _ Z2.out
set_option maxHeartbeats 4000000 in
theorem rflds_ip (au : L) (w : World) :
    Calls Tryd.prog 14 #[.string (strL au), tgV true 0 0] w fun e w' => Flds w w' e (fld6 au true 0 0) := by
  have R : Hid (∀ w, Calls Tryd.prog 24 #[tgV true 0 0] w fun e w' => e = .returned (.bool true) ∧ Below w.heap.size w w') := fun w => by
    have := rright17_ok true 0 0 w
    rwa [show rightT true 0 0 = true by rfl] at this
  have P : Hid (∀ w, Calls Tryd.prog 12 #[tgV true 0 0] w fun e w' => e = .returned (.string (strL (pthT true 0 0))) ∧ Below w.heap.size w w') := fun w => rpath_ok true 0 0 w (by decide) (by decide)
  obtain ⟨wa, hwa⟩ : ∃ wa, wa = w.alloc (.cells #[.bool true, .int .u32 0, .int .i64 0] 25) := ⟨_, rfl⟩
  have lA := tbox w true 0 0
  have bA : Below w.heap.size w (w.alloc (.cells #[.bool true, .int .u32 0, .int .i64 0] 25)) := bx w _
  rw [← hwa] at lA bA
  have c0 := lA.cell 0 (v := .bool true) rfl
  have c1 := lA.cell 1 (v := .int .u32 0) rfl
  have c2 := lA.cell 2 (v := .int .i64 0) rfl
  have LA := Lib.hid lA
  have Z : Hid (Below w.heap.size w wa) := bA
  have FN : Hid (∀ w2 : World, Below w.heap.size w w2 → Flds w (w2.alloc (.cells #[.string ⟨#[58, 109, 101, 116, 104, 111, 100]⟩, .string ⟨#[67, 79, 78, 78, 69, 67, 84]⟩, .string ⟨#[58, 112, 114, 111, 116, 111, 99, 111, 108]⟩, .string ⟨#[99, 111, 110, 110, 101, 99, 116, 45, 105, 112]⟩, .string ⟨#[58, 115, 99, 104, 101, 109, 101]⟩, .string ⟨#[104, 116, 116, 112, 115]⟩, .string ⟨#[58, 97, 117, 116, 104, 111, 114, 105, 116, 121]⟩, .string (strL au), .string ⟨#[58, 112, 97, 116, 104]⟩, .string (strL (pthT true 0 0)), .string ⟨#[99, 97, 112, 115, 117, 108, 101, 45, 112, 114, 111, 116, 111, 99, 111, 108]⟩, .string ⟨#[63, 49]⟩] 35)) (.returned (.slice (some ⟨w2.heap.size, 0, none⟩) 6 6)) (fld6 au true 0 0)) := fun w2 h2 => ⟨w2.heap.size, rfl, Lies.new w2 (fCells (fld6 au true 0 0)) 35, h2.size, h2.trans ((bx w2 _).mono h2.size)⟩
  have pe := pth_some_ip
  generalize strL (pthT true 0 0) = PP at *
  clear lA bA
  unfold tgV at R P ⊢
  go_enter Tryd.func14, Tryd.ntmps14
  go_upto_region 1 with fail
  rw [← hwa]
  clear hwa
  go_wp2_with fail
  refine (R.out wa).mono ?_
  rintro e w1 ⟨rfl, b1⟩
  have L1 := LA.out.keep (by show 0 < 3; decide) b1
  have Z1 := Lib.hid (Z.out.trans (b1.mono Z.out.size))
  clear b1 LA Z c0 c1 c2
  have c0 := L1.cell 0 (v := .bool true) rfl
  have c1 := L1.cell 1 (v := .int .u32 0) rfl
  have c2 := L1.cell 2 (v := .int .i64 0) rfl
  clear L1
  go_wp2_with fail
  refine (P.out w1).mono ?_
  rintro e w2 ⟨rfl, b2⟩
  have Z2 := Lib.hid (Z1.out.trans (b2.mono Z1.out.size))
  clear b2 Z1 c0 c1 c2
  go_wp2_with fail
  go_ret
  exact FN.out _ Z2.out
set_option maxHeartbeats 4000000 in
theorem rflds_no (au : L) (ip : Bool) (a n : Int) (w : World) (h : rightT ip a n = false) :
    Calls Tryd.prog 14 #[.string (strL au), tgV ip a n] w fun e w' => e = .returned (.slice none 0 0) ∧ Below w.heap.size w w' := by
  have P : Hid (∀ w, Calls Tryd.prog 24 #[tgV ip a n] w fun e w' => e = .returned (.bool false) ∧ Below w.heap.size w w') := fun w => by
    have := rright17_ok ip a n w
    rwa [h] at this
  obtain ⟨wa, hwa⟩ : ∃ wa, wa = w.alloc (.cells #[.bool ip, .int .u32 a, .int .i64 n] 25) := ⟨_, rfl⟩
  have lA := tbox w ip a n
  have bA : Below w.heap.size w (w.alloc (.cells #[.bool ip, .int .u32 a, .int .i64 n] 25)) := bx w _
  rw [← hwa] at lA bA
  have c0 := lA.cell 0 (v := .bool ip) rfl
  have c1 := lA.cell 1 (v := .int .u32 a) rfl
  have c2 := lA.cell 2 (v := .int .i64 n) rfl
  have Z : Hid (Below w.heap.size w wa) := bA
  clear lA bA h
  unfold tgV at P ⊢
  go_enter Tryd.func14, Tryd.ntmps14
  go_upto_region 1 with fail
  rw [← hwa]
  clear hwa
  go_wp2_with fail
  refine (P.out wa).mono ?_
  rintro e w1 ⟨rfl, b1⟩
  have Z1 := Lib.hid (Z.out.trans (b1.mono Z.out.size))
  clear b1 Z c0 c1 c2
  go_wp2_with fail
  go_ret
  exact ⟨rfl, Z1.out⟩
/-- The fields of any target. -/
def FldT (w w' : World) (e : Ending) (au : L) (ip : Bool) (a n : Int) : Prop := (rightT ip a n = true ∧ Flds w w' e (fld6 au ip a n)) ∨ (rightT ip a n = false ∧ e = .returned (.slice none 0 0) ∧ Below w.heap.size w w')
theorem right_of {ip : Bool} {a n : Int} (h : rightT ip a n = true) : (ip = false ∧ 1 ≤ n ∧ n ≤ 65535) ∨ (ip = true ∧ a = 0 ∧ n = 0) := by
  unfold rightT at h
  cases ip
  · rw [if_neg (by decide), decide_eq_true_eq] at h
    exact .inl ⟨rfl, h⟩
  · rw [if_pos rfl, decide_eq_true_eq] at h
    exact .inr ⟨rfl, h⟩
theorem flds_ok (au : L) (ip : Bool) (a n : Int) (w : World) (t : TabP w) (a0 : 0 ≤ a) (a1 : a < 4294967296) :
    Calls Tryd.prog 13 #[.string (strL au), tgV ip a n] w fun e w' => FldT w w' e au ip a n := by
  cases h : rightT ip a n with
  | false => exact (flds_no au ip a n w h).mono fun _ _ q => .inr ⟨h, q⟩
  | true =>
    rcases right_of h with ⟨rfl, h1, h2⟩ | ⟨rfl, rfl, rfl⟩
    · exact (flds_udp au a n w t a0 a1 h1 h2).mono fun _ _ q => .inl ⟨h, q⟩
    · exact (flds_ip au w t).mono fun _ _ q => .inl ⟨h, q⟩
theorem rflds_ok (au : L) (ip : Bool) (a n : Int) (w : World) (a0 : 0 ≤ a) (a1 : a < 4294967296) :
    Calls Tryd.prog 14 #[.string (strL au), tgV ip a n] w fun e w' => FldT w w' e au ip a n := by
  cases h : rightT ip a n with
  | false => exact (rflds_no au ip a n w h).mono fun _ _ q => .inr ⟨h, q⟩
  | true =>
    rcases right_of h with ⟨rfl, h1, h2⟩ | ⟨rfl, rfl, rfl⟩
    · exact (rflds_udp au a n w a0 a1 h1 h2).mono fun _ _ q => .inl ⟨h, q⟩
    · exact (rflds_ip au w).mono fun _ _ q => .inl ⟨h, q⟩
end Go.Proofs.YtojfcflkanohoaaDoor
