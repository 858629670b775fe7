/-
  What the laws CapsuleGrams and CapsuleGreat answer. The table of sizes lies as the row's list gives it; no condition but the form's own reach.
-/
import Derived.Test.YtihkbakbciejiaaDoorCpFc
import Derived.Laws.MakeOwn
import Derived.Laws.BytesArg
namespace Go.Proofs.YtihkbakbciejiaaDoor
set_option maxRecDepth 100000
open Go.RowKit Go.Sort

theorem place9 (a : Int) (c : Int) (hc : 0 < c) (hc2 : c < 4611686018427387904) : ∃ x : Nat, wrap64 ((IntKind.u64.wrap a).tmod c) = x ∧ IntKind.i64.wrap ((IntKind.u64.wrap a).tmod c) = x ∧ (x : Int) < c := by
  have h : 0 ≤ IntKind.u64.wrap a := by rw [IntKind.wrap_u64]; omega
  rw [Int.tmod_eq_emod_of_nonneg h]
  have h1 := Int.emod_nonneg (IntKind.u64.wrap a) (by omega : c ≠ 0)
  have h2 := Int.emod_lt_of_pos (IntKind.u64.wrap a) hc
  refine ⟨(IntKind.u64.wrap a % c).toNat, ?_, ?_, by omega⟩
  · unfold wrap64
    omega
  · rw [IntKind.wrap_i64]
    omega
/-- One number alone is no datagram. -/
theorem opn_one (q : Nat) (h : q ≤ 7) (t : L) : opnL ((putL q ++ t).take 1) = .error 1 := by
  have c : q = 0 ∨ q = 1 ∨ q = 2 ∨ q = 3 ∨ q = 4 ∨ q = 5 ∨ q = 6 ∨ q = 7 := by omega
  rcases c with rfl | rfl | rfl | rfl | rfl | rfl | rfl | rfl <;> rfl
theorem opnV_err {s : L} (h : opnL s = .error 1) : opnV s = .tuple #[.int .i64 0, .int .i64 0, .string ⟨#[]⟩, .int .i64 1] := by
  unfold opnV
  rw [h]
set_option maxHeartbeats 4000000 in
theorem grams16_ok (st cx : Int) (d : ByteArray) (w : World) (t : VTab w) (hs : d.size ≤ 4611686018427380000) :
    Calls Tryd.prog 7 #[.int .i64 st, .int .i64 cx, .string d] w fun e w' => e = .returned (.bool true) ∧ Below w.heap.size w w' := by
  have WO := Lib.hid (works16_ok w t)
  have T0 := Lib.hid t
  have GR : Hid (∀ w', VTab w' → _) := fun w' t' => pgrm_ok st cx d w' t' (by omega)
  clear t
  by_cases hc : (0 ≤ st ∧ st ≤ 28 ∧ st % 4 = 0) ∧ numI cx
  · have hg : grmL st cx (toL d) = .ok (putI (st / 4) ++ (putI cx ++ toL d)) := if_pos hc
    have ho := opn_grm hg
    obtain ⟨⟨h0, h1, h2⟩, h3⟩ := hc
    obtain ⟨S, hS⟩ : ∃ S, S = strL (putI (st / 4) ++ (putI cx ++ toL d)) := ⟨_, rfl⟩
    have eL : toL S = putI (st / 4) ++ (putI cx ++ toL d) := by rw [hS]; rfl
    rw [← eL] at ho
    have gv : grmV st cx (toL d) = .tuple #[.string S, .int .i64 0] := by
      unfold grmV
      rw [hg, hS]
    rw [gv] at GR
    have zS : S.size = (putI (st / 4)).length + ((putI cx).length + d.size) := by
      rw [← toL_len, eL, List.length_append, List.length_append, toL_len]
    have l1 := putL_pos (st / 4).toNat
    have l2 := putL_pos cx.toNat
    have l3 := put_len (st / 4).toNat
    have l4 := put_len cx.toNat
    unfold putI at zS
    have hS2 : 2 ≤ S.size := by omega
    have hS3 : S.size ≤ 4611686018427387903 := by omega
    have O1 : Hid (∀ w', VTab w' → _) := fun w' t' => popn_ok S w' t' hS3
    have O2 : Hid (∀ w', VTab w' → _) := fun w' t' => popn_ok (S.extract 0 1) w' t' (by rw [ByteArray.size_extract]; omega)
    have O3 : Hid (∀ w', VTab w' → _) := fun w' t' => popn_ok ⟨#[]⟩ w' t' (by decide)
    have v1 : opnV (toL S) = .tuple #[.int .i64 st, .int .i64 cx, .string d, .int .i64 0] := by
      unfold opnV
      rw [ho]
      simp only
      obtain ⟨h3, h4⟩ := h3
      rw [strL_toL, show ((st.toNat : Nat) : Int) = st by omega, show ((cx.toNat : Nat) : Int) = cx by omega]
    have v2 : opnV (toL (S.extract 0 1)) = .tuple #[.int .i64 0, .int .i64 0, .string ⟨#[]⟩, .int .i64 1] := opnV_err (by
      rw [toL_cut, eL, List.drop_zero]
      exact opn_one _ (by omega) _)
    have v3 : opnV (toL ⟨#[]⟩) = .tuple #[.int .i64 0, .int .i64 0, .string ⟨#[]⟩, .int .i64 1] := opnV_err rfl
    rw [v1] at O1
    rw [v2] at O2
    rw [v3] at O3
    have qS : decide ((S.size : Int) < 2) = false := decide_eq_false (by omega)
    clear hg ho gv eL hS zS l1 l2 l3 l4 v1 v2 v3 h0 h1 h2 h3
    go_enter Tryd.func7, Tryd.ntmps7
    go_wp2_with fail
    refine WO.out.mono ?_
    rintro e w1 ⟨rfl, b1⟩
    have Z1 := Lib.hid b1
    clear b1 WO
    go_wp2_with fail
    refine (GR.out w1 (T0.out.below Z1.out)).mono ?_
    rintro e w2 ⟨rfl, b2⟩
    have Z2 := Lib.hid (Z1.out.trans (b2.mono Z1.out.size))
    clear b2 GR Z1
    go_wp2_with fail
    refine (O1.out w2 (T0.out.below Z2.out)).mono ?_
    rintro e w3 ⟨rfl, b3⟩
    have Z3 := Lib.hid (Z2.out.trans (b3.mono Z2.out.size))
    clear b3 O1 Z2
    go_wp2_with fail
    refine (O2.out w3 (T0.out.below Z3.out)).mono ?_
    rintro e w4 ⟨rfl, b4⟩
    have Z4 := Lib.hid (Z3.out.trans (b4.mono Z3.out.size))
    clear b4 O2 Z3
    go_wp2_with fail
    refine (O3.out w4 (T0.out.below Z4.out)).mono ?_
    rintro e w5 ⟨rfl, b5⟩
    have Z5 := Lib.hid (Z4.out.trans (b5.mono Z4.out.size))
    clear b5 O3 Z4
    go_wp2_with fail
    go_ret
    exact ⟨rfl, Z5.out⟩
  · have gv : grmV st cx (toL d) = .tuple #[.string ⟨#[]⟩, .int .i64 2] := by
      unfold grmV grmL
      rw [if_neg hc]
    rw [gv] at GR
    have cs : st < 0 ∨ 28 < st ∨ (0 ≤ st ∧ st ≤ 28 ∧ ¬ st % 4 = 0) ∨ (0 ≤ st ∧ st ≤ 28 ∧ st % 4 = 0 ∧ cx < 0) ∨ (0 ≤ st ∧ st ≤ 28 ∧ st % 4 = 0 ∧ 0 ≤ cx ∧ 4611686018427387903 < cx) := by
      unfold numI at hc
      omega
    clear hc gv
    have go : ∀ (b1 b2 b3 b4 b5 : Bool), decide (st < 0) = b1 → decide (28 < st) = b2 → (st.tmod 4 != 0) = b3 → decide (cx < 0) = b4 → decide (4611686018427387903 < cx) = b5 → (b1 || b2 || b3 || b4 || b5) = true → Calls Tryd.prog 7 #[.int .i64 st, .int .i64 cx, .string d] w fun e w' => e = .returned (.bool true) ∧ Below w.heap.size w w' := by
      intro b1 b2 b3 b4 b5 e1 e2 e3 e4 e5 hb
      cases b1 <;> cases b2 <;> cases b3 <;> cases b4 <;> cases b5
      all_goals first
      | (exfalso; revert hb; decide)
      | (clear hb cs
         go_enter Tryd.func7, Tryd.ntmps7
         go_wp2_with fail
         refine WO.out.mono ?_
         rintro e w1 ⟨rfl, b1⟩
         have Z1 := Lib.hid b1
         clear b1 WO
         go_wp2_with fail
         refine (GR.out w1 (T0.out.below Z1.out)).mono ?_
         rintro e w2 ⟨rfl, b2⟩
         have Z2 := Lib.hid (Z1.out.trans (b2.mono Z1.out.size))
         clear b2 GR Z1
         go_wp2_with fail
         go_ret
         exact ⟨rfl, Z2.out⟩)
    refine go _ _ _ _ _ rfl rfl rfl rfl rfl ?_
    rcases cs with h | h | ⟨h0, h1, h⟩ | ⟨h0, h1, h2, h⟩ | ⟨h0, h1, h2, h3, h⟩
    · rw [decide_eq_true h]; rfl
    · rw [decide_eq_true (p := 28 < st) h]; simp
    · have : (st.tmod 4 != 0) = true := by rw [Int.tmod_eq_emod_of_nonneg h0]; simpa using h
      rw [this]; simp
    · rw [decide_eq_true (p := cx < 0) h]; simp
    · rw [decide_eq_true (p := 4611686018427387903 < cx) h]; simp
/-- So many bytes 0. -/
def zerB (n : Nat) : ByteArray := strOfNums (List.replicate n 0)
theorem zerB_size (n : Nat) : (zerB n).size = n := by unfold zerB; rw [strOfNums_size, List.length_replicate]
theorem info_u8z : ∃ i, Tryd.prog.info? 5 = some i ∧ i.zero = some (.int .u8 0) ∧ i.size = 1 ∧ i.bytes = 1 := by
  have h : (Tryd.prog.info? 5).map (fun i => (i.zero, i.size, i.bytes)) = some (some (.int .u8 0), 1, 1) := by kernel_rfl
  obtain ⟨i, hi, e⟩ := Option.map_eq_some_iff.1 h
  injection e with e1 e2
  injection e2 with e2 e3
  exact ⟨i, hi, e1, e2, e3⟩
theorem made_zer (n : Nat) : madeCells (Value.int .u8 0).cells (n * 1) = Array.replicate n (.int .u8 0) := by
  rw [Nat.mul_one]
  apply Array.ext_getElem?
  intro i
  by_cases h : i < n
  · simp [madeCells, h, Nat.mod_one, Value.cells]
  · simp [madeCells, h]
theorem mk_zer (n : Nat) (h : n < 1000000) (w : World) : (Instr.makeSlice 80 (.int .i64 (n : Int)) (.int .i64 (n : Int))).run Tryd.prog w = .ok (.slice (some ⟨w.heap.size, 0, none⟩) n n) (w.alloc (.cells (Array.replicate n (.int .u8 0)) 5)) := by
  obtain ⟨i, hi, hz, h2, h3⟩ := info_u8z
  have := run_make (P := Tryd.prog) w 80 5 i _ Tryd.underlying80 hi hz .i64 .i64 n n (by omega) (by omega) (by rw [h3]; omega) (by omega)
  rw [this, h2, Int.toNat_natCast, made_zer n]
theorem cv_zer (n : Nat) (w : World) : (convert 80 9 (.slice (some ⟨w.heap.size, 0, none⟩) n n)).run Tryd.prog (w.alloc (.cells (Array.replicate n (.int .u8 0)) 5)) = .ok (.string (zerB n)) (w.alloc (.cells (Array.replicate n (.int .u8 0)) 5)) := by
  refine run_convert_bytes_arg (P := Tryd.prog) _ 80 5 Tryd.underlying80 Tryd.underlying5 w.heap.size 0 n n (List.replicate n 0) (by simp) (fun i hi => ?_) 9 Tryd.underlying9
  rw [Nat.zero_add, World.cell?_alloc_new]
  simp [List.getD, hi]
theorem zero_below (w : World) (n : Nat) : Below w.heap.size w (w.alloc (.cells (Array.replicate n (.int .u8 0)) 5)) := (Below.refl _ _).alloc (Nat.le_refl _) _
/-- A great one is told by its kind and its number. -/
theorem great_go {s : L} {k z n : Nat} (h : headL s = some (k, z, n)) (hz : 4096 < z) : cNew.feed s = (⟨s, true⟩, []) := by
  have e : cNew.feed s = (Cr.mk s false).go := rfl
  have st : (Cr.mk s false).step = some (⟨s, true⟩, []) := by
    unfold Cr.step
    simp only
    rw [h]
    simp only
    rw [if_pos hz]
  rw [e, Cr.go_some rfl st, Cr.go_bad rfl]
  rfl
theorem head_put {k z : Nat} (hk : Lim k) (hz : Lim z) (t : L) : headL (putL k ++ (putL z ++ t)) = some (k, z, (putL k).length + (putL z).length) := by
  unfold headL
  rw [getL_put _ (by unfold Lim at hk; omega)]
  simp only
  rw [List.drop_append_of_le_length (Nat.le_refl _), List.drop_length, List.nil_append, getL_put _ (by unfold Lim at hz; omega)]
theorem put_two (n : Nat) (h : n < 16384) : (putL n).length ≤ 2 := by
  unfold putL
  split
  · simp
  · first
    | simp
    | (split <;> first | simp | omega)
set_option maxHeartbeats 8000000 in
theorem great16_ok (kd m : Int) (more : ByteArray) (w : World) (t : VTab w) :
    Calls Tryd.prog 8 #[.int .i64 kd, .int .i64 m, .string more] w fun e w' => e = .returned (.bool true) ∧ Below w.heap.size w w' := by
  have WO := Lib.hid (works16_ok w t)
  have T0 := Lib.hid t
  clear t
  obtain ⟨k, hk1, hk2, hk3⟩ := place9 kd 1000 (by decide) (by decide)
  obtain ⟨y, hy1, hy2, hy3⟩ := place9 m 12 (by decide) (by decide)
  obtain ⟨n, hn⟩ : ∃ n, n = 4090 + y := ⟨_, rfl⟩
  have sumE : (4090 : Int) + (y : Int) = (n : Int) := by omega
  have hn1 : n < 5000 := by omega
  have hn0 : 4090 ≤ n := by omega
  have hkk : numI (k : Int) := ⟨by omega, by omega⟩
  have lk : Lim k := by unfold Lim; omega
  have ln : Lim n := by unfold Lim; omega
  have dl : (toL (zerB n)).length = n := by rw [toL_len, zerB_size]
  have WR : Hid (∀ w', VTab w' → _) := fun w' t' => pwr_ok (k : Int) (zerB n) w' t' (by rw [zerB_size]; omega)
  have ef : frI (k : Int) (toL (zerB n)) = frm k (toL (zerB n)) := by
    unfold frI
    rw [if_pos hkk, Int.toNat_natCast]
  rw [ef] at WR
  obtain ⟨S, hS⟩ : ∃ S, S = strL (frm k (toL (zerB n))) := ⟨_, rfl⟩
  rw [← hS] at WR
  have eL : toL S = frm k (toL (zerB n)) := by rw [hS]; rfl
  have zS : S.size ≤ n + 16 := by
    have := frm_len k (toL (zerB n))
    rw [← eL, toL_len, dl] at this
    exact this
  have zS0 : n ≤ S.size := by
    have : (frm k (toL (zerB n))).length = (putL k).length + ((putL n).length + n) := by
      unfold frm
      simp only [List.length_append, dl]
    rw [← eL, toL_len] at this
    omega
  have q0 : decide ((S.size : Int) < (n : Int)) = false := decide_eq_false (by omega)
  have q0n : ¬ S.size < n := by omega
  have hmk := fun w => mk_zer n (by omega) w
  have hcv := fun w => cv_zer n w
  have NW : Hid (∀ w', VTab w' → _) := fun w' t' => pnew_ok w' t'
  have FS1 : Hid (∀ w' R, VTab w' → PC w' R cNew → _) := fun w' R t' h => pfeed_ok w' R cNew S t' h (fun _ => by show 0 + S.size < 1000000; omega)
  by_cases hg : n ≤ 4096
  · have qg : decide ((n : Int) ≤ 4096) = true := decide_eq_true (by omega)
    have fe : cNew.feed (toL S) = (⟨[], false⟩, [(k, toL (zerB n))]) := by
      have := cgo_all [(k, toL (zerB n))] (fun e he => by
        rw [List.mem_singleton] at he
        subst he
        exact ⟨lk, by show (toL (zerB n)).length ≤ 4096; omega⟩)
      rw [List.flatMap_cons, List.flatMap_nil, List.append_nil] at this
      rw [eL]
      exact this
    rw [fe] at FS1
    simp only at FS1
    have ce : cErr ⟨[], false⟩ = 0 := rfl
    rw [ce] at FS1
    have EN : Hid (∀ w' R, PC w' R ⟨[], false⟩ → _) := fun w' R h => pend_ok w' R ⟨[], false⟩ h
    have fn : Cr.fin ⟨[], false⟩ = true := rfl
    rw [fn] at EN
    have sz : (zerB n).size = n := zerB_size n
    obtain ⟨Zn, hZn⟩ : ∃ Zn, Zn = zerB n := ⟨_, rfl⟩
    rw [← hZn] at WR hcv sz FS1
    clear fe ce fn ef eL dl hS lk ln hkk zS zS0 hn hZn
    go_enter Tryd.func8, Tryd.ntmps8
    go_wp2_with fail
    refine WO.out.mono ?_
    rintro e w1 ⟨rfl, b1⟩
    have Z1 := Lib.hid b1
    have Z2 : Hid (Below w.heap.size w (w1.alloc (.cells (Array.replicate n (.int .u8 0)) 5))) := b1.trans ((zero_below w1 n).mono b1.size)
    clear b1 WO
    go_wp2_with fail
    generalize w1.alloc (.cells (Array.replicate n (.int .u8 0)) 5) = w2 at *
    clear hmk hcv Z1
    refine (WR.out w2 (T0.out.below Z2.out)).mono ?_
    rintro e w3 ⟨rfl, b3⟩
    have Z3 := Lib.hid (Z2.out.trans (b3.mono Z2.out.size))
    clear b3 Z2 WR
    go_wp2_with fail
    refine (NW.out w3 (T0.out.below Z3.out)).mono ?_
    rintro e w4 ⟨rfl, p4, b4⟩
    have Z4 := Lib.hid (Z3.out.trans (b4.mono Z3.out.size))
    have gR : Hid (w.heap.size ≤ w3.heap.size) := Z3.out.size
    generalize w3.heap.size = R at *
    have P4 := Lib.hid p4
    have T4 := Lib.hid (T0.out.below Z4.out)
    clear b4 Z3 NW p4
    go_wp2_with fail
    refine (FS1.out w4 R T4.out P4.out).mono ?_
    rintro e w5 ⟨v5, rfl, p5, r5, k5⟩
    have Z5 := Lib.hid (Z4.out.trans (k5.below Z4.out.size (fun k hk => by rw [hk]; exact gR.out)))
    have P5 := Lib.hid p5
    obtain ⟨aa, ca, rfl, ha⟩ := r5.at.cells
    obtain ⟨ga, oa, rfl, la, a0, a1⟩ := ha 0 (by show 0 < 1; decide)
    have a0' : w5.cell? ⟨ga, oa, none⟩ = some (.int .i64 (k : Int)) := a0
    have a1' : w5.cell? ⟨ga, oa + 1, none⟩ = some (.string Zn) := by rw [← strL_toL Zn]; exact a1
    have ia := fun w' => at_cp ga oa 1 ca 0 w' (by decide) 0 rfl oa rfl
    clear p5 r5 k5 FS1 P4 T4 Z4 ha a0 a1 la
    go_wp2_with fail
    refine (EN.out w5 R P5.out).mono ?_
    rintro e w6 ⟨rfl, rfl⟩
    clear EN
    go_wp2_with fail
    go_ret
    exact ⟨rfl, Z5.out⟩
  · have qg : decide ((n : Int) ≤ 4096) = false := decide_eq_false (by omega)
    have hz : 4096 < n := by omega
    have fe : cNew.feed (toL S) = (⟨toL S, true⟩, []) := by
      refine great_go (k := k) (z := n) (n := (putL k).length + (putL n).length) ?_ hz
      have := head_put lk ln (toL (zerB n))
      rw [eL]
      unfold frm
      rw [dl]
      exact this
    have z4 : 4 ≤ S.size := by omega
    have e4 : toL (S.extract 0 4) = putL k ++ (putL n ++ (toL (zerB n)).take (4 - (putL k).length - (putL n).length)) := by
      have h2 := put_two k (by omega)
      have h3 := put_two n (by omega)
      rw [toL_cut, eL, List.drop_zero]
      unfold frm
      rw [dl, List.take_append, List.take_of_length_le (by omega), List.take_append, List.take_of_length_le (by omega)]
    have fx : cNew.feed (toL (S.extract 0 4)) = (⟨toL (S.extract 0 4), true⟩, []) := by
      refine great_go (k := k) (z := n) (n := (putL k).length + (putL n).length) ?_ hz
      rw [e4]
      exact head_put lk ln _
    have FX : Hid (∀ w' R, VTab w' → PC w' R cNew → _) := fun w' R t' h => pfeed_ok w' R cNew (S.extract 0 4) t' h (fun _ => by show 0 + (S.extract 0 4).size < 1000000; rw [ByteArray.size_extract]; omega)
    have FM : Hid (∀ w' R, VTab w' → PC w' R ⟨toL S, true⟩ → _) := fun w' R t' h => pfeed_ok w' R ⟨toL S, true⟩ more t' h (fun c => by cases c)
    have EN : Hid (∀ w' R, PC w' R ⟨toL S, true⟩ → _) := fun w' R h => pend_ok w' R ⟨toL S, true⟩ h
    have fm : Cr.feed ⟨toL S, true⟩ (toL more) = (⟨toL S, true⟩, []) := rfl
    have fn : Cr.fin ⟨toL S, true⟩ = false := rfl
    rw [fe] at FS1
    rw [fx] at FX
    rw [fm] at FM
    rw [fn] at EN
    simp only at FS1 FX FM
    have ce : ∀ s, cErr ⟨s, true⟩ = 8 := fun _ => rfl
    rw [ce] at FS1 FX FM
    obtain ⟨Zn, hZn⟩ : ∃ Zn, Zn = zerB n := ⟨_, rfl⟩
    rw [← hZn] at WR hcv
    obtain ⟨C1, hC1⟩ : ∃ C1 : Cr, C1 = ⟨toL S, true⟩ := ⟨_, rfl⟩
    rw [← hC1] at FS1 FM EN
    clear fe fx fm fn ce ef eL dl hS lk ln hkk zS zS0 hn hZn e4 hC1
    go_enter Tryd.func8, Tryd.ntmps8
    go_wp2_with fail
    refine WO.out.mono ?_
    rintro e w1 ⟨rfl, b1⟩
    have Z1 := Lib.hid b1
    have Z2 : Hid (Below w.heap.size w (w1.alloc (.cells (Array.replicate n (.int .u8 0)) 5))) := b1.trans ((zero_below w1 n).mono b1.size)
    clear b1 WO
    go_wp2_with fail
    generalize w1.alloc (.cells (Array.replicate n (.int .u8 0)) 5) = w2 at *
    clear hmk hcv Z1
    refine (WR.out w2 (T0.out.below Z2.out)).mono ?_
    rintro e w3 ⟨rfl, b3⟩
    have Z3 := Lib.hid (Z2.out.trans (b3.mono Z2.out.size))
    clear b3 Z2 WR
    go_wp2_with fail
    refine (NW.out w3 (T0.out.below Z3.out)).mono ?_
    rintro e w4 ⟨rfl, p4, b4⟩
    have Z4 := Lib.hid (Z3.out.trans (b4.mono Z3.out.size))
    have gR : Hid (w.heap.size ≤ w3.heap.size) := Z3.out.size
    generalize w3.heap.size = R at *
    have P4 := Lib.hid p4
    have T4 := Lib.hid (T0.out.below Z4.out)
    clear b4 Z3 p4
    go_wp2_with fail
    refine (FS1.out w4 R T4.out P4.out).mono ?_
    rintro e w5 ⟨v5, rfl, p5, r5, k5⟩
    have Z5 := Lib.hid (Z4.out.trans (k5.below Z4.out.size (fun k hk => by rw [hk]; exact gR.out)))
    have P5 := Lib.hid p5
    obtain ⟨aa, ca, rfl⟩ := r5.slice
    have T5 := Lib.hid (T0.out.below Z5.out)
    clear p5 r5 k5 FS1 P4 T4 Z4
    go_wp2_with fail
    refine (NW.out w5 T5.out).mono ?_
    rintro e w6 ⟨rfl, p6, b6⟩
    have Z6 := Lib.hid (Z5.out.trans (b6.mono Z5.out.size))
    have P56 := Lib.hid (P5.out.keep b6)
    have gX : Hid (w.heap.size ≤ w5.heap.size ∧ R < w5.heap.size) := ⟨Z5.out.size, P5.out.lt⟩
    generalize w5.heap.size = RX at *
    have P6 := Lib.hid p6
    have T6 := Lib.hid (T0.out.below Z6.out)
    clear b6 Z5 P5 T5 NW p6
    go_wp2_with fail
    refine (FX.out w6 RX T6.out P6.out).mono ?_
    rintro e w7 ⟨v7, rfl, -, r7, k7⟩
    have Z7 := Lib.hid (Z6.out.trans (k7.below Z6.out.size (fun k hk => by rw [hk]; exact gX.out.1)))
    have P7 := Lib.hid (P56.out.of (k7.block R P56.out.lt (fun c => by have := gX.out.2; omega)))
    obtain ⟨ax, cx, rfl⟩ := r7.slice
    have T7 := Lib.hid (T0.out.below Z7.out)
    clear r7 k7 FX P6 T6 Z6 P56
    go_wp2_with fail
    refine (FM.out w7 R T7.out P7.out).mono ?_
    rintro e w8 ⟨v8, rfl, p8, r8, k8⟩
    have Z8 := Lib.hid (Z7.out.trans (k8.below Z7.out.size (fun k hk => by rw [hk]; exact gR.out)))
    have P8 := Lib.hid p8
    obtain ⟨ay, cy, rfl⟩ := r8.slice
    clear p8 r8 k8 FM P7 T7 Z7
    go_wp2_with fail
    refine (EN.out w8 R P8.out).mono ?_
    rintro e w9 ⟨rfl, rfl⟩
    clear EN
    go_wp2_with fail
    go_ret
    exact ⟨rfl, Z8.out⟩
end Go.Proofs.YtihkbakbciejiaaDoor
