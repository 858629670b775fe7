/-
  What the program's targetOf answers of any fields: the target that they ask for, or a status is thrown. The tables of Go's library lie as the row's list gives them.
-/
import Derived.Test.YtojfcflkanohoaaDoorTgGuess
import Derived.Test.YtojfcflkanohoaaDoorTgMark
namespace Go.Proofs.YtojfcflkanohoaaDoor
set_option maxRecDepth 100000
open Go.RowKit Go.Sort

theorem pre_chk {l : List Fd} (h : ¬ chkS l = 0) : pre l = 400 := by unfold pre; rw [if_neg (fun c => h c.1)]
theorem pre_mark {l : List Fd} (h : marked l = false) : pre l = 400 := by unfold pre; rw [if_neg (fun c => by rw [h] at c; cases c.2)]
theorem pre_none {l : List Fd} (h : getS l nMeth = none ∨ getS l nSchm = none ∨ getS l nAuth = none ∨ getS l nPath = none) : pre l = 400 := by
  unfold pre
  split
  · split
    · rename_i e1 e2 e3 e4
      rcases h with h | h | h | h
      · rw [h] at e1; cases e1
      · rw [h] at e2; cases e2
      · rw [h] at e3; cases e3
      · rw [h] at e4; cases e4
    · rfl
  · rfl
theorem pre_all {l : List Fd} {m s a p : L} (hc : chkS l = 0) (hm : marked l = true) (h1 : getS l nMeth = some m) (h2 : getS l nSchm = some s) (h3 : getS l nAuth = some a) (h4 : getS l nPath = some p) :
    pre l = if m = cConn then (match getS l nProt with
        | some p => if p = cUdp ∨ p = cIp then (if s = cHttps ∧ a ≠ [] ∧ getS l nCaps = some cYes then 0 else 400) else 501
        | none => 400) else 405 := by
  unfold pre
  rw [if_pos ⟨hc, hm⟩, h1, h2, h3, h4]
  rfl
/-- What targetOf answers. -/
def OfE (l : List Fd) (e : Ending) : Prop := (pre l ≠ 0 ∧ e = .panicked (thrown (pre l))) ∨ (pre l = 0 ∧ TgE ((getS l nPath).getD []) (decide (getS l nProt = some cUdp)) e)
theorem OfE.bad {l : List Fd} {x : Int} (h : pre l = x) (hx : x ≠ 0) : OfE l (.panicked (thrown x)) := .inl ⟨by rw [h]; exact hx, by rw [h]⟩
theorem fst_len : ∀ {l : List Fd}, fstE l = 0 → ∀ f ∈ l, rtE f = 0
  | [], _, f, hf => by cases hf
  | g :: l, h, f, hf => by
    unfold fstE at h
    split at h
    · rename_i q
      rcases List.mem_cons.1 hf with rfl | hf
      · exact q
      · exact fst_len h f hf
    · rename_i q
      exact absurd h q
theorem chk_fst {l : List Fd} (h : chkS l = 0) : fstE l = 0 ∧ l.length ≤ 16 := by
  unfold chkS at h
  split at h
  · cases h
  · exact ⟨h, by omega⟩
theorem rt_lens {f : Fd} (h : rtE f = 0) : f.1.length ≤ 256 ∧ f.2.length ≤ 256 ∧ f.1 ≠ [] := by
  unfold rtE at h
  split at h
  · cases h
  · split at h
    · cases h
    · rename_i q r
      exact ⟨by omega, by omega, r⟩
theorem get_mem {l : List Fd} {n v : L} (h : getS l n = some v) : ∃ f ∈ l, f.1 = n ∧ f.2 = v := by
  unfold getS at h
  split at h
  · rename_i f e
    injection h with h
    have : f ∈ l.filter (isN n) := by rw [e]; exact List.mem_cons_self
    obtain ⟨h1, h2⟩ := List.mem_filter.1 this
    exact ⟨f, h1, of_decide_eq_true h2, h⟩
  · cases h
theorem get_len {l : List Fd} {n v : L} (hc : chkS l = 0) (h : getS l n = some v) : v.length ≤ 256 := by
  obtain ⟨f, hf, _, rfl⟩ := get_mem h
  exact (rt_lens (fst_len (chk_fst hc).1 f hf)).2.1
set_option maxHeartbeats 16000000 in
theorem of_ok (l : List Fd) (v : Value) (w : World) (t : Tab w) (h : FdsAt w v l) (hl : l.length ≤ maxLen) :
    Calls Tryd.prog 18 #[v] w fun e w' => OfE l e ∧ Below w.heap.size w w' := by
  obtain ⟨a, c, rfl⟩ := h.slice
  have HK : Hid (∀ w2, Below w.heap.size w w2 → FdsAt w2 (.slice a l.length c) l) := fun w2 b => h.keep b
  have tK : Hid (∀ w2, Below w.heap.size w w2 → Tab w2) := fun w2 b => t.keep b
  have CK : Hid (∀ w2, Below w.heap.size w w2 → Calls Tryd.prog 29 #[.slice a l.length c] w2 fun e w' => e = .returned (.int .i64 (chkS l)) ∧ Below w2.heap.size w2 w') := fun w2 b => pcheck14_ok l _ w2 (HK.out w2 b) hl
  have VM : Hid (∀ w2, Below w.heap.size w w2 → Calls Tryd.prog 30 #[.slice a l.length c, .string ⟨#[58, 109, 101, 116, 104, 111, 100]⟩] w2 fun e w' => e = ValE l nMeth ∧ Below w2.heap.size w2 w') := fun w2 b => valueOf_ok l nMeth _ w2 (HK.out w2 b) hl
  have VS : Hid (∀ w2, Below w.heap.size w w2 → Calls Tryd.prog 30 #[.slice a l.length c, .string ⟨#[58, 115, 99, 104, 101, 109, 101]⟩] w2 fun e w' => e = ValE l nSchm ∧ Below w2.heap.size w2 w') := fun w2 b => valueOf_ok l nSchm _ w2 (HK.out w2 b) hl
  have VA : Hid (∀ w2, Below w.heap.size w w2 → Calls Tryd.prog 30 #[.slice a l.length c, .string ⟨#[58, 97, 117, 116, 104, 111, 114, 105, 116, 121]⟩] w2 fun e w' => e = ValE l nAuth ∧ Below w2.heap.size w2 w') := fun w2 b => valueOf_ok l nAuth _ w2 (HK.out w2 b) hl
  have VP : Hid (∀ w2, Below w.heap.size w w2 → Calls Tryd.prog 30 #[.slice a l.length c, .string ⟨#[58, 112, 97, 116, 104]⟩] w2 fun e w' => e = ValE l nPath ∧ Below w2.heap.size w2 w') := fun w2 b => valueOf_ok l nPath _ w2 (HK.out w2 b) hl
  have VR : Hid (∀ w2, Below w.heap.size w w2 → Calls Tryd.prog 30 #[.slice a l.length c, .string ⟨#[58, 112, 114, 111, 116, 111, 99, 111, 108]⟩] w2 fun e w' => e = ValE l nProt ∧ Below w2.heap.size w2 w') := fun w2 b => valueOf_ok l nProt _ w2 (HK.out w2 b) hl
  have VC : Hid (∀ w2, Below w.heap.size w w2 → Calls Tryd.prog 30 #[.slice a l.length c, .string ⟨#[99, 97, 112, 115, 117, 108, 101, 45, 112, 114, 111, 116, 111, 99, 111, 108]⟩] w2 fun e w' => e = ValE l nCaps ∧ Below w2.heap.size w2 w') := fun w2 b => valueOf_ok l nCaps _ w2 (HK.out w2 b) hl
  have MK : Hid (∀ w2, Below w.heap.size w w2 → Calls Tryd.prog 31 #[.slice a l.length c] w2 fun e w' => e = ReqE (marked l) 400 ∧ Below w2.heap.size w2 w') := fun w2 b => mark_ok l _ w2 (HK.out w2 b) hl
  have RN : Hid (∀ (x : Int) (w : World), _) := fun x w => req_no x w
  have RY : Hid (∀ (x : Int) (w : World), _) := fun x w => req_yes x w
  have lA := Lies.new w [.bool false, .int .u32 0, .int .i64 0] 25
  have bA := bx1 w (.cells #[.bool false, .int .u32 0, .int .i64 0] 25)
  obtain ⟨wa, hwa⟩ : ∃ wa, wa = w.alloc (.cells #[.bool false, .int .u32 0, .int .i64 0] 25) := ⟨_, rfl⟩
  have LA0 : Hid (Lies wa w.heap.size [.bool false, .int .u32 0, .int .i64 0]) := by unfold Hid; rw [hwa]; exact lA
  rw [← hwa] at bA
  have B0 := Lib.hid bA
  obtain ⟨J, hJ⟩ : ∃ J, J = w.heap.size := ⟨_, rfl⟩
  rw [← hJ] at LA0
  replace hJ := Lib.hid hJ
  clear lA bA h t hl
  generalize l.length = n at *
  go_enter Tryd.func18, Tryd.ntmps18
  go_upto_region 1 with fail
  rw [← hwa, ← hJ.out]
  clear hwa
  go_wp2_with fail
  refine (CK.out wa B0.out).mono ?_
  rintro e w1 ⟨rfl, b1⟩
  have B1 := Lib.hid (B0.out.trans (b1.mono B0.out.size))
  have LA1 := Lib.hid (LA0.out.keep (by show 0 < 3; decide) b1)
  clear b1 B0 LA0
  clear CK
  by_cases qc : chkS l = 0
  rotate_left
  · skip
    have E0 : Hid (OfE l (.panicked (thrown 400))) := OfE.bad (pre_chk qc) (by decide)
    have z : (chkS l == 0) = false := by rw [beq_eq_false_iff_ne]; exact qc
    clear qc
    generalize chkS l = ck at *
    go_wp2_with fail
    refine (RN.out 400 w1).mono ?_
    rintro e w' ⟨rfl, rfl⟩
    exact ⟨rfl, E0.out, B1.out⟩
  have z : (chkS l == 0) = true := by rw [qc]; rfl
  rw [qc]
  go_wp2_with fail
  refine (RY.out 400 w1).mono ?_
  rintro e w' ⟨rfl, rfl⟩
  rcases qgm : getS l nMeth with _ | m
  · skip
    unfold ValE at VM
    rw [qgm] at VM
    simp only at VM
    have E0 : Hid (OfE l (.panicked (thrown 400))) := OfE.bad (pre_none (.inl qgm)) (by decide)
    go_wp2_with fail
    refine (VM.out w1 B1.out).mono ?_
    rintro e w2 ⟨rfl, b2⟩
    exact ⟨rfl, E0.out, B1.out.trans (b2.mono B1.out.size)⟩
  unfold ValE at VM
  rw [qgm] at VM
  simp only at VM
  go_wp2_with fail
  refine (VM.out w1 B1.out).mono ?_
  rintro e w3 ⟨rfl, b3⟩
  have B3 := Lib.hid (B1.out.trans (b3.mono B1.out.size))
  have LA3 := Lib.hid (LA1.out.keep (by show 0 < 3; decide) b3)
  clear b3 B1 LA1
  clear VM
  rcases qgs : getS l nSchm with _ | s
  · skip
    unfold ValE at VS
    rw [qgs] at VS
    simp only at VS
    have E0 : Hid (OfE l (.panicked (thrown 400))) := OfE.bad (pre_none (.inr (.inl qgs))) (by decide)
    go_wp2_with fail
    refine (VS.out w3 B3.out).mono ?_
    rintro e w4 ⟨rfl, b4⟩
    exact ⟨rfl, E0.out, B3.out.trans (b4.mono B3.out.size)⟩
  unfold ValE at VS
  rw [qgs] at VS
  simp only at VS
  go_wp2_with fail
  refine (VS.out w3 B3.out).mono ?_
  rintro e w5 ⟨rfl, b5⟩
  have B5 := Lib.hid (B3.out.trans (b5.mono B3.out.size))
  have LA5 := Lib.hid (LA3.out.keep (by show 0 < 3; decide) b5)
  clear b5 B3 LA3
  clear VS
  rcases qgau : getS l nAuth with _ | au
  · skip
    unfold ValE at VA
    rw [qgau] at VA
    simp only at VA
    have E0 : Hid (OfE l (.panicked (thrown 400))) := OfE.bad (pre_none (.inr (.inr (.inl qgau)))) (by decide)
    go_wp2_with fail
    refine (VA.out w5 B5.out).mono ?_
    rintro e w6 ⟨rfl, b6⟩
    exact ⟨rfl, E0.out, B5.out.trans (b6.mono B5.out.size)⟩
  unfold ValE at VA
  rw [qgau] at VA
  simp only at VA
  go_wp2_with fail
  refine (VA.out w5 B5.out).mono ?_
  rintro e w7 ⟨rfl, b7⟩
  have B7 := Lib.hid (B5.out.trans (b7.mono B5.out.size))
  have LA7 := Lib.hid (LA5.out.keep (by show 0 < 3; decide) b7)
  clear b7 B5 LA5
  clear VA
  rcases qgp : getS l nPath with _ | p
  · skip
    unfold ValE at VP
    rw [qgp] at VP
    simp only at VP
    have E0 : Hid (OfE l (.panicked (thrown 400))) := OfE.bad (pre_none (.inr (.inr (.inr qgp)))) (by decide)
    go_wp2_with fail
    refine (VP.out w7 B7.out).mono ?_
    rintro e w8 ⟨rfl, b8⟩
    exact ⟨rfl, E0.out, B7.out.trans (b8.mono B7.out.size)⟩
  unfold ValE at VP
  rw [qgp] at VP
  simp only at VP
  go_wp2_with fail
  refine (VP.out w7 B7.out).mono ?_
  rintro e w9 ⟨rfl, b9⟩
  have B9 := Lib.hid (B7.out.trans (b9.mono B7.out.size))
  have LA9 := Lib.hid (LA7.out.keep (by show 0 < 3; decide) b9)
  clear b9 B7 LA7
  clear VP
  rcases qm : marked l with _ | _
  · skip
    unfold ReqE at MK
    rw [qm] at MK
    simp only [Bool.false_eq_true, if_false] at MK
    have E0 : Hid (OfE l (.panicked (thrown 400))) := OfE.bad (pre_mark qm) (by decide)
    go_wp2_with fail
    refine (MK.out w9 B9.out).mono ?_
    rintro e w10 ⟨rfl, b10⟩
    exact ⟨rfl, E0.out, B9.out.trans (b10.mono B9.out.size)⟩
  unfold ReqE at MK
  rw [qm] at MK
  simp only [if_true] at MK
  go_wp2_with fail
  refine (MK.out w9 B9.out).mono ?_
  rintro e w11 ⟨rfl, b11⟩
  have B11 := Lib.hid (B9.out.trans (b11.mono B9.out.size))
  have LA11 := Lib.hid (LA9.out.keep (by show 0 < 3; decide) b11)
  clear b11 B9 LA9
  clear MK
  have PA := pre_all qc qm qgm qgs qgau qgp
  by_cases q1 : m = cConn
  rotate_left
  · skip
    have z1 : ((strL m).toList == [67, 79, 78, 78, 69, 67, 84]) = false := by rw [eq_lit]; exact decide_eq_false q1
    rw [if_neg q1] at PA
    have E0 : Hid (OfE l (.panicked (thrown 405))) := OfE.bad PA (by decide)
    clear q1 PA
    go_wp2_with fail
    refine (RN.out 405 w11).mono ?_
    rintro e w' ⟨rfl, rfl⟩
    exact ⟨rfl, E0.out, B11.out⟩
  have z1 : ((strL m).toList == [67, 79, 78, 78, 69, 67, 84]) = true := by rw [eq_lit]; exact decide_eq_true q1
  rw [if_pos q1] at PA
  replace q1 := Lib.hid q1
  go_wp2_with fail
  refine (RY.out 405 w11).mono ?_
  rintro e w' ⟨rfl, rfl⟩
  rcases qgpr : getS l nProt with _ | pr
  · skip
    unfold ValE at VR
    rw [qgpr] at VR PA
    simp only at VR PA
    have E0 : Hid (OfE l (.panicked (thrown 400))) := OfE.bad PA (by decide)
    go_wp2_with fail
    refine (VR.out w11 B11.out).mono ?_
    rintro e w12 ⟨rfl, b12⟩
    exact ⟨rfl, E0.out, B11.out.trans (b12.mono B11.out.size)⟩
  unfold ValE at VR
  rw [qgpr] at VR PA
  simp only at VR PA
  go_wp2_with fail
  refine (VR.out w11 B11.out).mono ?_
  rintro e w13 ⟨rfl, b13⟩
  have B13 := Lib.hid (B11.out.trans (b13.mono B11.out.size))
  have LA13 := Lib.hid (LA11.out.keep (by show 0 < 3; decide) b13)
  clear b13 B11 LA11
  clear VR
  by_cases q2 : pr = cUdp ∨ pr = cIp
  rotate_left
  · skip
    have z2 : ((strL pr).toList == [99, 111, 110, 110, 101, 99, 116, 45, 117, 100, 112]) = false := by rw [eq_lit]; exact decide_eq_false fun e => q2 (.inl e)
    have z3 : ((strL pr).toList == [99, 111, 110, 110, 101, 99, 116, 45, 105, 112]) = false := by rw [eq_lit]; exact decide_eq_false fun e => q2 (.inr e)
    rw [if_neg q2] at PA
    have E0 : Hid (OfE l (.panicked (thrown 501))) := OfE.bad PA (by decide)
    clear q2 PA
    go_wp2_with fail
    refine (RN.out 501 w13).mono ?_
    rintro e w' ⟨rfl, rfl⟩
    exact ⟨rfl, E0.out, B13.out⟩
  rw [if_pos q2] at PA
  have RU : Hid (∀ w, Calls Tryd.prog 28 #[.bool true, .int .i64 501] w fun e w' => e = .returned (.tuple #[]) ∧ w = w') := fun w => req_yes 501 w
  obtain ⟨u, hu⟩ : ∃ u, u = decide (pr = cUdp) := ⟨_, rfl⟩
  have z2 : ((strL pr).toList == [99, 111, 110, 110, 101, 99, 116, 45, 117, 100, 112]) = u := by rw [eq_lit, hu]
  have z3 : ((strL pr).toList == [99, 111, 110, 110, 101, 99, 116, 45, 105, 112]) = !u := by rw [eq_lit, hu]; rcases q2 with q2 | q2 <;> (subst q2; decide)
  have TA : Hid (∀ w2, Below w.heap.size w w2 → Calls Tryd.prog 32 #[.string (strL p), .string (strL pr)] w2 fun e w' => TgE p u e ∧ Below w2.heap.size w2 w') := fun w2 b => by
    rw [hu]
    by_cases q : pr = cUdp
    · rw [decide_eq_true q]; exact at_udp p pr w2 (tK.out w2 b) (by have := get_len qc qgp; omega) q
    · rw [decide_eq_false q]; exact at_ip p pr w2 q
  have FIN : Hid (pre l = 0 → ∀ e, TgE p u e → OfE l e) := fun q e h => .inr ⟨q, by rw [qgp, qgpr]; simp only [Option.getD_some, Option.some.injEq]; rw [← hu]; exact h⟩
  clear hu q2 RN RY
  have RN4 : Hid (∀ w, _) := fun w => req_no 400 w
  have RY4 : Hid (∀ w, _) := fun w => req_yes 400 w
  have E4 : Hid (pre l = 400 → OfE l (.panicked (thrown 400))) := fun q => OfE.bad q (by decide)
  clear HK tK qgm qgs qgau qgp qgpr qc qm q1 z z1
  generalize hsp : strL p = SP at *
  generalize hsr : strL pr = SR at *
  clear hsp hsr
  have ea := emp_strL au
  have es : ((strL s).toList == [104, 116, 116, 112, 115]) = decide (s = cHttps) := eq_lit _ _
  generalize strL s = SS at *
  generalize strL au = SA at *
  generalize strL m = SM at *
  cases u
  · skip
    go_wp2_with fail
    refine (RU.out w13).mono ?_
    rintro e w' ⟨rfl, rfl⟩
    by_cases qs : s = cHttps ∧ au ≠ []
    rotate_left
    · skip
      rw [if_neg (fun c => qs ⟨c.1, c.2.1⟩)] at PA
      have E0 := Lib.hid (E4.out PA)
      clear PA
      by_cases q3 : s = cHttps
      · skip
        rw [decide_eq_true q3] at es
        have ea2 : SA.toList.isEmpty = true := by rw [ea]; cases au with | nil => rfl | cons x y => exact absurd ⟨q3, by simp⟩ qs
        clear ea qs q3
        go_wp2_with fail
        refine (RN4.out w13).mono ?_
        rintro e w' ⟨rfl, rfl⟩
        exact ⟨rfl, E0.out, B13.out⟩
      · skip
        rw [decide_eq_false q3] at es
        clear qs q3
        go_wp2_with fail
        refine (RN4.out w13).mono ?_
        rintro e w' ⟨rfl, rfl⟩
        exact ⟨rfl, E0.out, B13.out⟩
    rw [decide_eq_true qs.1] at es
    have ea2 : SA.toList.isEmpty = false := by rw [ea]; cases au with | nil => exact absurd rfl qs.2 | cons x y => rfl
    clear ea
    go_wp2_with fail
    refine (RY4.out w13).mono ?_
    rintro e w' ⟨rfl, rfl⟩
    rcases qcp : getS l nCaps with _ | cp
    · skip
      unfold ValE at VC
      rw [qcp] at VC PA
      simp only at VC
      rw [if_neg (by rintro ⟨_, _, c⟩; cases c)] at PA
      have E0 := Lib.hid (E4.out PA)
      go_wp2_with fail
      refine (VC.out w13 B13.out).mono ?_
      rintro e w14 ⟨rfl, b14⟩
      exact ⟨rfl, E0.out, B13.out.trans (b14.mono B13.out.size)⟩
    unfold ValE at VC
    rw [qcp] at VC PA
    simp only at VC
    have ec : ((strL cp).toList == [63, 49]) = decide (cp = cYes) := eq_lit _ _
    generalize strL cp = SC at *
    go_wp2_with fail
    refine (VC.out w13 B13.out).mono ?_
    rintro e w15 ⟨rfl, b15⟩
    have B15 := Lib.hid (B13.out.trans (b15.mono B13.out.size))
    have LA15 := Lib.hid (LA13.out.keep (by show 0 < 3; decide) b15)
    clear b15 B13 LA13
    clear VC
    by_cases q5 : cp = cYes
    rotate_left
    · skip
      rw [decide_eq_false q5] at ec
      rw [if_neg (fun c => q5 (by have := c.2.2; injection this))] at PA
      have E0 := Lib.hid (E4.out PA)
      clear q5 PA
      go_wp2_with fail
      refine (RN4.out w15).mono ?_
      rintro e w' ⟨rfl, rfl⟩
      exact ⟨rfl, E0.out, B15.out⟩
    rw [decide_eq_true q5] at ec
    rw [if_pos ⟨qs.1, qs.2, by rw [q5]⟩] at PA
    replace FIN := Lib.hid (FIN.out PA)
    clear q5 PA qs
    go_wp2_with fail
    refine (RY4.out w15).mono ?_
    rintro e w' ⟨rfl, rfl⟩
    go_wp2_with fail
    refine (TA.out w15 B15.out).mono ?_
    rintro e w16 ⟨hT, b16⟩
    have B16 := Lib.hid (B15.out.trans (b16.mono B15.out.size))
    have M := LA15.out.keep (by show 0 < 3; decide) b16
    clear b16 B15 LA15 TA
    rcases hT with ⟨ip, a', n', hT, rfl⟩ | ⟨hT, rfl⟩
    · skip
      have E0 : Hid (OfE l (.returned (tgV ip a' n'))) := FIN.out _ (.inl ⟨ip, a', n', hT, rfl⟩)
      unfold tgV at E0
      unfold tgV
      have d0 := M.cell 0 (v := .bool false) rfl
      have d1 := M.cell 1 (v := .int .u32 0) rfl
      have d2 := M.cell 2 (v := .int .i64 0) rfl
      have f0 := M.free 0 (by show 0 < 3; decide)
      have f1 := M.free 1 (by show 1 < 3; decide)
      have f2 := M.free 2 (by show 2 < 3; decide)
      have M4 := ((M.put 0 (by show 0 < 3; decide) (.bool ip)).put 1 (by show 1 < 3; decide) (.int .u32 a')).put 2 (by show 2 < 3; decide) (.int .i64 n')
      have k0 := M4.cell 0 (v := .bool ip) rfl
      have k1 := M4.cell 1 (v := .int .u32 a') rfl
      have k2 := M4.cell 2 (v := .int .i64 n') rfl
      have jj : w.heap.size ≤ J := by rw [hJ.out]; exact Nat.le_refl _
      have BE : Hid (Below w.heap.size w (((w16.setCell ⟨J, 0, none⟩ (.bool ip)).setCell ⟨J, 1, none⟩ (.int .u32 a')).setCell ⟨J, 2, none⟩ (.int .i64 n'))) := ((B16.out.setCell (p := ⟨J, 0, none⟩) jj _).setCell (p := ⟨J, 1, none⟩) jj _).setCell (p := ⟨J, 2, none⟩) jj _
      clear M M4 B16 jj hT FIN E4
      go_wp2_with fail
      refine bodyPost_ret (v := .agg #[.bool ip, .int .u32 a', .int .i64 n']) (by simp [results, Tryd.results18, go_sem, *]) rfl ?_
      exact ⟨E0.out, BE.out⟩
    · skip
      exact ⟨rfl, FIN.out _ (.inr ⟨hT, rfl⟩), B16.out⟩
  · skip
    go_wp2_with fail
    refine (RU.out w13).mono ?_
    rintro e w' ⟨rfl, rfl⟩
    by_cases qs : s = cHttps ∧ au ≠ []
    rotate_left
    · skip
      rw [if_neg (fun c => qs ⟨c.1, c.2.1⟩)] at PA
      have E0 := Lib.hid (E4.out PA)
      clear PA
      by_cases q3 : s = cHttps
      · skip
        rw [decide_eq_true q3] at es
        have ea2 : SA.toList.isEmpty = true := by rw [ea]; cases au with | nil => rfl | cons x y => exact absurd ⟨q3, by simp⟩ qs
        clear ea qs q3
        go_wp2_with fail
        refine (RN4.out w13).mono ?_
        rintro e w' ⟨rfl, rfl⟩
        exact ⟨rfl, E0.out, B13.out⟩
      · skip
        rw [decide_eq_false q3] at es
        clear qs q3
        go_wp2_with fail
        refine (RN4.out w13).mono ?_
        rintro e w' ⟨rfl, rfl⟩
        exact ⟨rfl, E0.out, B13.out⟩
    rw [decide_eq_true qs.1] at es
    have ea2 : SA.toList.isEmpty = false := by rw [ea]; cases au with | nil => exact absurd rfl qs.2 | cons x y => rfl
    clear ea
    go_wp2_with fail
    refine (RY4.out w13).mono ?_
    rintro e w' ⟨rfl, rfl⟩
    rcases qcp : getS l nCaps with _ | cp
    · skip
      unfold ValE at VC
      rw [qcp] at VC PA
      simp only at VC
      rw [if_neg (by rintro ⟨_, _, c⟩; cases c)] at PA
      have E0 := Lib.hid (E4.out PA)
      go_wp2_with fail
      refine (VC.out w13 B13.out).mono ?_
      rintro e w17 ⟨rfl, b17⟩
      exact ⟨rfl, E0.out, B13.out.trans (b17.mono B13.out.size)⟩
    unfold ValE at VC
    rw [qcp] at VC PA
    simp only at VC
    have ec : ((strL cp).toList == [63, 49]) = decide (cp = cYes) := eq_lit _ _
    generalize strL cp = SC at *
    go_wp2_with fail
    refine (VC.out w13 B13.out).mono ?_
    rintro e w18 ⟨rfl, b18⟩
    have B18 := Lib.hid (B13.out.trans (b18.mono B13.out.size))
    have LA18 := Lib.hid (LA13.out.keep (by show 0 < 3; decide) b18)
    clear b18 B13 LA13
    clear VC
    by_cases q5 : cp = cYes
    rotate_left
    · skip
      rw [decide_eq_false q5] at ec
      rw [if_neg (fun c => q5 (by have := c.2.2; injection this))] at PA
      have E0 := Lib.hid (E4.out PA)
      clear q5 PA
      go_wp2_with fail
      refine (RN4.out w18).mono ?_
      rintro e w' ⟨rfl, rfl⟩
      exact ⟨rfl, E0.out, B18.out⟩
    rw [decide_eq_true q5] at ec
    rw [if_pos ⟨qs.1, qs.2, by rw [q5]⟩] at PA
    replace FIN := Lib.hid (FIN.out PA)
    clear q5 PA qs
    go_wp2_with fail
    refine (RY4.out w18).mono ?_
    rintro e w' ⟨rfl, rfl⟩
    go_wp2_with fail
    refine (TA.out w18 B18.out).mono ?_
    rintro e w19 ⟨hT, b19⟩
    have B19 := Lib.hid (B18.out.trans (b19.mono B18.out.size))
    have M := LA18.out.keep (by show 0 < 3; decide) b19
    clear b19 B18 LA18 TA
    rcases hT with ⟨ip, a', n', hT, rfl⟩ | ⟨hT, rfl⟩
    · skip
      have E0 : Hid (OfE l (.returned (tgV ip a' n'))) := FIN.out _ (.inl ⟨ip, a', n', hT, rfl⟩)
      unfold tgV at E0
      unfold tgV
      have d0 := M.cell 0 (v := .bool false) rfl
      have d1 := M.cell 1 (v := .int .u32 0) rfl
      have d2 := M.cell 2 (v := .int .i64 0) rfl
      have f0 := M.free 0 (by show 0 < 3; decide)
      have f1 := M.free 1 (by show 1 < 3; decide)
      have f2 := M.free 2 (by show 2 < 3; decide)
      have M4 := ((M.put 0 (by show 0 < 3; decide) (.bool ip)).put 1 (by show 1 < 3; decide) (.int .u32 a')).put 2 (by show 2 < 3; decide) (.int .i64 n')
      have k0 := M4.cell 0 (v := .bool ip) rfl
      have k1 := M4.cell 1 (v := .int .u32 a') rfl
      have k2 := M4.cell 2 (v := .int .i64 n') rfl
      have jj : w.heap.size ≤ J := by rw [hJ.out]; exact Nat.le_refl _
      have BE : Hid (Below w.heap.size w (((w19.setCell ⟨J, 0, none⟩ (.bool ip)).setCell ⟨J, 1, none⟩ (.int .u32 a')).setCell ⟨J, 2, none⟩ (.int .i64 n'))) := ((B19.out.setCell (p := ⟨J, 0, none⟩) jj _).setCell (p := ⟨J, 1, none⟩) jj _).setCell (p := ⟨J, 2, none⟩) jj _
      clear M M4 B19 jj hT FIN E4
      go_wp2_with fail
      refine bodyPost_ret (v := .agg #[.bool ip, .int .u32 a', .int .i64 n']) (by simp [results, Tryd.results18, go_sem, *]) rfl ?_
      exact ⟨E0.out, BE.out⟩
    · skip
      exact ⟨rfl, FIN.out _ (.inr ⟨hT, rfl⟩), B19.out⟩
end Go.Proofs.YtojfcflkanohoaaDoor
