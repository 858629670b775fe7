/-
  The walk of TargetBack: a request for a target, with more fields behind, is a request for it. The tables of Go's library lie as the row's list gives them; no other condition but the form's own reach.
-/
import Derived.Test.YtojfcflkanohoaaDoorTgWorks
import Derived.Test.YtojfcflkanohoaaDoorTgApp
import Derived.Test.YtojfcflkanohoaaDoorTgGet
namespace Go.Proofs.YtojfcflkanohoaaDoor
set_option maxRecDepth 100000
open Go.RowKit Go.Sort

/-- Names that may stand behind. -/
def gdN (n : L) : Bool := !n.isEmpty && !col n && !decide (n = nCaps)
theorem get_app {l m : List Fd} {n : L} (h : ∀ f ∈ m, f.1 ≠ n) : getS (l ++ m) n = getS l n := by
  unfold getS
  have : m.filter (isN n) = [] := by
    rw [List.filter_eq_nil_iff]
    intro f hf
    unfold isN
    rw [decide_eq_true_eq]
    exact h f hf
  rw [List.filter_append, this, List.append_nil]
theorem gd_ne {n : L} (h : gdN n = true) : col n = false ∧ n ≠ nCaps ∧ ∀ m : L, col m = true → n ≠ m := by
  unfold gdN at h
  rw [Bool.and_eq_true, Bool.and_eq_true, Bool.not_eq_true', Bool.not_eq_true', Bool.not_eq_true', decide_eq_false_iff_not] at h
  exact ⟨h.1.2, h.2, fun m hm e => by rw [e, hm] at h; exact absurd h.1.2 (by decide)⟩
theorem back_marked (au : L) (ip : Bool) (a n : Int) (m : List Fd) (h : ∀ f ∈ m, gdN f.1 = true) : marked (fld6 au ip a n ++ m) = true := by
  have g : ∀ nm : L, col nm = true → getS (fld6 au ip a n ++ m) nm = getS (fld6 au ip a n) nm := fun nm hn => get_app fun f hf => (gd_ne (h f hf)).2.2 nm hn
  rw [marked_iff]
  intro i hi
  unfold okAt
  by_cases h6 : i < 6
  · rcases (show i = 0 ∨ i = 1 ∨ i = 2 ∨ i = 3 ∨ i = 4 ∨ i = 5 by omega) with rfl | rfl | rfl | rfl | rfl | rfl
    · show (!col nMeth || (_ && (getS _ nMeth).isSome && known nMeth)) = true
      rw [g nMeth rfl]; rfl
    · show (!col nProt || (_ && (getS _ nProt).isSome && known nProt)) = true
      rw [g nProt rfl]; rfl
    · show (!col nSchm || (_ && (getS _ nSchm).isSome && known nSchm)) = true
      rw [g nSchm rfl]; rfl
    · show (!col nAuth || (_ && (getS _ nAuth).isSome && known nAuth)) = true
      rw [g nAuth rfl]; rfl
    · show (!col nPath || (_ && (getS _ nPath).isSome && known nPath)) = true
      rw [g nPath rfl]; rfl
    · rfl
  · have hl : (fld6 au ip a n).length = 6 := rfl
    have e : (fld6 au ip a n ++ m).getD i nF = m.getD (i - 6) nF := by rw [List.getD, List.getD, List.getElem?_append_right (by rw [hl]; omega), hl]
    have hi2 : i - 6 < m.length := by rw [List.length_append, hl] at hi; omega
    have hm : m.getD (i - 6) nF ∈ m := by rw [List.getD, List.getElem?_eq_getElem hi2]; exact List.getElem_mem hi2
    rw [e, (gd_ne (h _ hm)).1]
    rfl
theorem back_asks (au : L) (ip : Bool) (a n : Int) (m : List Fd) (h : ∀ f ∈ m, gdN f.1 = true) (hr : rightT ip a n = true) (a0 : 0 ≤ a) (a1 : a < 4294967296) {ip' : Bool} {b k st : Int} (hA : Asks (fld6 au ip a n ++ m) ip' b k st) :
    if chkS (fld6 au ip a n ++ m) = 0 ∧ au ≠ [] then ip' = ip ∧ b = a ∧ k = n ∧ st = 200 else ip' = false ∧ b = 0 ∧ k = 0 ∧ st = 400 := by
  have g : ∀ nm : L, col nm = true → getS (fld6 au ip a n ++ m) nm = getS (fld6 au ip a n) nm := fun nm hn => get_app fun f hf => (gd_ne (h f hf)).2.2 nm hn
  have gc : getS (fld6 au ip a n ++ m) nCaps = some cYes := (get_app fun f hf => (gd_ne (h f hf)).2.1).trans rfl
  have hm := back_marked au ip a n m h
  have g1 := (g nMeth rfl).trans (show getS (fld6 au ip a n) nMeth = some cConn from rfl)
  have g2 := (g nSchm rfl).trans (show getS (fld6 au ip a n) nSchm = some cHttps from rfl)
  have g3 := (g nAuth rfl).trans (show getS (fld6 au ip a n) nAuth = some au from rfl)
  have g4 := (g nPath rfl).trans (show getS (fld6 au ip a n) nPath = some (pthT ip a n) from rfl)
  have g5 := (g nProt rfl).trans (show getS (fld6 au ip a n) nProt = some (if ip = true then cIp else cUdp) from rfl)
  split
  · rename_i q
    exact asks_ok q.1 hm g1 g2 g3 q.2 g4 g5 gc hr a0 a1 hA
  · rename_i q
    by_cases hc : chkS (fld6 au ip a n ++ m) = 0
    · have ha : ¬ au ≠ [] := fun c => q ⟨hc, c⟩
      refine asks_bad (x := 400) ?_ (by decide) hA
      rw [pre_all hc hm g1 g2 g3 g4, if_pos rfl, g5]
      simp only
      rw [if_pos (by cases ip <;> decide), if_neg (fun c => ha c.2.1)]
    · exact asks_bad (pre_chk hc) (by decide) hA
theorem at_z (c : UInt8) (t : L) (w : World) : (Instr.index 9 (.string (strL (c :: t))) (.int .i64 0)).run Tryd.prog w = .ok (.int .u8 (c.toNat : Int)) w := at_strL (c :: t) 0 w (by simp) 0 rfl
theorem col_eq (c : UInt8) (t : L) : ((c.toNat : Int) == 58) = col (c :: t) := by
  have := col_cons c t
  unfold bne at this
  rw [← Bool.not_inj_iff, this]
set_option maxHeartbeats 16000000 in
theorem back17_ok (au : L) (ip : Bool) (a n : Int) (m : List Fd) (v : Value) (w : World) (t : Tab w) (a0 : 0 ≤ a) (a1 : a < 4294967296) (hv : FdsAt w v m) (hm32 : m.length * 32 ≤ 140737488351232) :
    Calls Tryd.prog 5 #[.string (strL au), tgV ip a n, v] w fun e w' => e = .returned (.bool true) ∧ Below w.heap.size w w' := by
  obtain ⟨va, vc, rfl⟩ := hv.slice
  have HV : Hid (∀ w', Below w.heap.size w w' → FdsAt w' (.slice va m.length vc) m) := fun w' b => hv.keep b
  have lA := tbox w ip a n
  have bA := bx w (.cells #[.bool ip, .int .u32 a, .int .i64 n] 25)
  obtain ⟨wa, hwa⟩ : ∃ wa, wa = w.alloc (.cells #[.bool ip, .int .u32 a, .int .i64 n] 25) := ⟨_, rfl⟩
  rw [← hwa] at lA bA
  obtain ⟨K, hK⟩ : ∃ K, K = w.heap.size := ⟨_, rfl⟩
  rw [← hK] at lA
  have tK : Hid (∀ w', Below w.heap.size w w' → Tab w') := fun w' b => t.keep b
  have BX := Lib.hid bA
  have LD := Lib.hid lA
  clear lA bA t hv
  have WK : Hid (∀ w', Below w.heap.size w w' → _) := fun w' b => works_ok w' (tK.out w' b)
  have FD : Hid (∀ w', Below w.heap.size w w' → Calls Tryd.prog 13 #[.string (strL au), tgV ip a n] w' fun e w'' => FldT w' w'' e au ip a n) := fun w' b => flds_ok au ip a n w' (tK.out w' b).p a0 a1
  have PS : Hid (∀ w' v l, Below w.heap.size w w' → FdsAt w' v l → l.length ≤ maxLen → Calls Tryd.prog 8 #[v] w' fun e w'' => Ans l e ∧ Below w'.heap.size w' w'') := fun w' v l b h hl => parse17_ok l v w' (tK.out w' b) h hl
  have CK : Hid (∀ w' v l, FdsAt w' v l → l.length ≤ maxLen → Calls Tryd.prog 16 #[v] w' fun e w'' => e = .returned (.int .i64 (chkS l)) ∧ Below w'.heap.size w' w'') := fun w' v l h hl => rcheck_ok l v w' h hl
  have em := emp_strL au
  unfold tgV at FD ⊢
  obtain ⟨SA, hSA⟩ : ∃ SA, SA = strL au := ⟨_, rfl⟩
  rw [← hSA] at FD em ⊢
  clear hSA
  obtain ⟨mn, hmn⟩ : ∃ mn, mn = m.length := ⟨_, rfl⟩
  rw [← hmn] at hm32 HV ⊢
  have mn2 : mn < 9223372036854775807 := by omega
  replace hmn := Lib.hid hmn
  go_enter Tryd.func5, Tryd.ntmps5
  go_upto_region 1 with fail
  rw [← hwa, ← hK]
  clear hwa
  replace hK := Lib.hid hK
  go_wp2_with fail
  refine (WK.out wa BX.out).mono ?_
  rintro e w1 ⟨rfl, b1⟩
  have B1 := Lib.hid (BX.out.trans (b1.mono BX.out.size))
  have L1 := LD.out.keep (by show 0 < 3; decide) b1
  have c0 := L1.cell 0 (v := .bool ip) rfl
  have c1 := L1.cell 1 (v := .int .u32 a) rfl
  have c2 := L1.cell 2 (v := .int .i64 n) rfl
  replace L1 := Lib.hid L1
  clear b1 BX LD WK
  go_wp2_with fail
  refine (FD.out w1 B1.out).mono ?_
  rintro e w2 (⟨hr, g, rfl, l2, hg, b2⟩ | ⟨hr, rfl, b2⟩)
  · have B2 := Lib.hid (B1.out.trans (b2.mono B1.out.size))
    have M2 := Lib.hid (L1.out.keep (by show 0 < 3; decide) b2)
    have F2 := Lib.hid (Flds0 rfl l2)
    clear b2 B1 L1 FD c0 c1 c2 l2
    have AS : Hid ((∀ f ∈ m, gdN f.1 = true) → ∀ ip' b k st, Asks (fld6 au ip a n ++ m) ip' b k st → if chkS (fld6 au ip a n ++ m) = 0 ∧ au ≠ [] then ip' = ip ∧ b = a ∧ k = n ∧ st = 200 else ip' = false ∧ b = 0 ∧ k = 0 ∧ st = 400) := fun h ip' b k st hA => back_asks au ip a n m h hr a0 a1 hA
    have ll : Hid ((fld6 au ip a n).length = 6) := by unfold Hid; rfl
    obtain ⟨LL, hLL⟩ : ∃ LL, LL = fld6 au ip a n := ⟨_, rfl⟩
    rw [← hLL] at AS ll F2
    clear hLL
    go_wp2_with fail
    go_loopg [8] mn (fun g' iv wr => ∃ k : Nat, Hid (k + g' = mn) ∧ iv = .int .i64 k ∧ Hid (∀ i, i < k → gdN (m.getD i nF).1 = true) ∧ w2 = wr)
    case atStart => exact ⟨0, Lib.hid (by omega), rfl, fun i hi => by omega, rfl⟩
    case round =>
      obtain ⟨k, hk, rfl, hgd, rfl⟩ := hrel
      have hk0 := hk.out
      by_cases hlt : k < mn
      · have g1 : decide ((k : Int) < (mn : Int)) = true := decide_eq_true (by omega)
        have g1' : decide (k < mn) = true := decide_eq_true hlt
        have hkl : k < m.length := by rw [← hmn.out]; exact hlt
        obtain ⟨gg, oo, rfl, d1, d2⟩ := (show FdsAt w2 (.slice va m.length vc) m by have := HV.out w2 B2.out; rwa [hmn.out] at this).at (k := k) hkl
        have ia := fun w' => at_fds gg oo mn vc k w' hlt (k : Int) rfl (oo + 2 * k) rfl
        have hms : Hid (mn - (k + 1) < gk) := by unfold Hid; omega
        have hk1 : Hid (k + 1 + (mn - (k + 1)) = mn) := by unfold Hid; omega
        have nx : Hid (gdN (m.getD k nF).1 = true → ∀ i, i < k + 1 → gdN (m.getD i nF).1 = true) := fun q i hi => by
          rcases Nat.lt_or_ge i k with r | r
          · exact hgd.out i r
          · obtain rfl : i = k := by omega
            exact q
        generalize m.getD k nF = f at *
        obtain ⟨f1, f2⟩ := f
        simp only at d1 d2 nx
        have em1 := emp_strL f1
        have ec1 : ((strL f1).toList == [99, 97, 112, 115, 117, 108, 101, 45, 112, 114, 111, 116, 111, 99, 111, 108]) = decide (f1 = nCaps) := eq_lit _ _
        clear hk hk0 hgd hkl
        cases f1 with
        | nil =>
          clear nx ec1 d2
          generalize strL [] = S at *
          have em2 : S.toList.isEmpty = true := em1
          clear em1
          go_wp2_with fail
          go_ret
          exact ⟨rfl, B2.out⟩
        | cons c0 t0 =>
          have em2 : (strL (c0 :: t0)).toList.isEmpty = false := em1
          clear em1
          have iz := at_z c0 t0
          have cc := col_eq c0 t0
          unfold gdN at nx
          obtain ⟨x, hx⟩ : ∃ x : Int, x = (c0.toNat : Int) := ⟨_, rfl⟩
          rw [← hx] at iz cc
          clear hx
          generalize strL f2 = S2 at *
          cases qc : col (c0 :: t0) with
          | true =>
            rw [qc] at cc
            clear nx ec1
            generalize strL (c0 :: t0) = S at *
            go_wp2_with fail
            go_ret
            exact ⟨rfl, B2.out⟩
          | false =>
            rw [qc] at cc
            by_cases qn : (c0 :: t0) = nCaps
            · rw [decide_eq_true qn] at ec1
              clear nx qn qc
              generalize strL (c0 :: t0) = S at *
              go_wp2_with fail
              go_ret
              exact ⟨rfl, B2.out⟩
            · rw [decide_eq_false qn] at ec1
              have nx2 : Hid (∀ i, i < k + 1 → gdN (m.getD i nF).1 = true) := nx.out (by rw [qc, decide_eq_false qn]; rfl)
              clear nx qn qc
              generalize strL (c0 :: t0) = S at *
              go_wp2_with fail
              go_roundg (mn - (k + 1))
              case measure => exact hms.out
              case rel => exact ⟨k + 1, hk1, by go_num, nx2, rfl⟩
      · have g1 : decide ((k : Int) < (mn : Int)) = false := decide_eq_false (by omega)
        have g1' : decide (k < mn) = false := decide_eq_false hlt
        have ALL : ∀ f ∈ m, gdN f.1 = true := fun f hf => by
          obtain ⟨j, hj⟩ := List.mem_iff_getElem?.1 hf
          have hjl := (List.getElem?_eq_some_iff.1 hj).1
          have := hgd.out j (by rw [← hmn.out] at hjl; omega)
          rwa [List.getD, hj] at this
        have AS1 := Lib.hid (AS.out ALL)
        clear AS ALL hgd hk hk0
        obtain ⟨v3, w3, hap1, o3, n3, b3⟩ := copy_fds w2 F2.out (by rw [ll.out]; decide) 22
        have HM3 := (HV.out w2 B2.out).keep b3
        obtain ⟨v4, w4, hap2, o4, n4, gb4⟩ := o3.cat n3 (Nat.le_trans (Nat.le_refl _) b3.size) HM3 (by rw [ll.out, ← hmn.out]; omega) 22
        have b4 : Below w2.heap.size w2 w4 := b3.grown gb4 b3.size fun k hk => (o3.lt k hk).1
        have B4 := Lib.hid (B2.out.trans (b4.mono B2.out.size))
        have F4 := o4.fds
        have M4 := Lib.hid (M2.out.keep (by show 0 < 3; decide) b4)
        have len4 : Hid ((LL ++ m).length ≤ maxLen) := by unfold Hid maxLen; rw [List.length_append, ll.out, ← hmn.out]; omega
        obtain ⟨a3, cc3, rfl⟩ := o3.form
        obtain ⟨a4, cc4, rfl⟩ := o4.form
        rw [ll.out] at hap1 hap2
        obtain ⟨NN, hNN⟩ : ∃ NN, NN = (LL ++ m).length := ⟨_, rfl⟩
        rw [← hNN] at hap2 F4
        replace F4 := Lib.hid F4
        replace hNN := Lib.hid hNN
        replace hap1 := Lib.hid hap1
        replace hap2 := Lib.hid hap2
        clear o3 o4 n3 n4 gb4 b3 b4 HM3 B2 M2 F2 HV
        go_wp2_with (first | (refine obB2L _ rfl .append _ _ 22 22 rfl (.slice (some ⟨w2.heap.size, 0, none⟩) 0 0) (.slice (some ⟨g, 0, none⟩) 6 6) rfl rfl hap1.out ?_) | (refine obB2L _ rfl .append _ _ 22 22 rfl (.slice a3 6 cc3) (.slice va mn vc) rfl rfl hap2.out ?_))
        clear hap1 hap2
        refine (PS.out w4 _ _ B4.out F4.out len4.out).mono ?_
        rintro e w5 ⟨⟨ip', b, k', st, hA, rfl⟩, b5⟩
        have AN := AS1.out _ _ _ _ hA
        have B5 := Lib.hid (B4.out.trans (b5.mono B4.out.size))
        have M5 := M4.out.keep (by show 0 < 3; decide) b5
        have F5 := F4.out.keep b5
        clear hA b5 B4 M4 F4 PS AS1
        have lZ := Lies.new w5 [.bool ip', .int .u32 b, .int .i64 k'] 25
        have bZ := bx w5 (.cells #[.bool ip', .int .u32 b, .int .i64 k'] 25)
        obtain ⟨w6, hw6⟩ : ∃ w6, w6 = w5.alloc (.cells #[.bool ip', .int .u32 b, .int .i64 k'] 25) := ⟨_, rfl⟩
        have lZ' : Lies w6 w5.heap.size [.bool ip', .int .u32 b, .int .i64 k'] := by rw [hw6]; exact lZ
        rw [← hw6] at bZ
        have M6 := Lib.hid (M5.keep (by show 0 < 3; decide) bZ)
        have F6 := Lib.hid (F5.keep bZ)
        have B6 := Lib.hid (B5.out.trans (bZ.mono B5.out.size))
        obtain ⟨Z, hZ⟩ : ∃ Z, Z = w5.heap.size := ⟨_, rfl⟩
        rw [← hZ] at lZ'
        replace lZ' := Lib.hid lZ'
        clear lZ bZ M5 F5 B5
        unfold tgV
        go_upto_region 13 with fail
        rw [← hw6, ← hZ]
        clear hw6
        replace hZ := Lib.hid hZ
        obtain ⟨ck, hck⟩ : ∃ ck, ck = chkS (LL ++ m) := ⟨_, rfl⟩
        have CK1 := Lib.hid (CK.out w6 _ _ F6.out len4.out)
        rw [← hck] at CK1 AN
        clear hck CK F6 len4
        go_wp2_with fail
        refine CK1.out.mono ?_
        rintro e w7 ⟨rfl, b7⟩
        have B7 := Lib.hid (B6.out.trans (b7.mono B6.out.size))
        have M7 := M6.out.keep (by show 0 < 3; decide) b7
        have Z7 := lZ'.out.keep (by show 0 < 3; decide) b7
        have e0 := M7.cell 0 (v := .bool ip) rfl
        have e1 := M7.cell 1 (v := .int .u32 a) rfl
        have e2 := M7.cell 2 (v := .int .i64 n) rfl
        have h0 := Z7.cell 0 (v := .bool ip') rfl
        have h1 := Z7.cell 1 (v := .int .u32 b) rfl
        have h2 := Z7.cell 2 (v := .int .i64 k') rfl
        clear b7 B6 M6 lZ' M7 Z7 CK1
        by_cases qk : ck = 0
        · have z1 : (ck != 0) = false := by simp [qk]
          by_cases qa : au = []
          · have em2 : SA.toList.isEmpty = true := by rw [em, qa]; rfl
            rw [if_neg (fun c => c.2 qa)] at AN
            obtain ⟨rfl, rfl, rfl, rfl⟩ := AN
            clear qk qa em
            go_wp2_with fail
            go_ret
            exact ⟨rfl, B7.out⟩
          · have em2 : SA.toList.isEmpty = false := by rw [em]; cases au with | nil => exact absurd rfl qa | cons _ _ => rfl
            rw [if_pos ⟨qk, qa⟩] at AN
            obtain ⟨rfl, rfl, rfl, rfl⟩ := AN
            clear qk qa em
            go_wp2_with fail
            go_ret
            exact ⟨rfl, B7.out⟩
        · have z1 : (ck != 0) = true := bne_iff_ne.2 qk
          rw [if_neg (fun c => qk c.1)] at AN
          obtain ⟨rfl, rfl, rfl, rfl⟩ := AN
          clear qk em
          go_wp2_with fail
          go_ret
          exact ⟨rfl, B7.out⟩
  · have B2 := Lib.hid (B1.out.trans (b2.mono B1.out.size))
    have M2 := L1.out.keep (by show 0 < 3; decide) b2
    have e0 := M2.cell 0 (v := .bool ip) rfl
    have e1 := M2.cell 1 (v := .int .u32 a) rfl
    have e2 := M2.cell 2 (v := .int .i64 n) rfl
    clear b2 B1 L1 FD c0 c1 c2 M2
    unfold rightT at hr
    cases ip
    · rw [if_neg (by decide), decide_eq_false_iff_not] at hr
      by_cases q1 : n < 1
      · have z1 : decide (n < (1 : Int)) = true := decide_eq_true q1
        clear hr q1
        go_wp2_with fail
        go_ret
        exact ⟨rfl, B2.out⟩
      · have z1 : decide (n < (1 : Int)) = false := decide_eq_false q1
        have z2 : decide ((65535 : Int) < n) = true := decide_eq_true (by omega)
        clear hr q1
        go_wp2_with fail
        go_ret
        exact ⟨rfl, B2.out⟩
    · rw [if_pos rfl, decide_eq_false_iff_not] at hr
      by_cases q1 : a = 0
      · have z1 : (a != 0) = false := by simp [q1]
        have z2 : (n != 0) = true := by rw [bne_iff_ne]; exact fun c => hr ⟨q1, c⟩
        clear hr q1
        go_wp2_with fail
        go_ret
        exact ⟨rfl, B2.out⟩
      · have z1 : (a != 0) = true := bne_iff_ne.2 q1
        clear hr q1
        go_wp2_with fail
        go_ret
        exact ⟨rfl, B2.out⟩
theorem back17_v (s : ByteArray) (ip : Bool) (a n : Int) (m : List Fd) (v : Value) (w : World) (t : Tab w) (a0 : 0 ≤ a) (a1 : a < 4294967296) (hv : FdsAt w v m) (hm32 : m.length * 32 ≤ 140737488351232) :
    Calls Tryd.prog 5 #[.string s, tgV ip a n, v] w fun e w' => e = .returned (.bool true) ∧ Below w.heap.size w w' := by
  have := back17_ok (toL s) ip a n m v w t a0 a1 hv hm32
  rwa [strL_toL] at this
end Go.Proofs.YtojfcflkanohoaaDoor
