/-
  What the document's own Feed answers: events, a code, and what the reader is then. No condition but the form's own reach.
-/
import Derived.Test.YtnngdlleicjegaaDoorH3Pass
namespace Go.Proofs.YtnngdlleicjegaaDoor
set_option maxRecDepth 100000
open Go.RowKit

/-- What Feed answers, of a reader that has the bytes. -/
def FdA (w : World) (R : Nat) (r0 : Hr) (e : Ending) (w' : World) : Prop :=
  ∃ v, e = .returned (.tuple #[v, .int .i64 r0.go.1.code]) ∧ RH w' R r0.go.1 ∧ EvR w.heap.size w' v r0.go.2 ∧ Kept (fun k => k = R) w w'
/-- The reader on its way through the bytes. -/
structure FS15 (w wr : World) (R : Nat) (r0 r : Hr) (evs : List Ev) (lv : Value) : Prop where
  rh : RH wr R r
  code : r.code = 0
  eq : r0.go = (r.go.1, evs ++ r.go.2)
  ev : EvR w.heap.size wr lv evs
  kp : Kept (fun k => k = R) w wr
  few : evs.length + r.s.length ≤ r0.s.length
  left : r.left ≤ 4611686018427387903
theorem FS15.none {w wr : World} {R : Nat} {r0 r : Hr} {evs : List Ev} {lv : Value} (h : FS15 w wr R r0 r evs lv) (hs : r.s = [] ∨ r.step = none) : r0.go = (r, evs) := by
  rw [h.eq]
  rcases hs with hs | hs
  · rw [Hr.go_stop (.inl hs)]
    simp
  · by_cases h0 : r.s = []
    · rw [Hr.go_stop (.inl h0)]
      simp
    · rw [Hr.go_none (fun c => by rcases c with c | c; exact h0 c; exact c h.code) hs]
      simp
theorem FS15.fault {w wr : World} {R : Nat} {r0 r q : Hr} {evs : List Ev} {lv : Value} (h : FS15 w wr R r0 r evs lv) (h0 : r.s ≠ []) (hs : r.step = some (q, [])) (hq : q.code ≠ 0) : r0.go = (q, evs) := by
  rw [h.eq, Hr.go_some (fun c => by rcases c with c | c; exact h0 c; exact c h.code) hs, Hr.go_stop (.inr hq)]
  simp
theorem FS15.next {w wr w' : World} {R : Nat} {r0 r q : Hr} {evs e : List Ev} {lv lv' : Value} (h : FS15 w wr R r0 r evs lv) (h0 : r.s ≠ []) (hs : r.step = some (q, e)) (hq : q.code = 0) (rh : RH w' R q) (ev : EvR w.heap.size w' lv' (evs ++ e)) (kp : Kept (fun k => k = R) w w') (hl : e.length + q.s.length ≤ r.s.length) (hz : q.left ≤ 4611686018427387903) : FS15 w w' R r0 q (evs ++ e) lv' := by
  refine ⟨rh, hq, ?_, ev, kp, ?_, hz⟩
  · rw [h.eq, Hr.go_some (fun c => by rcases c with c | c; exact h0 c; exact c h.code) hs]
    simp
  · have := h.few
    rw [List.length_append]
    omega
theorem whole_is (k : Nat) : ((((k : Int) == 1) || ((k : Int) == 4)) || ((k : Int) == 7)) = wholeK k := by
  unfold wholeK
  rw [Bool.eq_iff_iff]
  simp
  omega
theorem head_bound {s : L} {k z n : Nat} (h : headL s = some (k, z, n)) : k < 4611686018427387904 ∧ z < 4611686018427387904 := by
  unfold headL at h
  split at h
  · cases h
  · rename_i k' n' h1
    split at h
    · cases h
    · rename_i z' m h2
      injection h with h
      injection h with e1 h
      injection h with e2 _
      subst e1 e2
      exact ⟨(getL_bound h1).1, (getL_bound h2).1⟩
theorem first_byte (s : ByteArray) (h : 0 < s.size) : (toL s).head? = some s[0] := by
  have h2 : 0 < s.data.toList.length := by simpa using h
  show s.data.toList.head? = _
  rw [List.head?_eq_getElem?, List.getElem?_eq_getElem h2]
  rfl
/-- Feed's answer. -/
def FdB (w : World) (R : Nat) (r : Hr) (t : L) (e : Ending) (w' : World) : Prop :=
  ∃ v, e = .returned (.tuple #[v, .int .i64 (r.feed t).1.code]) ∧ RH w' R (r.feed t).1 ∧ EvR w.heap.size w' v (r.feed t).2 ∧ Kept (fun k => k = R) w w'
theorem FdB.of {w w' : World} {R : Nat} {r q : Hr} {t : L} {evs : List Ev} {v : Value} {x : Int} (hc : r.code = 0) (h : (r.more t).go = (q, evs)) (hx : x = q.code) (rh : RH w' R q) (ev : EvR w.heap.size w' v evs) (kp : Kept (fun k => k = R) w w') : FdB w R r t (.returned (.tuple #[v, .int .i64 x])) w' := by
  have e : r.feed t = (q, evs) := by
    unfold Hr.feed
    rw [if_neg (fun c => c hc), h]
  refine ⟨v, ?_, ?_, ?_, kp⟩
  · rw [e, hx]
  · rw [e]; exact rh
  · rw [e]; exact ev
set_option maxHeartbeats 16000000 in
theorem rfeed_ok (w : World) (R : Nat) (r : Hr) (t : ByteArray) (h : RH w R r) (hz : r.s.length + t.size < 1000000) (hl : r.left ≤ 4611686018427387903) :
    Calls Tryd.prog 11 #[.pointer (some ⟨R, 0, none⟩), .string t] w fun e w' => FdB w R r (toL t) e w' := by
  by_cases hc : r.code = 0
  · obtain ⟨s, hs, l0⟩ := h
    have hR := l0.lt (by show 0 < 7; decide)
    have zs : s.size = r.s.length := by rw [← hs, toL_len]
    have F0 : Hid (FS15 w (w.setCell ⟨R, 1, none⟩ (.string (s ++ t))) R (r.more (toL t)) (r.more (toL t)) [] (.slice none 0 0)) := by
      refine ⟨⟨s ++ t, by rw [toL_append, hs]; rfl, l0.put 1 (by show 1 < 7; decide) _⟩, hc, by simp, EvR.nil _ _, (Kept.refl (fun k => k = R) w).set ⟨R, 1, none⟩ rfl _, by simp, hl⟩
    have LEN : (r.more (toL t)).s.length < 1000000 := by
      show (r.s ++ toL t).length < 1000000
      rw [List.length_append, toL_len]
      exact hz
    have c6 := l0.cell 6 (v := .int .i64 r.code) rfl
    rw [hc] at c6
    have c1 := l0.cell 1 (v := .string s) rfl
    have f1 := l0.free 1 (by show 1 < 7; decide)
    have zt : s.size + t.size < 1000000 := by omega
    have zz : (s ++ t).size = s.size + t.size := ByteArray.size_append
    have FIN : Hid (∀ (q : Hr) (evs : List Ev) (v : Value) (x : Int) (w' : World), (r.more (toL t)).go = (q, evs) → x = q.code → RH w' R q → EvR w.heap.size w' v evs → Kept (fun k => k = R) w w' → FdB w R r (toL t) (.returned (.tuple #[v, .int .i64 x])) w') := fun q evs v x w' h1 h2 h3 h4 h5 => FdB.of hc h1 h2 h3 h4 h5
    obtain ⟨P, hP⟩ : ∃ P : Ending → World → Prop, P = FdB w R r (toL t) := ⟨_, rfl⟩
    rw [← hP] at FIN
    change Calls Tryd.prog 11 #[.pointer (some ⟨R, 0, none⟩), .string t] w fun e w' => FdB w R r (toL t) e w'
    rw [← hP]
    generalize r.more (toL t) = r0 at *
    clear hP hc hl l0 hs zs hz
    go_enter Tryd.func11, Tryd.ntmps11
    go_upto_region 5 with fail
    generalize w.setCell ⟨R, 1, none⟩ (.string (s ++ t)) = w1 at *
    clear c6 c1 f1 zt zz
    go_wp2_with fail
    go_loopg [6] r0.s.length (fun g lv wr => ∃ (r : Hr) (evs : List Ev), r.s.length = g ∧ Hid (FS15 w wr R r0 r evs lv))
    case atStart => exact ⟨r0, [], rfl, F0⟩
    case round =>
      obtain ⟨r, evs, hg, X⟩ := hrel
      subst hg
      clear F0
      have hR0 := hR
      by_cases hne : r.s = []
      · obtain ⟨s, hs, L⟩ := X.out.rh
        have hsz : s = ⟨#[]⟩ := toL_nil (hs.trans hne)
        subst hsz
        have c1 := L.cell 1 (v := .string ⟨#[]⟩) rfl
        have E := Lib.hid (FIN.out r evs u6 0 wr (X.out.none (.inl hne)) X.out.code.symm X.out.rh X.out.ev X.out.kp)
        clear X L FIN hs
        go_wp2_with fail
        exact E.out
      · obtain ⟨s, hs, L⟩ := X.out.rh
        obtain ⟨c, rs, b, f, lf, p, cd⟩ := r
        have hcd : cd = 0 := X.out.code
        subst hcd
        simp only at hne hs
        have n0 : s.toList.isEmpty = false := by
          rw [toL_emp, hs]
          cases rs with
          | nil => exact absurd rfl hne
          | cons _ _ => rfl
        have zs : s.size = rs.length := by rw [← hs, toL_len]
        have hrp := List.length_pos_iff.2 hne
        have hp : 0 < s.size := by omega
        have few := X.out.few
        have hsz : s.size < 1000000 := by
          have : rs.length ≤ r0.s.length := Nat.le_trans (Nat.le_add_left _ _) few
          omega
        have hev : evs.length < 1000000 := by
          have : evs.length ≤ r0.s.length := Nat.le_trans (Nat.le_add_right _ _) few
          omega
        have hb0 := first_byte s hp
        rw [hs] at hb0
        have c0 := L.cell 0 (v := .bool c) rfl
        have c1 := L.cell 1 (v := .string s) rfl
        have c2 := L.cell 2 (v := .bool b) rfl
        have c4 := L.cell 4 (v := .int .i64 (lf : Int)) rfl
        have sz := X.out.kp.size
        have hrl : rs.length < 1000000 := by omega
        clear few
        replace zs : Hid _ := zs
        by_cases hA : c = true ∧ b = false
        · obtain ⟨rfl, rfl⟩ := hA
          by_cases hd : rs.head? = some 0
          · have q0 : (((s[0]'hp).toNat : Int) == 0) = true := by
              rw [hb0] at hd
              injection hd with hd
              rw [hd]
              rfl
            have st : (Hr.mk true rs false f lf p 0).step = some (⟨true, rs.drop 1, true, f, lf, p, 0⟩, []) := by
              unfold Hr.step
              rw [if_pos ⟨rfl, rfl⟩, if_pos hd]
            have f2 := L.free 2 (by show 2 < 7; decide)
            have L1 : Lies (wr.setCell ⟨R, 2, none⟩ (.bool true)) R (rdV s ⟨true, rs, true, f, lf, p, 0⟩) := L.put 2 (by show 2 < 7; decide) _
            have c11 := L1.cell 1 (v := .string s) rfl
            have f11 := L1.free 1 (by show 1 < 7; decide)
            have L2 : Lies ((wr.setCell ⟨R, 2, none⟩ (.bool true)).setCell ⟨R, 1, none⟩ (.string (s.extract 1 s.size))) R (rdV (s.extract 1 s.size) ⟨true, rs.drop 1, true, f, lf, p, 0⟩) := L1.put 1 (by show 1 < 7; decide) _
            have NX : Hid (FS15 w ((wr.setCell ⟨R, 2, none⟩ (.bool true)).setCell ⟨R, 1, none⟩ (.string (s.extract 1 s.size))) R r0 ⟨true, rs.drop 1, true, f, lf, p, 0⟩ (evs ++ []) u6) := X.out.next hne st rfl ⟨_, by rw [toL_extract, hs], L2⟩ (by rw [List.append_nil]; exact (X.out.ev.set hR).set hR) ((X.out.kp.set ⟨R, 2, none⟩ rfl _).set ⟨R, 1, none⟩ rfl _) (by simp) X.out.left
            clear X L L1 L2 FIN hd st hb0 hs
            go_wp2_with fail
            go_roundg (rs.length - 1)
            case measure => omega
            case rel => exact ⟨_, _, by simp, NX⟩
          · have q0 : (((s[0]'hp).toNat : Int) == 0) = false := by
              simp only [beq_eq_false_iff_ne]
              intro c
              apply hd
              rw [hb0]
              congr 1
              exact UInt8.toNat_inj.1 (by simpa using c)
            have st : (Hr.mk true rs false f lf p 0).step = some (⟨true, rs, false, f, lf, p, hUnexp⟩, []) := by
              unfold Hr.step
              rw [if_pos ⟨rfl, rfl⟩, if_neg hd]
            have L1 : Lies (wr.setCell ⟨R, 6, none⟩ (.int .i64 261)) R (rdV s ⟨true, rs, false, f, lf, p, hUnexp⟩) := L.put 6 (by show 6 < 7; decide) _
            have c6 := L.cell 6 (v := .int .i64 0) rfl
            have f6 := L.free 6 (by show 6 < 7; decide)
            have c61 := L1.cell 6 (v := .int .i64 261) rfl
            have E := Lib.hid (FIN.out ⟨true, rs, false, f, lf, p, hUnexp⟩ evs u6 261 (wr.setCell ⟨R, 6, none⟩ (.int .i64 261)).drew (X.out.fault hne st (by show hUnexp ≠ 0; decide)) rfl ⟨s, hs, L1.of_block rfl⟩ ((X.out.ev.set hR).of fun _ _ => rfl) ((X.out.kp.set ⟨R, 6, none⟩ rfl _).drew))
            clear X L L1 FIN hd st hb0 hs
            go_upto_region 9 with fail
            go_region
            all_goals
              go_wp2_with fail
              exact E.out
        · have stB : ∀ q, (if 0 < lf then some (passR ⟨c, rs, b, f, lf, p, 0⟩, passE ⟨c, rs, b, f, lf, p, 0⟩) else q) = (if 0 < lf then some (passR ⟨c, rs, b, f, lf, p, 0⟩, passE ⟨c, rs, b, f, lf, p, 0⟩) else q) := fun _ => rfl
          clear hb0 stB
          go_upto_region 6 with fail
          go_cut [45] (fun s wc => s = .bool false ∧ wr = wc)
          case first =>
            clear X FIN L
            cases c
            · go_wp2_with fail
              go_meet
              exact ⟨rfl, rfl⟩
            · cases b
              · exact absurd ⟨rfl, rfl⟩ hA
              · go_wp2_with fail
                go_meet
                exact ⟨rfl, rfl⟩
          case rest =>
            obtain ⟨rfl, rfl⟩ := hcut
            clear c0 c2 n0
            by_cases hB : 0 < lf
            · have st : (Hr.mk c rs b f lf p 0).step = some (passR ⟨c, rs, b, f, lf, p, 0⟩, passE ⟨c, rs, b, f, lf, p, 0⟩) := by
                unfold Hr.step
                rw [if_neg hA, if_pos hB]
                rfl
              have gB : decide ((0 : Int) < (lf : Int)) = true := decide_eq_true (by omega)
              have PA : Hid (∀ _ : Unit, _) := fun _ => rpass_ok w wr R ⟨c, rs, b, f, lf, p, 0⟩ X.out.rh hR X.out.kp u6 evs X.out.ev hev (by show rs.length ≤ _; omega) X.out.left hB hrp
              have hql : (passE ⟨c, rs, b, f, lf, p, 0⟩).length + (passR ⟨c, rs, b, f, lf, p, 0⟩).s.length ≤ rs.length ∧ (passR ⟨c, rs, b, f, lf, p, 0⟩).s.length < rs.length := by
                have e1 : (passR ⟨c, rs, b, f, lf, p, 0⟩).s.length = rs.length - min lf rs.length := List.length_drop
                have e2 : (passE ⟨c, rs, b, f, lf, p, 0⟩).length ≤ 1 := by unfold passE; split <;> simp
                omega
              have NX : Hid (∀ w' v', RH w' R (passR ⟨c, rs, b, f, lf, p, 0⟩) → EvR w.heap.size w' v' (evs ++ passE ⟨c, rs, b, f, lf, p, 0⟩) → Kept (fun k => k = R) w w' → FS15 w w' R r0 (passR ⟨c, rs, b, f, lf, p, 0⟩) (evs ++ passE ⟨c, rs, b, f, lf, p, 0⟩) v') := fun w' v' h1 h2 h3 => X.out.next hne st rfl h1 h2 h3 hql.1 (by have := X.out.left; exact Nat.le_trans (Nat.sub_le _ _) this)
              replace hql := hql.2
              clear X L FIN st
              generalize passR ⟨c, rs, b, f, lf, p, 0⟩ = q at *
              generalize passE ⟨c, rs, b, f, lf, p, 0⟩ = e at *
              go_wp2_with fail
              refine (PA.out ()).mono ?_
              rintro e' w2 ⟨v2, rfl, h1, h2, h3⟩
              have N2 := Lib.hid (NX.out w2 v2 h1 h2 h3)
              clear h1 h2 h3 PA NX
              go_wp2_with fail
              go_roundg q.s.length
              case measure => omega
              case rel => exact ⟨q, _, rfl, N2⟩
            · have hlf : lf = 0 := by omega
              subst hlf
              cases hh : headL rs with
              | none =>
                have st : (Hr.mk c rs b f 0 p 0).step = none := by
                  unfold Hr.step
                  rw [if_neg hA, if_neg hB]
                  simp only [hh]
                have HD : Hid (∀ _ : Unit, _) := fun _ => rhead_none wr R ⟨c, rs, b, f, 0, p, 0⟩ X.out.rh (by show rs.length ≤ _; omega) hh
                have E : Hid (∀ w', Below wr.heap.size wr w' → P (.returned (.tuple #[u6, .int .i64 0])) w') := fun w' bb => FIN.out ⟨c, rs, b, f, 0, p, 0⟩ evs u6 0 w' (X.out.none (.inr st)) rfl (X.out.rh.keep bb) (X.out.ev.keep bb) (X.out.kp.add bb)
                clear X L FIN st hh
                go_wp2_with fail
                refine (HD.out ()).mono ?_
                rintro e' w2 ⟨rfl, b2⟩
                have E2 := Lib.hid (E.out w2 b2)
                clear b2 E HD
                go_wp2_with fail
                exact E2.out
              | some x =>
                obtain ⟨k, z, n⟩ := x
                have hkb := head_bound hh
                have hnl := head_len hh
                have hns : n ≤ s.size := by rw [zs.out]; exact hnl.2
                have qn : ((n : Int) == 0) = false := by simp; omega
                have HD : Hid (∀ _ : Unit, _) := fun _ => rhead_some wr R ⟨c, rs, b, f, 0, p, 0⟩ X.out.rh (by show rs.length ≤ _; omega) hh
                have WR : Hid (∀ w', RH w' R ⟨c, rs, b, f, 0, p, 0⟩ → _) := fun w' h => rwrong15_ok w' R ⟨c, rs, b, f, 0, p, 0⟩ h k hkb.1
                have LK : Hid (∀ w', Below wr.heap.size wr w' → Lies w' R (rdV s ⟨c, rs, b, f, 0, p, 0⟩)) := fun w' bb => L.keep (by show 0 < 7; decide) bb
                have KK : Hid (∀ w', Below wr.heap.size wr w' → Kept (fun k => k = R) w w') := fun w' bb => X.out.kp.add bb
                have VK : Hid (∀ w', Below wr.heap.size wr w' → EvR w.heap.size w' u6 evs) := fun w' bb => X.out.ev.keep bb
                have NONE := Lib.hid (fun h => X.out.none (.inr h))
                have FAULT := Lib.hid (fun q h1 h2 => X.out.fault (q := q) hne h1 h2)
                have NEXT := Lib.hid (fun w' q e lv' h1 h2 h3 h4 h5 h6 h7 => X.out.next (w' := w') (q := q) (e := e) (lv' := lv') hne h1 h2 h3 h4 h5 h6 h7)
                have STP : Hid ((Hr.mk c rs b f 0 p 0).step = if wrongC c f k ≠ 0 then some (⟨c, rs, b, f, 0, p, wrongC c f k⟩, [])
      else if wholeK k = true then (if 4096 < z then some (⟨c, rs, b, f, 0, p, hFrame⟩, [])
        else if rs.length - n < z then none
        else if contC k ((rs.drop n).take z) ≠ 0 then some (⟨c, rs, b, f, 0, p, contC k ((rs.drop n).take z)⟩, [])
        else some (⟨c, rs.drop (n + z), b, true, 0, p, 0⟩, [(k, (rs.drop n).take z)]))
      else some (⟨c, rs.drop n, b, f, z, decide (k ≠ 0), 0⟩, [])) := by
                  unfold Hid Hr.step
                  rw [if_neg hA, if_neg hB]
                  simp only [hh]
                clear X L hh hB hA
                go_wp2_with fail
                refine (HD.out ()).mono ?_
                rintro e' w2 ⟨rfl, b2⟩
                have B2 : Hid (Below wr.heap.size wr w2) := b2
                clear b2 HD c1 c4
                go_upto_region 16 with fail
                go_cut [10] (fun s wc => s = .bool (wholeK k) ∧ w2 = wc)
                case first =>
                  have wi := whole_is k
                  generalize wholeK k = wh at *
                  obtain ⟨q1, e1⟩ : ∃ q1 : Bool, ((k : Int) == 1) = q1 := ⟨_, rfl⟩
                  obtain ⟨q4, e4⟩ : ∃ q4 : Bool, ((k : Int) == 4) = q4 := ⟨_, rfl⟩
                  obtain ⟨q7, e7⟩ : ∃ q7 : Bool, ((k : Int) == 7) = q7 := ⟨_, rfl⟩
                  rw [e1, e4, e7] at wi
                  clear WR LK KK VK NONE FAULT NEXT STP FIN B2
                  cases q1 <;> cases q4 <;> cases q7 <;> simp at wi <;> subst wi
                  all_goals
                    go_wp2_with fail
                    go_meet
                    exact ⟨rfl, rfl⟩
                case rest =>
                  obtain ⟨rfl, rfl⟩ := hcut
                  go_wp2_with fail
                  refine (WR.out _ ⟨s, hs, LK.out _ B2.out⟩).mono ?_
                  rintro e' w3 ⟨rfl, b3⟩
                  have B3 : Hid (Below wr.heap.size wr w3) := B2.out.trans (b3.mono B2.out.size)
                  have L3 := Lib.hid (LK.out w3 B3.out)
                  have V3 := Lib.hid (VK.out w3 B3.out)
                  have K3 := Lib.hid (KK.out w3 B3.out)
                  have c6 := L3.out.cell 6 (v := .int .i64 0) rfl
                  have f6 := L3.out.free 6 (by show 6 < 7; decide)
                  clear b3 WR B2 LK KK VK
                  by_cases hw : wrongC c f k = 0
                  · rw [hw]
                    rw [if_neg (fun c => c hw)] at STP
                    clear hw
                    have L4 : Hid (Lies (w3.setCell ⟨R, 6, none⟩ (.int .i64 0)) R (rdV s ⟨c, rs, b, f, 0, p, 0⟩)) := L3.out.put 6 (by show 6 < 7; decide) _
                    have V4 : Hid (EvR w.heap.size (w3.setCell ⟨R, 6, none⟩ (.int .i64 0)) u6 evs) := V3.out.set hR
                    have K4 : Hid (Kept (fun k => k = R) w (w3.setCell ⟨R, 6, none⟩ (.int .i64 0))) := K3.out.set ⟨R, 6, none⟩ rfl _
                    clear L3 V3 K3 B3
                    go_upto_region 18 with fail
                    generalize w3.setCell ⟨R, 6, none⟩ (.int .i64 0) = w4 at L4 V4 K4 ⊢
                    clear c6 f6
                    have c6 := L4.out.cell 6 (v := .int .i64 0) rfl
                    have f6 := L4.out.free 6 (by show 6 < 7; decide)
                    have c1 := L4.out.cell 1 (v := .string s) rfl
                    have sz4 := K4.out.size
                    obtain ⟨wh, hwh⟩ : ∃ wh, wh = wholeK k := ⟨_, rfl⟩
                    rw [← hwh] at STP ⊢
                    clear hwh
                    cases wh
                    · rw [if_neg (by decide)] at STP
                      have ST := STP.out
                      by_cases k0 : k = 0
                      · have qk : ((k : Int) == 0) = true := by rw [k0]; rfl
                        have qk2 : ((k : Int) != 0) = false := by rw [k0]; rfl
                        have eb : decide (k ≠ 0) = false := by rw [k0]; rfl
                        rw [eb] at ST
                        clear eb
                        replace k0 : Hid _ := k0
                        have L5 : Lies (w4.setCell ⟨R, 4, none⟩ (.int .i64 (z : Int))) R (rdV s ⟨c, rs, b, f, z, p, 0⟩) := L4.out.put 4 (by show 4 < 7; decide) _
                        have f4 := L4.out.free 4 (by show 4 < 7; decide)
                        have c4 := L4.out.cell 4 (v := .int .i64 0) rfl
                        have c55 := L5.cell 5 (v := .bool p) rfl
                        have f55 := L5.free 5 (by show 5 < 7; decide)
                        have L6 : Lies ((w4.setCell ⟨R, 4, none⟩ (.int .i64 (z : Int))).setCell ⟨R, 5, none⟩ (.bool false)) R (rdV s ⟨c, rs, b, f, z, false, 0⟩) := L5.put 5 (by show 5 < 7; decide) _
                        have c16 := L6.cell 1 (v := .string s) rfl
                        have f16 := L6.free 1 (by show 1 < 7; decide)
                        have L7 : Lies (((w4.setCell ⟨R, 4, none⟩ (.int .i64 (z : Int))).setCell ⟨R, 5, none⟩ (.bool false)).setCell ⟨R, 1, none⟩ (.string (s.extract n s.size))) R (rdV (s.extract n s.size) ⟨c, rs.drop n, b, f, z, false, 0⟩) := L6.put 1 (by show 1 < 7; decide) _
                        have NX := Lib.hid (NEXT.out (((w4.setCell ⟨R, 4, none⟩ (.int .i64 (z : Int))).setCell ⟨R, 5, none⟩ (.bool false)).setCell ⟨R, 1, none⟩ (.string (s.extract n s.size))) ⟨c, rs.drop n, b, f, z, false, 0⟩ [] u6 ST rfl ⟨_, by rw [toL_extract, hs], L7⟩ (by rw [List.append_nil]; exact ((V4.out.set hR).set hR).set hR) (((K4.out.set ⟨R, 4, none⟩ rfl _).set ⟨R, 5, none⟩ rfl _).set ⟨R, 1, none⟩ rfl _) (by simp) (by show z ≤ _; omega))
                        clear ST STP FAULT NONE NEXT FIN L4 L5 L6 L7 V4 K4 hs
                        go_wp2_with fail
                        go_roundg (rs.length - n)
                        case measure => omega
                        case rel => exact ⟨_, _, by simp, NX⟩
                      · have qk : ((k : Int) == 0) = false := by simp; omega
                        have qk2 : ((k : Int) != 0) = true := bne_iff_ne.2 (by omega)
                        have eb : decide (k ≠ 0) = true := decide_eq_true k0
                        rw [eb] at ST
                        clear eb
                        replace k0 : Hid _ := k0
                        have L5 : Lies (w4.setCell ⟨R, 4, none⟩ (.int .i64 (z : Int))) R (rdV s ⟨c, rs, b, f, z, p, 0⟩) := L4.out.put 4 (by show 4 < 7; decide) _
                        have f4 := L4.out.free 4 (by show 4 < 7; decide)
                        have c4 := L4.out.cell 4 (v := .int .i64 0) rfl
                        have c55 := L5.cell 5 (v := .bool p) rfl
                        have f55 := L5.free 5 (by show 5 < 7; decide)
                        have L6 : Lies ((w4.setCell ⟨R, 4, none⟩ (.int .i64 (z : Int))).setCell ⟨R, 5, none⟩ (.bool true)) R (rdV s ⟨c, rs, b, f, z, true, 0⟩) := L5.put 5 (by show 5 < 7; decide) _
                        have c16 := L6.cell 1 (v := .string s) rfl
                        have f16 := L6.free 1 (by show 1 < 7; decide)
                        have L7 : Lies (((w4.setCell ⟨R, 4, none⟩ (.int .i64 (z : Int))).setCell ⟨R, 5, none⟩ (.bool true)).setCell ⟨R, 1, none⟩ (.string (s.extract n s.size))) R (rdV (s.extract n s.size) ⟨c, rs.drop n, b, f, z, true, 0⟩) := L6.put 1 (by show 1 < 7; decide) _
                        have NX := Lib.hid (NEXT.out (((w4.setCell ⟨R, 4, none⟩ (.int .i64 (z : Int))).setCell ⟨R, 5, none⟩ (.bool true)).setCell ⟨R, 1, none⟩ (.string (s.extract n s.size))) ⟨c, rs.drop n, b, f, z, true, 0⟩ [] u6 ST rfl ⟨_, by rw [toL_extract, hs], L7⟩ (by rw [List.append_nil]; exact ((V4.out.set hR).set hR).set hR) (((K4.out.set ⟨R, 4, none⟩ rfl _).set ⟨R, 5, none⟩ rfl _).set ⟨R, 1, none⟩ rfl _) (by simp) (by show z ≤ _; omega))
                        clear ST STP FAULT NONE NEXT FIN L4 L5 L6 L7 V4 K4 hs
                        go_wp2_with fail
                        go_roundg (rs.length - n)
                        case measure => omega
                        case rel => exact ⟨_, _, by simp, NX⟩
                    · rw [if_pos rfl] at STP
                      by_cases h4 : 4096 < z
                      · rw [if_pos h4] at STP
                        have ST := STP.out
                        have g4 : decide ((4096 : Int) < (z : Int)) = true := decide_eq_true (by omega)
                        have L5 : Lies (w4.setCell ⟨R, 6, none⟩ (.int .i64 262)) R (rdV s ⟨c, rs, b, f, 0, p, hFrame⟩) := L4.out.put 6 (by show 6 < 7; decide) _
                        have c65 := L5.cell 6 (v := .int .i64 262) rfl
                        have E := Lib.hid (FIN.out ⟨c, rs, b, f, 0, p, hFrame⟩ evs u6 262 (w4.setCell ⟨R, 6, none⟩ (.int .i64 262)).drew (FAULT.out _ ST (by show hFrame ≠ 0; decide)) rfl ⟨s, hs, L5.of_block rfl⟩ ((V4.out.set hR).of fun _ _ => rfl) ((K4.out.set ⟨R, 6, none⟩ rfl _).drew))
                        clear ST STP FAULT NONE NEXT FIN L4 L5 V4 K4 hs
                        go_upto_region 21 with fail
                        go_region
                        all_goals
                          go_wp2_with fail
                          exact E.out
                      · rw [if_neg h4] at STP
                        have g4 : decide ((4096 : Int) < (z : Int)) = false := decide_eq_false (by omega)
                        have zz := zs.out
                        by_cases h5 : rs.length - n < z
                        · rw [if_pos h5] at STP
                          have g5 : decide ((s.size : Int) - (n : Int) < (z : Int)) = true := decide_eq_true (by omega)
                          have E := Lib.hid (FIN.out ⟨c, rs, b, f, 0, p, 0⟩ evs u6 0 w4 (NONE.out STP.out) rfl ⟨s, hs, L4.out⟩ V4.out K4.out)
                          clear STP FAULT NONE NEXT FIN L4 V4 K4 hs h5 zz
                          go_wp2_with fail
                          exact E.out
                        · rw [if_neg h5] at STP
                          have g5 : decide ((s.size : Int) - (n : Int) < (z : Int)) = false := decide_eq_false (by omega)
                          have hnz : n + z ≤ s.size := by omega
                          have ed : toL (s.extract n (n + z)) = (rs.drop n).take z := by
                            rw [toL_cut, hs, List.drop_take]
                            congr 1
                            omega
                          have zd : (s.extract n (n + z)).size ≤ z := by rw [ByteArray.size_extract]; omega
                          have CT : Hid (∀ w, _) := fun w => rcont_ok k (s.extract n (n + z)) w (by omega)
                          rw [ed] at CT
                          have cz : Hid ((n : Int) + (z : Int) = ((n + z : Nat) : Int)) := by unfold Hid; omega
                          have ed2 : Hid (s.extract n (n + z) = strL ((rs.drop n).take z)) := toL_inj (by rw [toL_strL, ed])
                          clear zz ed
                          go_wp2_with fail
                          refine (CT.out _).mono ?_
                          rintro e' w5 ⟨rfl, b5⟩
                          have L5 := Lib.hid (L4.out.keep (by show 0 < 7; decide) b5)
                          have V5 := Lib.hid (V4.out.keep b5)
                          have K5 := Lib.hid (K4.out.add b5)
                          clear c6 f6 c1 b5 CT L4 V4 K4
                          have c65 := L5.out.cell 6 (v := .int .i64 0) rfl
                          have f65 := L5.out.free 6 (by show 6 < 7; decide)
                          by_cases hct : contC k ((rs.drop n).take z) = 0
                          · rw [hct]
                            rw [if_neg (fun c => c hct)] at STP
                            have ST := STP.out
                            have L6 : Hid (Lies (w5.setCell ⟨R, 6, none⟩ (.int .i64 0)) R (rdV s ⟨c, rs, b, f, 0, p, 0⟩)) := L5.out.put 6 (by show 6 < 7; decide) _
                            have V6 : Hid (EvR w.heap.size (w5.setCell ⟨R, 6, none⟩ (.int .i64 0)) u6 evs) := V5.out.set hR
                            have K6 : Hid (Kept (fun k => k = R) w (w5.setCell ⟨R, 6, none⟩ (.int .i64 0))) := K5.out.set ⟨R, 6, none⟩ rfl _
                            clear L5 V5 K5 hct STP
                            go_upto_region 29 with fail
                            generalize w5.setCell ⟨R, 6, none⟩ (.int .i64 0) = w6 at L6 V6 K6 ⊢
                            clear c65 f65
                            have c66 := L6.out.cell 6 (v := .int .i64 0) rfl
                            obtain ⟨v7, w7, hap, ev7, kp7, hR7⟩ := V6.out.app (R := R) K6.out.size (by omega) k ((rs.drop n).take z)
                            obtain ⟨av, cv, rfl⟩ := ev7.slice
                            have L7 := L6.out.of_block (hR7 hR)
                            have k7 : Kept (fun k => k = R) w w7 := ⟨kp7.os.trans K6.out.os, kp7.tape.trans K6.out.tape, kp7.output.trans K6.out.output, Nat.le_trans K6.out.size kp7.size, fun k hk hf => (kp7.block k (Nat.lt_of_lt_of_le hk K6.out.size) (by omega)).trans (K6.out.block k hk hf)⟩
                            have c37 := L7.cell 3 (v := .bool f) rfl
                            have f37 := L7.free 3 (by show 3 < 7; decide)
                            have L8 : Lies (w7.setCell ⟨R, 3, none⟩ (.bool true)) R (rdV s ⟨c, rs, b, true, 0, p, 0⟩) := L7.put 3 (by show 3 < 7; decide) _
                            have c18 := L8.cell 1 (v := .string s) rfl
                            have f18 := L8.free 1 (by show 1 < 7; decide)
                            have L9 : Lies ((w7.setCell ⟨R, 3, none⟩ (.bool true)).setCell ⟨R, 1, none⟩ (.string (s.extract (n + z) s.size))) R (rdV (s.extract (n + z) s.size) ⟨c, rs.drop (n + z), b, true, 0, p, 0⟩) := L8.put 1 (by show 1 < 7; decide) _
                            have NX := Lib.hid (NEXT.out ((w7.setCell ⟨R, 3, none⟩ (.bool true)).setCell ⟨R, 1, none⟩ (.string (s.extract (n + z) s.size))) ⟨c, rs.drop (n + z), b, true, 0, p, 0⟩ [(k, (rs.drop n).take z)] _ ST rfl ⟨_, by rw [toL_extract, hs], L9⟩ ((ev7.set hR).set hR) ((k7.set ⟨R, 3, none⟩ rfl _).set ⟨R, 1, none⟩ rfl _) (by
                              show 1 + (rs.drop (n + z)).length ≤ rs.length
                              rw [List.length_drop]
                              omega) (by show 0 ≤ _; omega))
                            obtain ⟨EV, hEV⟩ : ∃ EV, EV = evs ++ [(k, (rs.drop n).take z)] := ⟨_, rfl⟩
                            rw [← hEV] at NX hap
                            rw [← ed2.out] at hap
                            replace hap : Hid _ := hap
                            clear ST FAULT NONE NEXT FIN L6 V6 K6 hs L7 L8 L9 ev7 kp7 hR7 k7 hEV ed2
                            go_wp2_with (refine obB2L _ rfl .append _ _ 31 31 rfl _ _ rfl rfl hap.out ?_)
                            go_roundg (rs.length - (n + z))
                            case measure => omega
                            case rel => exact ⟨_, _, by simp, NX⟩
                          · rw [if_pos hct] at STP
                            have ST := STP.out
                            generalize contC k ((rs.drop n).take z) = CC at *
                            have qc : (CC == 0) = false := by simpa using hct
                            have L6 : Lies (w5.setCell ⟨R, 6, none⟩ (.int .i64 CC)) R (rdV s ⟨c, rs, b, f, 0, p, CC⟩) := L5.out.put 6 (by show 6 < 7; decide) _
                            have c66 := L6.cell 6 (v := .int .i64 CC) rfl
                            have E := Lib.hid (FIN.out ⟨c, rs, b, f, 0, p, CC⟩ evs u6 CC (w5.setCell ⟨R, 6, none⟩ (.int .i64 CC)).drew (FAULT.out _ ST hct) rfl ⟨s, hs, L6.of_block rfl⟩ ((V5.out.set hR).of fun _ _ => rfl) ((K5.out.set ⟨R, 6, none⟩ rfl _).drew))
                            clear ST STP FAULT NONE NEXT FIN L5 L6 V5 K5 hs ed2
                            replace hct : Hid _ := hct
                            go_upto_region 30 with fail
                            go_region
                            all_goals
                              go_wp2_with fail
                              exact E.out
                  · rw [if_pos hw] at STP
                    have ST := STP.out
                    generalize wrongC c f k = W at *
                    have qw : (W == 0) = false := by simpa using hw
                    have L4 : Lies (w3.setCell ⟨R, 6, none⟩ (.int .i64 W)) R (rdV s ⟨c, rs, b, f, 0, p, W⟩) := L3.out.put 6 (by show 6 < 7; decide) _
                    have c64 := L4.cell 6 (v := .int .i64 W) rfl
                    have E := Lib.hid (FIN.out ⟨c, rs, b, f, 0, p, W⟩ evs u6 W (w3.setCell ⟨R, 6, none⟩ (.int .i64 W)).drew (FAULT.out _ ST hw) rfl ⟨s, hs, L4.of_block rfl⟩ ((V3.out.set hR).of fun _ _ => rfl) ((K3.out.set ⟨R, 6, none⟩ rfl _).drew))
                    clear ST STP FAULT NONE NEXT FIN L4 L3 V3 K3 hs B3
                    replace hw : Hid _ := hw
                    go_upto_region 21 with fail
                    go_region
                    all_goals
                      go_wp2_with fail
                      exact E.out
  · obtain ⟨s, hs, l0⟩ := h
    have c6 := l0.cell 6 (v := .int .i64 r.code) rfl
    have q6 : (r.code == 0) = false := by simpa using hc
    have E : Hid (FdB w R r (toL t) (.returned (.tuple #[.slice none 0 0, .int .i64 r.code])) w.drew) := by
      have e : r.feed (toL t) = (r, []) := by
        unfold Hr.feed
        rw [if_pos hc]
      refine ⟨.slice none 0 0, ?_, ?_, ?_, (Kept.refl _ _).drew⟩
      · rw [e]
      · rw [e]; exact ⟨s, hs, l0.of_block rfl⟩
      · rw [e]; exact EvR.nil _ _
    obtain ⟨P, hP⟩ : ∃ P : Ending → World → Prop, P = FdB w R r (toL t) := ⟨_, rfl⟩
    change Calls Tryd.prog 11 #[.pointer (some ⟨R, 0, none⟩), .string t] w fun e w' => FdB w R r (toL t) e w'
    rw [← hP] at E ⊢
    generalize r.code = cd at *
    clear hP l0 hs hz hl
    replace hc : Hid _ := hc
    go_enter Tryd.func11, Tryd.ntmps11
    go_upto_region 3 with fail
    go_region
    all_goals
      go_wp2_with fail
      exact E.out
end Go.Proofs.YtnngdlleicjegaaDoor
