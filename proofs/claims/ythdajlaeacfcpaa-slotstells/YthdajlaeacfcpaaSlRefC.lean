/-
  What the document's own Round answers. No condition but the form's own reach.
-/
import Derived.Test.YthdajlaeacfcpaaSlRefB
namespace Go.Proofs.Ythdajlaeacfcpaa
set_option maxRecDepth 100000
open Go.RowKit

theorem turn_at {l : List Int} {who : Int} (h : ¬ (who < 0 ∨ 65536 < l.length)) {t : Nat} (ht : t ≤ 1000000) : turnV l (t : Int) who = match fstP (prp l who) t l.length with | some u => (u : Int) | none => -1 := by
  rw [turn_in (by omega), Int.toNat_natCast]; rfl
set_option maxHeartbeats 2000000 in
theorem rround_ok {w : World} {v : Value} {l : List Int} (h : Tb w v l) (who : Int) :
    Calls Try.prog 14 #[v, .int .i64 who] w fun e w' => e = .returned (.int .i64 (roundV l who)) ∧ w = w' := by
  have FN := Lib.hid (rfine_ok h who)
  have TU := Lib.hid fun t => rturn_ok h t who
  obtain ⟨a, c, rfl⟩ := h.slice
  have hz := h.z
  clear h
  obtain ⟨n, hn⟩ : ∃ n, n = l.length := ⟨_, rfl⟩
  by_cases h1 : who < 0 ∨ 65536 < l.length
  · have e : roundV l who = 0 := by unfold roundV; rw [if_pos h1]
    rw [e]
    rw [decide_eq_false (p := ¬ (who < 0 ∨ 65536 < l.length)) (by omega)] at FN
    rw [← hn] at FN ⊢
    clear e h1 TU hz hn
    go_enter Try.func14, Try.ntmps14
    go_wp2_with fail
    refine FN.out.mono ?_
    rintro e w' ⟨rfl, rfl⟩
    clear FN
    go_wp2_with fail
    go_ret
    exact ⟨rfl, rfl⟩
  rw [decide_eq_true (p := ¬ (who < 0 ∨ 65536 < l.length)) h1] at FN
  have e : roundV l who = (gapP (prp l who) n : Int) := by unfold roundV; rw [if_neg h1, hn]
  rw [e]
  have T0 := Lib.hid (TU.out 0)
  have t0 := turn_at h1 (t := 0) (by omega)
  have TS : Hid (∀ t : Nat, t ≤ 100000 → turnV l (t : Int) who = match fstP (prp l who) t n with | some u => (u : Int) | none => -1) := fun t ht => by rw [hn]; exact turn_at h1 (by omega)
  have PE : Per (prp l who) n := by rw [hn]; exact prp_per l who
  rw [← hn] at FN TU T0 t0 ⊢
  have hn1 : n ≤ 65536 := by omega
  clear e hz h1 hn
  generalize prp l who = p at *
  cases hf : fstP p 0 n with
  | none =>
    have eg : Hid (gapP p n = 0) := by unfold Hid gapP; rw [hf]
    rw [hf] at t0
    have t00 : turnV l 0 who = -1 := t0
    rw [t00] at T0
    clear t0 t00 TS PE hf TU
    go_enter Try.func14, Try.ntmps14
    go_wp2_with fail
    refine FN.out.mono ?_
    rintro e w' ⟨rfl, rfl⟩
    clear FN
    go_wp2_with fail
    refine T0.out.mono ?_
    rintro e w' ⟨rfl, rfl⟩
    clear T0
    go_wp2_with fail
    go_ret
    exact ⟨by rw [eg.out]; rfl, rfl⟩
  | some a0 =>
    have eg : gapP p n = gapL p n (n + 1) a0 0 := by unfold gapP; rw [hf]
    obtain ⟨-, f2, f3, -⟩ := fst_some hf
    rw [hf] at t0
    have t00 : turnV l 0 who = (a0 : Int) := t0
    rw [t00] at T0
    obtain ⟨G, hG⟩ : ∃ G, G = gapP p n := ⟨_, rfl⟩
    have hL : Hid (gapL p n (n + 1) a0 0 = G) := by unfold Hid; rw [hG, eg]
    rw [← hG]
    have q1 : decide ((a0 : Int) < 0) = false := decide_eq_false (by omega)
    have q2 : ¬ (a0 : Int) < 0 := by omega
    clear t0 t00 hf eg hG
    go_enter Try.func14, Try.ntmps14
    go_wp2_with fail
    refine FN.out.mono ?_
    rintro e w' ⟨rfl, rfl⟩
    clear FN
    go_wp2_with fail
    refine T0.out.mono ?_
    rintro e w' ⟨rfl, rfl⟩
    go_wp2_with fail
    refine T0.out.mono ?_
    rintro e w' ⟨rfl, rfl⟩
    clear T0 q1 q2
    go_wp2_with fail
    go_loopg [5, 6] (n + 1) (fun k s5 s6 wr => ∃ a m : Nat, s5 = .int .i64 a ∧ s6 = .int .i64 m ∧ w = wr ∧ Hid (gapL p n k a m = G) ∧ n + 1 ≤ a + k ∧ a ≤ 2 * n ∧ m ≤ n ∧ Hid (p a = true))
    case atStart => exact ⟨a0, 0, rfl, rfl, rfl, hL, by omega, by omega, by omega, f3⟩
    case round =>
      clear hL f3 f2
      obtain ⟨x, m, rfl, rfl, rfl, hL, hk, hx, hm, hp⟩ := hrel
      by_cases hlt : x < n
      · have q1 : decide (x < n) = true := decide_eq_true hlt
        have q2 : decide ((x : Int) < (n : Int)) = true := decide_eq_true (by omega)
        obtain ⟨y, hy⟩ := PE.some (by omega) hp.out (x + 1)
        obtain ⟨y1, y2, y3, -⟩ := fst_some hy
        obtain ⟨k, rfl⟩ : ∃ k, gk = k + 1 := ⟨gk - 1, by omega⟩
        have hL2 := hL.out
        rw [gapL, if_pos hlt, hy] at hL2
        replace hL2 : gapL p n k y (max m (y - x)) = G := hL2
        obtain ⟨d, hd⟩ : ∃ d, d = y - x := ⟨_, rfl⟩
        have wx : Hid (wrap64 ((x : Int) + 1) = ((x + 1 : Nat) : Int)) := wrap_in (by omega) (by omega) (by omega)
        have wd : Hid (wrap64 ((y : Int) - (x : Int)) = (d : Int)) := wrap_in (by omega) (by omega) (by omega)
        have tn := TS.out (x + 1) (by omega)
        rw [hy] at tn
        have C := TU.out ((x + 1 : Nat) : Int)
        rw [tn] at C
        replace C := Lib.hid C
        rw [← hd] at hL2
        have gm : Hid (k < k + 1) := Nat.lt_succ_self k
        have r1 : Hid (n + 1 ≤ y + k) := by unfold Hid; omega
        have r2 : Hid (y ≤ 2 * n) := by unfold Hid; omega
        have r3 : Hid (max m d ≤ n) := by unfold Hid; omega
        replace hL2 := Lib.hid hL2
        obtain ⟨M, hM⟩ : ∃ M, M = max m d := ⟨_, rfl⟩
        rw [← hM] at hL2 r3
        replace hM := Lib.hid hM
        clear hd y1 y2 hy hL hk hx hm hp tn hn1
        replace wx := wx.out
        go_wp2_with fail
        refine C.out.mono ?_
        rintro e w' ⟨rfl, rfl⟩
        clear C wx q1 q2 hlt
        replace wd := wd.out
        go_upto_region 7 with fail
        go_wp2_with fail
        · go_roundg k
          case measure => exact gm.out
          case rel => exact ⟨y, M, by go_num, by rw [show M = d by have := hM.out; omega], rfl, hL2, r1.out, r2.out, r3.out, y3⟩
        · go_roundg k
          case measure => exact gm.out
          case rel => exact ⟨y, M, by go_num, by rw [show M = m by have := hM.out; omega], rfl, hL2, r1.out, r2.out, r3.out, y3⟩
      · have q1 : decide (x < n) = false := decide_eq_false hlt
        have q2 : decide ((x : Int) < (n : Int)) = false := decide_eq_false (by omega)
        have hL2 : Hid (m = G) := by
          have := hL.out
          cases gk with
          | zero => exact this
          | succ k => rw [gapL, if_neg hlt] at this; exact this
        clear hL hk hx hm hp hlt PE TS TU hn1
        go_wp2_with fail
        go_ret
        exact ⟨by rw [← hL2.out]; rfl, rfl⟩
end Go.Proofs.Ythdajlaeacfcpaa
