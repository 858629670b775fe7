/-
  The document's own queues: an entry of the round's row; New, Count. No condition but what always holds of queues.
-/
import Derived.Test.YtiamlldooihkdaaFaRz
namespace Go.Proofs.Ytiamlldooihkdaa
set_option maxRecDepth 100000
open Go.RowKit

def qx0 : QX := (fe0, none, 0)
theorem RfX.len {w : World} {R : Nat} {f : FaQ} {ws : List QX} {lv : Value} (h : RfX w R f ws lv) : ws.length = f.r.length := by rw [← h.e, List.length_map]
theorem RfX.slice {w : World} {R : Nat} {f : FaQ} {ws : List QX} {lv : Value} (h : RfX w R f ws lv) : ∃ a c, lv = .slice a f.r.length c ∧ f.r.length ≤ c := by
  obtain ⟨a, c, e, h1, -⟩ := h.r.slice
  rw [h.len] at e h1
  exact ⟨a, c, e, h1⟩
theorem RfX.mem {w : World} {R : Nat} {f : FaQ} {ws : List QX} {lv : Value} (h : RfX w R f ws lv) {i : Nat} (hi : i < f.r.length) : ws.getD i qx0 ∈ ws ∧ (ws.getD i qx0).1 = f.r.getD i fe0 := by
  have hl := h.len
  have hw : i < ws.length := by omega
  rw [List.getD_eq_getElem?_getD, List.getElem?_eq_getElem hw]
  refine ⟨List.getElem_mem _, ?_⟩
  rw [List.getD_eq_getElem?_getD, ← h.e, List.getElem?_map, List.getElem?_eq_getElem hw]
  rfl
/-- An entry of the round's row: its cells. -/
theorem RfX.at {w : World} {R : Nat} {f : FaQ} {ws : List QX} {a : Option Addr} {n c : Nat} (h : RfX w R f ws (.slice a n c)) {i : Nat} (hi : i < f.r.length) :
    ∃ g o, a = some ⟨g, o, none⟩ ∧ g < w.heap.size ∧ g ≠ R ∧ (∀ w', (Instr.indexAt 51 (.slice a n c) (.int .i64 (i : Int))).run Try.prog w' = .ok (.pointer (some ⟨g, o + 3 * i, none⟩)) w') ∧ w.cell? ⟨g, o + 3 * i, none⟩ = some (.int .i64 (f.r.getD i fe0).id) ∧ (∃ la lc, ws.getD i qx0 = (f.r.getD i fe0, la, lc) ∧ w.cell? ⟨g, o + 3 * i + 1, none⟩ = some (.slice la (f.r.getD i fe0).l.length lc)) ∧ w.cell? ⟨g, o + 3 * i + 2, none⟩ = some (.int .i64 (f.r.getD i fe0).d) ∧ w.frozen? ⟨g, o + 3 * i + 1, none⟩ = false := by
  have hl := h.len
  obtain ⟨a', c', e, -, hx⟩ := h.r.slice
  have hw : i < ws.length := by omega
  injection e with e1 e2 e3
  subst e1 e2 e3
  obtain ⟨g, o, rfl, ho, hg⟩ := hx.2 (by omega)
  have e0 := (h.mem hi).2
  have c0 := h.r.cell kq_ok i 0 hw (by decide)
  have c1 := h.r.cell kq_ok i 1 hw (by decide)
  have c2 := h.r.cell kq_ok i 2 hw (by decide)
  have ex : ws.getD i qx0 = (f.r.getD i fe0, (ws.getD i qx0).2.1, (ws.getD i qx0).2.2) := by rw [← e0]
  have ek : KQ.x0 = qx0 := rfl
  rw [ek, ex] at c0 c1 c2
  refine ⟨g, o, rfl, hg, fun q => h.n2 (by rw [← q]; exact ho), fun w' => at_Z kq_ok g o _ c i w' hw _ rfl _ rfl, c0.1, ⟨_, _, ex, c1.1⟩, c2.1, c1.2⟩
theorem rcut_ok (n : Int) (w : World) : Calls Try.prog 20 #[.int .i64 n] w fun e w' => e = .returned (.int .i64 (cutQ n)) ∧ w = w' := by
  have go : ∀ c, cutQ n = c → (n < 1 ∧ c = 1) ∨ (n = 1 ∧ c = 1) ∨ (1 < n ∧ n < 1048576 ∧ c = n) ∨ (n = 1048576 ∧ c = 1048576) ∨ (1048576 < n ∧ c = 1048576) := fun c hc => by
    unfold cutQ at hc
    split at hc
    · omega
    · split at hc <;> omega
  rcases go _ rfl with ⟨h, e⟩ | ⟨h, e⟩ | ⟨h, h2, e⟩ | ⟨h, e⟩ | ⟨h, e⟩
  · rw [e]
    have h2 : n < 1048576 := by omega
    have h3 : ¬ 1 < n := by omega
    clear go e
    go_enter Try.func20, Try.ntmps20
    go_wp2
    go_ret
    exact ⟨rfl, rfl⟩
  · rw [e]
    subst h
    clear go e
    go_enter Try.func20, Try.ntmps20
    go_wp2
    go_ret
    exact ⟨rfl, rfl⟩
  · rw [e]
    clear go e
    go_enter Try.func20, Try.ntmps20
    go_wp2
    go_ret
    exact ⟨rfl, rfl⟩
  · rw [e]
    subst h
    clear go e
    go_enter Try.func20, Try.ntmps20
    go_wp2
    go_ret
    exact ⟨rfl, rfl⟩
  · rw [e]
    have h2 : ¬ n < 1048576 := by omega
    clear go e
    go_enter Try.func20, Try.ntmps20
    go_wp2
    go_ret
    exact ⟨rfl, rfl⟩
theorem rnew_ok (lim qu : Int) (w : World) : Calls Try.prog 9 #[.int .i64 lim, .int .i64 qu] w fun e w' => ∃ B, e = .returned (ptr B) ∧ RF w' B (fun k => k = B) (newE lim qu) ∧ w.heap.size ≤ B ∧ Below w.heap.size w w' := by
  have W1 := Lib.hid fun w' => rcut_ok lim w'
  have W2 := Lib.hid fun w' => rcut_ok qu w'
  have FIN : Hid (RF (w.alloc (.cells #[.int .i64 (cutQ lim), .int .i64 (cutQ qu), .slice none 0 0, .bool false] 53)) w.heap.size (fun k => k = w.heap.size) (newE lim qu)) := by
    refine ⟨fun k hk => by rw [hk]; simp, rfl, new_ok _ _, [], .slice none 0 0, ⟨?_, .nil _, rfl, fun x hx => (by cases hx), fun x hx => (by cases hx), fun q => (by cases q)⟩, fun k hk => (by cases hk), fun x hx => (by cases hx)⟩
    exact Lies.new w [.int .i64 (cutQ lim), .int .i64 (cutQ qu), .slice none 0 0, .bool false] _
  have b1 := Lib.hid (al_b w (.cells #[.int .i64 (cutQ lim), .int .i64 (cutQ qu), .slice none 0 0, .bool false] 53))
  go_enter Try.func9, Try.ntmps9
  go_wp2_with fail
  refine (W1.out w).mono ?_
  rintro e w' ⟨rfl, rfl⟩
  go_wp2_with fail
  refine (W2.out w).mono ?_
  rintro e w' ⟨rfl, rfl⟩
  go_wp2_with fail
  go_ret
  exact ⟨_, rfl, FIN.out, Nat.le_refl _, b1.out⟩
theorem cnt_take (r : List FaE) (i : Nat) (hi : i < r.length) : cntE (r.take (i + 1)) = cntE (r.take i) + (r.getD i fe0).l.length := by
  rw [List.take_add_one, List.getElem?_eq_getElem hi, List.getD_eq_getElem?_getD, List.getElem?_eq_getElem hi, cntE_app]
  simp [cntE]
theorem cnt_take_le (r : List FaE) (i : Nat) : cntE (r.take i) ≤ cntE r := by
  have := cntE_app (r.take i) (r.drop i)
  rw [List.take_append_drop] at this
  omega
set_option maxHeartbeats 1000000 in
theorem rcount_ok {w : World} {R : Nat} {F : Nat → Prop} {f : FaQ} (h : RF w R F f) (hz : f.pz < 1000000) :
    Calls Try.prog 17 #[ptr R] w fun e w' => e = .returned (.int .i64 (cntE f.r)) ∧ w = w' := by
  obtain ⟨-, -, ok, ws, lv, h, -, -⟩ := h
  have hn := ok.n
  have hlc := (len_cnt ok).1
  obtain ⟨a, c, rfl, -⟩ := h.slice
  obtain ⟨n, hnl⟩ : ∃ n, n = f.r.length := ⟨_, rfl⟩
  have c2 := h.h.cell 2 rfl
  rw [← hnl] at c2
  have AT : Hid (∀ i, i < n → ∃ g o, a = some ⟨g, o, none⟩ ∧ (∀ w', (Instr.indexAt 51 (.slice a n c) (.int .i64 (i : Int))).run Try.prog w' = .ok (.pointer (some ⟨g, o + 3 * i, none⟩)) w') ∧ ∃ la lc, w.cell? ⟨g, o + 3 * i + 1, none⟩ = some (.slice la (f.r.getD i fe0).l.length lc)) := fun i hi => by
    obtain ⟨g, o, h1, -, -, h2, -, ⟨la, lc, -, h3⟩, -, -⟩ := h.at (i := i) (by rw [← hnl]; exact hi)
    rw [← hnl] at h2
    exact ⟨g, o, h1, h2, la, lc, h3⟩
  have TK : Hid (∀ i, i < n → cntE (f.r.take (i + 1)) = cntE (f.r.take i) + (f.r.getD i fe0).l.length ∧ cntE (f.r.take (i + 1)) < 1000000) := fun i hi => ⟨cnt_take _ _ (by omega), by have := cnt_take_le f.r (i + 1); omega⟩
  have T0 : Hid (cntE (f.r.take 0) = 0) := rfl
  have TN : Hid (cntE (f.r.take n) = cntE f.r) := by rw [hnl, List.take_length]; exact rfl
  have hn1 : n < 1000000 := by omega
  clear h hn hlc hnl ok hz
  generalize cntE f.r = m at *
  go_enter Try.func17, Try.ntmps17
  go_wp2_with fail
  go_loopg [3, 4] n (fun g' s3 s4 wr => ∃ i : Nat, i + g' = n ∧ s3 = .int .i64 (cntE (f.r.take i)) ∧ s4 = .int .i64 i ∧ w = wr)
  case atStart => exact ⟨0, by omega, by rw [T0.out]; rfl, rfl, rfl⟩
  case round =>
    obtain ⟨i, hi, rfl, rfl, rfl⟩ := hrel
    by_cases hlt : i < n
    · have q1 : decide (i < n) = true := decide_eq_true hlt
      have q2 : decide ((i : Int) < (n : Int)) = true := decide_eq_true (by omega)
      obtain ⟨g, o, rfl, ia, la, lc, c1⟩ := AT.out i hlt
      obtain ⟨t1, t2⟩ := TK.out i hlt
      obtain ⟨x, hx⟩ : ∃ x, x = cntE (f.r.take i) := ⟨_, rfl⟩
      obtain ⟨y, hy⟩ : ∃ y, y = (f.r.getD i fe0).l.length := ⟨_, rfl⟩
      rw [← hx, ← hy] at t1
      rw [← hy] at c1
      rw [← hx]
      have y64 : y ≤ 9223372036854775807 := by omega
      have wi : Hid (wrap64 ((i : Int) + 1) = (i : Int) + 1) := by unfold Hid wrap64; omega
      have wx : Hid (wrap64 ((x : Int) + (y : Int)) = ((cntE (f.r.take (i + 1)) : Nat) : Int)) := by unfold Hid wrap64; omega
      have gi : Hid (i + 1 + (n - (i + 1)) = n) := by unfold Hid; omega
      have gm : Hid (n - (i + 1) < gk) := by unfold Hid; omega
      clear t1 t2 hx hy hi
      go_upto_region 4 with fail
      clear q1 q2 ia c1 y64 hlt
      replace wi := wi.out
      go_wp2_with fail
      go_roundg (n - (i + 1))
      case measure => exact gm.out
      case rel => exact ⟨i + 1, gi.out, by rw [wx.out], by go_num, rfl⟩
    · obtain rfl : i = n := by omega
      have q1 : decide (i < i) = false := decide_eq_false hlt
      have q2 : decide ((i : Int) < (i : Int)) = false := decide_eq_false (by omega)
      go_wp2_with fail
      go_ret
      exact ⟨by rw [TN.out]; rfl, rfl⟩
end Go.Proofs.Ytiamlldooihkdaa
