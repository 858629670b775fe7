/-
  What the document's own New, Flight, lose and Sent of a ledger do. Fewer than 2^40 packets; no other condition but what always holds of a ledger.
-/
import Derived.Test.YtfjampommgkfeaaLgRef
namespace Go.Proofs.Ytfjampommgkfeaa
set_option maxRecDepth 100000
open Go.RowKit Go.Sort

theorem rnew_ok (w : World) :
    Calls Try.prog 9 #[] w fun e w' => e = .returned (.pointer (some ⟨w.heap.size, 0, none⟩)) ∧ RB w' w.heap.size none ld0 ∧ Below w.heap.size w w' ∧ w'.shape? w.heap.size = some (42, 6) := by
  have L0 : Hid (RB (w.alloc (.cells #[.slice none 0 0, .int .i64 (-1), .int .i64 12000, .int .i64 1073741824, .int .i64 (-1), .int .i64 0] 42)) w.heap.size none ld0) := ⟨.slice none 0 0, Lies.new w _ _, World.ownsRow_nil _ _ _ _, rfl⟩
  have B0 : Hid (Below w.heap.size w (w.alloc (.cells #[.slice none 0 0, .int .i64 (-1), .int .i64 12000, .int .i64 1073741824, .int .i64 (-1), .int .i64 0] 42))) := (Below.refl _ _).alloc (Nat.le_refl _) _
  have S0 : Hid ((w.alloc (.cells #[.slice none 0 0, .int .i64 (-1), .int .i64 12000, .int .i64 1073741824, .int .i64 (-1), .int .i64 0] 42)).shape? w.heap.size = some (42, 6)) := by
    unfold Hid World.shape?
    rw [heap_alloc_new]
    rfl
  go_enter Try.func9, Try.ntmps9
  go_wp2
  go_ret
  exact ⟨rfl, L0.out, B0.out, S0.out⟩
theorem at_rpk (B o N cap i : Nat) (w : World) (h : i < N) (z : Int) (hz : z = i) (p : Nat) (hp : p = o + 3 * i) :
    (Instr.indexAt 40 (.slice (some ⟨B, o, none⟩) N cap) (.int .i64 z)).run Try.prog w = .ok (.pointer (some ⟨B, p, none⟩)) w := by
  subst hz hp
  have e : Try.prog.elem 40 = 60 := by kernel_rfl
  rw [run_indexAt_slice (P := Try.prog) w 40 ⟨B, o, none⟩ N cap .i64 i (by rw [e]; exact Try.underlying40), if_pos (by omega), e]
  have s : (sizeOf 60).run Try.prog w = .ok 3 w := Try.sizeOf60 w
  rw [s]
  simp [Addr.add_mid, Nat.mul_comm]
theorem row_cells {w : World} {base : Nat} {t : TypeId} {g o cap : Nat} {l : List Pk} (h : w.ownsRow base t 3 (.slice (some ⟨g, o, none⟩) l.length cap) l.length (pks l)) (k : Nat) (hk : k < l.length) :
    o = 0 ∧ w.cell? ⟨g, 3 * k, none⟩ = some (.int .i64 (l.getD k (0, 0, 0)).1) ∧ w.cell? ⟨g, 3 * k + 1, none⟩ = some (.int .i64 (l.getD k (0, 0, 0)).2.1) ∧ w.cell? ⟨g, 3 * k + 2, none⟩ = some (.int .i64 (l.getD k (0, 0, 0)).2.2) := by
  rcases h.2 with ⟨e, _⟩ | ⟨g', cap', cur, e, hr⟩
  · cases e
  · injection e with e1 e2 e3
    injection e1 with e1
    injection e1 with e1 e4
    subst e1 e3 e4
    refine ⟨rfl, ?_, ?_, ?_⟩
    · have := h.cellAt (3 * k) (by omega)
      rw [this, show 3 * k = 3 * k + 0 from rfl, pks_get l k hk 0 (by omega)]
      rfl
    · have := h.cellAt (3 * k + 1) (by omega)
      rw [this, pks_get l k hk 1 (by omega)]
      rfl
    · have := h.cellAt (3 * k + 2) (by omega)
      rw [this, pks_get l k hk 2 (by omega)]
      rfl
theorem bytes_take (l : List Pk) (k : Nat) (h : k < l.length) : bytesP (l.take (k + 1)) = bytesP (l.take k) + (l.getD k (0, 0, 0)).2.2 := by
  unfold bytesP
  rw [List.take_succ_eq_append_getElem h, List.map_append, List.sum_append]
  simp [List.getD, List.getElem?_eq_getElem h]
theorem bytes_le (l : List Pk) (h : ∀ p ∈ l, 1 ≤ p.2.2 ∧ p.2.2 ≤ 1200) (k : Nat) : 0 ≤ bytesP (l.take k) ∧ bytesP (l.take k) ≤ 1200 * k := by
  induction k with
  | zero => simp [bytesP]
  | succ k ih =>
    rcases Nat.lt_or_ge k l.length with q | q
    · rw [bytes_take l k q]
      have := h (l.getD k (0, 0, 0)) (by simp [List.getD, List.getElem?_eq_getElem q])
      omega
    · rw [List.take_of_length_le (by omega)]
      rw [List.take_of_length_le q] at ih
      omega
set_option maxHeartbeats 4000000 in
theorem rflight_ok (R : Nat) (o : Option Nat) (d : Ld) (w : World) (h : RB w R o d) (hl : d.l.length < 1099511627776) (hb : ∀ p ∈ d.l, 1 ≤ p.2.2 ∧ p.2.2 ≤ 1200) :
    Calls Try.prog 18 #[.pointer (some ⟨R, 0, none⟩)] w fun e w' => e = .returned (.tuple #[.int .i64 d.l.length, .int .i64 (bytesP d.l)]) ∧ w = w' := by
  obtain ⟨sv, h1, h2, -⟩ := h
  have c0 := h1.cell 0 (v := sv) rfl
  clear h1
  obtain ⟨a, cap, rfl⟩ := rown_len h2
  replace h2 : Hid _ := h2
  have bb : Hid (∀ k, 0 ≤ bytesP (d.l.take k) ∧ bytesP (d.l.take k) ≤ 1200 * k) := bytes_le d.l hb
  clear hb
  go_enter Try.func18, Try.ntmps18
  go_wp2
  go_loopg [4, 5] d.l.length (fun g' nv iv wr => ∃ k : Nat, k + g' = d.l.length ∧ iv = .int .i64 k ∧ nv = .int .i64 (bytesP (d.l.take k)) ∧ w = wr)
  case atStart => exact ⟨0, by omega, rfl, rfl, rfl⟩
  case round =>
    obtain ⟨k, hk, rfl, rfl, rfl⟩ := hrel
    by_cases hlt : k < d.l.length
    · have g1 : decide ((k : Int) < (d.l.length : Int)) = true := decide_eq_true (by omega)
      cases a with
      | none =>
        exfalso
        rcases h2.out.2 with ⟨_, q⟩ | ⟨g, _, _, q, _⟩
        · omega
        · injection q with q; cases q
      | some p =>
        obtain ⟨g, po, hp⟩ : ∃ g po, p = ⟨g, po, none⟩ := by
          rcases h2.out.2 with ⟨q, _⟩ | ⟨g, _, _, q, _⟩
          · cases q
          · injection q with q
            injection q with q
            exact ⟨g, 0, q⟩
        subst hp
        obtain ⟨rfl, -, -, c2⟩ := row_cells h2.out k hlt
        have ia := fun w' => at_rpk g 0 d.l.length cap k w' hlt (k : Int) rfl (3 * k) (by omega)
        have bt := bytes_take d.l k hlt
        have b1 := bb.out k
        have b2 := bb.out (k + 1)
        generalize (d.l.getD k (0, 0, 0)).2.2 = s at *
        have hw : wrap64 (bytesP (d.l.take k) + s) = bytesP (d.l.take (k + 1)) := by
          rw [bt] at b2 ⊢
          unfold wrap64
          omega
        replace bt : Hid _ := bt
        clear b1 b2
        go_wp2
        go_roundg (d.l.length - (k + 1))
        case measure => omega
        case rel => exact ⟨k + 1, by omega, by go_num, congrArg (Value.int .i64) hw, rfl⟩
    · have g1 : decide ((k : Int) < (d.l.length : Int)) = false := decide_eq_false (by omega)
      obtain rfl : k = d.l.length := by omega
      have e : bytesP (d.l.take d.l.length) = bytesP d.l := by rw [List.take_length]
      rw [e]
      clear e h2 bb
      go_wp2
      go_ret2
      exact ⟨rfl, rfl⟩
end Go.Proofs.Ytfjampommgkfeaa
