/-
  Rules in plain sums: which are right, which fit a packet, what the first that fits says. No condition. Rules in memory: a row as a slice tells it; a rule in a block. No condition. What the program's own isRight and concerns answer of a rule. No condition but what the types allow. What the program's own says, Check and Allow answer of rules in memory. No condition but what the types allow. What the document's own port and Check answer of rules in memory. No condition but what the types allow. What the document's own Allow answers of rules in memory. No condition but what the types allow.
-/
import Derived.Test.YtndaohiecpdmlaaGreatMgE
import Derived.Test.YtndaohiecpdmlaaGreatMgA
import Derived.Deep.LoopGhost
namespace Go.Proofs.YtndaohiecpdmlaaGreat

/-- A rule. -/
structure Ru where
  al : Bool
  pro : Int
  ad : Int
  bits : Int
  fr : Int
  up : Int
def ru0 : Ru := ⟨false, 0, 0, 0, 0, 0⟩
/-- A rule as the program holds it. -/
def ruC (r : Ru) : List Value := [.bool r.al, .int .i64 r.pro, .int .u32 r.ad, .int .i64 r.bits, .int .i64 r.fr, .int .i64 r.up]
def ruV (r : Ru) : Value := .agg #[.bool r.al, .int .i64 r.pro, .int .u32 r.ad, .int .i64 r.bits, .int .i64 r.fr, .int .i64 r.up]
/-- What the types allow. -/
structure RuB (r : Ru) : Prop where
  p0 : -9223372036854775808 ≤ r.pro
  p1 : r.pro ≤ 9223372036854775807
  a0 : 0 ≤ r.ad
  a1 : r.ad < 4294967296
  b0 : -9223372036854775808 ≤ r.bits
  b1 : r.bits ≤ 9223372036854775807
  f0 : -9223372036854775808 ≤ r.fr
  f1 : r.fr ≤ 9223372036854775807
  u0 : -9223372036854775808 ≤ r.up
  u1 : r.up ≤ 9223372036854775807
/-- A right rule. -/
def ruR (r : Ru) : Bool := decide (0 ≤ r.pro) && decide (r.pro ≤ 255) && rt r.ad r.bits && decide (0 ≤ r.fr) && decide (r.fr ≤ r.up) && decide (r.up ≤ 65535)
/-- What is wrong with rules. -/
def ruK (l : List Ru) : Int := if 32 < l.length then 8 else if l.all ruR then 0 else 2
/-- Whether a rule concerns packets of a protocol to an address. -/
def con (r : Ru) (p a : Int) : Bool := (r.pro == 0 || r.pro == p) && inP r.ad r.bits a
/-- Whether it fits a packet. -/
def fit (r : Ru) (p a q : Int) : Bool := con r p a && decide (r.fr ≤ q) && decide (q ≤ r.up)
/-- What the first that fits says. -/
def sayL : List Ru → Int → Int → Int → Bool
  | [], _, _, _ => false
  | r :: l, p, a, q => if fit r p a q then r.al else sayL l p a q
/-- Whether a packet may go. -/
def alw (l : List Ru) (p a q : Int) : Bool := ruK l == 0 && sayL l p a q
theorem ruK_right {l : List Ru} : ruK l = 0 ↔ l.length ≤ 32 ∧ ∀ r ∈ l, ruR r = true := by
  unfold ruK
  constructor
  · intro h
    split at h
    · omega
    · split at h
      · rename_i h1 h2
        exact ⟨by omega, fun r hr => List.all_eq_true.1 h2 r hr⟩
      · omega
  · intro ⟨h1, h2⟩
    rw [if_neg (by omega), if_pos (List.all_eq_true.2 h2)]
structure RuW (r : Ru) : Prop where
  p0 : 0 ≤ r.pro
  p1 : r.pro ≤ 255
  t : rt r.ad r.bits = true
  f0 : 0 ≤ r.fr
  fu : r.fr ≤ r.up
  u1 : r.up ≤ 65535
theorem ruR_w {r : Ru} (h : ruR r = true) : RuW r := by
  unfold ruR at h
  simp only [Bool.and_eq_true, decide_eq_true_eq] at h
  exact ⟨h.1.1.1.1.1, h.1.1.1.1.2, h.1.1.1.2, h.1.1.2, h.1.2, h.2⟩
theorem sayL_drop (l : List Ru) (p a q : Int) (k : Nat) (hk : k < l.length) : sayL (l.drop k) p a q = if fit (l.getD k ru0) p a q then (l.getD k ru0).al else sayL (l.drop (k + 1)) p a q := by
  rw [List.drop_eq_getElem_cons hk, sayL, List.getD_eq_getElem?_getD, List.getElem?_eq_getElem hk]
  rfl
theorem sayL_end (l : List Ru) (p a q : Int) : sayL (l.drop l.length) p a q = false := by rw [List.drop_length]; rfl
end Go.Proofs.YtndaohiecpdmlaaGreat
namespace Go.Proofs.YtndaohiecpdmlaaGreat
set_option maxRecDepth 100000
open Go.RowKit

/-- Rules where they stand. -/
def RusAt (w : World) (v : Value) (l : List Ru) : Prop :=
  ∃ a cap, v = .slice a l.length cap ∧ l.length ≤ cap ∧ ∀ k, k < l.length → ∃ g o, a = some ⟨g, o, none⟩ ∧ g < w.heap.size ∧ ∀ j, j < 6 → w.cell? ⟨g, o + 6 * k + j, none⟩ = (ruC (l.getD k ru0))[j]?
theorem RusAt.keep {w w' : World} {v : Value} {l : List Ru} (h : RusAt w v l) (b : Below w.heap.size w w') : RusAt w' v l := by
  obtain ⟨a, cap, e, hc, h⟩ := h
  refine ⟨a, cap, e, hc, fun k hk => ?_⟩
  obtain ⟨g, o, ha, hg, c⟩ := h k hk
  exact ⟨g, o, ha, Nat.lt_of_lt_of_le hg b.size, fun j hj => (b.cell hg).trans (c j hj)⟩
theorem RusAt.kept {F : Nat → Prop} {w w' : World} {v : Value} {l : List Ru} (h : RusAt w v l) (b : Kept F w w') (hF : 0 < l.length → ∀ g o n c, v = .slice (some ⟨g, o, none⟩) n c → ¬ F g) : RusAt w' v l := by
  obtain ⟨a, cap, e, hc, h⟩ := h
  refine ⟨a, cap, e, hc, fun k hk => ?_⟩
  obtain ⟨g, o, ha, hg, c⟩ := h k hk
  refine ⟨g, o, ha, Nat.lt_of_lt_of_le hg b.size, fun j hj => ?_⟩
  rw [← c j hj]
  exact World.cell?_of_block (a := ⟨g, o + 6 * k + j, none⟩) (b.block g hg (hF (by omega) g o _ _ (by rw [e, ha])))
/-- The six cells of the rule at a place. -/
theorem RusAt.at {w : World} {v : Value} {l : List Ru} (h : RusAt w v l) {k : Nat} (hk : k < l.length) {r : Ru} (hr : r = l.getD k ru0) :
    ∃ g o cap, v = .slice (some ⟨g, o, none⟩) l.length cap ∧ g < w.heap.size ∧ w.cell? ⟨g, o + 6 * k, none⟩ = some (.bool r.al) ∧ w.cell? ⟨g, o + 6 * k + 1, none⟩ = some (.int .i64 r.pro) ∧ w.cell? ⟨g, o + 6 * k + 2, none⟩ = some (.int .u32 r.ad) ∧
      w.cell? ⟨g, o + 6 * k + 3, none⟩ = some (.int .i64 r.bits) ∧ w.cell? ⟨g, o + 6 * k + 4, none⟩ = some (.int .i64 r.fr) ∧ w.cell? ⟨g, o + 6 * k + 5, none⟩ = some (.int .i64 r.up) := by
  obtain ⟨a, cap, e, _, h⟩ := h
  obtain ⟨g, o, ha, hg, c⟩ := h k hk
  subst hr
  exact ⟨g, o, cap, by rw [e, ha], hg, c 0 (by decide), c 1 (by decide), c 2 (by decide), c 3 (by decide), c 4 (by decide), c 5 (by decide)⟩
theorem at_rus (B o N cap i : Nat) (w : World) (h : i < N) (z : Int) (hz : z = i) (p : Nat) (hp : p = o + 6 * i) :
    (Instr.indexAt 25 (.slice (some ⟨B, o, none⟩) N cap) (.int .i64 z)).run Tryz.prog w = .ok (.pointer (some ⟨B, p, none⟩)) w := by
  subst hz hp
  have e : Tryz.prog.elem 25 = 57 := by kernel_rfl
  rw [run_indexAt_slice (P := Tryz.prog) w 25 ⟨B, o, none⟩ N cap .i64 i (by rw [e]; exact Tryz.underlying25), if_pos (by omega), e]
  have s : (sizeOf 57).run Tryz.prog w = .ok 6 w := Tryz.sizeOf57 w
  rw [s]
  simp [Addr.add_mid, Nat.mul_comm]
/-- A rule in a block. -/
def ruO (r : Ru) : Obj := .cells #[.bool r.al, .int .i64 r.pro, .int .u32 r.ad, .int .i64 r.bits, .int .i64 r.fr, .int .i64 r.up] 57
structure RBox (w : World) (A : Nat) (r : Ru) : Prop where
  lt : A < w.heap.size
  c0 : w.cell? ⟨A, 0, none⟩ = some (.bool r.al)
  c1 : w.cell? ⟨A, 1, none⟩ = some (.int .i64 r.pro)
  c2 : w.cell? ⟨A, 2, none⟩ = some (.int .u32 r.ad)
  c3 : w.cell? ⟨A, 3, none⟩ = some (.int .i64 r.bits)
  c4 : w.cell? ⟨A, 4, none⟩ = some (.int .i64 r.fr)
  c5 : w.cell? ⟨A, 5, none⟩ = some (.int .i64 r.up)
theorem RBox.new (w : World) (r : Ru) : RBox (w.alloc (ruO r)) w.heap.size r := by
  refine ⟨by simp, ?_, ?_, ?_, ?_, ?_, ?_⟩ <;> rw [ruO, World.cell?_alloc_new] <;> rfl
theorem RBox.keep {w w' : World} {A B : Nat} {r : Ru} (h : RBox w A r) (hA : A < B) (k : Below B w w') : RBox w' A r :=
  ⟨Nat.lt_of_lt_of_le h.lt k.size, (k.cell hA).trans h.c0, (k.cell hA).trans h.c1, (k.cell hA).trans h.c2, (k.cell hA).trans h.c3, (k.cell hA).trans h.c4, (k.cell hA).trans h.c5⟩
end Go.Proofs.YtndaohiecpdmlaaGreat
namespace Go.Proofs.YtndaohiecpdmlaaGreat
set_option maxRecDepth 100000
open Go.RowKit Go.Sort

theorem check_r (r : Ru) (hb : RuB r) (w : World) : Calls Tryz.prog 70 #[.agg #[.int .u32 r.ad, .int .i64 r.bits]] w fun e w' => e = .returned (.bool (rt r.ad r.bits)) ∧ Below w.heap.size w w' := check_ok r.ad r.bits w hb.a0 hb.a1
theorem has_r (r : Ru) (hb : RuB r) (a : Int) (b0 : 0 ≤ a) (b1 : a < 4294967296) (w : World) : Calls Tryz.prog 75 #[.agg #[.int .u32 r.ad, .int .i64 r.bits], .int .u32 a] w fun e w' => e = .returned (.bool (inP r.ad r.bits a)) ∧ Below w.heap.size w w' := has_ok r.ad r.bits a w hb.a0 hb.a1 b0 b1
set_option maxHeartbeats 8000000 in
theorem isR_ok (r : Ru) (hb : RuB r) (w : World) : Calls Tryz.prog 58 #[ruV r] w fun e w' => e = .returned (.bool (ruR r)) ∧ Below w.heap.size w w' := by
  have C : Hid (∀ w, _) := fun w => check_r r hb w
  have X := RBox.new w r
  have lt : ∀ o, w.heap.size < (w.alloc o).heap.size := fun o => by simp
  unfold ruR ruV
  unfold ruO at X
  clear hb
  obtain ⟨al, pro, ad, bits, fr, up⟩ := r
  simp only at *
  obtain ⟨T, hT⟩ : ∃ T, T = rt ad bits := ⟨_, rfl⟩
  rw [← hT] at C ⊢
  clear hT
  obtain ⟨c1, e1⟩ : ∃ c, decide (0 ≤ pro) = c := ⟨_, rfl⟩
  obtain ⟨c2, e2⟩ : ∃ c, decide (pro ≤ 255) = c := ⟨_, rfl⟩
  obtain ⟨c4, e4⟩ : ∃ c, decide (0 ≤ fr) = c := ⟨_, rfl⟩
  obtain ⟨c5, e5⟩ : ∃ c, decide (fr ≤ up) = c := ⟨_, rfl⟩
  obtain ⟨c6, e6⟩ : ∃ c, decide (up ≤ 65535) = c := ⟨_, rfl⟩
  rw [e1, e2, e4, e5, e6]
  cases c1
  · go_enter Tryz.func58, Tryz.ntmps58
    obtain ⟨l1, k0, k1, k2, k3, k4, k5⟩ := X
    go_wp2
    go_ret
    exact ⟨rfl, (Below.refl _ _).alloc (Nat.le_refl _) _⟩
  · cases c2
    · go_enter Tryz.func58, Tryz.ntmps58
      obtain ⟨l1, k0, k1, k2, k3, k4, k5⟩ := X
      go_wp2
      go_ret
      exact ⟨rfl, (Below.refl _ _).alloc (Nat.le_refl _) _⟩
    · cases T
      · go_enter Tryz.func58, Tryz.ntmps58
        go_wp2_with (go_at_call 70; refine (C.out _).mono ?_; rintro e w1 ⟨rfl, b1⟩; obtain ⟨l1, k0, k1, k2, k3, k4, k5⟩ := X.keep (lt _) b1)
        go_ret
        exact ⟨rfl, ((Below.refl _ _).alloc (Nat.le_refl _) _).trans (b1.mono (by simp))⟩
      · cases c4
        · go_enter Tryz.func58, Tryz.ntmps58
          go_wp2_with (go_at_call 70; refine (C.out _).mono ?_; rintro e w1 ⟨rfl, b1⟩; obtain ⟨l1, k0, k1, k2, k3, k4, k5⟩ := X.keep (lt _) b1)
          go_ret
          exact ⟨rfl, ((Below.refl _ _).alloc (Nat.le_refl _) _).trans (b1.mono (by simp))⟩
        · cases c5
          · go_enter Tryz.func58, Tryz.ntmps58
            go_wp2_with (go_at_call 70; refine (C.out _).mono ?_; rintro e w1 ⟨rfl, b1⟩; obtain ⟨l1, k0, k1, k2, k3, k4, k5⟩ := X.keep (lt _) b1)
            go_ret
            exact ⟨rfl, ((Below.refl _ _).alloc (Nat.le_refl _) _).trans (b1.mono (by simp))⟩
          · cases c6
            · go_enter Tryz.func58, Tryz.ntmps58
              go_wp2_with (go_at_call 70; refine (C.out _).mono ?_; rintro e w1 ⟨rfl, b1⟩; obtain ⟨l1, k0, k1, k2, k3, k4, k5⟩ := X.keep (lt _) b1)
              go_ret
              exact ⟨rfl, ((Below.refl _ _).alloc (Nat.le_refl _) _).trans (b1.mono (by simp))⟩
            · go_enter Tryz.func58, Tryz.ntmps58
              go_wp2_with (go_at_call 70; refine (C.out _).mono ?_; rintro e w1 ⟨rfl, b1⟩; obtain ⟨l1, k0, k1, k2, k3, k4, k5⟩ := X.keep (lt _) b1)
              go_ret
              exact ⟨rfl, ((Below.refl _ _).alloc (Nat.le_refl _) _).trans (b1.mono (by simp))⟩
set_option maxHeartbeats 8000000 in
theorem con_ok (r : Ru) (hb : RuB r) (p a : Int) (b0 : 0 ≤ a) (b1 : a < 4294967296) (w : World) : Calls Tryz.prog 65 #[ruV r, .int .i64 p, .int .u32 a] w fun e w' => e = .returned (.bool (con r p a)) ∧ Below w.heap.size w w' := by
  have C : Hid (∀ w, _) := fun w => has_r r hb a b0 b1 w
  have X := RBox.new w r
  have lt : ∀ o, w.heap.size < (w.alloc o).heap.size := fun o => by simp
  unfold con ruV
  unfold ruO at X
  clear hb b0 b1
  obtain ⟨al, pro, ad, bits, fr, up⟩ := r
  simp only at *
  obtain ⟨T, hT⟩ : ∃ T, T = inP ad bits a := ⟨_, rfl⟩
  rw [← hT] at C ⊢
  clear hT
  obtain ⟨c1, e1⟩ : ∃ c, (pro == 0) = c := ⟨_, rfl⟩
  obtain ⟨c2, e2⟩ : ∃ c, (pro == p) = c := ⟨_, rfl⟩
  rw [e1, e2]
  cases c1
  · cases c2
    · go_enter Tryz.func65, Tryz.ntmps65
      obtain ⟨l1, k0, k1, k2, k3, k4, k5⟩ := X
      go_wp2
      go_ret
      exact ⟨rfl, (Below.refl _ _).alloc (Nat.le_refl _) _⟩
    · go_enter Tryz.func65, Tryz.ntmps65
      obtain ⟨l1, k0, k1, k2, k3, k4, k5⟩ := X
      go_wp2_with (go_at_call 75; refine (C.out _).mono ?_; rintro e w1 ⟨rfl, b1⟩)
      go_ret
      exact ⟨rfl, ((Below.refl _ _).alloc (Nat.le_refl _) _).trans (b1.mono (by simp))⟩
  · go_enter Tryz.func65, Tryz.ntmps65
    obtain ⟨l1, k0, k1, k2, k3, k4, k5⟩ := X
    go_wp2_with (go_at_call 75; refine (C.out _).mono ?_; rintro e w1 ⟨rfl, b1⟩)
    go_ret
    exact ⟨rfl, ((Below.refl _ _).alloc (Nat.le_refl _) _).trans (b1.mono (by simp))⟩
end Go.Proofs.YtndaohiecpdmlaaGreat
namespace Go.Proofs.YtndaohiecpdmlaaGreat
set_option maxRecDepth 100000
open Go.RowKit Go.Sort

theorem box_below (w : World) (o : Obj) : Below w.heap.size w (w.alloc o) := (Below.refl _ _).alloc (Nat.le_refl _) _
set_option maxHeartbeats 8000000 in
theorem says_ok (l : List Ru) (v : Value) (p a q : Int) (b0 : 0 ≤ a) (b1 : a < 4294967296) (w : World) (h : RusAt w v l) (HB : ∀ r ∈ l, RuB r) (hl : l.length ≤ 9223372036854775807) :
    Calls Tryz.prog 48 #[v, .int .i64 p, .int .u32 a, .int .i64 q] w fun e w' => e = .returned (.bool (sayL l p a q)) ∧ Below w.heap.size w w' := by
  have H := Lib.hid h
  obtain ⟨ad', c', rfl, -, -⟩ := h
  replace HB := Lib.hid HB
  obtain ⟨n, hn⟩ : ∃ n, n = l.length := ⟨_, rfl⟩
  obtain ⟨E, hE⟩ : ∃ E, E = sayL l p a q := ⟨_, rfl⟩
  rw [← hE]
  rw [← hn] at H hl ⊢
  replace hn := Lib.hid hn
  have hE0 : Hid (sayL (l.drop 0) p a q = E) := hE.symm
  clear hE
  go_enter Tryz.func48, Tryz.ntmps48
  go_wp2_with fail
  go_loopg [13] n (fun g' iv wr => ∃ k : Nat, k + g' = n ∧ iv = .int .i64 k ∧ Hid (sayL (l.drop k) p a q = E) ∧ Hid (Below w.heap.size w wr))
  case atStart => exact ⟨0, by omega, rfl, hE0, Below.refl _ _⟩
  case round =>
    obtain ⟨k, hk, rfl, hS, b⟩ := hrel
    by_cases hlt : k < n
    · have g1 : decide ((k : Int) < (n : Int)) = true := decide_eq_true (by omega)
      have g1' : decide (k < n) = true := decide_eq_true hlt
      have hS1 : Hid (E = _) := hS.out.symm.trans (sayL_drop l p a q k (by rw [← hn.out]; exact hlt))
      clear hS
      obtain ⟨g, o, cap, e0, hg, m0, m1, m2, m3, m4, m5⟩ := (H.out.keep b.out).at (k := k) (by rw [← hn.out]; exact hlt) rfl
      injection e0 with e1 e2 e3
      subst e1 e3
      clear e2
      have ia := fun w' => at_rus g o n c' k w' hlt (k : Int) rfl (o + 6 * k) rfl
      have hbr := HB.out (l.getD k ru0) (by rw [List.getD_eq_getElem?_getD, List.getElem?_eq_getElem (by rw [← hn.out]; exact hlt)]; exact List.getElem_mem _)
      obtain ⟨r, hr⟩ : ∃ r, r = l.getD k ru0 := ⟨_, rfl⟩
      rw [← hr] at m0 m1 m2 m3 m4 m5 hbr hS1
      clear hr
      have C := Lib.hid (con_ok r hbr p a b0 b1 (wr.alloc (ruO r)))
      clear hbr
      unfold fit at hS1
      have bx := box_below wr (ruO r)
      have X := RBox.new wr r
      have lt : wr.heap.size < (wr.alloc (ruO r)).heap.size := by simp
      obtain ⟨al, pro, ad, bits, fr, up⟩ := r
      unfold ruV at C
      unfold ruO at X bx lt
      simp only at *
      have B0 := Lib.hid (b.out.trans (bx.mono b.out.size))
      clear bx b
      obtain ⟨T, hT⟩ : ∃ T, con ⟨al, pro, ad, bits, fr, up⟩ p a = T := ⟨_, rfl⟩
      obtain ⟨c1, e1⟩ : ∃ c, decide (fr ≤ q) = c := ⟨_, rfl⟩
      obtain ⟨c2, e2⟩ : ∃ c, decide (q ≤ up) = c := ⟨_, rfl⟩
      rw [hT] at C
      rw [hT, e1, e2] at hS1
      clear hT
      go_wp2_with fail
      refine C.out.mono ?_
      rintro e w1 ⟨rfl, b2⟩
      have B1 := Lib.hid (B0.out.trans (b2.mono B0.out.size))
      obtain ⟨l1, k0, k1, k2, k3, k4, k5⟩ := X.keep lt b2
      clear X b2 B0 C lt m0 m1 m2 m3 m4 m5
      cases T
      · go_wp2_with fail
        go_roundg (n - (k + 1))
        case measure => omega
        case rel => exact ⟨k + 1, by omega, by go_num, hS1.out.symm, B1⟩
      · cases c1
        · go_wp2_with fail
          go_roundg (n - (k + 1))
          case measure => omega
          case rel => exact ⟨k + 1, by omega, by go_num, hS1.out.symm, B1⟩
        · cases c2
          · go_wp2_with fail
            go_roundg (n - (k + 1))
            case measure => omega
            case rel => exact ⟨k + 1, by omega, by go_num, hS1.out.symm, B1⟩
          · go_wp2_with fail
            go_ret
            exact ⟨by rw [hS1.out]; rfl, B1.out⟩
    · obtain rfl : k = n := by omega
      have g1 : decide ((k : Int) < (k : Int)) = false := decide_eq_false (by omega)
      have g1' : decide (k < k) = false := decide_eq_false hlt
      have hS1 : Hid (E = false) := by
        have := hS.out
        rw [hn.out, sayL_end] at this
        exact this.symm
      clear hS
      go_wp2_with fail
      go_ret
      exact ⟨by rw [hS1.out]; rfl, b.out⟩
def ckL : List Ru → Int
  | [] => 0
  | r :: l => if ruR r then ckL l else 2
theorem ckL_all : ∀ l : List Ru, ckL l = if l.all ruR then 0 else 2
  | [] => rfl
  | r :: l => by
    rw [ckL, List.all_cons, ckL_all l]
    cases ruR r <;> simp
theorem ruK_ck {l : List Ru} (h : ¬ 32 < l.length) : ruK l = ckL l := by unfold ruK; rw [if_neg h, ckL_all]
theorem ckL_drop (l : List Ru) (k : Nat) (hk : k < l.length) : ckL (l.drop k) = if ruR (l.getD k ru0) then ckL (l.drop (k + 1)) else 2 := by
  rw [List.drop_eq_getElem_cons hk, ckL, List.getD_eq_getElem?_getD, List.getElem?_eq_getElem hk]
  rfl
theorem ckL_end (l : List Ru) : ckL (l.drop l.length) = 0 := by rw [List.drop_length]; rfl
set_option maxHeartbeats 16000000 in
theorem pchk18_ok (l : List Ru) (v : Value) (w : World) (h : RusAt w v l) (HB : ∀ r ∈ l, RuB r) (hl : l.length ≤ 9223372036854775807) :
    Calls Tryz.prog 44 #[v] w fun e w' => e = .returned (.int .i64 (ruK l)) ∧ Below w.heap.size w w' := by
  have H := Lib.hid h
  obtain ⟨ad', c', rfl, -, -⟩ := h
  replace HB := Lib.hid HB
  obtain ⟨n, hn⟩ : ∃ n, n = l.length := ⟨_, rfl⟩
  by_cases q : 32 < l.length
  · have e : ruK l = 8 := by unfold ruK; rw [if_pos q]
    rw [e]
    rw [← hn] at q hl ⊢
    have z : decide ((32 : Int) < (n : Int)) = true := decide_eq_true (by omega)
    have z' : decide (32 < n) = true := decide_eq_true q
    clear H hn e HB
    go_enter Tryz.func44, Tryz.ntmps44
    go_wp2_with fail
    go_ret
    exact ⟨rfl, Below.refl _ _⟩
  obtain ⟨E, hE⟩ : ∃ E, E = ruK l := ⟨_, rfl⟩
  rw [← hE]
  have hE0 : Hid (ckL (l.drop 0) = E) := (ruK_ck q).symm.trans hE.symm
  clear hE
  rw [← hn] at H hl q ⊢
  replace hn := Lib.hid hn
  have z : decide ((32 : Int) < (n : Int)) = false := decide_eq_false (by omega)
  have z' : decide (32 < n) = false := decide_eq_false q
  go_enter Tryz.func44, Tryz.ntmps44
  go_wp2_with fail
  go_loopg [10] n (fun g' iv wr => ∃ k : Nat, k + g' = n ∧ iv = .int .i64 k ∧ Hid (ckL (l.drop k) = E) ∧ Hid (Below w.heap.size w wr))
  case atStart => exact ⟨0, by omega, rfl, hE0, Below.refl _ _⟩
  case round =>
    obtain ⟨k, hk, rfl, hS, b⟩ := hrel
    by_cases hlt : k < n
    · have g1 : decide ((k : Int) < (n : Int)) = true := decide_eq_true (by omega)
      have g1' : decide (k < n) = true := decide_eq_true hlt
      have hS1 : Hid (E = _) := hS.out.symm.trans (ckL_drop l k (by rw [← hn.out]; exact hlt))
      clear hS
      obtain ⟨g, o, cap, e0, hg, m0, m1, m2, m3, m4, m5⟩ := (H.out.keep b.out).at (k := k) (by rw [← hn.out]; exact hlt) rfl
      injection e0 with e1 e2 e3
      subst e1 e3
      clear e2
      have ia := fun w' => at_rus g o n c' k w' hlt (k : Int) rfl (o + 6 * k) rfl
      have hbr := HB.out (l.getD k ru0) (by rw [List.getD_eq_getElem?_getD, List.getElem?_eq_getElem (by rw [← hn.out]; exact hlt)]; exact List.getElem_mem _)
      obtain ⟨r, hr⟩ : ∃ r, r = l.getD k ru0 := ⟨_, rfl⟩
      rw [← hr] at m0 m1 m2 m3 m4 m5 hbr hS1
      clear hr
      have C := Lib.hid (isR_ok r hbr (wr.alloc (ruO r)))
      clear hbr
      have bx := box_below wr (ruO r)
      have X := RBox.new wr r
      have lt : wr.heap.size < (wr.alloc (ruO r)).heap.size := by simp
      obtain ⟨al, pro, ad, bits, fr, up⟩ := r
      unfold ruV at C
      unfold ruO at X bx lt
      simp only at *
      have B0 := Lib.hid (b.out.trans (bx.mono b.out.size))
      clear bx b
      obtain ⟨T, hT⟩ : ∃ T, ruR ⟨al, pro, ad, bits, fr, up⟩ = T := ⟨_, rfl⟩
      rw [hT] at C hS1
      clear hT X lt
      go_wp2_with fail
      refine C.out.mono ?_
      rintro e w1 ⟨rfl, b2⟩
      have B1 := Lib.hid (B0.out.trans (b2.mono B0.out.size))
      clear b2 B0 C m0 m1 m2 m3 m4 m5
      cases T
      · go_wp2_with fail
        go_ret
        exact ⟨by rw [hS1.out]; rfl, B1.out⟩
      · go_wp2_with fail
        go_roundg (n - (k + 1))
        case measure => omega
        case rel => exact ⟨k + 1, by omega, by go_num, hS1.out.symm, B1⟩
    · obtain rfl : k = n := by omega
      have g1 : decide ((k : Int) < (k : Int)) = false := decide_eq_false (by omega)
      have g1' : decide (k < k) = false := decide_eq_false hlt
      have hS1 : Hid (E = 0) := by
        have := hS.out
        rw [hn.out, ckL_end] at this
        exact this.symm
      clear hS
      go_wp2_with fail
      go_ret
      exact ⟨by rw [hS1.out]; rfl, b.out⟩
set_option maxHeartbeats 4000000 in
theorem allow_ok (l : List Ru) (v : Value) (p a q : Int) (b0 : 0 ≤ a) (b1 : a < 4294967296) (w : World) (h : RusAt w v l) (HB : ∀ r ∈ l, RuB r) (hl : l.length ≤ 9223372036854775807) :
    Calls Tryz.prog 30 #[v, .int .i64 p, .int .u32 a, .int .i64 q] w fun e w' => e = .returned (.bool (alw l p a q)) ∧ Below w.heap.size w w' := by
  have C := Lib.hid (pchk18_ok l v w h HB hl)
  have S : Hid (∀ w', Below w.heap.size w w' → _) := fun w' b => says_ok l v p a q b0 b1 w' (h.keep b) HB hl
  unfold alw
  obtain ⟨ad', c', rfl, -, -⟩ := h
  generalize l.length = n at *
  obtain ⟨K, hK⟩ : ∃ K, K = ruK l := ⟨_, rfl⟩
  obtain ⟨Y, hY⟩ : ∃ Y, Y = sayL l p a q := ⟨_, rfl⟩
  rw [← hK] at C ⊢
  rw [← hY] at S ⊢
  clear hK hY
  by_cases k : K = 0
  · have z : (K == 0) = true := by simp [k]
    rw [z, Bool.true_and]
    go_enter Tryz.func30, Tryz.ntmps30
    go_wp2_with (first | (go_at_call 44; refine C.out.mono ?_; rintro e w1 ⟨rfl, b1⟩; have S1 := Lib.hid (S.out w1 b1)) | (go_at_call 48; refine S1.out.mono ?_; rintro e w2 ⟨rfl, b2⟩))
    go_ret
    exact ⟨rfl, b1.trans (b2.mono b1.size)⟩
  · have z : (K == 0) = false := by simp [k]
    rw [z, Bool.false_and]
    go_enter Tryz.func30, Tryz.ntmps30
    go_wp2_with (go_at_call 44; refine C.out.mono ?_; rintro e w1 ⟨rfl, b1⟩)
    go_ret
    exact ⟨rfl, b1⟩
end Go.Proofs.YtndaohiecpdmlaaGreat
namespace Go.Proofs.YtndaohiecpdmlaaGreat
set_option maxRecDepth 100000
open Go.RowKit Go.Sort

theorem port_ok (n : Int) (w : World) : Calls Tryz.prog 42 #[.int .i64 n] w fun e w' => e = .returned (.bool (decide (0 ≤ n) && decide (n ≤ 65535))) ∧ w' = w := by
  obtain ⟨c1, e1⟩ : ∃ c, decide (0 ≤ n) = c := ⟨_, rfl⟩
  obtain ⟨c2, e2⟩ : ∃ c, decide (n ≤ 65535) = c := ⟨_, rfl⟩
  rw [e1, e2]
  cases c1
  all_goals
    go_enter Tryz.func42, Tryz.ntmps42
    go_wp2
    go_ret
    exact ⟨rfl, rfl⟩
theorem rcheck_r (r : Ru) (hb : RuB r) (w : World) : Calls Tryz.prog 41 #[.agg #[.int .u32 r.ad, .int .i64 r.bits]] w fun e w' => e = .returned (.bool (rt r.ad r.bits)) ∧ Below w.heap.size w w' := rcheck_ok r.ad r.bits w hb.a0 hb.a1
theorem ruR_ref (r : Ru) : ruR r = !(decide (r.pro < 0) || decide (255 < r.pro) || !rt r.ad r.bits || !(decide (0 ≤ r.fr) && decide (r.fr ≤ 65535)) || !(decide (0 ≤ r.up) && decide (r.up ≤ 65535)) || decide (r.up < r.fr)) := by
  unfold ruR
  generalize rt r.ad r.bits = t
  cases t
  · simp
  · rw [Bool.eq_iff_iff]
    simp
    omega
set_option maxHeartbeats 16000000 in
theorem rchk18_ok (l : List Ru) (v : Value) (w : World) (h : RusAt w v l) (HB : ∀ r ∈ l, RuB r) (hl : l.length ≤ 9223372036854775807) :
    Calls Tryz.prog 26 #[v] w fun e w' => e = .returned (.int .i64 (ruK l)) ∧ Below w.heap.size w w' := by
  have H := Lib.hid h
  obtain ⟨ad', c', rfl, -, -⟩ := h
  replace HB := Lib.hid HB
  obtain ⟨n, hn⟩ : ∃ n, n = l.length := ⟨_, rfl⟩
  by_cases q : 32 < l.length
  · have e : ruK l = 8 := by unfold ruK; rw [if_pos q]
    rw [e]
    rw [← hn] at q hl ⊢
    have z : decide ((32 : Int) < (n : Int)) = true := decide_eq_true (by omega)
    have z' : decide (32 < n) = true := decide_eq_true q
    clear H hn e HB
    go_enter Tryz.func26, Tryz.ntmps26
    go_wp2_with fail
    go_ret
    exact ⟨rfl, Below.refl _ _⟩
  obtain ⟨E, hE⟩ : ∃ E, E = ruK l := ⟨_, rfl⟩
  rw [← hE]
  have hE0 : Hid (ckL (l.drop 0) = E) := (ruK_ck q).symm.trans hE.symm
  clear hE
  rw [← hn] at H hl q ⊢
  replace hn := Lib.hid hn
  have z : decide ((32 : Int) < (n : Int)) = false := decide_eq_false (by omega)
  have z' : decide (32 < n) = false := decide_eq_false q
  go_enter Tryz.func26, Tryz.ntmps26
  go_wp2_with fail
  go_loopg [3] n (fun g' iv wr => ∃ k : Nat, k + g' = n ∧ iv = .int .i64 k ∧ Hid (ckL (l.drop k) = E) ∧ Hid (Below w.heap.size w wr))
  case atStart => exact ⟨0, by omega, rfl, hE0, Below.refl _ _⟩
  case round =>
    obtain ⟨k, hk, rfl, hS, b⟩ := hrel
    by_cases hlt : k < n
    · have g1 : decide ((k : Int) < (n : Int)) = true := decide_eq_true (by omega)
      have g1' : decide (k < n) = true := decide_eq_true hlt
      have hS1 : Hid (E = _) := hS.out.symm.trans (ckL_drop l k (by rw [← hn.out]; exact hlt))
      clear hS
      obtain ⟨g, o, cap, e0, hg, m0, m1, m2, m3, m4, m5⟩ := (H.out.keep b.out).at (k := k) (by rw [← hn.out]; exact hlt) rfl
      injection e0 with e1 e2 e3
      subst e1 e3
      clear e2
      have ia := fun w' => at_rus g o n c' k w' hlt (k : Int) rfl (o + 6 * k) rfl
      have hbr := HB.out (l.getD k ru0) (by rw [List.getD_eq_getElem?_getD, List.getElem?_eq_getElem (by rw [← hn.out]; exact hlt)]; exact List.getElem_mem _)
      obtain ⟨r, hr⟩ : ∃ r, r = l.getD k ru0 := ⟨_, rfl⟩
      rw [← hr] at m0 m1 m2 m3 m4 m5 hbr hS1
      clear hr
      have C := Lib.hid (rcheck_r r hbr)
      have P1 := Lib.hid (port_ok r.fr)
      have P2 := Lib.hid (port_ok r.up)
      clear hbr
      rw [ruR_ref] at hS1
      have bx := box_below wr (ruO r)
      have X := RBox.new wr r
      have lt : ∀ o, wr.heap.size < (wr.alloc o).heap.size := fun o => by simp
      obtain ⟨al, pro, ad, bits, fr, up⟩ := r
      unfold ruO at X bx
      simp only at *
      have B0 := Lib.hid (b.out.trans (bx.mono b.out.size))
      clear bx b
      generalize rt ad bits = T at *
      obtain ⟨c1, e1⟩ : ∃ c, decide (pro < 0) = c := ⟨_, rfl⟩
      obtain ⟨c2, e2⟩ : ∃ c, decide (255 < pro) = c := ⟨_, rfl⟩
      obtain ⟨c4, e4⟩ : ∃ c, (decide (0 ≤ fr) && decide (fr ≤ 65535)) = c := ⟨_, rfl⟩
      obtain ⟨c5, e5⟩ : ∃ c, (decide (0 ≤ up) && decide (up ≤ 65535)) = c := ⟨_, rfl⟩
      obtain ⟨c6, e6⟩ : ∃ c, decide (up < fr) = c := ⟨_, rfl⟩
      rw [e4] at P1
      rw [e5] at P2
      rw [e1, e2, e4, e5, e6] at hS1
      replace e4 := Lib.hid e4
      replace e5 := Lib.hid e5
      cases c1
      · cases c2
        · go_wp2_with fail
          refine (C.out _).mono ?_
          rintro e w1 ⟨rfl, b2⟩
          have B1 := Lib.hid (B0.out.trans (b2.mono B0.out.size))
          obtain ⟨l1, k0, k1, k2, k3, k4, k5⟩ := X.keep (lt _) b2
          clear X b2 B0 C lt m0 m1 m2 m3 m4 m5
          cases T
          · go_wp2_with fail
            go_ret
            exact ⟨by rw [hS1.out]; rfl, B1.out⟩
          · go_wp2_with fail
            refine (P1.out _).mono ?_
            rintro e w2 ⟨rfl, rfl⟩
            clear P1
            cases c4
            · go_wp2_with fail
              go_ret
              exact ⟨by rw [hS1.out]; rfl, B1.out⟩
            · go_wp2_with fail
              refine (P2.out _).mono ?_
              rintro e w2 ⟨rfl, rfl⟩
              clear P2
              cases c5
              · go_wp2_with fail
                go_ret
                exact ⟨by rw [hS1.out]; rfl, B1.out⟩
              · cases c6
                · go_wp2_with fail
                  go_roundg (n - (k + 1))
                  case measure => omega
                  case rel => exact ⟨k + 1, by omega, by go_num, hS1.out.symm, B1⟩
                · go_wp2_with fail
                  go_ret
                  exact ⟨by rw [hS1.out]; rfl, B1.out⟩
        · obtain ⟨l1, k0, k1, k2, k3, k4, k5⟩ := X
          go_wp2_with fail
          go_ret
          exact ⟨by rw [hS1.out]; rfl, B0.out⟩
      · obtain ⟨l1, k0, k1, k2, k3, k4, k5⟩ := X
        go_wp2_with fail
        go_ret
        exact ⟨by rw [hS1.out]; rfl, B0.out⟩
    · obtain rfl : k = n := by omega
      have g1 : decide ((k : Int) < (k : Int)) = false := decide_eq_false (by omega)
      have g1' : decide (k < k) = false := decide_eq_false hlt
      have hS1 : Hid (E = 0) := by
        have := hS.out
        rw [hn.out, ckL_end] at this
        exact this.symm
      clear hS
      go_wp2_with fail
      go_ret
      exact ⟨by rw [hS1.out]; rfl, b.out⟩
end Go.Proofs.YtndaohiecpdmlaaGreat
namespace Go.Proofs.YtndaohiecpdmlaaGreat
set_option maxRecDepth 100000
open Go.RowKit Go.Sort

set_option maxHeartbeats 16000000 in
theorem rhas_r (r : Ru) (hb : RuB r) (a : Int) (b0 : 0 ≤ a) (b1 : a < 4294967296) (w : World) : Calls Tryz.prog 27 #[.agg #[.int .u32 r.ad, .int .i64 r.bits], .int .u32 a] w fun e w' => e = .returned (.bool (inP r.ad r.bits a)) ∧ Below w.heap.size w w' := rhas_ok r.ad r.bits a w hb.a0 hb.a1 b0 b1
set_option maxHeartbeats 16000000 in
theorem rallow_ok (l : List Ru) (v : Value) (p a q : Int) (b0 : 0 ≤ a) (b1 : a < 4294967296) (w : World) (h : RusAt w v l) (HB : ∀ r ∈ l, RuB r) (hl : l.length ≤ 9223372036854775807) :
    Calls Tryz.prog 14 #[v, .int .i64 p, .int .u32 a, .int .i64 q] w fun e w' => e = .returned (.bool (alw l p a q)) ∧ Below w.heap.size w w' := by
  have H := Lib.hid h
  have CK := Lib.hid (rchk18_ok l v w h HB hl)
  obtain ⟨ad', c', rfl, -, -⟩ := h
  replace HB := Lib.hid HB
  obtain ⟨n, hn⟩ : ∃ n, n = l.length := ⟨_, rfl⟩
  obtain ⟨E, hE⟩ : ∃ E, E = sayL l p a q := ⟨_, rfl⟩
  unfold alw
  rw [← hE]
  obtain ⟨K, hK⟩ : ∃ K, K = ruK l := ⟨_, rfl⟩
  rw [← hK] at CK ⊢
  clear hK
  rw [← hn] at H CK hl ⊢
  replace hn := Lib.hid hn
  have hE0 : Hid (sayL (l.drop 0) p a q = E) := hE.symm
  clear hE
  by_cases hk0 : K = 0
  · have z : (K == 0) = true := by simp [hk0]
    have z2 : (K != 0) = false := by simp [hk0]
    rw [z, Bool.true_and]
    clear hk0
    go_enter Tryz.func14, Tryz.ntmps14
    go_wp2_with (go_at_call 26; refine CK.out.mono ?_; rintro e w0 ⟨rfl, b00⟩; have BB := Lib.hid b00; clear b00)
    go_loopg [9] n (fun g' iv wr => ∃ k : Nat, k + g' = n ∧ iv = .int .i64 k ∧ Hid (sayL (l.drop k) p a q = E) ∧ Hid (Below w.heap.size w wr))
    case atStart => exact ⟨0, by omega, rfl, hE0, BB.out⟩
    case round =>
      obtain ⟨k, hk, rfl, hS, b⟩ := hrel
      by_cases hlt : k < n
      · have g1 : decide ((k : Int) < (n : Int)) = true := decide_eq_true (by omega)
        have g1' : decide (k < n) = true := decide_eq_true hlt
        have hS1 : Hid (E = _) := hS.out.symm.trans (sayL_drop l p a q k (by rw [← hn.out]; exact hlt))
        clear hS
        obtain ⟨g, o, cap, e0, hg, m0, m1, m2, m3, m4, m5⟩ := (H.out.keep b.out).at (k := k) (by rw [← hn.out]; exact hlt) rfl
        injection e0 with e1 e2 e3
        subst e1 e3
        clear e2
        have ia := fun w' => at_rus g o n c' k w' hlt (k : Int) rfl (o + 6 * k) rfl
        have hbr := HB.out (l.getD k ru0) (by rw [List.getD_eq_getElem?_getD, List.getElem?_eq_getElem (by rw [← hn.out]; exact hlt)]; exact List.getElem_mem _)
        obtain ⟨r, hr⟩ : ∃ r, r = l.getD k ru0 := ⟨_, rfl⟩
        rw [← hr] at m0 m1 m2 m3 m4 m5 hbr hS1
        clear hr
        have C := Lib.hid (rhas_r r hbr a b0 b1)
        clear hbr
        unfold fit con at hS1
        have bx := box_below wr (ruO r)
        have X := RBox.new wr r
        have lt : ∀ o, wr.heap.size < (wr.alloc o).heap.size := fun o => by simp
        obtain ⟨al, pro, ad, bits, fr, up⟩ := r
        unfold ruO at X bx
        simp only at *
        have B0 := Lib.hid (b.out.trans (bx.mono b.out.size))
        clear bx b
        generalize inP ad bits a = T at *
        obtain ⟨c1, e1⟩ : ∃ c, (pro == 0) = c := ⟨_, rfl⟩
        obtain ⟨c2, e2⟩ : ∃ c, (pro == p) = c := ⟨_, rfl⟩
        obtain ⟨c4, e4⟩ : ∃ c, decide (fr ≤ q) = c := ⟨_, rfl⟩
        obtain ⟨c5, e5⟩ : ∃ c, decide (q ≤ up) = c := ⟨_, rfl⟩
        rw [e1, e2, e4, e5] at hS1
        cases c1
        · cases c2
          · obtain ⟨l1, k0, k1, k2, k3, k4, k5⟩ := X
            go_wp2_with fail
            go_roundg (n - (k + 1))
            case measure => omega
            case rel => exact ⟨k + 1, by omega, by go_num, hS1.out.symm, B0⟩
          · go_wp2_with fail
            refine (C.out _).mono ?_
            rintro e w1 ⟨rfl, b2⟩
            have B1 := Lib.hid (B0.out.trans (b2.mono B0.out.size))
            obtain ⟨l1, k0, k1, k2, k3, k4, k5⟩ := X.keep (lt _) b2
            clear X b2 B0 C lt m0 m1 m2 m3 m4 m5
            cases T
            · go_wp2_with fail
              go_roundg (n - (k + 1))
              case measure => omega
              case rel => exact ⟨k + 1, by omega, by go_num, hS1.out.symm, B1⟩
            · cases c4
              · go_wp2_with fail
                go_roundg (n - (k + 1))
                case measure => omega
                case rel => exact ⟨k + 1, by omega, by go_num, hS1.out.symm, B1⟩
              · cases c5
                · go_wp2_with fail
                  go_roundg (n - (k + 1))
                  case measure => omega
                  case rel => exact ⟨k + 1, by omega, by go_num, hS1.out.symm, B1⟩
                · go_wp2_with fail
                  go_ret
                  exact ⟨by rw [hS1.out]; rfl, B1.out⟩
        · go_wp2_with fail
          refine (C.out _).mono ?_
          rintro e w1 ⟨rfl, b2⟩
          have B1 := Lib.hid (B0.out.trans (b2.mono B0.out.size))
          obtain ⟨l1, k0, k1, k2, k3, k4, k5⟩ := X.keep (lt _) b2
          clear X b2 B0 C lt m0 m1 m2 m3 m4 m5
          cases T
          · go_wp2_with fail
            go_roundg (n - (k + 1))
            case measure => omega
            case rel => exact ⟨k + 1, by omega, by go_num, hS1.out.symm, B1⟩
          · cases c4
            · go_wp2_with fail
              go_roundg (n - (k + 1))
              case measure => omega
              case rel => exact ⟨k + 1, by omega, by go_num, hS1.out.symm, B1⟩
            · cases c5
              · go_wp2_with fail
                go_roundg (n - (k + 1))
                case measure => omega
                case rel => exact ⟨k + 1, by omega, by go_num, hS1.out.symm, B1⟩
              · go_wp2_with fail
                go_ret
                exact ⟨by rw [hS1.out]; rfl, B1.out⟩
      · obtain rfl : k = n := by omega
        have g1 : decide ((k : Int) < (k : Int)) = false := decide_eq_false (by omega)
        have g1' : decide (k < k) = false := decide_eq_false hlt
        have hS1 : Hid (E = false) := by
          have := hS.out
          rw [hn.out, sayL_end] at this
          exact this.symm
        clear hS
        go_wp2_with fail
        go_ret
        exact ⟨by rw [hS1.out]; rfl, b.out⟩
  · have z : (K == 0) = false := by simp [hk0]
    have z2 : (K != 0) = true := by simp [hk0]
    rw [z, Bool.false_and]
    clear hk0
    go_enter Tryz.func14, Tryz.ntmps14
    go_wp2_with (go_at_call 26; refine CK.out.mono ?_; rintro e w0 ⟨rfl, b00⟩)
    go_ret
    exact ⟨rfl, b00⟩
end Go.Proofs.YtndaohiecpdmlaaGreat
