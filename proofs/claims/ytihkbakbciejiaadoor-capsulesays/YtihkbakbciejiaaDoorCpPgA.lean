/-
  What the program's own takeNumber and takeCapsule answer. Texts below 2^62 bytes; the table of sizes lies as the row's list gives it.
-/
import Derived.Test.YtihkbakbciejiaaDoorCpRef
import Derived.Test.YtihkbakbciejiaaDoorTxPg
import Derived.BigRegion
import Derived.Lib.QuietBelow
import Derived.BigQuiet
import Derived.Deep.DeepCutAuto
import Derived.Deep.LoopGhost
import Derived.RegionTactic
namespace Go.Proofs.YtihkbakbciejiaaDoor
set_option maxRecDepth 100000
open Go.RowKit

theorem pget_none (s : ByteArray) (w : World) (t : VTab w) (hs : s.size ≤ 9223372036854775807) (h : getL (toL s) = none) :
    Calls Tryd.prog 65 #[.string s] w fun e w' => e = .returned (.tuple #[.int .i64 0, .int .i64 0, .int .i64 1]) ∧ w = w' := by
  rcases cut_or_has s with q | ⟨k, q⟩
  · exact get_cut s w t hs q
  · rw [link_has q] at h
    cases h
theorem pget_some (s : ByteArray) (w : World) (t : VTab w) (hs : s.size ≤ 9223372036854775807) {n k : Nat} (h : getL (toL s) = some (n, k)) :
    Calls Tryd.prog 65 #[.string s] w fun e w' => e = .returned (.tuple #[.int .i64 (n : Int), .int .i64 (k : Int), .int .i64 0]) ∧ w = w' := by
  rcases cut_or_has s with q | ⟨j, q⟩
  · rw [link_cut q] at h
    cases h
  · have e := link_has q
    rw [h] at e
    injection e with e
    injection e with e1 e2
    subst e2
    have hq := q
    obtain ⟨_, _, m, hk, _⟩ := hq
    have hb := (gva_bd (byt s) (byt_bd s) hk).1
    have e3 : gva (byt s) k = (n : Int) := by omega
    refine (get_has s w t k hs q).mono ?_
    rw [e3]
    exact fun e w' h => h
/-- A text with its count, taken from the front. -/
theorem ptk_some (s : ByteArray) (w : World) (t : VTab w) (hs : s.size ≤ 9223372036854775807) {z k : Nat} (h : getL (toL s) = some (z, k)) (hz : z ≤ s.size - k) :
    Calls Tryd.prog 66 #[.string s] w fun e w' => e = .returned (.tuple #[.string (s.extract k (k + z)), .int .i64 ((k + z : Nat) : Int), .int .i64 0]) ∧ w = w' := by
  have hl := get_len h
  rcases cut_or_has s with q | ⟨j, q⟩
  · rw [link_cut q] at h
    cases h
  · have e := link_has q
    rw [h] at e
    injection e with e
    injection e with e1 e2
    subst e2
    have hq := q
    obtain ⟨_, _, m, hk, _⟩ := hq
    have hb := (gva_bd (byt s) (byt_bd s) hk).1
    have e3 : gva (byt s) k = (z : Int) := by omega
    refine (take_ok s w t hs k z q e3 (by omega)).mono ?_
    rintro e w' ⟨rfl, rfl⟩
    exact ⟨by simp, rfl⟩
theorem ptk_short (s : ByteArray) (w : World) (t : VTab w) (hs : s.size ≤ 9223372036854775807) {z k : Nat} (h : getL (toL s) = some (z, k)) (hz : s.size - k < z) :
    Calls Tryd.prog 66 #[.string s] w fun e w' => e = .returned (.tuple #[.string ⟨#[]⟩, .int .i64 0, .int .i64 1]) ∧ w = w' := by
  have hl := get_len h
  rcases cut_or_has s with q | ⟨j, q⟩
  · rw [link_cut q] at h
    cases h
  · have e := link_has q
    rw [h] at e
    injection e with e
    injection e with e1 e2
    subst e2
    have hq := q
    obtain ⟨_, _, m, hk, _⟩ := hq
    have hb := (gva_bd (byt s) (byt_bd s) hk).1
    exact take_short s w t hs k q (by omega)
set_option maxHeartbeats 2000000 in
theorem ptn_none (s : ByteArray) (w : World) (t : VTab w) (hs : s.size ≤ 4611686018427387903) (h : getL (toL s) = none) :
    Calls Tryd.prog 55 #[.string s] w fun e w' => e = .returned (.tuple #[.int .i64 0, .string ⟨#[]⟩, .int .i64 1]) ∧ w = w' := by
  have G := Lib.hid (pget_none s w t (by omega) h)
  clear h t
  go_enter Tryd.func55, Tryd.ntmps55
  go_wp2_with fail
  refine G.out.mono ?_
  rintro e w1 ⟨rfl, rfl⟩
  clear G
  go_wp2_with fail
  go_ret3
  exact ⟨rfl, rfl⟩
set_option maxHeartbeats 2000000 in
theorem ptn_some (s : ByteArray) (w : World) (t : VTab w) (hs : s.size ≤ 4611686018427387903) {n k : Nat} (h : getL (toL s) = some (n, k)) :
    Calls Tryd.prog 55 #[.string s] w fun e w' => e = .returned (.tuple #[.int .i64 (n : Int), .string (s.extract k s.size), .int .i64 0]) ∧ Below w.heap.size w w' := by
  have hk := get_len h
  have G := Lib.hid (pget_some s w t (by omega) h)
  clear h t
  go_enter Tryd.func55, Tryd.ntmps55
  go_wp2_with fail
  refine G.out.mono ?_
  rintro e w1 ⟨rfl, rfl⟩
  clear G
  go_wp2_with fail
  go_region
  all_goals
    go_wp2_with fail
    go_ret3
    exact ⟨rfl, drewB _ _⟩
/-- A capsule at the front of bytes. -/
def tkC (s : L) : Except Int (Nat × L × L) := match headL s with
  | none => .error 1
  | some (k, z, n) => if 4096 < z then .error 8 else if s.length - n < z then .error 1 else .ok (k, (s.drop n).take z, s.drop (n + z))
theorem step_ok {s : L} {k : Nat} {d r : L} (h : tkC s = .ok (k, d, r)) : (Cr.mk s false).step = some (⟨r, false⟩, [(k, d)]) := by
  unfold tkC at h
  unfold Cr.step
  simp only
  cases hh : headL s with
  | none => rw [hh] at h; cases h
  | some p =>
    obtain ⟨k', z, n⟩ := p
    rw [hh] at h
    simp only at h ⊢
    split at h
    · cases h
    · split at h
      · cases h
      · rename_i a b
        injection h with h
        injection h with h1 h2
        injection h2 with h2 h3
        rw [if_neg a, if_neg b, h1, h2, h3]
theorem step_short {s : L} (h : tkC s = .error 1) : (Cr.mk s false).step = none := by
  unfold tkC at h
  unfold Cr.step
  simp only
  cases hh : headL s with
  | none => rfl
  | some p =>
    obtain ⟨k', z, n⟩ := p
    rw [hh] at h
    simp only at h ⊢
    split at h
    · injection h with h
      exact absurd h (by decide)
    · split at h
      · rename_i a b
        rw [if_neg a, if_pos b]
      · cases h
theorem step_great {s : L} (h : tkC s = .error 8) : (Cr.mk s false).step = some (⟨s, true⟩, []) := by
  unfold tkC at h
  unfold Cr.step
  simp only
  cases hh : headL s with
  | none =>
    rw [hh] at h
    injection h with h
    exact absurd h (by decide)
  | some p =>
    obtain ⟨k', z, n⟩ := p
    rw [hh] at h
    simp only at h ⊢
    split at h
    · rename_i a
      rw [if_pos a]
    · split at h
      · injection h with h
        exact absurd h (by decide)
      · cases h
/-- What takeCapsule answers. -/
def CkA (s : ByteArray) (e : Ending) : Prop := (∃ (k : Nat) (d r : ByteArray), tkC (toL s) = .ok (k, toL d, toL r) ∧ r.size < s.size ∧ e = .returned (.tuple #[.agg #[.int .i64 (k : Int), .string d], .string r, .int .i64 0])) ∨ (∃ x : Int, tkC (toL s) = .error x ∧ (x = 1 ∨ x = 8) ∧ e = .returned (.tuple #[.agg #[.int .i64 0, .string ⟨#[]⟩], .string ⟨#[]⟩, .int .i64 x]))
/-- A capsule in a box. -/
structure Bc (w wr : World) (K : Nat) (k : Int) (d : ByteArray) : Prop where
  k : Lies wr K [.int .i64 k, .string d]
  g : w.heap.size ≤ K
  bel : Below w.heap.size w wr
section
variable {w wr w' : World} {K : Nat} {a : Int} {b : ByteArray}
theorem Bc.new (w : World) (a : Int) (b : ByteArray) : Bc w (w.alloc (.cells #[.int .i64 a, .string b] 31)) w.heap.size a b := ⟨Lies.new w _ _, Nat.le_refl _, (Below.refl _ _).alloc (Nat.le_refl _) _⟩
theorem Bc.keep (h : Bc w wr K a b) (q : Below wr.heap.size wr w') : Bc w w' K a b := ⟨h.k.keep (by show 0 < 2; decide) q, h.g, h.bel.trans (q.mono h.bel.size)⟩
theorem Bc.put (h : Bc w wr K a b) (x : Int) (y : ByteArray) : Bc w ((wr.setCell ⟨K, 0, none⟩ (.int .i64 x)).setCell ⟨K, 1, none⟩ (.string y)) K x y :=
  ⟨(h.k.put 0 (by show 0 < 2; decide) (.int .i64 x)).put 1 (by show 1 < 2; decide) (.string y), h.g, (h.bel.setCell (p := ⟨K, 0, none⟩) h.g _).setCell (p := ⟨K, 1, none⟩) h.g _⟩
theorem Bc.c0 (h : Bc w wr K a b) : wr.cell? ⟨K, 0, none⟩ = some (.int .i64 a) := h.k.cell 0 rfl
theorem Bc.c1 (h : Bc w wr K a b) : wr.cell? ⟨K, 1, none⟩ = some (.string b) := h.k.cell 1 rfl
theorem Bc.f0 (h : Bc w wr K a b) : wr.frozen? ⟨K, 0, none⟩ = false := h.k.free 0 (by show 0 < 2; decide)
theorem Bc.f1 (h : Bc w wr K a b) : wr.frozen? ⟨K, 1, none⟩ = false := h.k.free 1 (by show 1 < 2; decide)
theorem Bc.drew (h : Bc w wr K a b) : Bc w wr.drew K a b := h.keep (drewB _ _)
end
theorem ext_drop (s : ByteArray) (n : Nat) : s.extract n s.size = strL ((toL s).drop n) := by rw [← toL_extract, strL_toL]
set_option maxHeartbeats 8000000 in
theorem pcap_ok (s : ByteArray) (w : World) (t : VTab w) (hs : s.size ≤ 4611686018427387903) :
    Calls Tryd.prog 58 #[.string s] w fun e w' => CkA s e ∧ Below w.heap.size w w' := by
  have N0 := Bc.new w 0 ⟨#[]⟩
  have t0 := t.below N0.bel
  obtain ⟨w1, hw1⟩ : ∃ w1, w1 = w.alloc (.cells #[.int .i64 0, .string ⟨#[]⟩] 31) := ⟨_, rfl⟩
  rw [← hw1] at N0 t0
  obtain ⟨K, hK⟩ : ∃ K, K = w.heap.size := ⟨_, rfl⟩
  have N1 : Bc w w1 K 0 ⟨#[]⟩ := by rw [hK]; exact N0
  clear N0
  have ERR : Hid (∀ x : Int, tkC (toL s) = .error x → (x = 1 ∨ x = 8) → CkA s (.returned (.tuple #[.agg #[.int .i64 0, .string ⟨#[]⟩], .string ⟨#[]⟩, .int .i64 x]))) := fun x h1 h2 => .inr ⟨x, h1, h2, rfl⟩
  have TK : Hid (tkC (toL s) = match getL (toL s) with
    | none => .error 1
    | some (k, n) => match getL ((toL s).drop n) with
      | none => .error 1
      | some (z, m) => if 4096 < z then .error 8 else if (toL s).length - (n + m) < z then .error 1 else .ok (k, ((toL s).drop (n + m)).take z, (toL s).drop (n + m + z))) := by
    unfold Hid tkC headL
    cases getL (toL s) with
    | none => rfl
    | some p =>
      obtain ⟨k, n⟩ := p
      simp only
      cases getL ((toL s).drop n) with
      | none => rfl
      | some q => rfl
  have k0 := N1.c0
  have k1 := N1.c1
  have kf0 := N1.f0
  have kf1 := N1.f1
  cases h1 : getL (toL s) with
  | none =>
    rw [h1] at TK
    have G := Lib.hid (ptn_none s w1 t0 hs h1)
    have NP := Lib.hid (N1.put 0 ⟨#[]⟩)
    have AN := Lib.hid (ERR.out 1 TK.out (.inl rfl))
    clear h1 N1 t t0 TK ERR
    go_enter Tryd.func58, Tryd.ntmps58
    go_upto_region 1 with fail
    rw [← hw1, ← hK]
    clear hw1
    replace hK := Lib.hid hK
    go_wp2_with fail
    refine G.out.mono ?_
    rintro e w2 ⟨rfl, rfl⟩
    clear G
    go_wp2_with fail
    generalize (w1.setCell ⟨K, 0, none⟩ (.int .i64 0)).setCell ⟨K, 1, none⟩ (.string ⟨#[]⟩) = wf at *
    have q0 := NP.out.c0
    have q1 := NP.out.c1
    exact bodyPost_ret (v := .tuple #[.agg #[.int .i64 0, .string ⟨#[]⟩], .string ⟨#[]⟩, .int .i64 1]) (by simp [results, Tryd.results58, go_sem, q0, q1]) rfl ⟨AN.out, NP.out.bel⟩
  | some p =>
    obtain ⟨k, n⟩ := p
    rw [h1] at TK
    simp only at TK
    have hk := get_len h1
    have hkb := (getL_bound h1).1
    have G := Lib.hid (ptn_some s w1 t0 hs h1)
    have e2 : toL (s.extract n s.size) = (toL s).drop n := toL_extract s n
    have z2 : (s.extract n s.size).size = s.size - n := by rw [ByteArray.size_extract]; omega
    rw [← e2] at TK
    obtain ⟨r, hr⟩ : ∃ r, r = s.extract n s.size := ⟨_, rfl⟩
    rw [← hr] at TK z2 e2 G
    clear h1 t
    have rz : r.size ≤ 4611686018427387903 := by omega
    cases h2 : getL (toL r) with
    | none =>
      rw [h2] at TK
      have G2 : Hid (∀ w', VTab w' → _) := fun w' t' => pget_none r w' t' (by omega) h2
      have AN := Lib.hid (ERR.out 1 TK.out (.inl rfl))
      replace N1 := Lib.hid N1
      replace t0 := Lib.hid t0
      replace hr := Lib.hid hr
      clear h2 e2 z2 TK ERR k0 k1 kf0 kf1
      go_enter Tryd.func58, Tryd.ntmps58
      go_upto_region 1 with fail
      rw [← hw1, ← hK]
      clear hw1
      replace hK := Lib.hid hK
      go_wp2_with fail
      refine G.out.mono ?_
      rintro e w2 ⟨rfl, b2⟩
      have N2 := Lib.hid (N1.out.keep b2)
      have t2 := Lib.hid (t0.out.below b2)
      have k0 := N2.out.c0
      have k1 := N2.out.c1
      have kf0 := N2.out.f0
      have kf1 := N2.out.f1
      clear G b2 N1 t0
      go_wp2_with fail
      refine (G2.out w2 t2.out).mono ?_
      rintro e w3 ⟨rfl, rfl⟩
      have NP := Lib.hid (N2.out.put 0 ⟨#[]⟩)
      clear G2 N2 t2
      go_wp2_with fail
      generalize (w2.setCell ⟨K, 0, none⟩ (.int .i64 0)).setCell ⟨K, 1, none⟩ (.string ⟨#[]⟩) = wf at *
      have q0 := NP.out.c0
      have q1 := NP.out.c1
      exact bodyPost_ret (v := .tuple #[.agg #[.int .i64 0, .string ⟨#[]⟩], .string ⟨#[]⟩, .int .i64 1]) (by simp [results, Tryd.results58, go_sem, q0, q1]) rfl ⟨AN.out, NP.out.bel⟩
    | some p =>
      obtain ⟨z, m⟩ := p
      rw [h2] at TK
      simp only at TK
      have hm := get_len h2
      have hzb := (getL_bound h2).1
      have G2 : Hid (∀ w', VTab w' → _) := fun w' t' => pget_some r w' t' (by omega) h2
      rw [toL_len] at TK
      by_cases h4 : 4096 < z
      · rw [if_pos h4] at TK
        have AN := Lib.hid (ERR.out 8 TK.out (.inr rfl))
        have q4 : decide ((4096 : Int) < (z : Int)) = true := decide_eq_true (by omega)
        replace N1 := Lib.hid N1
        replace t0 := Lib.hid t0
        replace hr := Lib.hid hr
        clear h2 e2 z2 TK ERR k0 k1 kf0 kf1
        go_enter Tryd.func58, Tryd.ntmps58
        go_upto_region 1 with fail
        rw [← hw1, ← hK]
        clear hw1
        replace hK := Lib.hid hK
        go_wp2_with fail
        refine G.out.mono ?_
        rintro e w2 ⟨rfl, b2⟩
        have N2 := Lib.hid (N1.out.keep b2)
        have t2 := Lib.hid (t0.out.below b2)
        have k0 := N2.out.c0
        have k1 := N2.out.c1
        have kf0 := N2.out.f0
        have kf1 := N2.out.f1
        clear G b2 N1 t0
        go_wp2_with fail
        refine (G2.out w2 t2.out).mono ?_
        rintro e w3 ⟨rfl, rfl⟩
        have NP := Lib.hid (N2.out.put 0 ⟨#[]⟩)
        clear G2 N2 t2
        go_wp2_with fail
        generalize (w2.setCell ⟨K, 0, none⟩ (.int .i64 0)).setCell ⟨K, 1, none⟩ (.string ⟨#[]⟩) = wf at *
        have q0 := NP.out.c0
        have q1 := NP.out.c1
        exact bodyPost_ret (v := .tuple #[.agg #[.int .i64 0, .string ⟨#[]⟩], .string ⟨#[]⟩, .int .i64 8]) (by simp [results, Tryd.results58, go_sem, q0, q1]) rfl ⟨AN.out, NP.out.bel⟩
      · rw [if_neg h4] at TK
        have q4 : decide ((4096 : Int) < (z : Int)) = false := decide_eq_false (by omega)
        by_cases h5 : s.size - (n + m) < z
        · rw [if_pos h5] at TK
          have AN := Lib.hid (ERR.out 1 TK.out (.inl rfl))
          have G3 : Hid (∀ w', VTab w' → _) := fun w' t' => ptk_short r w' t' (by omega) h2 (by omega)
          replace N1 := Lib.hid N1
          replace t0 := Lib.hid t0
          replace hr := Lib.hid hr
          clear h2 e2 z2 TK ERR k0 k1 kf0 kf1
          go_enter Tryd.func58, Tryd.ntmps58
          go_upto_region 1 with fail
          rw [← hw1, ← hK]
          clear hw1
          replace hK := Lib.hid hK
          go_wp2_with fail
          refine G.out.mono ?_
          rintro e w2 ⟨rfl, b2⟩
          have N2 := Lib.hid (N1.out.keep b2)
          have t2 := Lib.hid (t0.out.below b2)
          have k0 := N2.out.c0
          have k1 := N2.out.c1
          have kf0 := N2.out.f0
          have kf1 := N2.out.f1
          clear G b2 N1 t0
          go_wp2_with fail
          refine (G2.out w2 t2.out).mono ?_
          rintro e w3 ⟨rfl, rfl⟩
          clear G2
          go_wp2_with fail
          refine (G3.out w2 t2.out).mono ?_
          rintro e w3 ⟨rfl, rfl⟩
          have NP := Lib.hid (N2.out.put 0 ⟨#[]⟩)
          clear G3 N2 t2
          go_wp2_with fail
          generalize (w2.setCell ⟨K, 0, none⟩ (.int .i64 0)).setCell ⟨K, 1, none⟩ (.string ⟨#[]⟩) = wf at *
          have q0 := NP.out.c0
          have q1 := NP.out.c1
          exact bodyPost_ret (v := .tuple #[.agg #[.int .i64 0, .string ⟨#[]⟩], .string ⟨#[]⟩, .int .i64 1]) (by simp [results, Tryd.results58, go_sem, q0, q1]) rfl ⟨AN.out, NP.out.bel⟩
        · rw [if_neg h5] at TK
          have G3 : Hid (∀ w', VTab w' → _) := fun w' t' => ptk_some r w' t' (by omega) h2 (by omega)
          obtain ⟨p, hp⟩ : ∃ p, p = m + z := ⟨_, rfl⟩
          rw [← hp] at G3
          have hps : p ≤ r.size := by omega
          have AN : Hid (CkA s (.returned (.tuple #[.agg #[.int .i64 (k : Int), .string (r.extract m p)], .string (r.extract p r.size), .int .i64 0]))) := by
            refine .inl ⟨k, _, _, TK.out.trans ?_, ?_, rfl⟩
            · rw [toL_extract, toL_cut, e2, hp, List.drop_take, List.drop_drop, List.drop_drop]
              congr 4
              · omega
              · omega
            · rw [ByteArray.size_extract]
              omega
          obtain ⟨D, hD⟩ : ∃ D, D = r.extract m p := ⟨_, rfl⟩
          rw [← hD] at AN G3
          replace N1 := Lib.hid N1
          replace t0 := Lib.hid t0
          replace hr := Lib.hid hr
          replace hp := Lib.hid hp
          replace hD := Lib.hid hD
          clear h2 e2 z2 TK ERR k0 k1 kf0 kf1
          go_enter Tryd.func58, Tryd.ntmps58
          go_upto_region 1 with fail
          rw [← hw1, ← hK]
          clear hw1
          replace hK := Lib.hid hK
          go_wp2_with fail
          refine G.out.mono ?_
          rintro e w2 ⟨rfl, b2⟩
          have N2 := Lib.hid (N1.out.keep b2)
          have t2 := Lib.hid (t0.out.below b2)
          have k0 := N2.out.c0
          have k1 := N2.out.c1
          have kf0 := N2.out.f0
          have kf1 := N2.out.f1
          clear G b2 N1 t0
          go_wp2_with fail
          refine (G2.out w2 t2.out).mono ?_
          rintro e w3 ⟨rfl, rfl⟩
          clear G2
          go_wp2_with fail
          refine (G3.out w2 t2.out).mono ?_
          rintro e w3 ⟨rfl, rfl⟩
          have NP := Lib.hid (N2.out.put (k : Int) D).drew
          clear G3 N2 t2
          go_wp2_with fail
          go_region
          all_goals
            go_wp2_with fail
            generalize ((w2.setCell ⟨K, 0, none⟩ (.int .i64 (k : Int))).setCell ⟨K, 1, none⟩ (.string D)) = wf at *
            have q0 := NP.out.c0
            have q1 := NP.out.c1
            exact bodyPost_ret (v := .tuple #[.agg #[.int .i64 (k : Int), .string D], .string (r.extract p r.size), .int .i64 0]) (by simp [results, Tryd.results58, go_sem, q0, q1]) rfl ⟨AN.out, NP.out.bel⟩
end Go.Proofs.YtihkbakbciejiaaDoor
