/-
  What the program's takeValue, takeBoth and takeLine answer of bytes. Texts below 2^62 bytes; no condition but the tables.
-/
import Derived.Test.YtphmoieaddjanaaDoorFiPgK
import Derived.BigRegion
import Derived.RegionTactic
namespace Go.Proofs.YtphmoieaddjanaaDoor
set_option maxRecDepth 100000
open Go.RowKit Go.Sort

/-- What is answered of a line. -/
def LnA (r : Except Int (Fd × L)) (e : Ending) : Prop := (∃ f rest, r = .ok (f, rest) ∧ e = .returned (.tuple #[fbV f, .string (strL rest), .int .i64 0])) ∨ (∃ x, r = .error x ∧ x ≠ 0 ∧ e = .returned (.tuple #[fbV nF, .string ⟨#[]⟩, .int .i64 x]))
theorem LnA.yes {r : Except Int (Fd × L)} {a b rest : L} {S : ByteArray} (h : r = .ok ((a, b), rest)) (hS : S = strL rest) : LnA r (.returned (.tuple #[.agg #[.string (strL a), .string (strL b)], .string S, .int .i64 0])) := .inl ⟨(a, b), rest, h, by rw [hS]; rfl⟩
theorem LnA.no {r : Except Int (Fd × L)} {x : Int} (h : r = .error x) (hx : x ≠ 0) : LnA r (.returned (.tuple #[.agg #[.string ⟨#[]⟩, .string ⟨#[]⟩], .string ⟨#[]⟩, .int .i64 x])) := .inr ⟨x, h, hx, rfl⟩
theorem ext_drop (s : ByteArray) (n : Nat) : s.extract n s.size = strL ((toL s).drop n) := by rw [← toL_extract, strL_toL]
/-- A box for the answer's field. -/
structure Bo (w wr : World) (K : Nat) (a b : ByteArray) : Prop where
  k : Lies wr K [.string a, .string b]
  g : w.heap.size ≤ K
  bel : Below w.heap.size w wr
section
variable {w wr w' : World} {K : Nat} {a b : ByteArray}
theorem Bo.new (w : World) : Bo w (w.alloc (.cells #[.string ⟨#[]⟩, .string ⟨#[]⟩] 34)) w.heap.size ⟨#[]⟩ ⟨#[]⟩ := ⟨Lies.new w _ _, Nat.le_refl _, (Below.refl _ _).alloc (Nat.le_refl _) _⟩
theorem Bo.keep (h : Bo w wr K a b) (q : Below wr.heap.size wr w') : Bo w w' K a b := ⟨h.k.keep (by show 0 < 2; decide) q, h.g, h.bel.trans (q.mono h.bel.size)⟩
theorem Bo.put (h : Bo w wr K a b) (x y : ByteArray) : Bo w ((wr.setCell ⟨K, 0, none⟩ (.string x)).setCell ⟨K, 1, none⟩ (.string y)) K x y :=
  ⟨(h.k.put 0 (by show 0 < 2; decide) (.string x)).put 1 (by show 1 < 2; decide) (.string y), h.g, (h.bel.setCell (p := ⟨K, 0, none⟩) h.g _).setCell (p := ⟨K, 1, none⟩) h.g _⟩
theorem Bo.c0 (h : Bo w wr K a b) : wr.cell? ⟨K, 0, none⟩ = some (.string a) := h.k.cell 0 rfl
theorem Bo.c1 (h : Bo w wr K a b) : wr.cell? ⟨K, 1, none⟩ = some (.string b) := h.k.cell 1 rfl
theorem Bo.f0 (h : Bo w wr K a b) : wr.frozen? ⟨K, 0, none⟩ = false := h.k.free 0 (by show 0 < 2; decide)
theorem Bo.f1 (h : Bo w wr K a b) : wr.frozen? ⟨K, 1, none⟩ = false := h.k.free 1 (by show 1 < 2; decide)
end
set_option maxHeartbeats 8000000 in
theorem takeV_ok (nm : L) (s : ByteArray) (w : World) (t : T14 w) (hs : s.size ≤ 4611686018427387903) :
    Calls Tryd.prog 34 #[.string (strL nm), .string s] w fun e w' => LnA ((rText.bind fun v => Rd.pure (nm, v)) (toL s)) e ∧ Below w.heap.size w w' := by
  have N0 := Bo.new w
  have t0 := t.keep N0.bel
  obtain ⟨w1, hw1⟩ : ∃ w1, w1 = w.alloc (.cells #[.string ⟨#[]⟩, .string ⟨#[]⟩] 34) := ⟨_, rfl⟩
  rw [← hw1] at N0 t0
  obtain ⟨K, hK⟩ : ∃ K, K = w.heap.size := ⟨_, rfl⟩
  have N1 : Bo w w1 K ⟨#[]⟩ ⟨#[]⟩ := by rw [hK]; exact N0
  clear N0
  have TK := Lib.hid (ptakeL_ok s w1 t0.v (by omega))
  have k0 := N1.c0
  have k1 := N1.c1
  have kf0 := N1.f0
  have kf1 := N1.f1
  have NP := Lib.hid N1.put
  clear t t0 N1
  obtain ⟨A, hA⟩ : ∃ A, A = strL nm := ⟨_, rfl⟩
  rw [← hA]
  have hA2 := Lib.hid hA
  clear hA
  go_enter Tryd.func34, Tryd.ntmps34
  go_upto_region 1 with fail
  rw [← hw1, ← hK]
  clear hw1
  replace hK := Lib.hid hK
  go_wp2_with fail
  refine TK.out.mono ?_
  rintro e w2 ⟨rfl, hR⟩
  clear TK
  rcases hR with ⟨v, n, e1, n1, n2, rfl⟩ | ⟨e1, rfl⟩
  · have hn : (n : Int) ≤ (s.size : Int) := by omega
    have NZ := Lib.hid (NP.out A (strL v))
    have ANS : Hid (LnA ((rText.bind fun v => Rd.pure (nm, v)) (toL s)) (.returned (.tuple #[.agg #[.string A, .string (strL v)], .string (s.extract n s.size), .int .i64 0]))) := by
      unfold Hid
      rw [hA2.out]
      exact LnA.yes (by rw [bind_ok e1]; rfl) (ext_drop s n)
    replace e1 := Lib.hid e1
    generalize strL v = V at *
    clear NP
    go_wp2_with fail
    go_region
    go_wp2_with fail
    generalize (w1.setCell ⟨K, 0, none⟩ (.string A)).setCell ⟨K, 1, none⟩ (.string V) = wf at *
    have q0 : wf.drew.cell? ⟨K, 0, none⟩ = some (.string A) := NZ.out.c0
    have q1 : wf.drew.cell? ⟨K, 1, none⟩ = some (.string V) := NZ.out.c1
    exact bodyPost_ret (v := .tuple #[.agg #[.string A, .string V], .string (s.extract n s.size), .int .i64 0]) (by simp [results, Tryd.results34, go_sem, q0, q1]) rfl ⟨ANS.out, NZ.out.bel.trans (drewB _ _)⟩
  · have NZ := Lib.hid (NP.out ⟨#[]⟩ ⟨#[]⟩)
    have ANS : Hid (LnA ((rText.bind fun v => Rd.pure (nm, v)) (toL s)) (.returned (.tuple #[.agg #[.string ⟨#[]⟩, .string ⟨#[]⟩], .string ⟨#[]⟩, .int .i64 1]))) := LnA.no (by unfold Rd.bind; rw [e1]) (by decide)
    replace e1 := Lib.hid e1
    clear NP
    go_wp2_with fail
    generalize (w1.setCell ⟨K, 0, none⟩ (.string ⟨#[]⟩)).setCell ⟨K, 1, none⟩ (.string ⟨#[]⟩) = wf at *
    have q0 := NZ.out.c0
    have q1 := NZ.out.c1
    exact bodyPost_ret (v := .tuple #[.agg #[.string ⟨#[]⟩, .string ⟨#[]⟩], .string ⟨#[]⟩, .int .i64 1]) (by simp [results, Tryd.results34, go_sem, q0, q1]) rfl ⟨ANS.out, NZ.out.bel⟩
set_option maxHeartbeats 8000000 in
theorem takeB_ok (s : ByteArray) (w : World) (t : T14 w) (hs : s.size ≤ 4611686018427387903) :
    Calls Tryd.prog 33 #[.string s] w fun e w' => LnA ((rText.bind fun a => rText.bind fun b => Rd.pure (a, b)) (toL s)) e ∧ Below w.heap.size w w' := by
  have N0 := Bo.new w
  have t0 := t.keep N0.bel
  obtain ⟨w1, hw1⟩ : ∃ w1, w1 = w.alloc (.cells #[.string ⟨#[]⟩, .string ⟨#[]⟩] 34) := ⟨_, rfl⟩
  rw [← hw1] at N0 t0
  obtain ⟨K, hK⟩ : ∃ K, K = w.heap.size := ⟨_, rfl⟩
  have N1 : Bo w w1 K ⟨#[]⟩ ⟨#[]⟩ := by rw [hK]; exact N0
  clear N0
  have TK := Lib.hid (ptakeL_ok s w1 t0.v (by omega))
  have TV : Hid (∀ (nm : L) (s' : ByteArray), s'.size ≤ s.size → _) := fun nm s' (h : s'.size ≤ s.size) => takeV_ok nm s' w1 t0 (by omega)
  replace N1 := Lib.hid N1
  clear t t0
  go_enter Tryd.func33, Tryd.ntmps33
  go_upto_region 1 with fail
  rw [← hw1, ← hK]
  clear hw1
  replace hK := Lib.hid hK
  go_wp2_with fail
  refine TK.out.mono ?_
  rintro e w2 ⟨rfl, hR⟩
  clear TK
  rcases hR with ⟨v, n, e1, n1, n2, rfl⟩ | ⟨e1, rfl⟩
  · have hn : (n : Int) ≤ (s.size : Int) := by omega
    have TW := Lib.hid (TV.out v (s.extract n s.size) (by rw [ByteArray.size_extract]; omega))
    rw [toL_extract] at TW
    have BE : Hid (∀ r, (rText.bind fun b => Rd.pure (v, b)) ((toL s).drop n) = r → (rText.bind fun a => rText.bind fun b => Rd.pure (a, b)) (toL s) = r) := fun r h => by rw [bind_ok e1]; exact h
    replace e1 := Lib.hid e1
    generalize strL v = V at *
    clear TV
    go_wp2_with fail
    refine TW.out.mono ?_
    rintro e w3 ⟨hL, b3⟩
    have N3 := Lib.hid (N1.out.keep b3)
    have k0 := N3.out.c0
    have k1 := N3.out.c1
    have kf0 := N3.out.f0
    have kf1 := N3.out.f1
    clear TW b3 N1
    rcases hL with ⟨f, rest, l1, rfl⟩ | ⟨x, l1, hx, rfl⟩
    · obtain ⟨f1, f2⟩ := f
      unfold fbV
      simp only
      have NZ := Lib.hid (N3.out.put (strL f1) (strL f2))
      have ANS : Hid (LnA ((rText.bind fun a => rText.bind fun b => Rd.pure (a, b)) (toL s)) (.returned (.tuple #[.agg #[.string (strL f1), .string (strL f2)], .string (strL rest), .int .i64 0]))) := LnA.yes (BE.out _ l1) rfl
      replace l1 := Lib.hid l1
      clear BE N3
      go_wp2_with fail
      generalize (w3.setCell ⟨K, 0, none⟩ (.string (strL f1))).setCell ⟨K, 1, none⟩ (.string (strL f2)) = wf at *
      have q0 := NZ.out.c0
      have q1 := NZ.out.c1
      exact bodyPost_ret (v := .tuple #[.agg #[.string (strL f1), .string (strL f2)], .string (strL rest), .int .i64 0]) (by simp [results, Tryd.results33, go_sem, q0, q1]) rfl ⟨ANS.out, NZ.out.bel⟩
    · unfold fbV
      simp only
      rw [emp0]
      have NZ := Lib.hid (N3.out.put ⟨#[]⟩ ⟨#[]⟩)
      have ANS : Hid (LnA ((rText.bind fun a => rText.bind fun b => Rd.pure (a, b)) (toL s)) (.returned (.tuple #[.agg #[.string ⟨#[]⟩, .string ⟨#[]⟩], .string ⟨#[]⟩, .int .i64 x]))) := LnA.no (BE.out _ l1) hx
      replace l1 := Lib.hid l1
      replace hx := Lib.hid hx
      clear BE N3
      go_wp2_with fail
      generalize (w3.setCell ⟨K, 0, none⟩ (.string ⟨#[]⟩)).setCell ⟨K, 1, none⟩ (.string ⟨#[]⟩) = wf at *
      have q0 := NZ.out.c0
      have q1 := NZ.out.c1
      exact bodyPost_ret (v := .tuple #[.agg #[.string ⟨#[]⟩, .string ⟨#[]⟩], .string ⟨#[]⟩, .int .i64 x]) (by simp [results, Tryd.results33, go_sem, q0, q1]) rfl ⟨ANS.out, NZ.out.bel⟩
  · have NZ := Lib.hid (N1.out.put ⟨#[]⟩ ⟨#[]⟩)
    have k0 := N1.out.c0
    have k1 := N1.out.c1
    have kf0 := N1.out.f0
    have kf1 := N1.out.f1
    have ANS : Hid (LnA ((rText.bind fun a => rText.bind fun b => Rd.pure (a, b)) (toL s)) (.returned (.tuple #[.agg #[.string ⟨#[]⟩, .string ⟨#[]⟩], .string ⟨#[]⟩, .int .i64 1]))) := LnA.no (by unfold Rd.bind; rw [e1]) (by decide)
    replace e1 := Lib.hid e1
    clear TV N1
    go_wp2_with fail
    generalize (w1.setCell ⟨K, 0, none⟩ (.string ⟨#[]⟩)).setCell ⟨K, 1, none⟩ (.string ⟨#[]⟩) = wf at *
    have q0 := NZ.out.c0
    have q1 := NZ.out.c1
    exact bodyPost_ret (v := .tuple #[.agg #[.string ⟨#[]⟩, .string ⟨#[]⟩], .string ⟨#[]⟩, .int .i64 1]) (by simp [results, Tryd.results33, go_sem, q0, q1]) rfl ⟨ANS.out, NZ.out.bel⟩
theorem low6 (x : Nat) (h : x < 256) : bits .andNot .u8 (x : Int) 192 = ((x % 64 : Nat) : Int) ∧ bits .and .u8 (x : Int) 192 = ((x / 64 * 64 : Nat) : Int) := by
  have : ∀ j : Fin 256, bits .andNot .u8 ((j.1 : Nat) : Int) 192 = ((j.1 % 64 : Nat) : Int) ∧ bits .and .u8 ((j.1 : Nat) : Int) 192 = ((j.1 / 64 * 64 : Nat) : Int) := by decide +kernel
  exact this ⟨x, h⟩
set_option maxHeartbeats 16000000 in
theorem takeL_ok (s : ByteArray) (w : World) (t : T14 w) (hs : s.size ≤ 4611686018427387903) (hp : 0 < s.size) :
    Calls Tryd.prog 25 #[.string s] w fun e w' => LnA (rLine (toL s)) e ∧ Below w.heap.size w w' := by
  obtain ⟨c, u, hct⟩ : ∃ c u, toL s = c :: u := by
    cases e : toL s with
    | nil => have := toL_len s; rw [e] at this; simp at this; omega
    | cons c t => exact ⟨c, t, rfl⟩
  have i0 := fun w => at_s0 s c u hct w
  have hc := c.toNat_lt
  have RL : Hid (rLine (toL s) = if 128 ≤ c.toNat ∧ c.toNat < 148 then .ok (tab.getD (c.toNat - 128) ([], []), u) else if 64 ≤ c.toNat ∧ c.toNat < 84 then (rText.bind fun v => Rd.pure ((tab.getD (c.toNat - 64) ([], [])).1, v)) u else if c.toNat = 0 then (rText.bind fun a => rText.bind fun b => Rd.pure (a, b)) u else .error 5) := by
    unfold Hid
    rw [hct]
    rfl
  have cu : toL (s.extract 1 s.size) = u := by rw [toL_extract, hct]; rfl
  have hu : s.extract 1 s.size = strL u := by rw [← cu, strL_toL]
  have hul : u.length ≤ s.size := by have := toL_len s; rw [hct] at this; simp at this; omega
  replace hct := Lib.hid hct
  obtain ⟨x, hx⟩ : ∃ x, x = c.toNat := ⟨_, rfl⟩
  rw [← hx] at i0 hc RL
  replace hx := Lib.hid hx
  have N0 := Bo.new w
  have t0 := t.keep N0.bel
  obtain ⟨w1, hw1⟩ : ∃ w1, w1 = w.alloc (.cells #[.string ⟨#[]⟩, .string ⟨#[]⟩] 34) := ⟨_, rfl⟩
  rw [← hw1] at N0 t0
  obtain ⟨K, hK⟩ : ∃ K, K = w.heap.size := ⟨_, rfl⟩
  have N1 : Hid (Bo w w1.drew K ⟨#[]⟩ ⟨#[]⟩) := by
    unfold Hid
    rw [hK]
    exact N0.keep (drewB _ _)
  have TT : Hid (T14 w1.drew) := t0.keep (drewB _ _)
  clear N0 t t0 cu
  have hp1 : (1 : Int) ≤ (s.size : Int) := by omega
  go_enter Tryd.func25, Tryd.ntmps25
  go_upto_region 1 with fail
  rw [← hw1, ← hK]
  clear hw1
  replace hK := Lib.hid hK
  go_wp2_with fail
  go_region
  generalize w1.drew = w2 at *
  obtain ⟨U, hU⟩ : ∃ U, U = strL u := ⟨_, rfl⟩
  rw [← hU]
  clear hu
  by_cases x0 : x = 0
  · have z0 : ((x : Int) == 0) = true := by rw [beq_iff_eq]; omega
    have TB := Lib.hid (takeB_ok (strL u) w2 TT.out (by rw [strL_size]; omega))
    rw [toL_strL, ← hU] at TB
    replace hU := Lib.hid hU
    have RL2 : Hid (rLine (toL s) = (rText.bind fun a => rText.bind fun b => Rd.pure (a, b)) u) := by
      unfold Hid
      rw [RL.out, if_neg (by omega), if_neg (by omega), if_pos x0]
    replace x0 := Lib.hid x0
    clear RL i0
    go_wp2_with fail
    refine TB.out.mono ?_
    rintro e w3 ⟨hL, b3⟩
    have N3 := Lib.hid (N1.out.keep b3)
    have k0 := N3.out.c0
    have k1 := N3.out.c1
    have kf0 := N3.out.f0
    have kf1 := N3.out.f1
    clear TB b3 N1
    rcases hL with ⟨f, rest, l1, rfl⟩ | ⟨y, l1, hy, rfl⟩
    · obtain ⟨f1, f2⟩ := f
      unfold fbV
      simp only
      have NZ := Lib.hid (N3.out.put (strL f1) (strL f2))
      have ANS : Hid (LnA (rLine (toL s)) (.returned (.tuple #[.agg #[.string (strL f1), .string (strL f2)], .string (strL rest), .int .i64 0]))) := LnA.yes (RL2.out.trans l1) rfl
      replace l1 := Lib.hid l1
      clear N3 RL2
      go_wp2_with fail
      generalize (w3.setCell ⟨K, 0, none⟩ (.string (strL f1))).setCell ⟨K, 1, none⟩ (.string (strL f2)) = wf at *
      have q0 := NZ.out.c0
      have q1 := NZ.out.c1
      exact bodyPost_ret (v := .tuple #[.agg #[.string (strL f1), .string (strL f2)], .string (strL rest), .int .i64 0]) (by simp [results, Tryd.results25, go_sem, q0, q1]) rfl ⟨ANS.out, NZ.out.bel⟩
    · unfold fbV
      simp only
      rw [emp0]
      have NZ := Lib.hid (N3.out.put ⟨#[]⟩ ⟨#[]⟩)
      have ANS : Hid (LnA (rLine (toL s)) (.returned (.tuple #[.agg #[.string ⟨#[]⟩, .string ⟨#[]⟩], .string ⟨#[]⟩, .int .i64 y]))) := LnA.no (RL2.out.trans l1) hy
      replace l1 := Lib.hid l1
      replace hy := Lib.hid hy
      clear N3 RL2
      go_wp2_with fail
      generalize (w3.setCell ⟨K, 0, none⟩ (.string ⟨#[]⟩)).setCell ⟨K, 1, none⟩ (.string ⟨#[]⟩) = wf at *
      have q0 := NZ.out.c0
      have q1 := NZ.out.c1
      exact bodyPost_ret (v := .tuple #[.agg #[.string ⟨#[]⟩, .string ⟨#[]⟩], .string ⟨#[]⟩, .int .i64 y]) (by simp [results, Tryd.results25, go_sem, q0, q1]) rfl ⟨ANS.out, NZ.out.bel⟩
  · have z0 : ((x : Int) == 0) = false := by rw [beq_eq_false_iff_ne]; omega
    obtain ⟨l6, h2⟩ := low6 x hc
    obtain ⟨r, hr⟩ : ∃ r, r = x % 64 := ⟨_, rfl⟩
    obtain ⟨q, hq⟩ : ∃ q, q = x / 64 * 64 := ⟨_, rfl⟩
    rw [← hr] at l6
    rw [← hq] at h2
    have EN := Lib.hid (entry_ok w2 (r : Int) TT.out (by omega))
    have TV : Hid (∀ nm : L, ∀ w3, Below w2.heap.size w2 w3 → _) := fun nm w3 b => takeV_ok nm (strL u) w3 (TT.out.keep b) (by rw [strL_size]; omega)
    rw [toL_strL, ← hU] at TV
    replace hU := Lib.hid hU
    have hxr : x = q + r := by omega
    have hq4 : q = 0 ∨ q = 64 ∨ q = 128 ∨ q = 192 := by omega
    have hr64 : r < 64 := by omega
    clear hr hq i0
    replace h2 := Lib.hid h2
    replace x0 := Lib.hid x0
    by_cases r20 : r < 20
    · have ev : entV (r : Int) = .tuple #[.agg #[.string (strL (tab.getD r nF).1), .string (strL (tab.getD r nF).2)], .bool true] := by unfold entV; rw [if_pos (by omega), Int.toNat_natCast]; rfl
      rw [ev] at EN
      clear ev
      obtain ⟨f, hf⟩ : ∃ f, f = tab.getD r nF := ⟨_, rfl⟩
      rw [← hf] at EN
      obtain ⟨f1, f2⟩ := f
      simp only at EN
      have RQ : Hid (rLine (toL s) = if q = 128 then .ok ((f1, f2), u) else if q = 64 then (rText.bind fun v => Rd.pure (f1, v)) u else .error 5) := by
        unfold Hid
        rw [RL.out, hxr]
        have x0' := x0.out
        rcases hq4 with rfl | rfl | rfl | rfl
        · rw [if_neg (by omega), if_neg (by omega), if_neg (by omega), if_neg (by decide), if_neg (by decide)]
        · rw [if_neg (by omega), if_pos (by omega), if_neg (by decide), if_pos rfl, show 64 + r - 64 = r by omega, ← hf]
        · rw [if_pos (by omega), if_pos rfl, show 128 + r - 128 = r by omega, ← hf]
        · rw [if_neg (by omega), if_neg (by omega), if_neg (by omega), if_neg (by decide), if_neg (by decide)]
      clear RL hf hxr
      go_wp2_with fail
      refine EN.out.mono ?_
      rintro e w3 ⟨rfl, b3⟩
      have N3 := N1.out.keep b3
      have bx := box_below w3 (.cells #[.string (strL f1), .string (strL f2)] 34)
      have N4 := N3.keep bx
      have L4 := Lies.new w3 [.string (strL f1), .string (strL f2)] 34
      change Lies (w3.alloc (.cells #[.string (strL f1), .string (strL f2)] 34)) _ _ at L4
      have TV4 := Lib.hid (TV.out f1 (w3.alloc (.cells #[.string (strL f1), .string (strL f2)] 34)) (b3.trans (bx.mono b3.size)))
      obtain ⟨w4, hw4⟩ : ∃ w4, w4 = w3.alloc (.cells #[.string (strL f1), .string (strL f2)] 34) := ⟨_, rfl⟩
      obtain ⟨F, hF⟩ : ∃ F, F = w3.heap.size := ⟨_, rfl⟩
      rw [← hw4] at N4 L4 TV4
      rw [← hF] at L4
      have d0 := L4.cell 0 (v := .string (strL f1)) rfl
      have d1 := L4.cell 1 (v := .string (strL f2)) rfl
      have k0 := N4.c0
      have k1 := N4.c1
      have kf0 := N4.f0
      have kf1 := N4.f1
      replace N4 := Lib.hid N4
      clear EN N3 bx L4 TV b3 N1
      go_upto_region 5 with fail
      rw [← hw4, ← hF]
      clear hw4
      replace hF := Lib.hid hF
      rcases hq4 with rfl | rfl | rfl | rfl
      · have h3 : bits .and .u8 (x : Int) 192 = 0 := by rw [h2.out]; rfl
        clear h2
        have NZ := Lib.hid (N4.out.put ⟨#[]⟩ ⟨#[]⟩)
        have ANS : Hid (LnA (rLine (toL s)) (.returned (.tuple #[.agg #[.string ⟨#[]⟩, .string ⟨#[]⟩], .string ⟨#[]⟩, .int .i64 5]))) := LnA.no (by rw [RQ.out]; rfl) (by decide)
        clear RQ N4 TV4
        go_wp2_with fail
        generalize (w4.setCell ⟨K, 0, none⟩ (.string ⟨#[]⟩)).setCell ⟨K, 1, none⟩ (.string ⟨#[]⟩) = wf at *
        have q0 := NZ.out.c0
        have q1 := NZ.out.c1
        exact bodyPost_ret (v := .tuple #[.agg #[.string ⟨#[]⟩, .string ⟨#[]⟩], .string ⟨#[]⟩, .int .i64 5]) (by simp [results, Tryd.results25, go_sem, q0, q1]) rfl ⟨ANS.out, NZ.out.bel⟩
      · have h3 : bits .and .u8 (x : Int) 192 = 64 := by rw [h2.out]; rfl
        clear h2
        have RL2 : Hid (rLine (toL s) = (rText.bind fun v => Rd.pure (f1, v)) u) := by
          unfold Hid
          rw [RQ.out, if_neg (by decide), if_pos rfl]
        clear RQ k0 k1 kf0 kf1
        go_wp2_with fail
        refine TV4.out.mono ?_
        rintro e w5 ⟨hL, b5⟩
        have N5 := Lib.hid (N4.out.keep b5)
        have k0 := N5.out.c0
        have k1 := N5.out.c1
        have kf0 := N5.out.f0
        have kf1 := N5.out.f1
        clear TV4 b5 N4 d0 d1
        rcases hL with ⟨f, rest, l1, rfl⟩ | ⟨y, l1, hy, rfl⟩
        · obtain ⟨g1, g2⟩ := f
          unfold fbV
          simp only
          have NZ := Lib.hid (N5.out.put (strL g1) (strL g2))
          have ANS : Hid (LnA (rLine (toL s)) (.returned (.tuple #[.agg #[.string (strL g1), .string (strL g2)], .string (strL rest), .int .i64 0]))) := LnA.yes (RL2.out.trans l1) rfl
          replace l1 := Lib.hid l1
          clear N5 RL2
          go_wp2_with fail
          generalize (w5.setCell ⟨K, 0, none⟩ (.string (strL g1))).setCell ⟨K, 1, none⟩ (.string (strL g2)) = wf at *
          have q0 := NZ.out.c0
          have q1 := NZ.out.c1
          exact bodyPost_ret (v := .tuple #[.agg #[.string (strL g1), .string (strL g2)], .string (strL rest), .int .i64 0]) (by simp [results, Tryd.results25, go_sem, q0, q1]) rfl ⟨ANS.out, NZ.out.bel⟩
        · unfold fbV
          simp only
          rw [emp0]
          have NZ := Lib.hid (N5.out.put ⟨#[]⟩ ⟨#[]⟩)
          have ANS : Hid (LnA (rLine (toL s)) (.returned (.tuple #[.agg #[.string ⟨#[]⟩, .string ⟨#[]⟩], .string ⟨#[]⟩, .int .i64 y]))) := LnA.no (RL2.out.trans l1) hy
          replace l1 := Lib.hid l1
          replace hy := Lib.hid hy
          clear N5 RL2
          go_wp2_with fail
          generalize (w5.setCell ⟨K, 0, none⟩ (.string ⟨#[]⟩)).setCell ⟨K, 1, none⟩ (.string ⟨#[]⟩) = wf at *
          have q0 := NZ.out.c0
          have q1 := NZ.out.c1
          exact bodyPost_ret (v := .tuple #[.agg #[.string ⟨#[]⟩, .string ⟨#[]⟩], .string ⟨#[]⟩, .int .i64 y]) (by simp [results, Tryd.results25, go_sem, q0, q1]) rfl ⟨ANS.out, NZ.out.bel⟩
      · have h3 : bits .and .u8 (x : Int) 192 = 128 := by rw [h2.out]; rfl
        clear h2
        have NZ := Lib.hid (N4.out.put (strL f1) (strL f2))
        have ANS : Hid (LnA (rLine (toL s)) (.returned (.tuple #[.agg #[.string (strL f1), .string (strL f2)], .string U, .int .i64 0]))) := LnA.yes (by rw [RQ.out, if_pos rfl]) hU.out
        clear RQ N4 TV4
        go_wp2_with fail
        generalize (w4.setCell ⟨K, 0, none⟩ (.string (strL f1))).setCell ⟨K, 1, none⟩ (.string (strL f2)) = wf at *
        have q0 := NZ.out.c0
        have q1 := NZ.out.c1
        exact bodyPost_ret (v := .tuple #[.agg #[.string (strL f1), .string (strL f2)], .string U, .int .i64 0]) (by simp [results, Tryd.results25, go_sem, q0, q1]) rfl ⟨ANS.out, NZ.out.bel⟩
      · have h3 : bits .and .u8 (x : Int) 192 = 192 := by rw [h2.out]; rfl
        clear h2
        have NZ := Lib.hid (N4.out.put ⟨#[]⟩ ⟨#[]⟩)
        have ANS : Hid (LnA (rLine (toL s)) (.returned (.tuple #[.agg #[.string ⟨#[]⟩, .string ⟨#[]⟩], .string ⟨#[]⟩, .int .i64 5]))) := LnA.no (by rw [RQ.out]; rfl) (by decide)
        clear RQ N4 TV4
        go_wp2_with fail
        generalize (w4.setCell ⟨K, 0, none⟩ (.string ⟨#[]⟩)).setCell ⟨K, 1, none⟩ (.string ⟨#[]⟩) = wf at *
        have q0 := NZ.out.c0
        have q1 := NZ.out.c1
        exact bodyPost_ret (v := .tuple #[.agg #[.string ⟨#[]⟩, .string ⟨#[]⟩], .string ⟨#[]⟩, .int .i64 5]) (by simp [results, Tryd.results25, go_sem, q0, q1]) rfl ⟨ANS.out, NZ.out.bel⟩
    · have ev : entV (r : Int) = .tuple #[.agg #[.string ⟨#[]⟩, .string ⟨#[]⟩], .bool false] := by unfold entV; rw [if_neg (by omega)]; rfl
      rw [ev] at EN
      clear ev TV
      have ANS : Hid (LnA (rLine (toL s)) (.returned (.tuple #[.agg #[.string ⟨#[]⟩, .string ⟨#[]⟩], .string ⟨#[]⟩, .int .i64 5]))) := LnA.no (by have x0' := x0.out; rw [RL.out, if_neg (by omega), if_neg (by omega), if_neg (by omega)]) (by decide)
      clear RL hxr hq4 h2
      go_wp2_with fail
      refine EN.out.mono ?_
      rintro e w3 ⟨rfl, b3⟩
      have N3 := N1.out.keep b3
      have N4 := N3.keep (box_below w3 (.cells #[.string ⟨#[]⟩, .string ⟨#[]⟩] 34))
      obtain ⟨w4, hw4⟩ : ∃ w4, w4 = w3.alloc (.cells #[.string ⟨#[]⟩, .string ⟨#[]⟩] 34) := ⟨_, rfl⟩
      rw [← hw4] at N4
      have k0 := N4.c0
      have k1 := N4.c1
      have kf0 := N4.f0
      have kf1 := N4.f1
      have NZ := Lib.hid (N4.put ⟨#[]⟩ ⟨#[]⟩)
      clear EN N3 N4 b3 N1
      go_upto_region 5 with fail
      rw [← hw4]
      clear hw4
      go_wp2_with fail
      generalize (w4.setCell ⟨K, 0, none⟩ (.string ⟨#[]⟩)).setCell ⟨K, 1, none⟩ (.string ⟨#[]⟩) = wf at *
      have q0 := NZ.out.c0
      have q1 := NZ.out.c1
      exact bodyPost_ret (v := .tuple #[.agg #[.string ⟨#[]⟩, .string ⟨#[]⟩], .string ⟨#[]⟩, .int .i64 5]) (by simp [results, Tryd.results25, go_sem, q0, q1]) rfl ⟨ANS.out, NZ.out.bel⟩
end Go.Proofs.YtphmoieaddjanaaDoor
