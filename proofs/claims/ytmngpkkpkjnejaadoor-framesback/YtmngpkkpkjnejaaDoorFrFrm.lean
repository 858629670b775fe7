/-
  What the document's own reader of frames answers for a frame, and what it leaves. Texts below 2^62 bytes; no other condition.
-/
import Derived.Test.YtmngpkkpkjnejaaDoorFrStp
import Derived.Test.YtmngpkkpkjnejaaDoorFrChk
import Derived.Deep.Cut
namespace Go.Proofs.YtmngpkkpkjnejaaDoor
set_option maxRecDepth 100000
open Go.RowKit Go.Sort

/-- A value that has a frame's shape. -/
def Shape (v : Value) : Prop := ∃ (k i o : Int) (b : Bool) (c : Int) (d : ByteArray) (a : Option Addr) (n cp : Nat), v = .agg #[.int .i64 k, .int .i64 i, .int .i64 o, .bool b, .int .i64 c, .string d, .slice a n cp]
/-- A frame as a value, its ranges in memory that is new. -/
def FrNew (w w' : World) (v : Value) (f : Fr) : Prop := ∃ d a cp, v = frV f d (.slice a f.rg.length cp) ∧ toL d = f.data ∧ RgAt w' (.slice a f.rg.length cp) f.rg ∧ ∀ p, a = some p → w.heap.size ≤ p.block
def AfterF (w w' : World) (R : Nat) (s : ByteArray) (e : Ending) : Prop :=
  Kept (fun k => k = R) w w' ∧ ((∃ f s' v, rFrame (toL s) = .ok (f, toL s') ∧ e = .returned v ∧ FrNew w w' v f ∧ RdIs w' R s' 0) ∨
    (∃ x v s', x ≠ 0 ∧ rFrame (toL s) = .error x ∧ e = .returned v ∧ Shape v ∧ RdIs w' R s' x))
def zer7 : List Value := [.int .i64 0, .int .i64 0, .int .i64 0, .bool false, .int .i64 0, .string ⟨#[]⟩, .slice none 0 0]
/-- Where the reader is: its cells, the result's, the frame's. -/
structure FrS (w W : World) (R C T : Nat) (s : ByteArray) (x : Int) (vs : List Value) : Prop where
  rd : RdIs W R s x
  c : Lies W C zer7
  t : Lies W T vs
  kept : Kept (fun k => k = R) w W
  ct : C ≠ T
  cr : C ≠ R
  tr : T ≠ R
  hc : w.heap.size ≤ C
  ht : w.heap.size ≤ T
theorem Kept.setNew {F : Nat → Prop} {a b : World} (h : Kept F a b) (p : Addr) (hp : a.heap.size ≤ p.block) (v : Value) : Kept F a (b.setCell p v) :=
  ⟨h.os, h.tape, h.output, by simpa using h.size, fun k hk hf => (Below.heap_setCell _ _ _ _ (by omega)).trans (h.block k hk hf)⟩
theorem FrS.call {w W W' : World} {R C T : Nat} {s s' : ByteArray} {x x' : Int} {vs : List Value} (h : FrS w W R C T s x vs) (k : Kept (fun k => k = R) W W') (r : RdIs W' R s' x') (hv : 0 < vs.length) : FrS w W' R C T s' x' vs :=
  ⟨r, h.c.of_block (k.block C (h.c.lt (by show 0 < 7; decide)) h.cr), h.t.of_block (k.block T (h.t.lt hv) h.tr), ⟨k.os.trans h.kept.os, k.tape.trans h.kept.tape, k.output.trans h.kept.output, Nat.le_trans h.kept.size k.size, fun q hq hf => (k.block q (Nat.lt_of_lt_of_le hq h.kept.size) hf).trans (h.kept.block q hq hf)⟩, h.ct, h.cr, h.tr, h.hc, h.ht⟩
theorem FrS.put {w W : World} {R C T : Nat} {s : ByteArray} {x : Int} {vs : List Value} (h : FrS w W R C T s x vs) (j : Nat) (hj : j < vs.length) (v : Value) : FrS w (W.setCell ⟨T, j, none⟩ v) R C T s x (vs.set j v) :=
  ⟨h.rd.of_block (Below.heap_setCell _ _ _ _ h.tr.symm), h.c.of_block (Below.heap_setCell _ _ _ _ h.ct), h.t.put j hj v, h.kept.setNew ⟨T, j, none⟩ h.ht v, h.ct, h.cr, h.tr, h.hc, h.ht⟩
theorem FrS.err {w W : World} {R C T : Nat} {s : ByteArray} {x : Int} {vs : List Value} (h : FrS w W R C T s x vs) (y : Int) : FrS w (W.setCell ⟨R, 1, none⟩ (.int .i64 y)) R C T s y vs :=
  ⟨h.rd.put 1 (by show 1 < 2; decide) (.int .i64 y), h.c.of_block (Below.heap_setCell _ _ _ _ h.cr), h.t.of_block (Below.heap_setCell _ _ _ _ h.tr), keptR _ _ _ _ h.kept, h.ct, h.cr, h.tr, h.hc, h.ht⟩
theorem set7 {w W : World} {R C T : Nat} {s : ByteArray} {x : Int} {vs : List Value} (h : FrS w W R C T s x vs) (a b c d e f g : Value) :
    Hid (Kept (fun k => k = R) w (((((((W.setCell ⟨C, 0, none⟩ a).setCell ⟨C, 1, none⟩ b).setCell ⟨C, 2, none⟩ c).setCell ⟨C, 3, none⟩ d).setCell ⟨C, 4, none⟩ e).setCell ⟨C, 5, none⟩ f).setCell ⟨C, 6, none⟩ g) ∧ RdIs (((((((W.setCell ⟨C, 0, none⟩ a).setCell ⟨C, 1, none⟩ b).setCell ⟨C, 2, none⟩ c).setCell ⟨C, 3, none⟩ d).setCell ⟨C, 4, none⟩ e).setCell ⟨C, 5, none⟩ f).setCell ⟨C, 6, none⟩ g) R s x ∧
      ∀ k, k ≠ C → (((((((W.setCell ⟨C, 0, none⟩ a).setCell ⟨C, 1, none⟩ b).setCell ⟨C, 2, none⟩ c).setCell ⟨C, 3, none⟩ d).setCell ⟨C, 4, none⟩ e).setCell ⟨C, 5, none⟩ f).setCell ⟨C, 6, none⟩ g).heap[k]? = W.heap[k]?) := by
  have hk : ∀ k, k ≠ C → (((((((W.setCell ⟨C, 0, none⟩ a).setCell ⟨C, 1, none⟩ b).setCell ⟨C, 2, none⟩ c).setCell ⟨C, 3, none⟩ d).setCell ⟨C, 4, none⟩ e).setCell ⟨C, 5, none⟩ f).setCell ⟨C, 6, none⟩ g).heap[k]? = W.heap[k]? := fun k hk =>
    (Below.heap_setCell _ _ _ _ hk).trans ((Below.heap_setCell _ _ _ _ hk).trans ((Below.heap_setCell _ _ _ _ hk).trans ((Below.heap_setCell _ _ _ _ hk).trans ((Below.heap_setCell _ _ _ _ hk).trans ((Below.heap_setCell _ _ _ _ hk).trans (Below.heap_setCell _ _ _ _ hk))))))
  refine ⟨?_, h.rd.of_block (hk R h.cr.symm), hk⟩
  have n : ∀ j, w.heap.size ≤ (⟨C, j, none⟩ : Addr).block := fun _ => h.hc
  exact ((((((h.kept.setNew _ (n 0) _).setNew _ (n 1) _).setNew _ (n 2) _).setNew _ (n 3) _).setNew _ (n 4) _).setNew _ (n 5) _).setNew _ (n 6) _
theorem text_len {s s' : ByteArray} {x x' : Int} {d : L} (h : Stp rText s x d s' x') (hx : x' = 0) (hs : s.size ≤ 4611686018427387903) : d.length < 4611686018427387904 := by
  rcases h with ⟨-, h, -⟩ | ⟨-, -, h⟩ | ⟨h, h2⟩
  · have := text_back h
    rw [toL_len, toL_len, List.length_append] at this
    omega
  · exact absurd hx h
  · exact absurd (h2 ▸ hx) h
theorem ranges_len {s r : L} {l : List Rg} (h : rRanges s = .ok (l, r)) : l.length ≤ 16 := by
  unfold rRanges at h
  obtain ⟨n, t, -, h⟩ := bind_back h
  obtain ⟨u, t2, h1, h⟩ := bind_back h
  have h2 := (test_back h1).1
  have h3 := (many_back n h).1
  split at h2 <;> omega
set_option maxHeartbeats 16000000 in
theorem rframe_ok (R : Nat) (s : ByteArray) (w : World) (h : RdIs w R s 0) (hs : s.size ≤ 4611686018427387903) :
    Calls Tryd.prog 36 #[.pointer (some ⟨R, 0, none⟩)] w fun e w' => AfterF w w' R s e := by
  have hR := h.lt (by show 0 < 2; decide)
  have bA : Below w.heap.size w (w.alloc (.cells #[.int .i64 0, .int .i64 0, .int .i64 0, .bool false, .int .i64 0, .string ⟨#[]⟩, .slice none 0 0] 24)) := (Below.refl _ _).alloc (Nat.le_refl _) _
  have LC : Hid (Lies (w.alloc (.cells #[.int .i64 0, .int .i64 0, .int .i64 0, .bool false, .int .i64 0, .string ⟨#[]⟩, .slice none 0 0] 24)) w.heap.size zer7) := Lies.new w zer7 24
  have NM : Hid (∀ _ : Unit, _) := fun _ => rnum_ok R s (w.alloc (.cells #[.int .i64 0, .int .i64 0, .int .i64 0, .bool false, .int .i64 0, .string ⟨#[]⟩, .slice none 0 0] 24)) (h.of_block (bA.block R hR)) (by omega)
  have KA : Hid (Kept (fun k => k = R) w (w.alloc (.cells #[.int .i64 0, .int .i64 0, .int .i64 0, .bool false, .int .i64 0, .string ⟨#[]⟩, .slice none 0 0] 24))) := .of _ bA
  clear h bA
  go_enter Tryd.func36, Tryd.ntmps36
  go_wp2_with fail
  refine (NM.out ()).mono ?_
  rintro e w1 ⟨k1, q⟩
  have K1 : Hid (Kept (fun k => k = R) w w1) := KA.out.trans ⟨k1.os, k1.tape, k1.output, k1.size, k1.block⟩
  have LC1 : Hid (Lies w1 w.heap.size zer7) := LC.out.of_block (k1.block _ (by simp) (by omega))
  have hC : w.heap.size < w1.heap.size := LC1.out.lt (by show 0 < 7; decide)
  clear NM k1 KA LC
  rcases q with ⟨n, s1, hn, rfl, r1⟩ | ⟨hn, rfl, r1⟩
  · have hz1 := size_of_int hn
    have b1 := (Below.refl w1.heap.size w1).alloc (Nat.le_refl _) (.cells #[.int .i64 n, .int .i64 0, .int .i64 0, .bool false, .int .i64 0, .string ⟨#[]⟩, .slice none 0 0] 24)
    have hRl := r1.lt (by show 0 < 2; decide)
    have F0 : Hid (FrS w (w1.alloc (.cells #[.int .i64 n, .int .i64 0, .int .i64 0, .bool false, .int .i64 0, .string ⟨#[]⟩, .slice none 0 0] 24)) R w.heap.size w1.heap.size s1 0 [.int .i64 n, .int .i64 0, .int .i64 0, .bool false, .int .i64 0, .string ⟨#[]⟩, .slice none 0 0]) := ⟨r1.of_block (b1.block R hRl), LC1.out.of_block (b1.block _ hC), Lies.new w1 [.int .i64 n, .int .i64 0, .int .i64 0, .bool false, .int .i64 0, .string ⟨#[]⟩, .slice none 0 0] 24, K1.out.add b1, by omega, by omega, by omega, Nat.le_refl _, by omega⟩
    have rc1 := r1.cell 1 (v := .int .i64 0) rfl
    have rf1 := r1.free 1 (by show 1 < 2; decide)
    clear b1
    cases hk : kindB n
    · have FE := frame_bad hn hk
      clear F0
      have LC2 : Lies (w1.setCell ⟨R, 1, none⟩ (.int .i64 5)) w.heap.size zer7 := LC1.out.of_block (Below.heap_setCell _ _ _ _ (by show w.heap.size ≠ R; omega))
      have r2 : RdIs (w1.setCell ⟨R, 1, none⟩ (.int .i64 5)) R s1 5 := r1.put 1 (by show 1 < 2; decide) (.int .i64 5)
      have b2 := (Below.refl (w1.setCell ⟨R, 1, none⟩ (.int .i64 5)).heap.size (w1.setCell ⟨R, 1, none⟩ (.int .i64 5))).alloc (Nat.le_refl _) (.cells #[.int .i64 n, .int .i64 0, .int .i64 0, .bool false, .int .i64 0, .string ⟨#[]⟩, .slice none 0 0] 24)
      have z2 : (w1.setCell ⟨R, 1, none⟩ (.int .i64 5)).heap.size = w1.heap.size := by simp
      have F0 : Hid (FrS w ((w1.setCell ⟨R, 1, none⟩ (.int .i64 5)).alloc (.cells #[.int .i64 n, .int .i64 0, .int .i64 0, .bool false, .int .i64 0, .string ⟨#[]⟩, .slice none 0 0] 24)) R w.heap.size w1.heap.size s1 5 [.int .i64 n, .int .i64 0, .int .i64 0, .bool false, .int .i64 0, .string ⟨#[]⟩, .slice none 0 0]) := ⟨r2.of_block (b2.block R (by omega)), LC2.of_block (b2.block _ (by omega)), z2 ▸ Lies.new (w1.setCell ⟨R, 1, none⟩ (.int .i64 5)) [.int .i64 n, .int .i64 0, .int .i64 0, .bool false, .int .i64 0, .string ⟨#[]⟩, .slice none 0 0] 24, (keptR _ _ _ _ K1.out).add b2, by omega, by omega, by omega, Nat.le_refl _, by omega⟩
      have rc2 := r2.cell 1 (v := .int .i64 5) rfl
      replace FE : Hid _ := FE
      clear LC2 r2 b2 z2
      by_cases q48 : 48 < n
      · have g48 : decide ((48 : Int) < n) = true := decide_eq_true q48
        clear hk hn
        go_upto_region 6 with fail
        obtain ⟨T, hT⟩ : ∃ T, T = w1.heap.size := ⟨_, rfl⟩
        rw [← hT] at F0 ⊢
        clear hT
        generalize (w1.setCell ⟨R, 1, none⟩ (.int .i64 5)).alloc (.cells #[.int .i64 n, .int .i64 0, .int .i64 0, .bool false, .int .i64 0, .string ⟨#[]⟩, .slice none 0 0] 24) = W at F0 ⊢
        have hCT := F0.out.ct
        have hTC := F0.out.ct.symm
        have uc0 := F0.out.t.cell 0 (v := .int .i64 n) rfl
        have uc1 := F0.out.t.cell 1 (v := .int .i64 0) rfl
        have uc2 := F0.out.t.cell 2 (v := .int .i64 0) rfl
        have uc3 := F0.out.t.cell 3 (v := .bool false) rfl
        have uc4 := F0.out.t.cell 4 (v := .int .i64 0) rfl
        have uc5 := F0.out.t.cell 5 (v := .string ⟨#[]⟩) rfl
        have uc6 := F0.out.t.cell 6 (v := .slice none 0 0) rfl
        have cc0 := F0.out.c.cell 0 (v := .int .i64 0) rfl
        have cf0 := F0.out.c.free 0 (by show 0 < 7; decide)
        have cc1 := F0.out.c.cell 1 (v := .int .i64 0) rfl
        have cf1 := F0.out.c.free 1 (by show 1 < 7; decide)
        have cc2 := F0.out.c.cell 2 (v := .int .i64 0) rfl
        have cf2 := F0.out.c.free 2 (by show 2 < 7; decide)
        have cc3 := F0.out.c.cell 3 (v := .bool false) rfl
        have cf3 := F0.out.c.free 3 (by show 3 < 7; decide)
        have cc4 := F0.out.c.cell 4 (v := .int .i64 0) rfl
        have cf4 := F0.out.c.free 4 (by show 4 < 7; decide)
        have cc5 := F0.out.c.cell 5 (v := .string ⟨#[]⟩) rfl
        have cf5 := F0.out.c.free 5 (by show 5 < 7; decide)
        have cc6 := F0.out.c.cell 6 (v := .slice none 0 0) rfl
        have cf6 := F0.out.c.free 6 (by show 6 < 7; decide)
        have S7 := set7 F0.out (.int .i64 n) (.int .i64 0) (.int .i64 0) (.bool false) (.int .i64 0) (.string ⟨#[]⟩) (.slice none 0 0)
        have L7 := (((((((F0.out.c.put 0 (by show 0 < 7; decide) (.int .i64 n)).put 1 (by show 1 < 7; decide) (.int .i64 0)).put 2 (by show 2 < 7; decide) (.int .i64 0)).put 3 (by show 3 < 7; decide) (.bool false)).put 4 (by show 4 < 7; decide) (.int .i64 0)).put 5 (by show 5 < 7; decide) (.string ⟨#[]⟩)).put 6 (by show 6 < 7; decide) (.slice none 0 0))
        have r70 := L7.cell 0 (v := .int .i64 n) rfl
        have r71 := L7.cell 1 (v := .int .i64 0) rfl
        have r72 := L7.cell 2 (v := .int .i64 0) rfl
        have r73 := L7.cell 3 (v := .bool false) rfl
        have r74 := L7.cell 4 (v := .int .i64 0) rfl
        have r75 := L7.cell 5 (v := .string ⟨#[]⟩) rfl
        have r76 := L7.cell 6 (v := .slice none 0 0) rfl
        clear L7
        go_wp2_with fail
        refine bodyPost_ret (v := .agg #[.int .i64 n, .int .i64 0, .int .i64 0, .bool false, .int .i64 0, .string ⟨#[]⟩, .slice none 0 0]) (by simp [results, Tryd.results36, go_sem, r70, r71, r72, r73, r74, r75, r76]) rfl ?_
        obtain ⟨S1, S2, S3⟩ := S7.out
        exact ⟨S1, .inr ⟨5, _, _, by decide, FE.out, rfl, ⟨_, _, _, _, _, _, _, _, _, rfl⟩, S2⟩⟩
      · have g48 : decide ((48 : Int) < n) = false := decide_eq_false q48
        have KN : Hid (∀ w, Calls Tryd.prog 26 #[.int .i64 n] w fun e w' => e = .returned (.bool false) ∧ w = w') := fun w => by rw [← hk]; exact rkind_ok n w
        clear hk hn
        go_wp2_with fail
        refine (KN.out _).mono ?_
        rintro _ _ ⟨rfl, rfl⟩
        go_upto_region 6 with fail
        obtain ⟨T, hT⟩ : ∃ T, T = w1.heap.size := ⟨_, rfl⟩
        rw [← hT] at F0 ⊢
        clear hT
        generalize (w1.setCell ⟨R, 1, none⟩ (.int .i64 5)).alloc (.cells #[.int .i64 n, .int .i64 0, .int .i64 0, .bool false, .int .i64 0, .string ⟨#[]⟩, .slice none 0 0] 24) = W at F0 ⊢
        have hCT := F0.out.ct
        have hTC := F0.out.ct.symm
        have uc0 := F0.out.t.cell 0 (v := .int .i64 n) rfl
        have uc1 := F0.out.t.cell 1 (v := .int .i64 0) rfl
        have uc2 := F0.out.t.cell 2 (v := .int .i64 0) rfl
        have uc3 := F0.out.t.cell 3 (v := .bool false) rfl
        have uc4 := F0.out.t.cell 4 (v := .int .i64 0) rfl
        have uc5 := F0.out.t.cell 5 (v := .string ⟨#[]⟩) rfl
        have uc6 := F0.out.t.cell 6 (v := .slice none 0 0) rfl
        have cc0 := F0.out.c.cell 0 (v := .int .i64 0) rfl
        have cf0 := F0.out.c.free 0 (by show 0 < 7; decide)
        have cc1 := F0.out.c.cell 1 (v := .int .i64 0) rfl
        have cf1 := F0.out.c.free 1 (by show 1 < 7; decide)
        have cc2 := F0.out.c.cell 2 (v := .int .i64 0) rfl
        have cf2 := F0.out.c.free 2 (by show 2 < 7; decide)
        have cc3 := F0.out.c.cell 3 (v := .bool false) rfl
        have cf3 := F0.out.c.free 3 (by show 3 < 7; decide)
        have cc4 := F0.out.c.cell 4 (v := .int .i64 0) rfl
        have cf4 := F0.out.c.free 4 (by show 4 < 7; decide)
        have cc5 := F0.out.c.cell 5 (v := .string ⟨#[]⟩) rfl
        have cf5 := F0.out.c.free 5 (by show 5 < 7; decide)
        have cc6 := F0.out.c.cell 6 (v := .slice none 0 0) rfl
        have cf6 := F0.out.c.free 6 (by show 6 < 7; decide)
        have S7 := set7 F0.out (.int .i64 n) (.int .i64 0) (.int .i64 0) (.bool false) (.int .i64 0) (.string ⟨#[]⟩) (.slice none 0 0)
        have L7 := (((((((F0.out.c.put 0 (by show 0 < 7; decide) (.int .i64 n)).put 1 (by show 1 < 7; decide) (.int .i64 0)).put 2 (by show 2 < 7; decide) (.int .i64 0)).put 3 (by show 3 < 7; decide) (.bool false)).put 4 (by show 4 < 7; decide) (.int .i64 0)).put 5 (by show 5 < 7; decide) (.string ⟨#[]⟩)).put 6 (by show 6 < 7; decide) (.slice none 0 0))
        have r70 := L7.cell 0 (v := .int .i64 n) rfl
        have r71 := L7.cell 1 (v := .int .i64 0) rfl
        have r72 := L7.cell 2 (v := .int .i64 0) rfl
        have r73 := L7.cell 3 (v := .bool false) rfl
        have r74 := L7.cell 4 (v := .int .i64 0) rfl
        have r75 := L7.cell 5 (v := .string ⟨#[]⟩) rfl
        have r76 := L7.cell 6 (v := .slice none 0 0) rfl
        clear L7
        go_wp2_with fail
        refine bodyPost_ret (v := .agg #[.int .i64 n, .int .i64 0, .int .i64 0, .bool false, .int .i64 0, .string ⟨#[]⟩, .slice none 0 0]) (by simp [results, Tryd.results36, go_sem, r70, r71, r72, r73, r74, r75, r76]) rfl ?_
        obtain ⟨S1, S2, S3⟩ := S7.out
        exact ⟨S1, .inr ⟨5, _, _, by decide, FE.out, rfl, ⟨_, _, _, _, _, _, _, _, _, rfl⟩, S2⟩⟩
    · have hk8 := kind_iff.1 hk
      have KN : Hid (∀ w, Calls Tryd.prog 26 #[.int .i64 n] w fun e w' => e = .returned (.bool true) ∧ w = w') := fun w => by rw [← hk]; exact rkind_ok n w
      replace hn : Hid _ := hn
      replace hk : Hid _ := hk
      rcases hk8 with rfl | rfl | rfl | rfl | rfl | rfl | rfl | rfl
      · go_wp2_with fail
        refine (KN.out _).mono ?_
        rintro _ _ ⟨rfl, rfl⟩
        have FO := frame_of hn hk (fields0 (by decide) s1)
        have rc1' := F0.out.rd.cell 1 (v := .int .i64 0) rfl
        have rf1' := F0.out.rd.free 1 (by show 1 < 2; decide)
        have uc0 := F0.out.t.cell 0 (v := .int .i64 0) rfl
        have uc1 := F0.out.t.cell 1 (v := .int .i64 0) rfl
        have uc2 := F0.out.t.cell 2 (v := .int .i64 0) rfl
        have uc3 := F0.out.t.cell 3 (v := .bool false) rfl
        have uc4 := F0.out.t.cell 4 (v := .int .i64 0) rfl
        have uc5 := F0.out.t.cell 5 (v := .string ⟨#[]⟩) rfl
        have uc6 := F0.out.t.cell 6 (v := .slice none 0 0) rfl
        have hRC : ¬ (R = w.heap.size) := by omega
        have hCR' : ¬ (w.heap.size = R) := by omega
        have hCT := F0.out.ct
        have hTC := F0.out.ct.symm
        have hTR := F0.out.tr
        have hRT := F0.out.tr.symm
        have hx : (0 : Int) = 0 := rfl
        have IS : FrIs (w1.alloc (.cells #[.int .i64 0, .int .i64 0, .int .i64 0, .bool false, .int .i64 0, .string ⟨#[]⟩, .slice none 0 0] 24)) (.agg #[.int .i64 0, .int .i64 0, .int .i64 0, .bool false, .int .i64 0, .string ⟨#[]⟩, .slice none 0 0]) ⟨0, 0, 0, false, 0, [], []⟩ := ⟨⟨#[]⟩, _, _, rfl, rfl, rgAt_nil _⟩
        have CK : Hid (Calls Tryd.prog 10 #[.agg #[.int .i64 0, .int .i64 0, .int .i64 0, .bool false, .int .i64 0, .string ⟨#[]⟩, .slice none 0 0]] (w1.alloc (.cells #[.int .i64 0, .int .i64 0, .int .i64 0, .bool false, .int .i64 0, .string ⟨#[]⟩, .slice none 0 0] 24)) fun e w' => e = .returned (.int .i64 (chkF ⟨0, 0, 0, false, 0, [], []⟩)) ∧ Below ((w1.alloc (.cells #[.int .i64 0, .int .i64 0, .int .i64 0, .bool false, .int .i64 0, .string ⟨#[]⟩, .slice none 0 0] 24))).heap.size ((w1.alloc (.cells #[.int .i64 0, .int .i64 0, .int .i64 0, .bool false, .int .i64 0, .string ⟨#[]⟩, .slice none 0 0] 24))) w') := rchkF_ok IS (by show 0 < _; decide) (by show 0 < _; decide)
        go_wp2_with fail
        refine CK.out.mono ?_
        rintro _ W8 ⟨rfl, b8⟩
        have F8 : Hid (FrS w W8 R w.heap.size w1.heap.size s1 0 [.int .i64 0, .int .i64 0, .int .i64 0, .bool false, .int .i64 0, .string ⟨#[]⟩, .slice none 0 0]) := F0.out.call (Kept.of _ b8) (F0.out.rd.of_block (b8.block R (F0.out.rd.lt (by show 0 < 2; decide)))) (by show 0 < 7; decide)
        have IS8 := IS.keep b8
        have g1 := F8.out.rd.cell 1 (v := .int .i64 0) rfl
        have g2 := F8.out.rd.free 1 (by show 1 < 2; decide)
        obtain ⟨y, hy⟩ : ∃ y, chkF ⟨0, 0, 0, false, 0, [], []⟩ = y := ⟨_, rfl⟩
        rw [hy] at FO ⊢
        clear hy
        have F9 : Hid (FrS w (W8.setCell ⟨R, 1, none⟩ (.int .i64 y)) R w.heap.size w1.heap.size s1 y [.int .i64 0, .int .i64 0, .int .i64 0, .bool false, .int .i64 0, .string ⟨#[]⟩, .slice none 0 0]) := F8.out.err y
        have vc0 := F9.out.t.cell 0 (v := .int .i64 0) rfl
        have vc1 := F9.out.t.cell 1 (v := .int .i64 0) rfl
        have vc2 := F9.out.t.cell 2 (v := .int .i64 0) rfl
        have vc3 := F9.out.t.cell 3 (v := .bool false) rfl
        have vc4 := F9.out.t.cell 4 (v := .int .i64 0) rfl
        have vc5 := F9.out.t.cell 5 (v := .string ⟨#[]⟩) rfl
        have vc6 := F9.out.t.cell 6 (v := .slice none 0 0) rfl
        have cc0 := F9.out.c.cell 0 (v := .int .i64 0) rfl
        have cf0 := F9.out.c.free 0 (by show 0 < 7; decide)
        have cc1 := F9.out.c.cell 1 (v := .int .i64 0) rfl
        have cf1 := F9.out.c.free 1 (by show 1 < 7; decide)
        have cc2 := F9.out.c.cell 2 (v := .int .i64 0) rfl
        have cf2 := F9.out.c.free 2 (by show 2 < 7; decide)
        have cc3 := F9.out.c.cell 3 (v := .bool false) rfl
        have cf3 := F9.out.c.free 3 (by show 3 < 7; decide)
        have cc4 := F9.out.c.cell 4 (v := .int .i64 0) rfl
        have cf4 := F9.out.c.free 4 (by show 4 < 7; decide)
        have cc5 := F9.out.c.cell 5 (v := .string ⟨#[]⟩) rfl
        have cf5 := F9.out.c.free 5 (by show 5 < 7; decide)
        have cc6 := F9.out.c.cell 6 (v := .slice none 0 0) rfl
        have cf6 := F9.out.c.free 6 (by show 6 < 7; decide)
        have S7 := set7 F9.out (.int .i64 0) (.int .i64 0) (.int .i64 0) (.bool false) (.int .i64 0) (.string ⟨#[]⟩) (.slice none 0 0)
        replace FO : Hid _ := FO
        replace IS8 : Hid _ := IS8
        replace hx : Hid _ := hx
        clear rc1' rf1' rc1 rf1 LC1 K1 r1 uc0 uc1 uc2 uc3 uc4 uc5 uc6 IS CK b8 F8
        have L7 := (((((((F9.out.c.put 0 (by show 0 < 7; decide) (.int .i64 0)).put 1 (by show 1 < 7; decide) (.int .i64 0)).put 2 (by show 2 < 7; decide) (.int .i64 0)).put 3 (by show 3 < 7; decide) (.bool false)).put 4 (by show 4 < 7; decide) (.int .i64 0)).put 5 (by show 5 < 7; decide) (.string ⟨#[]⟩)).put 6 (by show 6 < 7; decide) (.slice none 0 0))
        have r70 := L7.cell 0 (v := .int .i64 0) rfl
        have r71 := L7.cell 1 (v := .int .i64 0) rfl
        have r72 := L7.cell 2 (v := .int .i64 0) rfl
        have r73 := L7.cell 3 (v := .bool false) rfl
        have r74 := L7.cell 4 (v := .int .i64 0) rfl
        have r75 := L7.cell 5 (v := .string ⟨#[]⟩) rfl
        have r76 := L7.cell 6 (v := .slice none 0 0) rfl
        clear L7
        go_wp2_with fail
        refine bodyPost_ret (v := .agg #[.int .i64 0, .int .i64 0, .int .i64 0, .bool false, .int .i64 0, .string ⟨#[]⟩, .slice none 0 0]) (by simp [results, Tryd.results36, go_sem, r70, r71, r72, r73, r74, r75, r76]) rfl ?_
        obtain ⟨S1, S2, S3⟩ := S7.out
        refine ⟨S1, ?_⟩
        by_cases hy : y = 0
        · subst hy
          exact .inl ⟨_, _, _, FO.out.2.1 hx.out rfl, rfl, ⟨_, _, _, rfl, rfl, rgAt_nil _, fun p hp => by cases hp⟩, S2⟩
        · exact .inr ⟨y, _, _, hy, FO.out.2.2 hx.out hy, rfl, ⟨_, _, _, _, _, _, _, _, _, rfl⟩, S2⟩
      · go_wp2_with fail
        refine (KN.out _).mono ?_
        rintro _ _ ⟨rfl, rfl⟩
        have FO := frame_of hn hk (fields0 (by decide) s1)
        have rc1' := F0.out.rd.cell 1 (v := .int .i64 0) rfl
        have rf1' := F0.out.rd.free 1 (by show 1 < 2; decide)
        have uc0 := F0.out.t.cell 0 (v := .int .i64 1) rfl
        have uc1 := F0.out.t.cell 1 (v := .int .i64 0) rfl
        have uc2 := F0.out.t.cell 2 (v := .int .i64 0) rfl
        have uc3 := F0.out.t.cell 3 (v := .bool false) rfl
        have uc4 := F0.out.t.cell 4 (v := .int .i64 0) rfl
        have uc5 := F0.out.t.cell 5 (v := .string ⟨#[]⟩) rfl
        have uc6 := F0.out.t.cell 6 (v := .slice none 0 0) rfl
        have hRC : ¬ (R = w.heap.size) := by omega
        have hCR' : ¬ (w.heap.size = R) := by omega
        have hCT := F0.out.ct
        have hTC := F0.out.ct.symm
        have hTR := F0.out.tr
        have hRT := F0.out.tr.symm
        have hx : (0 : Int) = 0 := rfl
        have IS : FrIs (w1.alloc (.cells #[.int .i64 1, .int .i64 0, .int .i64 0, .bool false, .int .i64 0, .string ⟨#[]⟩, .slice none 0 0] 24)) (.agg #[.int .i64 1, .int .i64 0, .int .i64 0, .bool false, .int .i64 0, .string ⟨#[]⟩, .slice none 0 0]) ⟨1, 0, 0, false, 0, [], []⟩ := ⟨⟨#[]⟩, _, _, rfl, rfl, rgAt_nil _⟩
        have CK : Hid (Calls Tryd.prog 10 #[.agg #[.int .i64 1, .int .i64 0, .int .i64 0, .bool false, .int .i64 0, .string ⟨#[]⟩, .slice none 0 0]] (w1.alloc (.cells #[.int .i64 1, .int .i64 0, .int .i64 0, .bool false, .int .i64 0, .string ⟨#[]⟩, .slice none 0 0] 24)) fun e w' => e = .returned (.int .i64 (chkF ⟨1, 0, 0, false, 0, [], []⟩)) ∧ Below ((w1.alloc (.cells #[.int .i64 1, .int .i64 0, .int .i64 0, .bool false, .int .i64 0, .string ⟨#[]⟩, .slice none 0 0] 24))).heap.size ((w1.alloc (.cells #[.int .i64 1, .int .i64 0, .int .i64 0, .bool false, .int .i64 0, .string ⟨#[]⟩, .slice none 0 0] 24))) w') := rchkF_ok IS (by show 0 < _; decide) (by show 0 < _; decide)
        go_wp2_with fail
        refine CK.out.mono ?_
        rintro _ W8 ⟨rfl, b8⟩
        have F8 : Hid (FrS w W8 R w.heap.size w1.heap.size s1 0 [.int .i64 1, .int .i64 0, .int .i64 0, .bool false, .int .i64 0, .string ⟨#[]⟩, .slice none 0 0]) := F0.out.call (Kept.of _ b8) (F0.out.rd.of_block (b8.block R (F0.out.rd.lt (by show 0 < 2; decide)))) (by show 0 < 7; decide)
        have IS8 := IS.keep b8
        have g1 := F8.out.rd.cell 1 (v := .int .i64 0) rfl
        have g2 := F8.out.rd.free 1 (by show 1 < 2; decide)
        obtain ⟨y, hy⟩ : ∃ y, chkF ⟨1, 0, 0, false, 0, [], []⟩ = y := ⟨_, rfl⟩
        rw [hy] at FO ⊢
        clear hy
        have F9 : Hid (FrS w (W8.setCell ⟨R, 1, none⟩ (.int .i64 y)) R w.heap.size w1.heap.size s1 y [.int .i64 1, .int .i64 0, .int .i64 0, .bool false, .int .i64 0, .string ⟨#[]⟩, .slice none 0 0]) := F8.out.err y
        have vc0 := F9.out.t.cell 0 (v := .int .i64 1) rfl
        have vc1 := F9.out.t.cell 1 (v := .int .i64 0) rfl
        have vc2 := F9.out.t.cell 2 (v := .int .i64 0) rfl
        have vc3 := F9.out.t.cell 3 (v := .bool false) rfl
        have vc4 := F9.out.t.cell 4 (v := .int .i64 0) rfl
        have vc5 := F9.out.t.cell 5 (v := .string ⟨#[]⟩) rfl
        have vc6 := F9.out.t.cell 6 (v := .slice none 0 0) rfl
        have cc0 := F9.out.c.cell 0 (v := .int .i64 0) rfl
        have cf0 := F9.out.c.free 0 (by show 0 < 7; decide)
        have cc1 := F9.out.c.cell 1 (v := .int .i64 0) rfl
        have cf1 := F9.out.c.free 1 (by show 1 < 7; decide)
        have cc2 := F9.out.c.cell 2 (v := .int .i64 0) rfl
        have cf2 := F9.out.c.free 2 (by show 2 < 7; decide)
        have cc3 := F9.out.c.cell 3 (v := .bool false) rfl
        have cf3 := F9.out.c.free 3 (by show 3 < 7; decide)
        have cc4 := F9.out.c.cell 4 (v := .int .i64 0) rfl
        have cf4 := F9.out.c.free 4 (by show 4 < 7; decide)
        have cc5 := F9.out.c.cell 5 (v := .string ⟨#[]⟩) rfl
        have cf5 := F9.out.c.free 5 (by show 5 < 7; decide)
        have cc6 := F9.out.c.cell 6 (v := .slice none 0 0) rfl
        have cf6 := F9.out.c.free 6 (by show 6 < 7; decide)
        have S7 := set7 F9.out (.int .i64 1) (.int .i64 0) (.int .i64 0) (.bool false) (.int .i64 0) (.string ⟨#[]⟩) (.slice none 0 0)
        replace FO : Hid _ := FO
        replace IS8 : Hid _ := IS8
        replace hx : Hid _ := hx
        clear rc1' rf1' rc1 rf1 LC1 K1 r1 uc0 uc1 uc2 uc3 uc4 uc5 uc6 IS CK b8 F8
        have L7 := (((((((F9.out.c.put 0 (by show 0 < 7; decide) (.int .i64 1)).put 1 (by show 1 < 7; decide) (.int .i64 0)).put 2 (by show 2 < 7; decide) (.int .i64 0)).put 3 (by show 3 < 7; decide) (.bool false)).put 4 (by show 4 < 7; decide) (.int .i64 0)).put 5 (by show 5 < 7; decide) (.string ⟨#[]⟩)).put 6 (by show 6 < 7; decide) (.slice none 0 0))
        have r70 := L7.cell 0 (v := .int .i64 1) rfl
        have r71 := L7.cell 1 (v := .int .i64 0) rfl
        have r72 := L7.cell 2 (v := .int .i64 0) rfl
        have r73 := L7.cell 3 (v := .bool false) rfl
        have r74 := L7.cell 4 (v := .int .i64 0) rfl
        have r75 := L7.cell 5 (v := .string ⟨#[]⟩) rfl
        have r76 := L7.cell 6 (v := .slice none 0 0) rfl
        clear L7
        go_wp2_with fail
        refine bodyPost_ret (v := .agg #[.int .i64 1, .int .i64 0, .int .i64 0, .bool false, .int .i64 0, .string ⟨#[]⟩, .slice none 0 0]) (by simp [results, Tryd.results36, go_sem, r70, r71, r72, r73, r74, r75, r76]) rfl ?_
        obtain ⟨S1, S2, S3⟩ := S7.out
        refine ⟨S1, ?_⟩
        by_cases hy : y = 0
        · subst hy
          exact .inl ⟨_, _, _, FO.out.2.1 hx.out rfl, rfl, ⟨_, _, _, rfl, rfl, rgAt_nil _, fun p hp => by cases hp⟩, S2⟩
        · exact .inr ⟨y, _, _, hy, FO.out.2.2 hx.out hy, rfl, ⟨_, _, _, _, _, _, _, _, _, rfl⟩, S2⟩
      · go_wp2_with fail
        refine (KN.out _).mono ?_
        rintro _ _ ⟨rfl, rfl⟩
        obtain ⟨T, hT⟩ : ∃ T, T = w1.heap.size := ⟨_, rfl⟩
        rw [← hT] at F0
        go_wp2_with fail
        rw [← hT]
        clear hT rc1 rf1 LC1 K1 r1
        generalize w1.alloc (.cells #[.int .i64 2, .int .i64 0, .int .i64 0, .bool false, .int .i64 0, .string ⟨#[]⟩, .slice none 0 0] 24) = W0 at F0 ⊢
        refine (rranges_ok R s1 _ F0.out.rd (by omega)).mono ?_
        rintro _ V1 ⟨kp1, ⟨l, s2, v, h1, rfl, own, rd1⟩ | ⟨x2, a, m, cp, s2, hx2, h1, rfl, rd1⟩⟩
        · obtain ⟨a, cp, rfl, -⟩ := own_rgAt own
          have hTl := F0.out.t.lt (by show 0 < 7; decide)
          have hCl := F0.out.c.lt (by show 0 < 7; decide)
          have hRl' := F0.out.rd.lt (by show 0 < 2; decide)
          have hl := ranges_len h1
          have hW0 := F0.out.kept.size
          have G1 : Hid (FrS w V1 R w.heap.size T s2 0 [.int .i64 2, .int .i64 0, .int .i64 0, .bool false, .int .i64 0, .string ⟨#[]⟩, .slice none 0 0]) := F0.out.call kp1 rd1 (by show 0 < 7; decide)
          have tc := G1.out.t.cell 6 (v := .slice none 0 0) rfl
          have tf := G1.out.t.free 6 (by show 6 < 7; decide)
          have F1 : Hid (FrS w (V1.setCell ⟨T, 6, none⟩ (.slice a l.length cp)) R w.heap.size T s2 0 [.int .i64 2, .int .i64 0, .int .i64 0, .bool false, .int .i64 0, .string ⟨#[]⟩, .slice a l.length cp]) := G1.out.put 6 (by show 6 < 7; decide) (.slice a l.length cp)
          have own1 : (V1.setCell ⟨T, 6, none⟩ (.slice a l.length cp)).ownsRow W0.heap.size 67 2 (.slice a l.length cp) l.length (rgs l) := rows_block own fun k hk => Below.heap_setCell _ _ _ _ (by have := (own.lt k hk).1; show k ≠ T; omega)
          have st1 : Hid (Stp rRanges s1 0 l s2 0) := .inl ⟨rfl, h1, rfl⟩
          have hx : (0 : Int) = 0 := rfl
          replace own : Hid _ := own
          clear rd1 kp1 G1 F0 h1
          have FO := frame_of hn hk (fields2 st1.out)
          have rc1 := F1.out.rd.cell 1 (v := .int .i64 0) rfl
          have rf1 := F1.out.rd.free 1 (by show 1 < 2; decide)
          have uc0 := F1.out.t.cell 0 (v := .int .i64 2) rfl
          have uc1 := F1.out.t.cell 1 (v := .int .i64 0) rfl
          have uc2 := F1.out.t.cell 2 (v := .int .i64 0) rfl
          have uc3 := F1.out.t.cell 3 (v := .bool false) rfl
          have uc4 := F1.out.t.cell 4 (v := .int .i64 0) rfl
          have uc5 := F1.out.t.cell 5 (v := .string ⟨#[]⟩) rfl
          have uc6 := F1.out.t.cell 6 (v := .slice a l.length cp) rfl
          have hRC : ¬ (R = w.heap.size) := by omega
          have hCR' : ¬ (w.heap.size = R) := by omega
          have hCT := F1.out.ct
          have hTC := F1.out.ct.symm
          have hTR := F1.out.tr
          have hRT := F1.out.tr.symm
          have gx : ((0 : Int) == 0) = true := rfl
          have IS : FrIs (V1.setCell ⟨T, 6, none⟩ (.slice a l.length cp)) (.agg #[.int .i64 2, .int .i64 0, .int .i64 0, .bool false, .int .i64 0, .string ⟨#[]⟩, .slice a l.length cp]) ⟨2, 0, 0, false, 0, [], l⟩ := ⟨⟨#[]⟩, _, _, rfl, rfl, own_rgAt own1⟩
          have CK : Hid (Calls Tryd.prog 10 #[.agg #[.int .i64 2, .int .i64 0, .int .i64 0, .bool false, .int .i64 0, .string ⟨#[]⟩, .slice a l.length cp]] (V1.setCell ⟨T, 6, none⟩ (.slice a l.length cp)) fun e w' => e = .returned (.int .i64 (chkF ⟨2, 0, 0, false, 0, [], l⟩)) ∧ Below ((V1.setCell ⟨T, 6, none⟩ (.slice a l.length cp))).heap.size ((V1.setCell ⟨T, 6, none⟩ (.slice a l.length cp))) w') := rchkF_ok IS (by show l.length < _; omega) (by show 0 < _; decide)
          go_wp2_with fail
          refine CK.out.mono ?_
          rintro _ W8 ⟨rfl, b8⟩
          have F8 : Hid (FrS w W8 R w.heap.size T s2 0 [.int .i64 2, .int .i64 0, .int .i64 0, .bool false, .int .i64 0, .string ⟨#[]⟩, .slice a l.length cp]) := F1.out.call (Kept.of _ b8) (F1.out.rd.of_block (b8.block R (F1.out.rd.lt (by show 0 < 2; decide)))) (by show 0 < 7; decide)
          have IS8 := IS.keep b8
          have own8 : Hid (W8.ownsRow W0.heap.size 67 2 (.slice a l.length cp) l.length (rgs l)) := rows_block own1 fun k hk => b8.block k (own1.lt k hk).2
          replace own1 : Hid _ := own1
          have g1 := F8.out.rd.cell 1 (v := .int .i64 0) rfl
          have g2 := F8.out.rd.free 1 (by show 1 < 2; decide)
          obtain ⟨y, hy⟩ : ∃ y, chkF ⟨2, 0, 0, false, 0, [], l⟩ = y := ⟨_, rfl⟩
          rw [hy] at FO ⊢
          clear hy
          have F9 : Hid (FrS w (W8.setCell ⟨R, 1, none⟩ (.int .i64 y)) R w.heap.size T s2 y [.int .i64 2, .int .i64 0, .int .i64 0, .bool false, .int .i64 0, .string ⟨#[]⟩, .slice a l.length cp]) := F8.out.err y
          have vc0 := F9.out.t.cell 0 (v := .int .i64 2) rfl
          have vc1 := F9.out.t.cell 1 (v := .int .i64 0) rfl
          have vc2 := F9.out.t.cell 2 (v := .int .i64 0) rfl
          have vc3 := F9.out.t.cell 3 (v := .bool false) rfl
          have vc4 := F9.out.t.cell 4 (v := .int .i64 0) rfl
          have vc5 := F9.out.t.cell 5 (v := .string ⟨#[]⟩) rfl
          have vc6 := F9.out.t.cell 6 (v := .slice a l.length cp) rfl
          have cc0 := F9.out.c.cell 0 (v := .int .i64 0) rfl
          have cf0 := F9.out.c.free 0 (by show 0 < 7; decide)
          have cc1 := F9.out.c.cell 1 (v := .int .i64 0) rfl
          have cf1 := F9.out.c.free 1 (by show 1 < 7; decide)
          have cc2 := F9.out.c.cell 2 (v := .int .i64 0) rfl
          have cf2 := F9.out.c.free 2 (by show 2 < 7; decide)
          have cc3 := F9.out.c.cell 3 (v := .bool false) rfl
          have cf3 := F9.out.c.free 3 (by show 3 < 7; decide)
          have cc4 := F9.out.c.cell 4 (v := .int .i64 0) rfl
          have cf4 := F9.out.c.free 4 (by show 4 < 7; decide)
          have cc5 := F9.out.c.cell 5 (v := .string ⟨#[]⟩) rfl
          have cf5 := F9.out.c.free 5 (by show 5 < 7; decide)
          have cc6 := F9.out.c.cell 6 (v := .slice none 0 0) rfl
          have cf6 := F9.out.c.free 6 (by show 6 < 7; decide)
          have S7 := set7 F9.out (.int .i64 2) (.int .i64 0) (.int .i64 0) (.bool false) (.int .i64 0) (.string ⟨#[]⟩) (.slice a l.length cp)
          replace FO : Hid _ := FO
          replace IS8 : Hid _ := IS8
          replace hx : Hid _ := hx
          clear rc1 rf1 gx uc0 uc1 uc2 uc3 uc4 uc5 uc6 IS CK b8 F8
          have L7 := (((((((F9.out.c.put 0 (by show 0 < 7; decide) (.int .i64 2)).put 1 (by show 1 < 7; decide) (.int .i64 0)).put 2 (by show 2 < 7; decide) (.int .i64 0)).put 3 (by show 3 < 7; decide) (.bool false)).put 4 (by show 4 < 7; decide) (.int .i64 0)).put 5 (by show 5 < 7; decide) (.string ⟨#[]⟩)).put 6 (by show 6 < 7; decide) (.slice a l.length cp))
          have r70 := L7.cell 0 (v := .int .i64 2) rfl
          have r71 := L7.cell 1 (v := .int .i64 0) rfl
          have r72 := L7.cell 2 (v := .int .i64 0) rfl
          have r73 := L7.cell 3 (v := .bool false) rfl
          have r74 := L7.cell 4 (v := .int .i64 0) rfl
          have r75 := L7.cell 5 (v := .string ⟨#[]⟩) rfl
          have r76 := L7.cell 6 (v := .slice a l.length cp) rfl
          clear L7
          go_wp2_with fail
          refine bodyPost_ret (v := .agg #[.int .i64 2, .int .i64 0, .int .i64 0, .bool false, .int .i64 0, .string ⟨#[]⟩, .slice a l.length cp]) (by simp [results, Tryd.results36, go_sem, r70, r71, r72, r73, r74, r75, r76]) rfl ?_
          obtain ⟨S1, S2, S3⟩ := S7.out
          refine ⟨S1, ?_⟩
          by_cases hy : y = 0
          · subst hy
            exact .inl ⟨_, _, _, FO.out.2.1 hx.out rfl, rfl, ⟨_, _, _, rfl, rfl, own_rgAt (rows_block own8.out fun k hk => (S3 k (by have := (own8.out.lt k hk).1; omega)).trans (Below.heap_setCell _ _ _ _ (by have := (own8.out.lt k hk).1; show k ≠ R; omega))), fun p hp => by subst hp; have := (own8.out.lt p.block rfl).1; omega⟩, S2⟩
          · exact .inr ⟨y, _, _, hy, FO.out.2.2 hx.out hy, rfl, ⟨_, _, _, _, _, _, _, _, _, rfl⟩, S2⟩
        · have G1 : Hid (FrS w V1 R w.heap.size T s2 x2 [.int .i64 2, .int .i64 0, .int .i64 0, .bool false, .int .i64 0, .string ⟨#[]⟩, .slice none 0 0]) := F0.out.call kp1 rd1 (by show 0 < 7; decide)
          have tc := G1.out.t.cell 6 (v := .slice none 0 0) rfl
          have tf := G1.out.t.free 6 (by show 6 < 7; decide)
          have F1 : Hid (FrS w (V1.setCell ⟨T, 6, none⟩ (.slice a m cp)) R w.heap.size T s2 x2 [.int .i64 2, .int .i64 0, .int .i64 0, .bool false, .int .i64 0, .string ⟨#[]⟩, .slice a m cp]) := G1.out.put 6 (by show 6 < 7; decide) (.slice a m cp)
          have st1 : Hid (Stp rRanges s1 0 [] s2 x2) := .inr (.inl ⟨rfl, h1, hx2⟩)
          have hx := hx2
          clear rd1 kp1 G1 F0 h1 hx2
          have FO := frame_of hn hk (fields2 st1.out)
          have rc1 := F1.out.rd.cell 1 (v := .int .i64 x2) rfl
          have rf1 := F1.out.rd.free 1 (by show 1 < 2; decide)
          have uc0 := F1.out.t.cell 0 (v := .int .i64 2) rfl
          have uc1 := F1.out.t.cell 1 (v := .int .i64 0) rfl
          have uc2 := F1.out.t.cell 2 (v := .int .i64 0) rfl
          have uc3 := F1.out.t.cell 3 (v := .bool false) rfl
          have uc4 := F1.out.t.cell 4 (v := .int .i64 0) rfl
          have uc5 := F1.out.t.cell 5 (v := .string ⟨#[]⟩) rfl
          have uc6 := F1.out.t.cell 6 (v := .slice a m cp) rfl
          have hRC : ¬ (R = w.heap.size) := by omega
          have hCR' : ¬ (w.heap.size = R) := by omega
          have hCT := F1.out.ct
          have hTC := F1.out.ct.symm
          have hTR := F1.out.tr
          have hRT := F1.out.tr.symm
          have gx : (x2 == 0) = false := by simp [hx]
          have cc0 := F1.out.c.cell 0 (v := .int .i64 0) rfl
          have cf0 := F1.out.c.free 0 (by show 0 < 7; decide)
          have cc1 := F1.out.c.cell 1 (v := .int .i64 0) rfl
          have cf1 := F1.out.c.free 1 (by show 1 < 7; decide)
          have cc2 := F1.out.c.cell 2 (v := .int .i64 0) rfl
          have cf2 := F1.out.c.free 2 (by show 2 < 7; decide)
          have cc3 := F1.out.c.cell 3 (v := .bool false) rfl
          have cf3 := F1.out.c.free 3 (by show 3 < 7; decide)
          have cc4 := F1.out.c.cell 4 (v := .int .i64 0) rfl
          have cf4 := F1.out.c.free 4 (by show 4 < 7; decide)
          have cc5 := F1.out.c.cell 5 (v := .string ⟨#[]⟩) rfl
          have cf5 := F1.out.c.free 5 (by show 5 < 7; decide)
          have cc6 := F1.out.c.cell 6 (v := .slice none 0 0) rfl
          have cf6 := F1.out.c.free 6 (by show 6 < 7; decide)
          have S7 := set7 F1.out (.int .i64 2) (.int .i64 0) (.int .i64 0) (.bool false) (.int .i64 0) (.string ⟨#[]⟩) (.slice a m cp)
          have L7 := (((((((F1.out.c.put 0 (by show 0 < 7; decide) (.int .i64 2)).put 1 (by show 1 < 7; decide) (.int .i64 0)).put 2 (by show 2 < 7; decide) (.int .i64 0)).put 3 (by show 3 < 7; decide) (.bool false)).put 4 (by show 4 < 7; decide) (.int .i64 0)).put 5 (by show 5 < 7; decide) (.string ⟨#[]⟩)).put 6 (by show 6 < 7; decide) (.slice a m cp))
          have r70 := L7.cell 0 (v := .int .i64 2) rfl
          have r71 := L7.cell 1 (v := .int .i64 0) rfl
          have r72 := L7.cell 2 (v := .int .i64 0) rfl
          have r73 := L7.cell 3 (v := .bool false) rfl
          have r74 := L7.cell 4 (v := .int .i64 0) rfl
          have r75 := L7.cell 5 (v := .string ⟨#[]⟩) rfl
          have r76 := L7.cell 6 (v := .slice a m cp) rfl
          clear L7
          replace FO : Hid _ := FO
          replace hx : Hid _ := hx
          go_wp2_with fail
          refine bodyPost_ret (v := .agg #[.int .i64 2, .int .i64 0, .int .i64 0, .bool false, .int .i64 0, .string ⟨#[]⟩, .slice a m cp]) (by simp [results, Tryd.results36, go_sem, r70, r71, r72, r73, r74, r75, r76]) rfl ?_
          obtain ⟨S1, S2, S3⟩ := S7.out
          exact ⟨S1, .inr ⟨x2, _, _, hx.out, FO.out.1 hx.out, rfl, ⟨_, _, _, _, _, _, _, _, _, rfl⟩, S2⟩⟩
      · go_wp2_with fail
        refine (KN.out _).mono ?_
        rintro _ _ ⟨rfl, rfl⟩
        obtain ⟨T, hT⟩ : ∃ T, T = w1.heap.size := ⟨_, rfl⟩
        rw [← hT] at F0
        go_wp2_with fail
        rw [← hT]
        clear hT rc1 rf1 LC1 K1 r1
        generalize w1.alloc (.cells #[.int .i64 4, .int .i64 0, .int .i64 0, .bool false, .int .i64 0, .string ⟨#[]⟩, .slice none 0 0] 24) = W0 at F0 ⊢
        refine (rnum_any R s1 0 _ F0.out.rd (by omega)).mono ?_
        rintro _ V1 ⟨i, s2, x2, rfl, rd1, st1, hz2, kp1⟩
        have G1 : Hid (FrS w V1 R w.heap.size T s2 x2 [.int .i64 4, .int .i64 0, .int .i64 0, .bool false, .int .i64 0, .string ⟨#[]⟩, .slice none 0 0]) := F0.out.call kp1 rd1 (by show 0 < 7; decide)
        have tc := G1.out.t.cell 1 (v := .int .i64 0) rfl
        have tf := G1.out.t.free 1 (by show 1 < 7; decide)
        have F1 : Hid (FrS w (V1.setCell ⟨T, 1, none⟩ (.int .i64 i)) R w.heap.size T s2 x2 [.int .i64 4, .int .i64 i, .int .i64 0, .bool false, .int .i64 0, .string ⟨#[]⟩, .slice none 0 0]) := G1.out.put 1 (by show 1 < 7; decide) (.int .i64 i)
        replace st1 : Hid (Stp rInt s1 0 i s2 x2) := st1
        clear rd1 kp1 G1 F0
        go_wp2_with fail
        clear tc tf
        refine (rnum_any R s2 x2 _ F1.out.rd (by omega)).mono ?_
        rintro _ V2 ⟨c, s3, x3, rfl, rd2, st2, hz3, kp2⟩
        have G2 : Hid (FrS w V2 R w.heap.size T s3 x3 [.int .i64 4, .int .i64 i, .int .i64 0, .bool false, .int .i64 0, .string ⟨#[]⟩, .slice none 0 0]) := F1.out.call kp2 rd2 (by show 0 < 7; decide)
        have tc := G2.out.t.cell 4 (v := .int .i64 0) rfl
        have tf := G2.out.t.free 4 (by show 4 < 7; decide)
        have F2 : Hid (FrS w (V2.setCell ⟨T, 4, none⟩ (.int .i64 c)) R w.heap.size T s3 x3 [.int .i64 4, .int .i64 i, .int .i64 0, .bool false, .int .i64 c, .string ⟨#[]⟩, .slice none 0 0]) := G2.out.put 4 (by show 4 < 7; decide) (.int .i64 c)
        replace st2 : Hid (Stp rInt s2 x2 c s3 x3) := st2
        clear rd2 kp2 G2 F1
        go_wp2_with fail
        clear tc tf
        refine (rnum_any R s3 x3 _ F2.out.rd (by omega)).mono ?_
        rintro _ V3 ⟨o, s4, x4, rfl, rd3, st3, hz4, kp3⟩
        have G3 : Hid (FrS w V3 R w.heap.size T s4 x4 [.int .i64 4, .int .i64 i, .int .i64 0, .bool false, .int .i64 c, .string ⟨#[]⟩, .slice none 0 0]) := F2.out.call kp3 rd3 (by show 0 < 7; decide)
        have tc := G3.out.t.cell 2 (v := .int .i64 0) rfl
        have tf := G3.out.t.free 2 (by show 2 < 7; decide)
        have F3 : Hid (FrS w (V3.setCell ⟨T, 2, none⟩ (.int .i64 o)) R w.heap.size T s4 x4 [.int .i64 4, .int .i64 i, .int .i64 o, .bool false, .int .i64 c, .string ⟨#[]⟩, .slice none 0 0]) := G3.out.put 2 (by show 2 < 7; decide) (.int .i64 o)
        replace st3 : Hid (Stp rInt s3 x3 o s4 x4) := st3
        clear rd3 kp3 G3 F2
        have FO := frame_of hn hk (fields4 st1.out st2.out st3.out)
        have rc1 := F3.out.rd.cell 1 (v := .int .i64 x4) rfl
        have rf1 := F3.out.rd.free 1 (by show 1 < 2; decide)
        have uc0 := F3.out.t.cell 0 (v := .int .i64 4) rfl
        have uc1 := F3.out.t.cell 1 (v := .int .i64 i) rfl
        have uc2 := F3.out.t.cell 2 (v := .int .i64 o) rfl
        have uc3 := F3.out.t.cell 3 (v := .bool false) rfl
        have uc4 := F3.out.t.cell 4 (v := .int .i64 c) rfl
        have uc5 := F3.out.t.cell 5 (v := .string ⟨#[]⟩) rfl
        have uc6 := F3.out.t.cell 6 (v := .slice none 0 0) rfl
        have hRC : ¬ (R = w.heap.size) := by omega
        have hCR' : ¬ (w.heap.size = R) := by omega
        have hCT := F3.out.ct
        have hTC := F3.out.ct.symm
        have hTR := F3.out.tr
        have hRT := F3.out.tr.symm
        by_cases hx : x4 = 0
        · have gx : (x4 == 0) = true := by simp [hx]
          have IS : FrIs (V3.setCell ⟨T, 2, none⟩ (.int .i64 o)) (.agg #[.int .i64 4, .int .i64 i, .int .i64 o, .bool false, .int .i64 c, .string ⟨#[]⟩, .slice none 0 0]) ⟨4, i, o, false, c, [], []⟩ := ⟨⟨#[]⟩, _, _, rfl, rfl, rgAt_nil _⟩
          have CK : Hid (Calls Tryd.prog 10 #[.agg #[.int .i64 4, .int .i64 i, .int .i64 o, .bool false, .int .i64 c, .string ⟨#[]⟩, .slice none 0 0]] (V3.setCell ⟨T, 2, none⟩ (.int .i64 o)) fun e w' => e = .returned (.int .i64 (chkF ⟨4, i, o, false, c, [], []⟩)) ∧ Below ((V3.setCell ⟨T, 2, none⟩ (.int .i64 o))).heap.size ((V3.setCell ⟨T, 2, none⟩ (.int .i64 o))) w') := rchkF_ok IS (by show 0 < _; decide) (by show 0 < _; decide)
          go_wp2_with fail
          refine CK.out.mono ?_
          rintro _ W8 ⟨rfl, b8⟩
          have F8 : Hid (FrS w W8 R w.heap.size T s4 x4 [.int .i64 4, .int .i64 i, .int .i64 o, .bool false, .int .i64 c, .string ⟨#[]⟩, .slice none 0 0]) := F3.out.call (Kept.of _ b8) (F3.out.rd.of_block (b8.block R (F3.out.rd.lt (by show 0 < 2; decide)))) (by show 0 < 7; decide)
          have IS8 := IS.keep b8
          have g1 := F8.out.rd.cell 1 (v := .int .i64 x4) rfl
          have g2 := F8.out.rd.free 1 (by show 1 < 2; decide)
          obtain ⟨y, hy⟩ : ∃ y, chkF ⟨4, i, o, false, c, [], []⟩ = y := ⟨_, rfl⟩
          rw [hy] at FO ⊢
          clear hy
          have F9 : Hid (FrS w (W8.setCell ⟨R, 1, none⟩ (.int .i64 y)) R w.heap.size T s4 y [.int .i64 4, .int .i64 i, .int .i64 o, .bool false, .int .i64 c, .string ⟨#[]⟩, .slice none 0 0]) := F8.out.err y
          have vc0 := F9.out.t.cell 0 (v := .int .i64 4) rfl
          have vc1 := F9.out.t.cell 1 (v := .int .i64 i) rfl
          have vc2 := F9.out.t.cell 2 (v := .int .i64 o) rfl
          have vc3 := F9.out.t.cell 3 (v := .bool false) rfl
          have vc4 := F9.out.t.cell 4 (v := .int .i64 c) rfl
          have vc5 := F9.out.t.cell 5 (v := .string ⟨#[]⟩) rfl
          have vc6 := F9.out.t.cell 6 (v := .slice none 0 0) rfl
          have cc0 := F9.out.c.cell 0 (v := .int .i64 0) rfl
          have cf0 := F9.out.c.free 0 (by show 0 < 7; decide)
          have cc1 := F9.out.c.cell 1 (v := .int .i64 0) rfl
          have cf1 := F9.out.c.free 1 (by show 1 < 7; decide)
          have cc2 := F9.out.c.cell 2 (v := .int .i64 0) rfl
          have cf2 := F9.out.c.free 2 (by show 2 < 7; decide)
          have cc3 := F9.out.c.cell 3 (v := .bool false) rfl
          have cf3 := F9.out.c.free 3 (by show 3 < 7; decide)
          have cc4 := F9.out.c.cell 4 (v := .int .i64 0) rfl
          have cf4 := F9.out.c.free 4 (by show 4 < 7; decide)
          have cc5 := F9.out.c.cell 5 (v := .string ⟨#[]⟩) rfl
          have cf5 := F9.out.c.free 5 (by show 5 < 7; decide)
          have cc6 := F9.out.c.cell 6 (v := .slice none 0 0) rfl
          have cf6 := F9.out.c.free 6 (by show 6 < 7; decide)
          have S7 := set7 F9.out (.int .i64 4) (.int .i64 i) (.int .i64 o) (.bool false) (.int .i64 c) (.string ⟨#[]⟩) (.slice none 0 0)
          replace FO : Hid _ := FO
          replace IS8 : Hid _ := IS8
          replace hx : Hid _ := hx
          clear rc1 rf1 gx uc0 uc1 uc2 uc3 uc4 uc5 uc6 IS CK b8 F8
          have L7 := (((((((F9.out.c.put 0 (by show 0 < 7; decide) (.int .i64 4)).put 1 (by show 1 < 7; decide) (.int .i64 i)).put 2 (by show 2 < 7; decide) (.int .i64 o)).put 3 (by show 3 < 7; decide) (.bool false)).put 4 (by show 4 < 7; decide) (.int .i64 c)).put 5 (by show 5 < 7; decide) (.string ⟨#[]⟩)).put 6 (by show 6 < 7; decide) (.slice none 0 0))
          have r70 := L7.cell 0 (v := .int .i64 4) rfl
          have r71 := L7.cell 1 (v := .int .i64 i) rfl
          have r72 := L7.cell 2 (v := .int .i64 o) rfl
          have r73 := L7.cell 3 (v := .bool false) rfl
          have r74 := L7.cell 4 (v := .int .i64 c) rfl
          have r75 := L7.cell 5 (v := .string ⟨#[]⟩) rfl
          have r76 := L7.cell 6 (v := .slice none 0 0) rfl
          clear L7
          go_wp2_with fail
          refine bodyPost_ret (v := .agg #[.int .i64 4, .int .i64 i, .int .i64 o, .bool false, .int .i64 c, .string ⟨#[]⟩, .slice none 0 0]) (by simp [results, Tryd.results36, go_sem, r70, r71, r72, r73, r74, r75, r76]) rfl ?_
          obtain ⟨S1, S2, S3⟩ := S7.out
          refine ⟨S1, ?_⟩
          by_cases hy : y = 0
          · subst hy
            exact .inl ⟨_, _, _, FO.out.2.1 hx.out rfl, rfl, ⟨_, _, _, rfl, rfl, rgAt_nil _, fun p hp => by cases hp⟩, S2⟩
          · exact .inr ⟨y, _, _, hy, FO.out.2.2 hx.out hy, rfl, ⟨_, _, _, _, _, _, _, _, _, rfl⟩, S2⟩
        · have gx : (x4 == 0) = false := by simp [hx]
          have cc0 := F3.out.c.cell 0 (v := .int .i64 0) rfl
          have cf0 := F3.out.c.free 0 (by show 0 < 7; decide)
          have cc1 := F3.out.c.cell 1 (v := .int .i64 0) rfl
          have cf1 := F3.out.c.free 1 (by show 1 < 7; decide)
          have cc2 := F3.out.c.cell 2 (v := .int .i64 0) rfl
          have cf2 := F3.out.c.free 2 (by show 2 < 7; decide)
          have cc3 := F3.out.c.cell 3 (v := .bool false) rfl
          have cf3 := F3.out.c.free 3 (by show 3 < 7; decide)
          have cc4 := F3.out.c.cell 4 (v := .int .i64 0) rfl
          have cf4 := F3.out.c.free 4 (by show 4 < 7; decide)
          have cc5 := F3.out.c.cell 5 (v := .string ⟨#[]⟩) rfl
          have cf5 := F3.out.c.free 5 (by show 5 < 7; decide)
          have cc6 := F3.out.c.cell 6 (v := .slice none 0 0) rfl
          have cf6 := F3.out.c.free 6 (by show 6 < 7; decide)
          have S7 := set7 F3.out (.int .i64 4) (.int .i64 i) (.int .i64 o) (.bool false) (.int .i64 c) (.string ⟨#[]⟩) (.slice none 0 0)
          have L7 := (((((((F3.out.c.put 0 (by show 0 < 7; decide) (.int .i64 4)).put 1 (by show 1 < 7; decide) (.int .i64 i)).put 2 (by show 2 < 7; decide) (.int .i64 o)).put 3 (by show 3 < 7; decide) (.bool false)).put 4 (by show 4 < 7; decide) (.int .i64 c)).put 5 (by show 5 < 7; decide) (.string ⟨#[]⟩)).put 6 (by show 6 < 7; decide) (.slice none 0 0))
          have r70 := L7.cell 0 (v := .int .i64 4) rfl
          have r71 := L7.cell 1 (v := .int .i64 i) rfl
          have r72 := L7.cell 2 (v := .int .i64 o) rfl
          have r73 := L7.cell 3 (v := .bool false) rfl
          have r74 := L7.cell 4 (v := .int .i64 c) rfl
          have r75 := L7.cell 5 (v := .string ⟨#[]⟩) rfl
          have r76 := L7.cell 6 (v := .slice none 0 0) rfl
          clear L7
          replace FO : Hid _ := FO
          replace hx : Hid _ := hx
          go_wp2_with fail
          refine bodyPost_ret (v := .agg #[.int .i64 4, .int .i64 i, .int .i64 o, .bool false, .int .i64 c, .string ⟨#[]⟩, .slice none 0 0]) (by simp [results, Tryd.results36, go_sem, r70, r71, r72, r73, r74, r75, r76]) rfl ?_
          obtain ⟨S1, S2, S3⟩ := S7.out
          exact ⟨S1, .inr ⟨x4, _, _, hx.out, FO.out.1 hx.out, rfl, ⟨_, _, _, _, _, _, _, _, _, rfl⟩, S2⟩⟩
      · go_wp2_with fail
        refine (KN.out _).mono ?_
        rintro _ _ ⟨rfl, rfl⟩
        obtain ⟨T, hT⟩ : ∃ T, T = w1.heap.size := ⟨_, rfl⟩
        rw [← hT] at F0
        go_wp2_with fail
        rw [← hT]
        clear hT rc1 rf1 LC1 K1 r1
        generalize w1.alloc (.cells #[.int .i64 8, .int .i64 0, .int .i64 0, .bool false, .int .i64 0, .string ⟨#[]⟩, .slice none 0 0] 24) = W0 at F0 ⊢
        refine (rnum_any R s1 0 _ F0.out.rd (by omega)).mono ?_
        rintro _ V1 ⟨i, s2, x2, rfl, rd1, st1, hz2, kp1⟩
        have G1 : Hid (FrS w V1 R w.heap.size T s2 x2 [.int .i64 8, .int .i64 0, .int .i64 0, .bool false, .int .i64 0, .string ⟨#[]⟩, .slice none 0 0]) := F0.out.call kp1 rd1 (by show 0 < 7; decide)
        have tc := G1.out.t.cell 1 (v := .int .i64 0) rfl
        have tf := G1.out.t.free 1 (by show 1 < 7; decide)
        have F1 : Hid (FrS w (V1.setCell ⟨T, 1, none⟩ (.int .i64 i)) R w.heap.size T s2 x2 [.int .i64 8, .int .i64 i, .int .i64 0, .bool false, .int .i64 0, .string ⟨#[]⟩, .slice none 0 0]) := G1.out.put 1 (by show 1 < 7; decide) (.int .i64 i)
        replace st1 : Hid (Stp rInt s1 0 i s2 x2) := st1
        clear rd1 kp1 G1 F0
        go_wp2_with fail
        clear tc tf
        refine (rnum_any R s2 x2 _ F1.out.rd (by omega)).mono ?_
        rintro _ V2 ⟨o, s3, x3, rfl, rd2, st2, hz3, kp2⟩
        have G2 : Hid (FrS w V2 R w.heap.size T s3 x3 [.int .i64 8, .int .i64 i, .int .i64 0, .bool false, .int .i64 0, .string ⟨#[]⟩, .slice none 0 0]) := F1.out.call kp2 rd2 (by show 0 < 7; decide)
        have tc := G2.out.t.cell 2 (v := .int .i64 0) rfl
        have tf := G2.out.t.free 2 (by show 2 < 7; decide)
        have F2 : Hid (FrS w (V2.setCell ⟨T, 2, none⟩ (.int .i64 o)) R w.heap.size T s3 x3 [.int .i64 8, .int .i64 i, .int .i64 o, .bool false, .int .i64 0, .string ⟨#[]⟩, .slice none 0 0]) := G2.out.put 2 (by show 2 < 7; decide) (.int .i64 o)
        replace st2 : Hid (Stp rInt s2 x2 o s3 x3) := st2
        clear rd2 kp2 G2 F1
        go_wp2_with fail
        clear tc tf
        refine (rfin_any R s3 x3 _ F2.out.rd (by omega)).mono ?_
        rintro _ V3 ⟨b, s4, x4, rfl, rd3, st3, hz4, kp3⟩
        have G3 : Hid (FrS w V3 R w.heap.size T s4 x4 [.int .i64 8, .int .i64 i, .int .i64 o, .bool false, .int .i64 0, .string ⟨#[]⟩, .slice none 0 0]) := F2.out.call kp3 rd3 (by show 0 < 7; decide)
        have tc := G3.out.t.cell 3 (v := .bool false) rfl
        have tf := G3.out.t.free 3 (by show 3 < 7; decide)
        have F3 : Hid (FrS w (V3.setCell ⟨T, 3, none⟩ (.bool b)) R w.heap.size T s4 x4 [.int .i64 8, .int .i64 i, .int .i64 o, .bool b, .int .i64 0, .string ⟨#[]⟩, .slice none 0 0]) := G3.out.put 3 (by show 3 < 7; decide) (.bool b)
        replace st3 : Hid (Stp rFin s3 x3 b s4 x4) := st3
        clear rd3 kp3 G3 F2
        go_wp2_with fail
        clear tc tf
        refine (rtext_any R s4 x4 _ F3.out.rd (by omega)).mono ?_
        rintro _ V4 ⟨d, s5, x5, rfl, rd4, st4, hz5, kp4⟩
        have G4 : Hid (FrS w V4 R w.heap.size T s5 x5 [.int .i64 8, .int .i64 i, .int .i64 o, .bool b, .int .i64 0, .string ⟨#[]⟩, .slice none 0 0]) := F3.out.call kp4 rd4 (by show 0 < 7; decide)
        have tc := G4.out.t.cell 5 (v := .string ⟨#[]⟩) rfl
        have tf := G4.out.t.free 5 (by show 5 < 7; decide)
        have F4 : Hid (FrS w (V4.setCell ⟨T, 5, none⟩ (.string d)) R w.heap.size T s5 x5 [.int .i64 8, .int .i64 i, .int .i64 o, .bool b, .int .i64 0, .string d, .slice none 0 0]) := G4.out.put 5 (by show 5 < 7; decide) (.string d)
        replace st4 : Hid (Stp rText s4 x4 (toL d) s5 x5) := st4
        clear rd4 kp4 G4 F3
        have FO := frame_of hn hk (fields8 st1.out st2.out st3.out st4.out)
        have rc1 := F4.out.rd.cell 1 (v := .int .i64 x5) rfl
        have rf1 := F4.out.rd.free 1 (by show 1 < 2; decide)
        have uc0 := F4.out.t.cell 0 (v := .int .i64 8) rfl
        have uc1 := F4.out.t.cell 1 (v := .int .i64 i) rfl
        have uc2 := F4.out.t.cell 2 (v := .int .i64 o) rfl
        have uc3 := F4.out.t.cell 3 (v := .bool b) rfl
        have uc4 := F4.out.t.cell 4 (v := .int .i64 0) rfl
        have uc5 := F4.out.t.cell 5 (v := .string d) rfl
        have uc6 := F4.out.t.cell 6 (v := .slice none 0 0) rfl
        have hRC : ¬ (R = w.heap.size) := by omega
        have hCR' : ¬ (w.heap.size = R) := by omega
        have hCT := F4.out.ct
        have hTC := F4.out.ct.symm
        have hTR := F4.out.tr
        have hRT := F4.out.tr.symm
        by_cases hx : x5 = 0
        · have gx : (x5 == 0) = true := by simp [hx]
          have IS : FrIs (V4.setCell ⟨T, 5, none⟩ (.string d)) (.agg #[.int .i64 8, .int .i64 i, .int .i64 o, .bool b, .int .i64 0, .string d, .slice none 0 0]) ⟨8, i, o, b, 0, toL d, []⟩ := ⟨d, _, _, rfl, rfl, rgAt_nil _⟩
          have CK : Hid (Calls Tryd.prog 10 #[.agg #[.int .i64 8, .int .i64 i, .int .i64 o, .bool b, .int .i64 0, .string d, .slice none 0 0]] (V4.setCell ⟨T, 5, none⟩ (.string d)) fun e w' => e = .returned (.int .i64 (chkF ⟨8, i, o, b, 0, toL d, []⟩)) ∧ Below ((V4.setCell ⟨T, 5, none⟩ (.string d))).heap.size ((V4.setCell ⟨T, 5, none⟩ (.string d))) w') := rchkF_ok IS (by show 0 < _; decide) (text_len st4.out hx (by omega))
          go_wp2_with fail
          refine CK.out.mono ?_
          rintro _ W8 ⟨rfl, b8⟩
          have F8 : Hid (FrS w W8 R w.heap.size T s5 x5 [.int .i64 8, .int .i64 i, .int .i64 o, .bool b, .int .i64 0, .string d, .slice none 0 0]) := F4.out.call (Kept.of _ b8) (F4.out.rd.of_block (b8.block R (F4.out.rd.lt (by show 0 < 2; decide)))) (by show 0 < 7; decide)
          have IS8 := IS.keep b8
          have g1 := F8.out.rd.cell 1 (v := .int .i64 x5) rfl
          have g2 := F8.out.rd.free 1 (by show 1 < 2; decide)
          obtain ⟨y, hy⟩ : ∃ y, chkF ⟨8, i, o, b, 0, toL d, []⟩ = y := ⟨_, rfl⟩
          rw [hy] at FO ⊢
          clear hy
          have F9 : Hid (FrS w (W8.setCell ⟨R, 1, none⟩ (.int .i64 y)) R w.heap.size T s5 y [.int .i64 8, .int .i64 i, .int .i64 o, .bool b, .int .i64 0, .string d, .slice none 0 0]) := F8.out.err y
          have vc0 := F9.out.t.cell 0 (v := .int .i64 8) rfl
          have vc1 := F9.out.t.cell 1 (v := .int .i64 i) rfl
          have vc2 := F9.out.t.cell 2 (v := .int .i64 o) rfl
          have vc3 := F9.out.t.cell 3 (v := .bool b) rfl
          have vc4 := F9.out.t.cell 4 (v := .int .i64 0) rfl
          have vc5 := F9.out.t.cell 5 (v := .string d) rfl
          have vc6 := F9.out.t.cell 6 (v := .slice none 0 0) rfl
          have cc0 := F9.out.c.cell 0 (v := .int .i64 0) rfl
          have cf0 := F9.out.c.free 0 (by show 0 < 7; decide)
          have cc1 := F9.out.c.cell 1 (v := .int .i64 0) rfl
          have cf1 := F9.out.c.free 1 (by show 1 < 7; decide)
          have cc2 := F9.out.c.cell 2 (v := .int .i64 0) rfl
          have cf2 := F9.out.c.free 2 (by show 2 < 7; decide)
          have cc3 := F9.out.c.cell 3 (v := .bool false) rfl
          have cf3 := F9.out.c.free 3 (by show 3 < 7; decide)
          have cc4 := F9.out.c.cell 4 (v := .int .i64 0) rfl
          have cf4 := F9.out.c.free 4 (by show 4 < 7; decide)
          have cc5 := F9.out.c.cell 5 (v := .string ⟨#[]⟩) rfl
          have cf5 := F9.out.c.free 5 (by show 5 < 7; decide)
          have cc6 := F9.out.c.cell 6 (v := .slice none 0 0) rfl
          have cf6 := F9.out.c.free 6 (by show 6 < 7; decide)
          have S7 := set7 F9.out (.int .i64 8) (.int .i64 i) (.int .i64 o) (.bool b) (.int .i64 0) (.string d) (.slice none 0 0)
          replace FO : Hid _ := FO
          replace IS8 : Hid _ := IS8
          replace hx : Hid _ := hx
          clear rc1 rf1 gx uc0 uc1 uc2 uc3 uc4 uc5 uc6 IS CK b8 F8
          have L7 := (((((((F9.out.c.put 0 (by show 0 < 7; decide) (.int .i64 8)).put 1 (by show 1 < 7; decide) (.int .i64 i)).put 2 (by show 2 < 7; decide) (.int .i64 o)).put 3 (by show 3 < 7; decide) (.bool b)).put 4 (by show 4 < 7; decide) (.int .i64 0)).put 5 (by show 5 < 7; decide) (.string d)).put 6 (by show 6 < 7; decide) (.slice none 0 0))
          have r70 := L7.cell 0 (v := .int .i64 8) rfl
          have r71 := L7.cell 1 (v := .int .i64 i) rfl
          have r72 := L7.cell 2 (v := .int .i64 o) rfl
          have r73 := L7.cell 3 (v := .bool b) rfl
          have r74 := L7.cell 4 (v := .int .i64 0) rfl
          have r75 := L7.cell 5 (v := .string d) rfl
          have r76 := L7.cell 6 (v := .slice none 0 0) rfl
          clear L7
          go_wp2_with fail
          refine bodyPost_ret (v := .agg #[.int .i64 8, .int .i64 i, .int .i64 o, .bool b, .int .i64 0, .string d, .slice none 0 0]) (by simp [results, Tryd.results36, go_sem, r70, r71, r72, r73, r74, r75, r76]) rfl ?_
          obtain ⟨S1, S2, S3⟩ := S7.out
          refine ⟨S1, ?_⟩
          by_cases hy : y = 0
          · subst hy
            exact .inl ⟨_, _, _, FO.out.2.1 hx.out rfl, rfl, ⟨_, _, _, rfl, rfl, rgAt_nil _, fun p hp => by cases hp⟩, S2⟩
          · exact .inr ⟨y, _, _, hy, FO.out.2.2 hx.out hy, rfl, ⟨_, _, _, _, _, _, _, _, _, rfl⟩, S2⟩
        · have gx : (x5 == 0) = false := by simp [hx]
          have cc0 := F4.out.c.cell 0 (v := .int .i64 0) rfl
          have cf0 := F4.out.c.free 0 (by show 0 < 7; decide)
          have cc1 := F4.out.c.cell 1 (v := .int .i64 0) rfl
          have cf1 := F4.out.c.free 1 (by show 1 < 7; decide)
          have cc2 := F4.out.c.cell 2 (v := .int .i64 0) rfl
          have cf2 := F4.out.c.free 2 (by show 2 < 7; decide)
          have cc3 := F4.out.c.cell 3 (v := .bool false) rfl
          have cf3 := F4.out.c.free 3 (by show 3 < 7; decide)
          have cc4 := F4.out.c.cell 4 (v := .int .i64 0) rfl
          have cf4 := F4.out.c.free 4 (by show 4 < 7; decide)
          have cc5 := F4.out.c.cell 5 (v := .string ⟨#[]⟩) rfl
          have cf5 := F4.out.c.free 5 (by show 5 < 7; decide)
          have cc6 := F4.out.c.cell 6 (v := .slice none 0 0) rfl
          have cf6 := F4.out.c.free 6 (by show 6 < 7; decide)
          have S7 := set7 F4.out (.int .i64 8) (.int .i64 i) (.int .i64 o) (.bool b) (.int .i64 0) (.string d) (.slice none 0 0)
          have L7 := (((((((F4.out.c.put 0 (by show 0 < 7; decide) (.int .i64 8)).put 1 (by show 1 < 7; decide) (.int .i64 i)).put 2 (by show 2 < 7; decide) (.int .i64 o)).put 3 (by show 3 < 7; decide) (.bool b)).put 4 (by show 4 < 7; decide) (.int .i64 0)).put 5 (by show 5 < 7; decide) (.string d)).put 6 (by show 6 < 7; decide) (.slice none 0 0))
          have r70 := L7.cell 0 (v := .int .i64 8) rfl
          have r71 := L7.cell 1 (v := .int .i64 i) rfl
          have r72 := L7.cell 2 (v := .int .i64 o) rfl
          have r73 := L7.cell 3 (v := .bool b) rfl
          have r74 := L7.cell 4 (v := .int .i64 0) rfl
          have r75 := L7.cell 5 (v := .string d) rfl
          have r76 := L7.cell 6 (v := .slice none 0 0) rfl
          clear L7
          replace FO : Hid _ := FO
          replace hx : Hid _ := hx
          go_wp2_with fail
          refine bodyPost_ret (v := .agg #[.int .i64 8, .int .i64 i, .int .i64 o, .bool b, .int .i64 0, .string d, .slice none 0 0]) (by simp [results, Tryd.results36, go_sem, r70, r71, r72, r73, r74, r75, r76]) rfl ?_
          obtain ⟨S1, S2, S3⟩ := S7.out
          exact ⟨S1, .inr ⟨x5, _, _, hx.out, FO.out.1 hx.out, rfl, ⟨_, _, _, _, _, _, _, _, _, rfl⟩, S2⟩⟩
      · go_wp2_with fail
        refine (KN.out _).mono ?_
        rintro _ _ ⟨rfl, rfl⟩
        obtain ⟨T, hT⟩ : ∃ T, T = w1.heap.size := ⟨_, rfl⟩
        rw [← hT] at F0
        go_wp2_with fail
        rw [← hT]
        clear hT rc1 rf1 LC1 K1 r1
        generalize w1.alloc (.cells #[.int .i64 17, .int .i64 0, .int .i64 0, .bool false, .int .i64 0, .string ⟨#[]⟩, .slice none 0 0] 24) = W0 at F0 ⊢
        refine (rnum_any R s1 0 _ F0.out.rd (by omega)).mono ?_
        rintro _ V1 ⟨i, s2, x2, rfl, rd1, st1, hz2, kp1⟩
        have G1 : Hid (FrS w V1 R w.heap.size T s2 x2 [.int .i64 17, .int .i64 0, .int .i64 0, .bool false, .int .i64 0, .string ⟨#[]⟩, .slice none 0 0]) := F0.out.call kp1 rd1 (by show 0 < 7; decide)
        have tc := G1.out.t.cell 1 (v := .int .i64 0) rfl
        have tf := G1.out.t.free 1 (by show 1 < 7; decide)
        have F1 : Hid (FrS w (V1.setCell ⟨T, 1, none⟩ (.int .i64 i)) R w.heap.size T s2 x2 [.int .i64 17, .int .i64 i, .int .i64 0, .bool false, .int .i64 0, .string ⟨#[]⟩, .slice none 0 0]) := G1.out.put 1 (by show 1 < 7; decide) (.int .i64 i)
        replace st1 : Hid (Stp rInt s1 0 i s2 x2) := st1
        clear rd1 kp1 G1 F0
        go_wp2_with fail
        clear tc tf
        refine (rnum_any R s2 x2 _ F1.out.rd (by omega)).mono ?_
        rintro _ V2 ⟨o, s3, x3, rfl, rd2, st2, hz3, kp2⟩
        have G2 : Hid (FrS w V2 R w.heap.size T s3 x3 [.int .i64 17, .int .i64 i, .int .i64 0, .bool false, .int .i64 0, .string ⟨#[]⟩, .slice none 0 0]) := F1.out.call kp2 rd2 (by show 0 < 7; decide)
        have tc := G2.out.t.cell 2 (v := .int .i64 0) rfl
        have tf := G2.out.t.free 2 (by show 2 < 7; decide)
        have F2 : Hid (FrS w (V2.setCell ⟨T, 2, none⟩ (.int .i64 o)) R w.heap.size T s3 x3 [.int .i64 17, .int .i64 i, .int .i64 o, .bool false, .int .i64 0, .string ⟨#[]⟩, .slice none 0 0]) := G2.out.put 2 (by show 2 < 7; decide) (.int .i64 o)
        replace st2 : Hid (Stp rInt s2 x2 o s3 x3) := st2
        clear rd2 kp2 G2 F1
        have FO := frame_of hn hk (fields17 st1.out st2.out)
        have rc1 := F2.out.rd.cell 1 (v := .int .i64 x3) rfl
        have rf1 := F2.out.rd.free 1 (by show 1 < 2; decide)
        have uc0 := F2.out.t.cell 0 (v := .int .i64 17) rfl
        have uc1 := F2.out.t.cell 1 (v := .int .i64 i) rfl
        have uc2 := F2.out.t.cell 2 (v := .int .i64 o) rfl
        have uc3 := F2.out.t.cell 3 (v := .bool false) rfl
        have uc4 := F2.out.t.cell 4 (v := .int .i64 0) rfl
        have uc5 := F2.out.t.cell 5 (v := .string ⟨#[]⟩) rfl
        have uc6 := F2.out.t.cell 6 (v := .slice none 0 0) rfl
        have hRC : ¬ (R = w.heap.size) := by omega
        have hCR' : ¬ (w.heap.size = R) := by omega
        have hCT := F2.out.ct
        have hTC := F2.out.ct.symm
        have hTR := F2.out.tr
        have hRT := F2.out.tr.symm
        by_cases hx : x3 = 0
        · have gx : (x3 == 0) = true := by simp [hx]
          have IS : FrIs (V2.setCell ⟨T, 2, none⟩ (.int .i64 o)) (.agg #[.int .i64 17, .int .i64 i, .int .i64 o, .bool false, .int .i64 0, .string ⟨#[]⟩, .slice none 0 0]) ⟨17, i, o, false, 0, [], []⟩ := ⟨⟨#[]⟩, _, _, rfl, rfl, rgAt_nil _⟩
          have CK : Hid (Calls Tryd.prog 10 #[.agg #[.int .i64 17, .int .i64 i, .int .i64 o, .bool false, .int .i64 0, .string ⟨#[]⟩, .slice none 0 0]] (V2.setCell ⟨T, 2, none⟩ (.int .i64 o)) fun e w' => e = .returned (.int .i64 (chkF ⟨17, i, o, false, 0, [], []⟩)) ∧ Below ((V2.setCell ⟨T, 2, none⟩ (.int .i64 o))).heap.size ((V2.setCell ⟨T, 2, none⟩ (.int .i64 o))) w') := rchkF_ok IS (by show 0 < _; decide) (by show 0 < _; decide)
          go_wp2_with fail
          refine CK.out.mono ?_
          rintro _ W8 ⟨rfl, b8⟩
          have F8 : Hid (FrS w W8 R w.heap.size T s3 x3 [.int .i64 17, .int .i64 i, .int .i64 o, .bool false, .int .i64 0, .string ⟨#[]⟩, .slice none 0 0]) := F2.out.call (Kept.of _ b8) (F2.out.rd.of_block (b8.block R (F2.out.rd.lt (by show 0 < 2; decide)))) (by show 0 < 7; decide)
          have IS8 := IS.keep b8
          have g1 := F8.out.rd.cell 1 (v := .int .i64 x3) rfl
          have g2 := F8.out.rd.free 1 (by show 1 < 2; decide)
          obtain ⟨y, hy⟩ : ∃ y, chkF ⟨17, i, o, false, 0, [], []⟩ = y := ⟨_, rfl⟩
          rw [hy] at FO ⊢
          clear hy
          have F9 : Hid (FrS w (W8.setCell ⟨R, 1, none⟩ (.int .i64 y)) R w.heap.size T s3 y [.int .i64 17, .int .i64 i, .int .i64 o, .bool false, .int .i64 0, .string ⟨#[]⟩, .slice none 0 0]) := F8.out.err y
          have vc0 := F9.out.t.cell 0 (v := .int .i64 17) rfl
          have vc1 := F9.out.t.cell 1 (v := .int .i64 i) rfl
          have vc2 := F9.out.t.cell 2 (v := .int .i64 o) rfl
          have vc3 := F9.out.t.cell 3 (v := .bool false) rfl
          have vc4 := F9.out.t.cell 4 (v := .int .i64 0) rfl
          have vc5 := F9.out.t.cell 5 (v := .string ⟨#[]⟩) rfl
          have vc6 := F9.out.t.cell 6 (v := .slice none 0 0) rfl
          have cc0 := F9.out.c.cell 0 (v := .int .i64 0) rfl
          have cf0 := F9.out.c.free 0 (by show 0 < 7; decide)
          have cc1 := F9.out.c.cell 1 (v := .int .i64 0) rfl
          have cf1 := F9.out.c.free 1 (by show 1 < 7; decide)
          have cc2 := F9.out.c.cell 2 (v := .int .i64 0) rfl
          have cf2 := F9.out.c.free 2 (by show 2 < 7; decide)
          have cc3 := F9.out.c.cell 3 (v := .bool false) rfl
          have cf3 := F9.out.c.free 3 (by show 3 < 7; decide)
          have cc4 := F9.out.c.cell 4 (v := .int .i64 0) rfl
          have cf4 := F9.out.c.free 4 (by show 4 < 7; decide)
          have cc5 := F9.out.c.cell 5 (v := .string ⟨#[]⟩) rfl
          have cf5 := F9.out.c.free 5 (by show 5 < 7; decide)
          have cc6 := F9.out.c.cell 6 (v := .slice none 0 0) rfl
          have cf6 := F9.out.c.free 6 (by show 6 < 7; decide)
          have S7 := set7 F9.out (.int .i64 17) (.int .i64 i) (.int .i64 o) (.bool false) (.int .i64 0) (.string ⟨#[]⟩) (.slice none 0 0)
          replace FO : Hid _ := FO
          replace IS8 : Hid _ := IS8
          replace hx : Hid _ := hx
          clear rc1 rf1 gx uc0 uc1 uc2 uc3 uc4 uc5 uc6 IS CK b8 F8
          have L7 := (((((((F9.out.c.put 0 (by show 0 < 7; decide) (.int .i64 17)).put 1 (by show 1 < 7; decide) (.int .i64 i)).put 2 (by show 2 < 7; decide) (.int .i64 o)).put 3 (by show 3 < 7; decide) (.bool false)).put 4 (by show 4 < 7; decide) (.int .i64 0)).put 5 (by show 5 < 7; decide) (.string ⟨#[]⟩)).put 6 (by show 6 < 7; decide) (.slice none 0 0))
          have r70 := L7.cell 0 (v := .int .i64 17) rfl
          have r71 := L7.cell 1 (v := .int .i64 i) rfl
          have r72 := L7.cell 2 (v := .int .i64 o) rfl
          have r73 := L7.cell 3 (v := .bool false) rfl
          have r74 := L7.cell 4 (v := .int .i64 0) rfl
          have r75 := L7.cell 5 (v := .string ⟨#[]⟩) rfl
          have r76 := L7.cell 6 (v := .slice none 0 0) rfl
          clear L7
          go_wp2_with fail
          refine bodyPost_ret (v := .agg #[.int .i64 17, .int .i64 i, .int .i64 o, .bool false, .int .i64 0, .string ⟨#[]⟩, .slice none 0 0]) (by simp [results, Tryd.results36, go_sem, r70, r71, r72, r73, r74, r75, r76]) rfl ?_
          obtain ⟨S1, S2, S3⟩ := S7.out
          refine ⟨S1, ?_⟩
          by_cases hy : y = 0
          · subst hy
            exact .inl ⟨_, _, _, FO.out.2.1 hx.out rfl, rfl, ⟨_, _, _, rfl, rfl, rgAt_nil _, fun p hp => by cases hp⟩, S2⟩
          · exact .inr ⟨y, _, _, hy, FO.out.2.2 hx.out hy, rfl, ⟨_, _, _, _, _, _, _, _, _, rfl⟩, S2⟩
        · have gx : (x3 == 0) = false := by simp [hx]
          have cc0 := F2.out.c.cell 0 (v := .int .i64 0) rfl
          have cf0 := F2.out.c.free 0 (by show 0 < 7; decide)
          have cc1 := F2.out.c.cell 1 (v := .int .i64 0) rfl
          have cf1 := F2.out.c.free 1 (by show 1 < 7; decide)
          have cc2 := F2.out.c.cell 2 (v := .int .i64 0) rfl
          have cf2 := F2.out.c.free 2 (by show 2 < 7; decide)
          have cc3 := F2.out.c.cell 3 (v := .bool false) rfl
          have cf3 := F2.out.c.free 3 (by show 3 < 7; decide)
          have cc4 := F2.out.c.cell 4 (v := .int .i64 0) rfl
          have cf4 := F2.out.c.free 4 (by show 4 < 7; decide)
          have cc5 := F2.out.c.cell 5 (v := .string ⟨#[]⟩) rfl
          have cf5 := F2.out.c.free 5 (by show 5 < 7; decide)
          have cc6 := F2.out.c.cell 6 (v := .slice none 0 0) rfl
          have cf6 := F2.out.c.free 6 (by show 6 < 7; decide)
          have S7 := set7 F2.out (.int .i64 17) (.int .i64 i) (.int .i64 o) (.bool false) (.int .i64 0) (.string ⟨#[]⟩) (.slice none 0 0)
          have L7 := (((((((F2.out.c.put 0 (by show 0 < 7; decide) (.int .i64 17)).put 1 (by show 1 < 7; decide) (.int .i64 i)).put 2 (by show 2 < 7; decide) (.int .i64 o)).put 3 (by show 3 < 7; decide) (.bool false)).put 4 (by show 4 < 7; decide) (.int .i64 0)).put 5 (by show 5 < 7; decide) (.string ⟨#[]⟩)).put 6 (by show 6 < 7; decide) (.slice none 0 0))
          have r70 := L7.cell 0 (v := .int .i64 17) rfl
          have r71 := L7.cell 1 (v := .int .i64 i) rfl
          have r72 := L7.cell 2 (v := .int .i64 o) rfl
          have r73 := L7.cell 3 (v := .bool false) rfl
          have r74 := L7.cell 4 (v := .int .i64 0) rfl
          have r75 := L7.cell 5 (v := .string ⟨#[]⟩) rfl
          have r76 := L7.cell 6 (v := .slice none 0 0) rfl
          clear L7
          replace FO : Hid _ := FO
          replace hx : Hid _ := hx
          go_wp2_with fail
          refine bodyPost_ret (v := .agg #[.int .i64 17, .int .i64 i, .int .i64 o, .bool false, .int .i64 0, .string ⟨#[]⟩, .slice none 0 0]) (by simp [results, Tryd.results36, go_sem, r70, r71, r72, r73, r74, r75, r76]) rfl ?_
          obtain ⟨S1, S2, S3⟩ := S7.out
          exact ⟨S1, .inr ⟨x3, _, _, hx.out, FO.out.1 hx.out, rfl, ⟨_, _, _, _, _, _, _, _, _, rfl⟩, S2⟩⟩
      · go_wp2_with fail
        refine (KN.out _).mono ?_
        rintro _ _ ⟨rfl, rfl⟩
        obtain ⟨T, hT⟩ : ∃ T, T = w1.heap.size := ⟨_, rfl⟩
        rw [← hT] at F0
        go_wp2_with fail
        rw [← hT]
        clear hT rc1 rf1 LC1 K1 r1
        generalize w1.alloc (.cells #[.int .i64 28, .int .i64 0, .int .i64 0, .bool false, .int .i64 0, .string ⟨#[]⟩, .slice none 0 0] 24) = W0 at F0 ⊢
        refine (rnum_any R s1 0 _ F0.out.rd (by omega)).mono ?_
        rintro _ V1 ⟨c, s2, x2, rfl, rd1, st1, hz2, kp1⟩
        have G1 : Hid (FrS w V1 R w.heap.size T s2 x2 [.int .i64 28, .int .i64 0, .int .i64 0, .bool false, .int .i64 0, .string ⟨#[]⟩, .slice none 0 0]) := F0.out.call kp1 rd1 (by show 0 < 7; decide)
        have tc := G1.out.t.cell 4 (v := .int .i64 0) rfl
        have tf := G1.out.t.free 4 (by show 4 < 7; decide)
        have F1 : Hid (FrS w (V1.setCell ⟨T, 4, none⟩ (.int .i64 c)) R w.heap.size T s2 x2 [.int .i64 28, .int .i64 0, .int .i64 0, .bool false, .int .i64 c, .string ⟨#[]⟩, .slice none 0 0]) := G1.out.put 4 (by show 4 < 7; decide) (.int .i64 c)
        replace st1 : Hid (Stp rInt s1 0 c s2 x2) := st1
        clear rd1 kp1 G1 F0
        have FO := frame_of hn hk (fields28 st1.out)
        have rc1 := F1.out.rd.cell 1 (v := .int .i64 x2) rfl
        have rf1 := F1.out.rd.free 1 (by show 1 < 2; decide)
        have uc0 := F1.out.t.cell 0 (v := .int .i64 28) rfl
        have uc1 := F1.out.t.cell 1 (v := .int .i64 0) rfl
        have uc2 := F1.out.t.cell 2 (v := .int .i64 0) rfl
        have uc3 := F1.out.t.cell 3 (v := .bool false) rfl
        have uc4 := F1.out.t.cell 4 (v := .int .i64 c) rfl
        have uc5 := F1.out.t.cell 5 (v := .string ⟨#[]⟩) rfl
        have uc6 := F1.out.t.cell 6 (v := .slice none 0 0) rfl
        have hRC : ¬ (R = w.heap.size) := by omega
        have hCR' : ¬ (w.heap.size = R) := by omega
        have hCT := F1.out.ct
        have hTC := F1.out.ct.symm
        have hTR := F1.out.tr
        have hRT := F1.out.tr.symm
        by_cases hx : x2 = 0
        · have gx : (x2 == 0) = true := by simp [hx]
          have IS : FrIs (V1.setCell ⟨T, 4, none⟩ (.int .i64 c)) (.agg #[.int .i64 28, .int .i64 0, .int .i64 0, .bool false, .int .i64 c, .string ⟨#[]⟩, .slice none 0 0]) ⟨28, 0, 0, false, c, [], []⟩ := ⟨⟨#[]⟩, _, _, rfl, rfl, rgAt_nil _⟩
          have CK : Hid (Calls Tryd.prog 10 #[.agg #[.int .i64 28, .int .i64 0, .int .i64 0, .bool false, .int .i64 c, .string ⟨#[]⟩, .slice none 0 0]] (V1.setCell ⟨T, 4, none⟩ (.int .i64 c)) fun e w' => e = .returned (.int .i64 (chkF ⟨28, 0, 0, false, c, [], []⟩)) ∧ Below ((V1.setCell ⟨T, 4, none⟩ (.int .i64 c))).heap.size ((V1.setCell ⟨T, 4, none⟩ (.int .i64 c))) w') := rchkF_ok IS (by show 0 < _; decide) (by show 0 < _; decide)
          go_wp2_with fail
          refine CK.out.mono ?_
          rintro _ W8 ⟨rfl, b8⟩
          have F8 : Hid (FrS w W8 R w.heap.size T s2 x2 [.int .i64 28, .int .i64 0, .int .i64 0, .bool false, .int .i64 c, .string ⟨#[]⟩, .slice none 0 0]) := F1.out.call (Kept.of _ b8) (F1.out.rd.of_block (b8.block R (F1.out.rd.lt (by show 0 < 2; decide)))) (by show 0 < 7; decide)
          have IS8 := IS.keep b8
          have g1 := F8.out.rd.cell 1 (v := .int .i64 x2) rfl
          have g2 := F8.out.rd.free 1 (by show 1 < 2; decide)
          obtain ⟨y, hy⟩ : ∃ y, chkF ⟨28, 0, 0, false, c, [], []⟩ = y := ⟨_, rfl⟩
          rw [hy] at FO ⊢
          clear hy
          have F9 : Hid (FrS w (W8.setCell ⟨R, 1, none⟩ (.int .i64 y)) R w.heap.size T s2 y [.int .i64 28, .int .i64 0, .int .i64 0, .bool false, .int .i64 c, .string ⟨#[]⟩, .slice none 0 0]) := F8.out.err y
          have vc0 := F9.out.t.cell 0 (v := .int .i64 28) rfl
          have vc1 := F9.out.t.cell 1 (v := .int .i64 0) rfl
          have vc2 := F9.out.t.cell 2 (v := .int .i64 0) rfl
          have vc3 := F9.out.t.cell 3 (v := .bool false) rfl
          have vc4 := F9.out.t.cell 4 (v := .int .i64 c) rfl
          have vc5 := F9.out.t.cell 5 (v := .string ⟨#[]⟩) rfl
          have vc6 := F9.out.t.cell 6 (v := .slice none 0 0) rfl
          have cc0 := F9.out.c.cell 0 (v := .int .i64 0) rfl
          have cf0 := F9.out.c.free 0 (by show 0 < 7; decide)
          have cc1 := F9.out.c.cell 1 (v := .int .i64 0) rfl
          have cf1 := F9.out.c.free 1 (by show 1 < 7; decide)
          have cc2 := F9.out.c.cell 2 (v := .int .i64 0) rfl
          have cf2 := F9.out.c.free 2 (by show 2 < 7; decide)
          have cc3 := F9.out.c.cell 3 (v := .bool false) rfl
          have cf3 := F9.out.c.free 3 (by show 3 < 7; decide)
          have cc4 := F9.out.c.cell 4 (v := .int .i64 0) rfl
          have cf4 := F9.out.c.free 4 (by show 4 < 7; decide)
          have cc5 := F9.out.c.cell 5 (v := .string ⟨#[]⟩) rfl
          have cf5 := F9.out.c.free 5 (by show 5 < 7; decide)
          have cc6 := F9.out.c.cell 6 (v := .slice none 0 0) rfl
          have cf6 := F9.out.c.free 6 (by show 6 < 7; decide)
          have S7 := set7 F9.out (.int .i64 28) (.int .i64 0) (.int .i64 0) (.bool false) (.int .i64 c) (.string ⟨#[]⟩) (.slice none 0 0)
          replace FO : Hid _ := FO
          replace IS8 : Hid _ := IS8
          replace hx : Hid _ := hx
          clear rc1 rf1 gx uc0 uc1 uc2 uc3 uc4 uc5 uc6 IS CK b8 F8
          have L7 := (((((((F9.out.c.put 0 (by show 0 < 7; decide) (.int .i64 28)).put 1 (by show 1 < 7; decide) (.int .i64 0)).put 2 (by show 2 < 7; decide) (.int .i64 0)).put 3 (by show 3 < 7; decide) (.bool false)).put 4 (by show 4 < 7; decide) (.int .i64 c)).put 5 (by show 5 < 7; decide) (.string ⟨#[]⟩)).put 6 (by show 6 < 7; decide) (.slice none 0 0))
          have r70 := L7.cell 0 (v := .int .i64 28) rfl
          have r71 := L7.cell 1 (v := .int .i64 0) rfl
          have r72 := L7.cell 2 (v := .int .i64 0) rfl
          have r73 := L7.cell 3 (v := .bool false) rfl
          have r74 := L7.cell 4 (v := .int .i64 c) rfl
          have r75 := L7.cell 5 (v := .string ⟨#[]⟩) rfl
          have r76 := L7.cell 6 (v := .slice none 0 0) rfl
          clear L7
          go_wp2_with fail
          refine bodyPost_ret (v := .agg #[.int .i64 28, .int .i64 0, .int .i64 0, .bool false, .int .i64 c, .string ⟨#[]⟩, .slice none 0 0]) (by simp [results, Tryd.results36, go_sem, r70, r71, r72, r73, r74, r75, r76]) rfl ?_
          obtain ⟨S1, S2, S3⟩ := S7.out
          refine ⟨S1, ?_⟩
          by_cases hy : y = 0
          · subst hy
            exact .inl ⟨_, _, _, FO.out.2.1 hx.out rfl, rfl, ⟨_, _, _, rfl, rfl, rgAt_nil _, fun p hp => by cases hp⟩, S2⟩
          · exact .inr ⟨y, _, _, hy, FO.out.2.2 hx.out hy, rfl, ⟨_, _, _, _, _, _, _, _, _, rfl⟩, S2⟩
        · have gx : (x2 == 0) = false := by simp [hx]
          have cc0 := F1.out.c.cell 0 (v := .int .i64 0) rfl
          have cf0 := F1.out.c.free 0 (by show 0 < 7; decide)
          have cc1 := F1.out.c.cell 1 (v := .int .i64 0) rfl
          have cf1 := F1.out.c.free 1 (by show 1 < 7; decide)
          have cc2 := F1.out.c.cell 2 (v := .int .i64 0) rfl
          have cf2 := F1.out.c.free 2 (by show 2 < 7; decide)
          have cc3 := F1.out.c.cell 3 (v := .bool false) rfl
          have cf3 := F1.out.c.free 3 (by show 3 < 7; decide)
          have cc4 := F1.out.c.cell 4 (v := .int .i64 0) rfl
          have cf4 := F1.out.c.free 4 (by show 4 < 7; decide)
          have cc5 := F1.out.c.cell 5 (v := .string ⟨#[]⟩) rfl
          have cf5 := F1.out.c.free 5 (by show 5 < 7; decide)
          have cc6 := F1.out.c.cell 6 (v := .slice none 0 0) rfl
          have cf6 := F1.out.c.free 6 (by show 6 < 7; decide)
          have S7 := set7 F1.out (.int .i64 28) (.int .i64 0) (.int .i64 0) (.bool false) (.int .i64 c) (.string ⟨#[]⟩) (.slice none 0 0)
          have L7 := (((((((F1.out.c.put 0 (by show 0 < 7; decide) (.int .i64 28)).put 1 (by show 1 < 7; decide) (.int .i64 0)).put 2 (by show 2 < 7; decide) (.int .i64 0)).put 3 (by show 3 < 7; decide) (.bool false)).put 4 (by show 4 < 7; decide) (.int .i64 c)).put 5 (by show 5 < 7; decide) (.string ⟨#[]⟩)).put 6 (by show 6 < 7; decide) (.slice none 0 0))
          have r70 := L7.cell 0 (v := .int .i64 28) rfl
          have r71 := L7.cell 1 (v := .int .i64 0) rfl
          have r72 := L7.cell 2 (v := .int .i64 0) rfl
          have r73 := L7.cell 3 (v := .bool false) rfl
          have r74 := L7.cell 4 (v := .int .i64 c) rfl
          have r75 := L7.cell 5 (v := .string ⟨#[]⟩) rfl
          have r76 := L7.cell 6 (v := .slice none 0 0) rfl
          clear L7
          replace FO : Hid _ := FO
          replace hx : Hid _ := hx
          go_wp2_with fail
          refine bodyPost_ret (v := .agg #[.int .i64 28, .int .i64 0, .int .i64 0, .bool false, .int .i64 c, .string ⟨#[]⟩, .slice none 0 0]) (by simp [results, Tryd.results36, go_sem, r70, r71, r72, r73, r74, r75, r76]) rfl ?_
          obtain ⟨S1, S2, S3⟩ := S7.out
          exact ⟨S1, .inr ⟨x2, _, _, hx.out, FO.out.1 hx.out, rfl, ⟨_, _, _, _, _, _, _, _, _, rfl⟩, S2⟩⟩
      · go_wp2_with fail
        refine (KN.out _).mono ?_
        rintro _ _ ⟨rfl, rfl⟩
        obtain ⟨T, hT⟩ : ∃ T, T = w1.heap.size := ⟨_, rfl⟩
        rw [← hT] at F0
        go_wp2_with fail
        rw [← hT]
        clear hT rc1 rf1 LC1 K1 r1
        generalize w1.alloc (.cells #[.int .i64 48, .int .i64 0, .int .i64 0, .bool false, .int .i64 0, .string ⟨#[]⟩, .slice none 0 0] 24) = W0 at F0 ⊢
        refine (rtext_any R s1 0 _ F0.out.rd (by omega)).mono ?_
        rintro _ V1 ⟨d, s2, x2, rfl, rd1, st1, hz2, kp1⟩
        have G1 : Hid (FrS w V1 R w.heap.size T s2 x2 [.int .i64 48, .int .i64 0, .int .i64 0, .bool false, .int .i64 0, .string ⟨#[]⟩, .slice none 0 0]) := F0.out.call kp1 rd1 (by show 0 < 7; decide)
        have tc := G1.out.t.cell 5 (v := .string ⟨#[]⟩) rfl
        have tf := G1.out.t.free 5 (by show 5 < 7; decide)
        have F1 : Hid (FrS w (V1.setCell ⟨T, 5, none⟩ (.string d)) R w.heap.size T s2 x2 [.int .i64 48, .int .i64 0, .int .i64 0, .bool false, .int .i64 0, .string d, .slice none 0 0]) := G1.out.put 5 (by show 5 < 7; decide) (.string d)
        replace st1 : Hid (Stp rText s1 0 (toL d) s2 x2) := st1
        clear rd1 kp1 G1 F0
        have FO := frame_of hn hk (fields48 st1.out)
        have rc1 := F1.out.rd.cell 1 (v := .int .i64 x2) rfl
        have rf1 := F1.out.rd.free 1 (by show 1 < 2; decide)
        have uc0 := F1.out.t.cell 0 (v := .int .i64 48) rfl
        have uc1 := F1.out.t.cell 1 (v := .int .i64 0) rfl
        have uc2 := F1.out.t.cell 2 (v := .int .i64 0) rfl
        have uc3 := F1.out.t.cell 3 (v := .bool false) rfl
        have uc4 := F1.out.t.cell 4 (v := .int .i64 0) rfl
        have uc5 := F1.out.t.cell 5 (v := .string d) rfl
        have uc6 := F1.out.t.cell 6 (v := .slice none 0 0) rfl
        have hRC : ¬ (R = w.heap.size) := by omega
        have hCR' : ¬ (w.heap.size = R) := by omega
        have hCT := F1.out.ct
        have hTC := F1.out.ct.symm
        have hTR := F1.out.tr
        have hRT := F1.out.tr.symm
        by_cases hx : x2 = 0
        · have gx : (x2 == 0) = true := by simp [hx]
          have IS : FrIs (V1.setCell ⟨T, 5, none⟩ (.string d)) (.agg #[.int .i64 48, .int .i64 0, .int .i64 0, .bool false, .int .i64 0, .string d, .slice none 0 0]) ⟨48, 0, 0, false, 0, toL d, []⟩ := ⟨d, _, _, rfl, rfl, rgAt_nil _⟩
          have CK : Hid (Calls Tryd.prog 10 #[.agg #[.int .i64 48, .int .i64 0, .int .i64 0, .bool false, .int .i64 0, .string d, .slice none 0 0]] (V1.setCell ⟨T, 5, none⟩ (.string d)) fun e w' => e = .returned (.int .i64 (chkF ⟨48, 0, 0, false, 0, toL d, []⟩)) ∧ Below ((V1.setCell ⟨T, 5, none⟩ (.string d))).heap.size ((V1.setCell ⟨T, 5, none⟩ (.string d))) w') := rchkF_ok IS (by show 0 < _; decide) (text_len st1.out hx (by omega))
          go_wp2_with fail
          refine CK.out.mono ?_
          rintro _ W8 ⟨rfl, b8⟩
          have F8 : Hid (FrS w W8 R w.heap.size T s2 x2 [.int .i64 48, .int .i64 0, .int .i64 0, .bool false, .int .i64 0, .string d, .slice none 0 0]) := F1.out.call (Kept.of _ b8) (F1.out.rd.of_block (b8.block R (F1.out.rd.lt (by show 0 < 2; decide)))) (by show 0 < 7; decide)
          have IS8 := IS.keep b8
          have g1 := F8.out.rd.cell 1 (v := .int .i64 x2) rfl
          have g2 := F8.out.rd.free 1 (by show 1 < 2; decide)
          obtain ⟨y, hy⟩ : ∃ y, chkF ⟨48, 0, 0, false, 0, toL d, []⟩ = y := ⟨_, rfl⟩
          rw [hy] at FO ⊢
          clear hy
          have F9 : Hid (FrS w (W8.setCell ⟨R, 1, none⟩ (.int .i64 y)) R w.heap.size T s2 y [.int .i64 48, .int .i64 0, .int .i64 0, .bool false, .int .i64 0, .string d, .slice none 0 0]) := F8.out.err y
          have vc0 := F9.out.t.cell 0 (v := .int .i64 48) rfl
          have vc1 := F9.out.t.cell 1 (v := .int .i64 0) rfl
          have vc2 := F9.out.t.cell 2 (v := .int .i64 0) rfl
          have vc3 := F9.out.t.cell 3 (v := .bool false) rfl
          have vc4 := F9.out.t.cell 4 (v := .int .i64 0) rfl
          have vc5 := F9.out.t.cell 5 (v := .string d) rfl
          have vc6 := F9.out.t.cell 6 (v := .slice none 0 0) rfl
          have cc0 := F9.out.c.cell 0 (v := .int .i64 0) rfl
          have cf0 := F9.out.c.free 0 (by show 0 < 7; decide)
          have cc1 := F9.out.c.cell 1 (v := .int .i64 0) rfl
          have cf1 := F9.out.c.free 1 (by show 1 < 7; decide)
          have cc2 := F9.out.c.cell 2 (v := .int .i64 0) rfl
          have cf2 := F9.out.c.free 2 (by show 2 < 7; decide)
          have cc3 := F9.out.c.cell 3 (v := .bool false) rfl
          have cf3 := F9.out.c.free 3 (by show 3 < 7; decide)
          have cc4 := F9.out.c.cell 4 (v := .int .i64 0) rfl
          have cf4 := F9.out.c.free 4 (by show 4 < 7; decide)
          have cc5 := F9.out.c.cell 5 (v := .string ⟨#[]⟩) rfl
          have cf5 := F9.out.c.free 5 (by show 5 < 7; decide)
          have cc6 := F9.out.c.cell 6 (v := .slice none 0 0) rfl
          have cf6 := F9.out.c.free 6 (by show 6 < 7; decide)
          have S7 := set7 F9.out (.int .i64 48) (.int .i64 0) (.int .i64 0) (.bool false) (.int .i64 0) (.string d) (.slice none 0 0)
          replace FO : Hid _ := FO
          replace IS8 : Hid _ := IS8
          replace hx : Hid _ := hx
          clear rc1 rf1 gx uc0 uc1 uc2 uc3 uc4 uc5 uc6 IS CK b8 F8
          have L7 := (((((((F9.out.c.put 0 (by show 0 < 7; decide) (.int .i64 48)).put 1 (by show 1 < 7; decide) (.int .i64 0)).put 2 (by show 2 < 7; decide) (.int .i64 0)).put 3 (by show 3 < 7; decide) (.bool false)).put 4 (by show 4 < 7; decide) (.int .i64 0)).put 5 (by show 5 < 7; decide) (.string d)).put 6 (by show 6 < 7; decide) (.slice none 0 0))
          have r70 := L7.cell 0 (v := .int .i64 48) rfl
          have r71 := L7.cell 1 (v := .int .i64 0) rfl
          have r72 := L7.cell 2 (v := .int .i64 0) rfl
          have r73 := L7.cell 3 (v := .bool false) rfl
          have r74 := L7.cell 4 (v := .int .i64 0) rfl
          have r75 := L7.cell 5 (v := .string d) rfl
          have r76 := L7.cell 6 (v := .slice none 0 0) rfl
          clear L7
          go_wp2_with fail
          refine bodyPost_ret (v := .agg #[.int .i64 48, .int .i64 0, .int .i64 0, .bool false, .int .i64 0, .string d, .slice none 0 0]) (by simp [results, Tryd.results36, go_sem, r70, r71, r72, r73, r74, r75, r76]) rfl ?_
          obtain ⟨S1, S2, S3⟩ := S7.out
          refine ⟨S1, ?_⟩
          by_cases hy : y = 0
          · subst hy
            exact .inl ⟨_, _, _, FO.out.2.1 hx.out rfl, rfl, ⟨_, _, _, rfl, rfl, rgAt_nil _, fun p hp => by cases hp⟩, S2⟩
          · exact .inr ⟨y, _, _, hy, FO.out.2.2 hx.out hy, rfl, ⟨_, _, _, _, _, _, _, _, _, rfl⟩, S2⟩
        · have gx : (x2 == 0) = false := by simp [hx]
          have cc0 := F1.out.c.cell 0 (v := .int .i64 0) rfl
          have cf0 := F1.out.c.free 0 (by show 0 < 7; decide)
          have cc1 := F1.out.c.cell 1 (v := .int .i64 0) rfl
          have cf1 := F1.out.c.free 1 (by show 1 < 7; decide)
          have cc2 := F1.out.c.cell 2 (v := .int .i64 0) rfl
          have cf2 := F1.out.c.free 2 (by show 2 < 7; decide)
          have cc3 := F1.out.c.cell 3 (v := .bool false) rfl
          have cf3 := F1.out.c.free 3 (by show 3 < 7; decide)
          have cc4 := F1.out.c.cell 4 (v := .int .i64 0) rfl
          have cf4 := F1.out.c.free 4 (by show 4 < 7; decide)
          have cc5 := F1.out.c.cell 5 (v := .string ⟨#[]⟩) rfl
          have cf5 := F1.out.c.free 5 (by show 5 < 7; decide)
          have cc6 := F1.out.c.cell 6 (v := .slice none 0 0) rfl
          have cf6 := F1.out.c.free 6 (by show 6 < 7; decide)
          have S7 := set7 F1.out (.int .i64 48) (.int .i64 0) (.int .i64 0) (.bool false) (.int .i64 0) (.string d) (.slice none 0 0)
          have L7 := (((((((F1.out.c.put 0 (by show 0 < 7; decide) (.int .i64 48)).put 1 (by show 1 < 7; decide) (.int .i64 0)).put 2 (by show 2 < 7; decide) (.int .i64 0)).put 3 (by show 3 < 7; decide) (.bool false)).put 4 (by show 4 < 7; decide) (.int .i64 0)).put 5 (by show 5 < 7; decide) (.string d)).put 6 (by show 6 < 7; decide) (.slice none 0 0))
          have r70 := L7.cell 0 (v := .int .i64 48) rfl
          have r71 := L7.cell 1 (v := .int .i64 0) rfl
          have r72 := L7.cell 2 (v := .int .i64 0) rfl
          have r73 := L7.cell 3 (v := .bool false) rfl
          have r74 := L7.cell 4 (v := .int .i64 0) rfl
          have r75 := L7.cell 5 (v := .string d) rfl
          have r76 := L7.cell 6 (v := .slice none 0 0) rfl
          clear L7
          replace FO : Hid _ := FO
          replace hx : Hid _ := hx
          go_wp2_with fail
          refine bodyPost_ret (v := .agg #[.int .i64 48, .int .i64 0, .int .i64 0, .bool false, .int .i64 0, .string d, .slice none 0 0]) (by simp [results, Tryd.results36, go_sem, r70, r71, r72, r73, r74, r75, r76]) rfl ?_
          obtain ⟨S1, S2, S3⟩ := S7.out
          exact ⟨S1, .inr ⟨x2, _, _, hx.out, FO.out.1 hx.out, rfl, ⟨_, _, _, _, _, _, _, _, _, rfl⟩, S2⟩⟩
  · have FE : Hid (rFrame (toL s) = .error 1) := frame_no hn
    have b2 := (Below.refl w1.heap.size w1).alloc (Nat.le_refl _) (.cells #[.int .i64 0, .int .i64 0, .int .i64 0, .bool false, .int .i64 0, .string ⟨#[]⟩, .slice none 0 0] 24)
    have hRl := r1.lt (by show 0 < 2; decide)
    have rc1 := r1.cell 1 (v := .int .i64 1) rfl
    have F0 : Hid (FrS w (w1.alloc (.cells #[.int .i64 0, .int .i64 0, .int .i64 0, .bool false, .int .i64 0, .string ⟨#[]⟩, .slice none 0 0] 24)) R w.heap.size w1.heap.size s 1 [.int .i64 0, .int .i64 0, .int .i64 0, .bool false, .int .i64 0, .string ⟨#[]⟩, .slice none 0 0]) := ⟨r1.of_block (b2.block R hRl), LC1.out.of_block (b2.block _ hC), Lies.new w1 [.int .i64 0, .int .i64 0, .int .i64 0, .bool false, .int .i64 0, .string ⟨#[]⟩, .slice none 0 0] 24, K1.out.add b2, by omega, by omega, by omega, Nat.le_refl _, by omega⟩
    clear b2 hn
    go_upto_region 6 with fail
    obtain ⟨T, hT⟩ : ∃ T, T = w1.heap.size := ⟨_, rfl⟩
    rw [← hT] at F0 ⊢
    clear hT
    generalize w1.alloc (.cells #[.int .i64 0, .int .i64 0, .int .i64 0, .bool false, .int .i64 0, .string ⟨#[]⟩, .slice none 0 0] 24) = W at F0 ⊢
    have hCT := F0.out.ct
    have hTC := F0.out.ct.symm
    have uc0 := F0.out.t.cell 0 (v := .int .i64 0) rfl
    have uc1 := F0.out.t.cell 1 (v := .int .i64 0) rfl
    have uc2 := F0.out.t.cell 2 (v := .int .i64 0) rfl
    have uc3 := F0.out.t.cell 3 (v := .bool false) rfl
    have uc4 := F0.out.t.cell 4 (v := .int .i64 0) rfl
    have uc5 := F0.out.t.cell 5 (v := .string ⟨#[]⟩) rfl
    have uc6 := F0.out.t.cell 6 (v := .slice none 0 0) rfl
    have cc0 := F0.out.c.cell 0 (v := .int .i64 0) rfl
    have cf0 := F0.out.c.free 0 (by show 0 < 7; decide)
    have cc1 := F0.out.c.cell 1 (v := .int .i64 0) rfl
    have cf1 := F0.out.c.free 1 (by show 1 < 7; decide)
    have cc2 := F0.out.c.cell 2 (v := .int .i64 0) rfl
    have cf2 := F0.out.c.free 2 (by show 2 < 7; decide)
    have cc3 := F0.out.c.cell 3 (v := .bool false) rfl
    have cf3 := F0.out.c.free 3 (by show 3 < 7; decide)
    have cc4 := F0.out.c.cell 4 (v := .int .i64 0) rfl
    have cf4 := F0.out.c.free 4 (by show 4 < 7; decide)
    have cc5 := F0.out.c.cell 5 (v := .string ⟨#[]⟩) rfl
    have cf5 := F0.out.c.free 5 (by show 5 < 7; decide)
    have cc6 := F0.out.c.cell 6 (v := .slice none 0 0) rfl
    have cf6 := F0.out.c.free 6 (by show 6 < 7; decide)
    have S7 := set7 F0.out (.int .i64 0) (.int .i64 0) (.int .i64 0) (.bool false) (.int .i64 0) (.string ⟨#[]⟩) (.slice none 0 0)
    have L7 := (((((((F0.out.c.put 0 (by show 0 < 7; decide) (.int .i64 0)).put 1 (by show 1 < 7; decide) (.int .i64 0)).put 2 (by show 2 < 7; decide) (.int .i64 0)).put 3 (by show 3 < 7; decide) (.bool false)).put 4 (by show 4 < 7; decide) (.int .i64 0)).put 5 (by show 5 < 7; decide) (.string ⟨#[]⟩)).put 6 (by show 6 < 7; decide) (.slice none 0 0))
    have r70 := L7.cell 0 (v := .int .i64 0) rfl
    have r71 := L7.cell 1 (v := .int .i64 0) rfl
    have r72 := L7.cell 2 (v := .int .i64 0) rfl
    have r73 := L7.cell 3 (v := .bool false) rfl
    have r74 := L7.cell 4 (v := .int .i64 0) rfl
    have r75 := L7.cell 5 (v := .string ⟨#[]⟩) rfl
    have r76 := L7.cell 6 (v := .slice none 0 0) rfl
    clear L7
    go_wp2_with fail
    refine bodyPost_ret (v := .agg #[.int .i64 0, .int .i64 0, .int .i64 0, .bool false, .int .i64 0, .string ⟨#[]⟩, .slice none 0 0]) (by simp [results, Tryd.results36, go_sem, r70, r71, r72, r73, r74, r75, r76]) rfl ?_
    obtain ⟨S1, S2, S3⟩ := S7.out
    exact ⟨S1, .inr ⟨1, _, _, by decide, FE.out, rfl, ⟨_, _, _, _, _, _, _, _, _, rfl⟩, S2⟩⟩
end Go.Proofs.YtmngpkkpkjnejaaDoor
