/-
  What the document's own write, Size and Write answer: of any right frame, any frame, any frames. Together fewer than 2^62 bytes; no other condition.
-/
import Derived.Test.YtmngpkkpkjnejaaDoorFrWr2
import Derived.Test.YtmngpkkpkjnejaaDoorFrParse
namespace Go.Proofs.YtmngpkkpkjnejaaDoor
set_option maxRecDepth 100000
open Go.RowKit Go.Sort

theorem rwrite_ok {w : World} {v : Value} {f : Fr} (hf : FrIs w v f) (h : Rt f) :
    Calls Tryd.prog 31 #[v] w fun e w' => e = .returned (.string (strL (wrF f))) ∧ Below w.heap.size w w' := by
  obtain ⟨d, a, cp, rfl, hd, hr⟩ := hf
  obtain ⟨k, i, o, fn, c, dd, rg⟩ := f
  obtain ⟨h1, h2, h3, h4, h5, h6, h7, h8⟩ := h
  simp only at h1 h3 h4 h5 h6 h7 h8 hd hr
  have hz : d.size = dd.length := by rw [← hd, toL_len]
  unfold frV
  simp only
  rcases kind_iff.1 h1 with rfl | rfl | rfl | rfl | rfl | rfl | rfl | rfl
  · have e : wrF ⟨0, i, o, fn, c, dd, rg⟩ = putI 0 := by simp [wrF]
    rw [e]
    exact rwr0 0 i o c fn d _ w (.inl rfl)
  · have e : wrF ⟨1, i, o, fn, c, dd, rg⟩ = putI 1 := by simp [wrF]
    rw [e]
    exact rwr0 1 i o c fn d _ w (.inr rfl)
  · have e : wrF ⟨2, i, o, fn, c, dd, rg⟩ = putI 2 ++ putL rg.length ++ wrRg rg := by simp [wrF]
    rw [e]
    have q := rg_in (h8 rfl).2
    exact rwr2 i o c fn d w a rg cp hr q.1 q.2
  · have e : wrF ⟨4, i, o, fn, c, dd, rg⟩ = putI 4 ++ putI i ++ putI c ++ putI o := by simp [wrF]
    rw [e]
    exact rwr4 i o c fn d _ w h3 h5 h4
  · have e : wrF ⟨8, i, o, fn, c, dd, rg⟩ = putI 8 ++ putI i ++ putI o ++ [if fn then 1 else 0] ++ (putL d.size ++ toL d) := by simp [wrF, hd, hz]
    rw [e]
    exact rwr8 i o c fn d _ w h3 h4 (by omega)
  · have e : wrF ⟨17, i, o, fn, c, dd, rg⟩ = putI 17 ++ putI i ++ putI o := by simp [wrF]
    rw [e]
    exact rwr17 i o c fn d _ w h3 h4
  · have e : wrF ⟨28, i, o, fn, c, dd, rg⟩ = putI 28 ++ putI c := by simp [wrF]
    rw [e]
    exact rwr28 i o c fn d _ w h5
  · have e : wrF ⟨48, i, o, fn, c, dd, rg⟩ = putI 48 ++ (putL d.size ++ toL d) := by simp [wrF, hd, hz]
    rw [e]
    exact rwr48 i o c fn d _ w (by omega)
/-- How many bytes a frame is written in. -/
def sizF (f : Fr) : Nat := if chkF f = 0 then (wrF f).length else 0
theorem wrRg_le (l : List Rg) : (wrRg l).length ≤ 16 * l.length := by
  induction l with
  | nil => simp [wrRg]
  | cons x l ih =>
    have e : wrRg (x :: l) = putI x.2 ++ putI x.1 ++ wrRg l := rfl
    have a1 := put_len x.1.toNat
    have a2 := put_len x.2.toNat
    rw [e, List.length_append, List.length_append, List.length_cons]
    show (putL x.2.toNat).length + (putL x.1.toNat).length + (wrRg l).length ≤ _
    omega
theorem wrF_le {f : Fr} (h : Rt f) : (wrF f).length ≤ 2000 := by
  have p := fun n : Int => put_len n.toNat
  have q := fun n : Nat => put_len n
  have hl := h.long
  unfold wrF
  rw [List.length_append]
  have a0 := p f.kind
  split
  · next hk =>
    have hr := (rg_in (h.rg hk).2).1
    have := wrRg_le f.rg
    rw [List.length_append]
    have a1 := q f.rg.length
    unfold putI
    omega
  · split
    · simp only [List.length_append]
      have a1 := p f.id; have a2 := p f.code; have a3 := p f.off
      unfold putI
      omega
    · split
      · simp only [List.length_append, List.length_cons, List.length_nil]
        have a1 := p f.id; have a2 := p f.off; have a3 := q f.data.length
        unfold putI
        omega
      · split
        · simp only [List.length_append]
          have a1 := p f.id; have a2 := p f.off
          unfold putI
          omega
        · split
          · have a1 := p f.code
            unfold putI
            omega
          · split
            · simp only [List.length_append]
              have a3 := q f.data.length
              unfold putI
              omega
            · unfold putI
              simp only [List.length_nil]
              omega
set_option maxHeartbeats 1000000 in
theorem rsizeF_ok {w : World} {v : Value} {f : Fr} (hf : FrIs w v f) (lf : f.rg.length < 9223372036854775807) (ld : f.data.length < 4611686018427387904) :
    Calls Tryd.prog 12 #[v] w fun e w' => e = .returned (.int .i64 (sizF f : Nat)) ∧ Below w.heap.size w w' := by
  obtain ⟨d, a, cp, rfl, hd, hr⟩ := hf
  have b0 := (Below.refl w.heap.size w).alloc (Nat.le_refl _) (.cells #[.int .i64 f.kind, .int .i64 f.id, .int .i64 f.off, .bool f.fin, .int .i64 f.code, .string d, .slice a f.rg.length cp] 24)
  have IS0 : FrIs (w.alloc (.cells #[.int .i64 f.kind, .int .i64 f.id, .int .i64 f.off, .bool f.fin, .int .i64 f.code, .string d, .slice a f.rg.length cp] 24)) (frV f d (.slice a f.rg.length cp)) f := ⟨d, a, cp, rfl, hd, hr.keep b0⟩
  have l := Lies.new w [.int .i64 f.kind, .int .i64 f.id, .int .i64 f.off, .bool f.fin, .int .i64 f.code, .string d, .slice a f.rg.length cp] 24
  have HS : Hid (C7b (w.alloc (.cells #[.int .i64 f.kind, .int .i64 f.id, .int .i64 f.off, .bool f.fin, .int .i64 f.code, .string d, .slice a f.rg.length cp] 24)) w.heap.size f.kind f.id f.off f.fin f.code d (.slice a f.rg.length cp)) := ⟨l.cell 0 rfl, l.cell 1 rfl, l.cell 2 rfl, l.cell 3 rfl, l.cell 4 rfl, l.cell 5 rfl, l.cell 6 rfl⟩
  have CK : Hid (Calls Tryd.prog 10 #[.agg #[.int .i64 f.kind, .int .i64 f.id, .int .i64 f.off, .bool f.fin, .int .i64 f.code, .string d, .slice a f.rg.length cp]] (w.alloc (.cells #[.int .i64 f.kind, .int .i64 f.id, .int .i64 f.off, .bool f.fin, .int .i64 f.code, .string d, .slice a f.rg.length cp] 24)) fun e w' => e = .returned (.int .i64 (chkF f)) ∧ Below (w.alloc (.cells #[.int .i64 f.kind, .int .i64 f.id, .int .i64 f.off, .bool f.fin, .int .i64 f.code, .string d, .slice a f.rg.length cp] 24)).heap.size (w.alloc (.cells #[.int .i64 f.kind, .int .i64 f.id, .int .i64 f.off, .bool f.fin, .int .i64 f.code, .string d, .slice a f.rg.length cp] 24)) w') := rchkF_ok IS0 lf ld
  replace b0 : Hid _ := b0
  replace IS0 : Hid (FrIs (w.alloc (.cells #[.int .i64 f.kind, .int .i64 f.id, .int .i64 f.off, .bool f.fin, .int .i64 f.code, .string d, .slice a f.rg.length cp] 24)) (frV f d (.slice a f.rg.length cp)) f) := IS0
  unfold frV sizF
  clear l hd hr lf ld
  by_cases h : chkF f = 0
  · rw [if_pos h]
    have R := chkF_zero.1 h
    have le := wrF_le R
    have zs : (strL (wrF f)).size = (wrF f).length := strL_size _
    have WR : Hid (∀ w', FrIs w' (frV f d (.slice a f.rg.length cp)) f → Calls Tryd.prog 31 #[.agg #[.int .i64 f.kind, .int .i64 f.id, .int .i64 f.off, .bool f.fin, .int .i64 f.code, .string d, .slice a f.rg.length cp]] w' fun e w'' => e = .returned (.string (strL (wrF f))) ∧ Below w'.heap.size w' w'') := fun w' q => rwrite_ok q R
    rw [h] at CK
    clear R h
    go_enter Tryd.func12, Tryd.ntmps12
    go_wp2_with fail
    refine CK.out.mono ?_
    rintro _ w1 ⟨rfl, b1⟩
    have B1 : Hid (Below w.heap.size w w1) := b0.out.trans (b1.mono b0.out.size)
    have W1 : Hid _ := WR.out w1 (IS0.out.keep b1)
    obtain ⟨z0, z1, z2, z3, z4, z5, z6⟩ := HS.out.keep b1
    clear b1 HS CK IS0 WR b0
    go_wp2_with fail
    refine Calls.mono W1.out ?_
    rintro _ w2 ⟨rfl, b2⟩
    have B2 : Hid (Below w.heap.size w w2) := B1.out.trans (b2.mono B1.out.size)
    clear b2 W1
    generalize strL (wrF f) = X at *
    go_wp2
    go_ret
    exact ⟨by rw [← zs]; rfl, B2.out⟩
  · rw [if_neg h]
    have g : (chkF f != 0) = true := by simp [h]
    generalize chkF f = y at *
    replace h : Hid _ := h
    go_enter Tryd.func12, Tryd.ntmps12
    go_wp2_with fail
    refine CK.out.mono ?_
    rintro _ w1 ⟨rfl, b1⟩
    have B1 : Hid (Below w.heap.size w w1) := b0.out.trans (b1.mono b0.out.size)
    clear b1 HS CK IS0 b0
    go_wp2
    go_ret
    exact ⟨rfl, B1.out⟩
end Go.Proofs.YtmngpkkpkjnejaaDoor
