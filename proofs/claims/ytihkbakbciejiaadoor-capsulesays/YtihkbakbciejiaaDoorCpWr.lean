/-
  What the document's own Write answers. No condition but the form's own reach.
-/
import Derived.Test.YtihkbakbciejiaaDoorCpPgC
namespace Go.Proofs.YtihkbakbciejiaaDoor
set_option maxRecDepth 100000
open Go.RowKit Go.Sort

set_option maxHeartbeats 2000000 in
theorem rwr16_ok (k : Int) (d : ByteArray) (w : World) (hs : d.size ≤ 4611686018427387000) :
    Calls Tryd.prog 11 #[.agg #[.int .i64 k, .string d]] w fun e w' => e = .returned (.string (strL (frI k (toL d)))) ∧ Below w.heap.size w w' := by
  have L0 := Lies.new w [.int .i64 k, .string d] 24
  change Lies (w.alloc (.cells #[.int .i64 k, .string d] 24)) w.heap.size [.int .i64 k, .string d] at L0
  have B0 : Below w.heap.size w (w.alloc (.cells #[.int .i64 k, .string d] 24)) := (Below.refl _ _).alloc (Nat.le_refl _) _
  obtain ⟨w1, hw1⟩ : ∃ w1, w1 = w.alloc (.cells #[.int .i64 k, .string d] 24) := ⟨_, rfl⟩
  rw [← hw1] at L0 B0
  obtain ⟨K, hK⟩ : ∃ K, K = w.heap.size := ⟨_, rfl⟩
  rw [← hK] at L0
  have c0 := L0.cell 0 (v := .int .i64 k) rfl
  have hKw := L0.lt (by show 0 < 2; decide)
  have N := Lib.hid (rnum_ok k w1)
  replace B0 := Lib.hid B0
  by_cases h : numI k
  · rw [decide_eq_true h] at N
    have z1 := putI_len k
    have z2 : (strL (putL d.size ++ toL d)).size ≤ 8 + d.size := by
      rw [strL_size, List.length_append, toL_len]
      have := put_len d.size
      omega
    have P : Hid (∀ w', _) := fun w' => rputI_ok k w' h
    have T : Hid (∀ w', _) := fun w' => rtxtL_ok d w' (by omega)
    rw [frI_parts k d h]
    generalize strL (putI k) = A at *
    generalize strL (putL d.size ++ toL d) = B at *
    have m1 : ¬ (9223372036854775807 < A.size + B.size) := by omega
    have x0 : ∀ d' os', (grow (redrawn w1 d') os').cell? ⟨K, 0, none⟩ = some (.int .i64 k) := fun d' os' => cell_regrown c0 d' os'
    have x1 : ∀ d' os', (grow (redrawn w1 d') os').cell? ⟨K, 1, none⟩ = some (.string d) := fun d' os' => cell_regrown (L0.cell 1 rfl) d' os'
    clear L0 h
    go_enter Tryd.func11, Tryd.ntmps11
    go_upto_region 1 with fail
    rw [← hw1, ← hK]
    clear hw1
    replace hK := Lib.hid hK
    go_wp2_with fail
    refine N.out.mono ?_
    rintro e w2 ⟨rfl, rfl⟩
    clear N
    go_upto_region 3 with fail
    refine wp_region_quiet_below (by kernel_rfl) (by kernel_rfl) ?_
    repeat (go_big_quiet_step (first | (go_at_call 35; exact Calls.regrown_of (P.out _)) | (go_at_call 36; exact Calls.regrown_of (T.out _))))
    refine wpQuiet_nil ?_
    intro _ hw'
    obtain ⟨⟨dq, osq⟩, hw''⟩ := hw'
    subst hw''
    have Z3 : Hid (Below w.heap.size w (grow (redrawn w1 dq) osq)) := B0.out.trans ((below_regrown w1 dq osq).mono B0.out.size)
    clear P T B0 x0 x1
    simp only
    generalize grow (redrawn w1 dq) osq = w3 at *
    go_wp2
    go_ret
    exact ⟨rfl, Z3.out⟩
  · rw [decide_eq_false h] at N
    rw [frI_none k (toL d) h]
    clear L0 hKw h
    go_enter Tryd.func11, Tryd.ntmps11
    go_upto_region 1 with fail
    rw [← hw1, ← hK]
    clear hw1
    replace hK := Lib.hid hK
    go_wp2_with fail
    refine N.out.mono ?_
    rintro e w2 ⟨rfl, rfl⟩
    clear N
    go_wp2_with fail
    go_ret
    exact ⟨rfl, B0.out⟩
end Go.Proofs.YtihkbakbciejiaaDoor
