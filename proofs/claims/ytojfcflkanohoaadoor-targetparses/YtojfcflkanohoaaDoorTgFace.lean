/-
  What the program's Parse answers of any fields: the target that they ask for and 200, or no target and a status. The tables of Go's library lie as the row's list gives them.
-/
import Derived.Test.YtojfcflkanohoaaDoorTgOf
import Derived.Defers
import Derived.Recover
import Derived.Laws.Pointers
namespace Go.Proofs.YtojfcflkanohoaaDoor
set_option maxRecDepth 100000
open Go.RowKit Go.Sort

set_option maxHeartbeats 1000000 in
theorem catch_idle (p q : Addr) (w : World) :
    CallsD Tryd.prog 17 #[.pointer (some p), .pointer (some q)] .returning w fun e u' w' => e = .returned (.tuple #[]) ∧ u' = .returning ∧ w' = w := by
  refine callsD_of_wpS Tryd.func17 rfl fun c₀ cs hu => ?_
  apply wpS_seq
  apply wpS_region
  simp [wpOpsS, go_sem, recoverD, hu, Tryd.ntmps17, Exit.thenS]
  refine wpS_of_wp ?_
  change Code.wp _ _ _ { tmps := #[.pointer (some p), .pointer (some q), .nilIface, undef, undef, .nilIface, undef, undef, undef, undef, undef, undef, undef, undef, undef, undef, undef, undef], defers := [] } w
  go_wp2
  cases c₀
  simp_all [bodyPostS, results, Tryd.results17]
set_option maxHeartbeats 1000000 in
theorem catch_thrown (A E : Nat) (x y : Int) (older : List PanicEntry) (w : World) (hA : Lies w A [.bool false, .int .u32 0, .int .i64 0]) (hE : Lies w E [.int .i64 y]) (hne : E ≠ A) :
    CallsD Tryd.prog 17 #[.pointer (some ⟨A, 0, none⟩), .pointer (some ⟨E, 0, none⟩)] (.panicking ({ v := .iface 44 (.int .i64 x), recovered := false } :: older)) w fun e u' w' =>
      e = .returned (.tuple #[]) ∧ u' = .panicking ({ v := .iface 44 (.int .i64 x), recovered := true } :: older) ∧ w'.cell? ⟨A, 0, none⟩ = some (.bool false) ∧ w'.cell? ⟨A, 1, none⟩ = some (.int .u32 0) ∧ w'.cell? ⟨A, 2, none⟩ = some (.int .i64 0) ∧ w'.cell? ⟨E, 0, none⟩ = some (.int .i64 x) ∧ ∀ n, n ≤ A → n ≤ E → Below n w w' := by
  refine callsD_of_wpS Tryd.func17 rfl fun c₀ cs hu => ?_
  apply wpS_seq
  apply wpS_region
  simp [wpOpsS, go_sem, recoverD, hu, Tryd.ntmps17, Exit.thenS]
  refine wpS_of_wp ?_
  change Code.wp _ _ _ { tmps := #[.pointer (some ⟨A, 0, none⟩), .pointer (some ⟨E, 0, none⟩), .iface 44 (.int .i64 x), undef, undef, .iface 44 (.int .i64 x), undef, undef, undef, undef, undef, undef, undef, undef, undef, undef, undef, undef], defers := [] } w
  have a0 := hA.cell 0 (v := .bool false) rfl
  have a1 := hA.cell 1 (v := .int .u32 0) rfl
  have a2 := hA.cell 2 (v := .int .i64 0) rfl
  have f0 := hA.free 0 (by show 0 < 3; decide)
  have f1 := hA.free 1 (by show 1 < 3; decide)
  have f2 := hA.free 2 (by show 2 < 3; decide)
  have e0 := hE.cell 0 (v := .int .i64 y) rfl
  have e1 := hE.free 0 (by show 0 < 1; decide)
  clear hA hE
  have hta : ∀ w, (Instr.typeAssert (.iface 44 (.int .i64 x)) 20 44 true).run Tryd.prog w = .ok (.tuple #[.int .i64 x, .bool true]) w := fun _ => by kernel_rfl
  have hne' : ¬ A = E := fun e => hne e.symm
  go_wp2
  refine ⟨rfl, _, rfl, .tuple #[], ?_, rfl, rfl, ?_, ?_, ?_, ?_, fun n hn he => ?_⟩
  · simp [results, Tryd.results17]
  · simp [go_sem, *]
  · simp [go_sem, *]
  · simp [go_sem, *]
  · simp [go_sem, *]
  · exact ((((Below.refl n w).setCell (p := ⟨A, 0, none⟩) hn _).setCell (p := ⟨A, 1, none⟩) hn _).setCell (p := ⟨A, 2, none⟩) hn _).setCell (p := ⟨E, 0, none⟩) he _
/-- What Parse answers. -/
def Ans (l : List Fd) (e : Ending) : Prop := ∃ ip a n st, Asks l ip a n st ∧ e = .returned (.tuple #[tgV ip a n, .int .i64 st])
theorem ans_of {l : List Fd} {ip : Bool} {a n : Int} (h : OfE l (.returned (tgV ip a n))) : Asks l ip a n 200 := by
  rcases h with ⟨_, h⟩ | ⟨h0, ⟨ip', a', n', h1, h2⟩ | ⟨_, h2⟩⟩
  · cases h
  · unfold tgV at h2
    injection h2 with h2
    injection h2 with h2
    simp only [Array.mk.injEq, List.cons.injEq, and_true] at h2
    obtain ⟨e1, e2, e3⟩ := h2
    injection e1 with e1
    injection e2 with _ e2
    injection e3 with _ e3
    subst e1 e2 e3
    exact .inr ⟨h0, .inl ⟨rfl, h1⟩⟩
  · cases h2
theorem ans_no {l : List Fd} {x : Int} (h : OfE l (.panicked (thrown x))) : Asks l false 0 0 x := by
  have ix : ∀ y, Ending.panicked (thrown x) = Ending.panicked (thrown y) → x = y := fun y e => by
    unfold thrown at e
    injection e with e
    injection e with e _
    injection e with e _
    injection e with _ e
    injection e
  rcases h with ⟨h0, h⟩ | ⟨h0, ⟨ip', a', n', h1, h2⟩ | ⟨h1, h2⟩⟩
  · exact .inl ⟨h0, ix _ h, rfl, rfl, rfl⟩
  · cases h2
  · exact .inr ⟨h0, .inr ⟨ix _ h2, rfl, rfl, rfl, h1⟩⟩
theorem of_cases {l : List Fd} {e : Ending} (h : OfE l e) : (∃ ip a n, e = .returned (tgV ip a n)) ∨ ∃ x, e = .panicked (thrown x) := by
  rcases h with ⟨_, h⟩ | ⟨_, ⟨ip', a', n', _, h2⟩ | ⟨_, h2⟩⟩
  · exact .inr ⟨_, h⟩
  · exact .inl ⟨_, _, _, h2⟩
  · exact .inr ⟨_, h2⟩
set_option maxHeartbeats 2000000 in
theorem parse17_ok (l : List Fd) (v : Value) (w : World) (t : Tab w) (h : FdsAt w v l) (hl : l.length ≤ maxLen) :
    Calls Tryd.prog 8 #[v] w fun e w' => Ans l e ∧ Below w.heap.size w w' := by
  have hmf : ∀ (fn : Fn) (first cap : Array Value) (w : World), (Instr.makeFunc fn first cap).run Tryd.prog w = .ok (.func fn first cap) w := fun _ _ _ _ => rfl
  have b1 : Below w.heap.size w (w.alloc (.cells #[.bool false, .int .u32 0, .int .i64 0] 25)) := bx1 w _
  have s1 : (w.alloc (.cells #[.bool false, .int .u32 0, .int .i64 0] 25)).heap.size = w.heap.size + 1 := by simp
  have b2 : Below (w.heap.size + 1) (w.alloc (.cells #[.bool false, .int .u32 0, .int .i64 0] 25)) ((w.alloc (.cells #[.bool false, .int .u32 0, .int .i64 0] 25)).alloc (.cells #[.int .i64 0] 3)) := (Below.refl _ _).alloc (by rw [s1]; exact Nat.le_refl _) _
  have s2 : ((w.alloc (.cells #[.bool false, .int .u32 0, .int .i64 0] 25)).alloc (.cells #[.int .i64 0] 3)).heap.size = w.heap.size + 2 := by simp
  have bel : Below w.heap.size w ((w.alloc (.cells #[.bool false, .int .u32 0, .int .i64 0] 25)).alloc (.cells #[.int .i64 0] 3)) := b1.trans (b2.mono (by omega))
  have LA := Lies.new w [.bool false, .int .u32 0, .int .i64 0] 25
  have LE := Lies.new (w.alloc (.cells #[.bool false, .int .u32 0, .int .i64 0] 25)) [.int .i64 0] 3
  rw [s1] at LE
  have LA2 : Hid _ := LA.of_block (b2.block w.heap.size (by omega))
  have LE2 : Hid _ := LE
  have FR : Hid _ := of_ok l v ((w.alloc (.cells #[.bool false, .int .u32 0, .int .i64 0] 25)).alloc (.cells #[.int .i64 0] 3)) (t.keep bel) (h.keep bel) hl
  replace bel : Hid _ := bel
  replace s2 : Hid _ := s2
  obtain ⟨a, c, rfl⟩ := h.slice
  clear LA LE b1 b2 s1 t h hl
  generalize l.length = n at *
  go_enter_defers Tryd.func8, Tryd.ntmps8
  go_wp2_with fail
  generalize ((w.alloc (.cells #[.bool false, .int .u32 0, .int .i64 0] 25)).alloc (.cells #[.int .i64 0] 3)) = w2 at *
  refine Calls.mono FR.out ?_
  rintro e w3 ⟨hO, b3⟩
  have hz := s2.out
  have LA3 := LA2.out.keep (by show 0 < 3; decide) b3
  have LE3 := LE2.out.keep (by show 0 < 1; decide) b3
  have bel3 : Below w.heap.size w w3 := bel.out.trans (b3.mono (by omega))
  clear FR LA2 LE2 bel b3
  rcases of_cases hO with ⟨ip, a', n', rfl⟩ | ⟨x, rfl⟩
  · have AS : Hid (Ans l (.returned (.tuple #[tgV ip a' n', .int .i64 200]))) := ⟨ip, a', n', 200, ans_of hO, rfl⟩
    clear hO
    unfold tgV at AS ⊢
    have a0 := LA3.cell 0 (v := .bool false) rfl
    have a1 := LA3.cell 1 (v := .int .u32 0) rfl
    have a2 := LA3.cell 2 (v := .int .i64 0) rfl
    have f0 := LA3.free 0 (by show 0 < 3; decide)
    have f1 := LA3.free 1 (by show 1 < 3; decide)
    have f2 := LA3.free 2 (by show 2 < 3; decide)
    have e0 := LE3.cell 0 (v := .int .i64 0) rfl
    have e1 := LE3.free 0 (by show 0 < 1; decide)
    have hne : ¬ (w.heap.size + 1 = w.heap.size) := by omega
    have hne' : ¬ (w.heap.size = w.heap.size + 1) := by omega
    have belE : Hid (Below w.heap.size w ((((w3.setCell ⟨w.heap.size, 0, none⟩ (.bool ip)).setCell ⟨w.heap.size, 1, none⟩ (.int .u32 a')).setCell ⟨w.heap.size, 2, none⟩ (.int .i64 n')).setCell ⟨w.heap.size + 1, 0, none⟩ (.int .i64 200))) := (((bel3.setCell (p := ⟨w.heap.size, 0, none⟩) (Nat.le_refl _) _).setCell (p := ⟨w.heap.size, 1, none⟩) (Nat.le_refl _) _).setCell (p := ⟨w.heap.size, 2, none⟩) (Nat.le_refl _) _).setCell (p := ⟨w.heap.size + 1, 0, none⟩) (Nat.le_succ _) _
    have L4 := ((LA3.put 0 (by show 0 < 3; decide) (.bool ip)).put 1 (by show 1 < 3; decide) (.int .u32 a')).put 2 (by show 2 < 3; decide) (.int .i64 n')
    have L5 := L4.of_block (w' := (((w3.setCell ⟨w.heap.size, 0, none⟩ (.bool ip)).setCell ⟨w.heap.size, 1, none⟩ (.int .u32 a')).setCell ⟨w.heap.size, 2, none⟩ (.int .i64 n')).setCell ⟨w.heap.size + 1, 0, none⟩ (.int .i64 200)) (Below.heap_setCell _ _ _ _ (by show w.heap.size ≠ w.heap.size + 1; omega))
    have M4 := LE3.of_block (w' := ((w3.setCell ⟨w.heap.size, 0, none⟩ (.bool ip)).setCell ⟨w.heap.size, 1, none⟩ (.int .u32 a')).setCell ⟨w.heap.size, 2, none⟩ (.int .i64 n')) (((Below.heap_setCell _ _ _ _ (by show w.heap.size + 1 ≠ w.heap.size; omega)).trans (Below.heap_setCell _ _ _ _ (by show w.heap.size + 1 ≠ w.heap.size; omega))).trans (Below.heap_setCell _ _ _ _ (by show w.heap.size + 1 ≠ w.heap.size; omega)))
    have M5 := M4.put 0 (by show 0 < 1; decide) (.int .i64 200)
    have r0 := L5.cell 0 (v := .bool ip) rfl
    have r1 := L5.cell 1 (v := .int .u32 a') rfl
    have r2 := L5.cell 2 (v := .int .i64 n') rfl
    have r3 := M5.cell 0 (v := .int .i64 200) rfl
    clear L4 L5 M4 M5 LA3 LE3 bel3
    go_wp2
    generalize ((((w3.setCell ⟨w.heap.size, 0, none⟩ (.bool ip)).setCell ⟨w.heap.size, 1, none⟩ (.int .u32 a')).setCell ⟨w.heap.size, 2, none⟩ (.int .i64 n')).setCell ⟨w.heap.size + 1, 0, none⟩ (.int .i64 200)) = w6 at *
    refine leaves_cons (f := 17) (args := #[.pointer (some ⟨w.heap.size, 0, none⟩), .pointer (some ⟨w.heap.size + 1, 0, none⟩)]) (by simp) (by simp [go_sem]) ?_
    refine (catch_idle _ _ _).mono ?_
    rintro e u' w7 ⟨rfl, rfl, rfl⟩
    refine ⟨.tuple #[.agg #[.bool ip, .int .u32 a', .int .i64 n'], .int .i64 200], ?_, AS.out, belE.out⟩
    simp [results, Tryd.results8, go_sem, r0, r1, r2, r3]
  · have AS : Hid (Ans l (.returned (.tuple #[tgV false 0 0, .int .i64 x]))) := ⟨false, 0, 0, x, ans_no hO, rfl⟩
    clear hO
    refine leaves_cons (f := 17) (args := #[.pointer (some ⟨w.heap.size, 0, none⟩), .pointer (some ⟨w.heap.size + 1, 0, none⟩)]) (by simp) (by simp [go_sem]) ?_
    refine (catch_thrown w.heap.size (w.heap.size + 1) x 0 [] w3 LA3 LE3 (by omega)).mono ?_
    rintro e u' w5 ⟨rfl, rfl, c0, c1, c2, c3, bl⟩
    refine ⟨.tuple #[.agg #[.bool false, .int .u32 0, .int .i64 0], .int .i64 x], ?_, AS.out, bel3.trans (bl w.heap.size (Nat.le_refl _) (Nat.le_succ _))⟩
    simp [results, Tryd.results8, go_sem, c0, c1, c2, c3]
end Go.Proofs.YtojfcflkanohoaaDoor
