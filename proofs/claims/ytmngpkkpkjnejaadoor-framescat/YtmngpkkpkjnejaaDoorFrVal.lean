/-
  Frames as the program holds them; what the document's own kind, number and bare answer. No condition.
-/
import Derived.Test.YtmngpkkpkjnejaaDoorFrMath
import Derived.Test.YtmngpkkpkjnejaaDoorAkChk
import Derived.Test.YtmngpkkpkjnejaaDoorAkRow
namespace Go.Proofs.YtmngpkkpkjnejaaDoor
set_option maxRecDepth 100000
open Go.RowKit Go.Sort

/-- A frame as a value. -/
def frV (f : Fr) (d : ByteArray) (sv : Value) : Value := .agg #[.int .i64 f.kind, .int .i64 f.id, .int .i64 f.off, .bool f.fin, .int .i64 f.code, .string d, sv]
def FrIs (w : World) (v : Value) (f : Fr) : Prop := ∃ d a cp, v = frV f d (.slice a f.rg.length cp) ∧ toL d = f.data ∧ RgAt w (.slice a f.rg.length cp) f.rg
theorem FrIs.keep {w w' : World} {v : Value} {f : Fr} (h : FrIs w v f) (b : Below w.heap.size w w') : FrIs w' v f := by
  obtain ⟨d, a, cp, h1, h2, h3⟩ := h
  exact ⟨d, a, cp, h1, h2, h3.keep b⟩
theorem rgAt_nil (w : World) : RgAt w (.slice none 0 0) [] := ⟨none, 0, rfl, .inl rfl⟩
set_option maxHeartbeats 1000000 in
theorem rkind_ok (k : Int) (w : World) :
    Calls Tryd.prog 26 #[.int .i64 k] w fun e w' => e = .returned (.bool (kindB k)) ∧ w = w' := by
  cases h : kindB k
  · have hn : ¬ (k = 0 ∨ k = 1 ∨ k = 2 ∨ k = 4 ∨ k = 8 ∨ k = 17 ∨ k = 28 ∨ k = 48) := fun q => by
      rw [kind_iff.2 q] at h
      cases h
    simp only [not_or] at hn
    obtain ⟨h0, h1, h2, h4, h8, h17, h28, h48⟩ := hn
    have b0 : (k == 0) = false := by simp [h0]
    have b1 : (k == 1) = false := by simp [h1]
    have b2 : (k == 2) = false := by simp [h2]
    have b4 : (k == 4) = false := by simp [h4]
    have b8 : (k == 8) = false := by simp [h8]
    have b17 : (k == 17) = false := by simp [h17]
    have b28 : (k == 28) = false := by simp [h28]
    have b48 : (k == 48) = false := by simp [h48]
    clear h h0 h1 h2 h4 h8 h17 h28 h48
    go_enter Tryd.func26, Tryd.ntmps26
    go_wp2
    go_ret
    exact ⟨rfl, rfl⟩
  · rcases kind_iff.1 h with rfl | rfl | rfl | rfl | rfl | rfl | rfl | rfl
    all_goals
      go_enter Tryd.func26, Tryd.ntmps26
      go_wp2
      go_ret
      exact ⟨rfl, rfl⟩
theorem rnumber_ok (n : Int) (w : World) :
    Calls Tryd.prog 29 #[.int .i64 n] w fun e w' => e = .returned (.bool (numB n)) ∧ w = w' := by
  unfold numB
  by_cases h : 0 ≤ n
  · have b : decide (0 ≤ n) = true := decide_eq_true h
    go_enter Tryd.func29, Tryd.ntmps29
    go_wp2
    go_ret
    rw [b]
    exact ⟨rfl, rfl⟩
  · have b : decide (0 ≤ n) = false := decide_eq_false h
    go_enter Tryd.func29, Tryd.ntmps29
    go_wp2
    go_ret
    exact ⟨rfl, rfl⟩
theorem below3 (w : World) (a b c : Obj) : Below w.heap.size w (((w.alloc a).alloc b).alloc c) := (((Below.refl _ _).alloc (Nat.le_refl _) _).alloc (by simp) _).alloc (by simp; omega) _
theorem below3d (w : World) (a b c : Obj) : Below w.heap.size w (((w.alloc a).alloc b).alloc c).drew := (below3 w a b c).trans ⟨rfl, rfl, rfl, Nat.le_refl _, fun _ _ => rfl⟩
set_option maxHeartbeats 4000000 in
theorem rbare2 (i o : Int) (fn : Bool) (c : Int) (d : ByteArray) (a : Option Addr) (n cp : Nat) (w : World) :
    Calls Tryd.prog 28 #[.agg #[.int .i64 2, .int .i64 i, .int .i64 o, .bool fn, .int .i64 c, .string d, .slice a n cp]] w fun e w' => e = .returned (.agg #[.int .i64 2, .int .i64 0, .int .i64 0, .bool false, .int .i64 0, .string ByteArray.empty, .slice a n cp]) ∧ Below w.heap.size w w' := by
  go_enter Tryd.func28, Tryd.ntmps28
  go_wp2
  refine bodyPost_ret (v := .agg #[.int .i64 2, .int .i64 0, .int .i64 0, .bool false, .int .i64 0, .string ByteArray.empty, .slice a n cp]) (by simp [results, Tryd.results28, go_sem]; try rfl) rfl ⟨rfl, below3 _ _ _ _⟩
set_option maxHeartbeats 4000000 in
theorem rbare4 (i o : Int) (fn : Bool) (c : Int) (d : ByteArray) (a : Option Addr) (n cp : Nat) (w : World) :
    Calls Tryd.prog 28 #[.agg #[.int .i64 4, .int .i64 i, .int .i64 o, .bool fn, .int .i64 c, .string d, .slice a n cp]] w fun e w' => e = .returned (.agg #[.int .i64 4, .int .i64 i, .int .i64 o, .bool false, .int .i64 c, .string ByteArray.empty, .slice none 0 0]) ∧ Below w.heap.size w w' := by
  go_enter Tryd.func28, Tryd.ntmps28
  go_wp2
  go_region
  go_wp2
  refine bodyPost_ret (v := .agg #[.int .i64 4, .int .i64 i, .int .i64 o, .bool false, .int .i64 c, .string ByteArray.empty, .slice none 0 0]) (by simp [results, Tryd.results28, go_sem]; try rfl) rfl ⟨rfl, below3d _ _ _ _⟩
set_option maxHeartbeats 4000000 in
theorem rbare8 (i o : Int) (fn : Bool) (c : Int) (d : ByteArray) (a : Option Addr) (n cp : Nat) (w : World) :
    Calls Tryd.prog 28 #[.agg #[.int .i64 8, .int .i64 i, .int .i64 o, .bool fn, .int .i64 c, .string d, .slice a n cp]] w fun e w' => e = .returned (.agg #[.int .i64 8, .int .i64 i, .int .i64 o, .bool fn, .int .i64 0, .string d, .slice none 0 0]) ∧ Below w.heap.size w w' := by
  go_enter Tryd.func28, Tryd.ntmps28
  go_wp2
  go_region
  go_wp2
  refine bodyPost_ret (v := .agg #[.int .i64 8, .int .i64 i, .int .i64 o, .bool fn, .int .i64 0, .string d, .slice none 0 0]) (by simp [results, Tryd.results28, go_sem]) rfl ⟨rfl, below3d _ _ _ _⟩
set_option maxHeartbeats 4000000 in
theorem rbare17 (i o : Int) (fn : Bool) (c : Int) (d : ByteArray) (a : Option Addr) (n cp : Nat) (w : World) :
    Calls Tryd.prog 28 #[.agg #[.int .i64 17, .int .i64 i, .int .i64 o, .bool fn, .int .i64 c, .string d, .slice a n cp]] w fun e w' => e = .returned (.agg #[.int .i64 17, .int .i64 i, .int .i64 o, .bool false, .int .i64 0, .string ByteArray.empty, .slice none 0 0]) ∧ Below w.heap.size w w' := by
  go_enter Tryd.func28, Tryd.ntmps28
  go_wp2
  go_region
  go_wp2
  refine bodyPost_ret (v := .agg #[.int .i64 17, .int .i64 i, .int .i64 o, .bool false, .int .i64 0, .string ByteArray.empty, .slice none 0 0]) (by simp [results, Tryd.results28, go_sem]; try rfl) rfl ⟨rfl, below3d _ _ _ _⟩
set_option maxHeartbeats 4000000 in
theorem rbare28 (i o : Int) (fn : Bool) (c : Int) (d : ByteArray) (a : Option Addr) (n cp : Nat) (w : World) :
    Calls Tryd.prog 28 #[.agg #[.int .i64 28, .int .i64 i, .int .i64 o, .bool fn, .int .i64 c, .string d, .slice a n cp]] w fun e w' => e = .returned (.agg #[.int .i64 28, .int .i64 0, .int .i64 0, .bool false, .int .i64 c, .string ByteArray.empty, .slice none 0 0]) ∧ Below w.heap.size w w' := by
  go_enter Tryd.func28, Tryd.ntmps28
  go_wp2
  refine bodyPost_ret (v := .agg #[.int .i64 28, .int .i64 0, .int .i64 0, .bool false, .int .i64 c, .string ByteArray.empty, .slice none 0 0]) (by simp [results, Tryd.results28, go_sem]; try rfl) rfl ⟨rfl, below3 _ _ _ _⟩
set_option maxHeartbeats 4000000 in
theorem rbare48 (i o : Int) (fn : Bool) (c : Int) (d : ByteArray) (a : Option Addr) (n cp : Nat) (w : World) :
    Calls Tryd.prog 28 #[.agg #[.int .i64 48, .int .i64 i, .int .i64 o, .bool fn, .int .i64 c, .string d, .slice a n cp]] w fun e w' => e = .returned (.agg #[.int .i64 48, .int .i64 0, .int .i64 0, .bool false, .int .i64 0, .string d, .slice none 0 0]) ∧ Below w.heap.size w w' := by
  go_enter Tryd.func28, Tryd.ntmps28
  go_wp2
  refine bodyPost_ret (v := .agg #[.int .i64 48, .int .i64 0, .int .i64 0, .bool false, .int .i64 0, .string d, .slice none 0 0]) (by simp [results, Tryd.results28, go_sem]) rfl ⟨rfl, below3 _ _ _ _⟩
set_option maxHeartbeats 4000000 in
theorem rbareN (k : Int) (i o : Int) (fn : Bool) (c : Int) (d : ByteArray) (a : Option Addr) (n cp : Nat) (w : World) (b2 : (k == 2) = false) (b4 : (k == 4) = false) (b8 : (k == 8) = false) (b17 : (k == 17) = false) (b28 : (k == 28) = false) (b48 : (k == 48) = false) :
    Calls Tryd.prog 28 #[.agg #[.int .i64 k, .int .i64 i, .int .i64 o, .bool fn, .int .i64 c, .string d, .slice a n cp]] w fun e w' => e = .returned (.agg #[.int .i64 k, .int .i64 0, .int .i64 0, .bool false, .int .i64 0, .string ByteArray.empty, .slice none 0 0]) ∧ Below w.heap.size w w' := by
  go_enter Tryd.func28, Tryd.ntmps28
  go_wp2
  refine bodyPost_ret (v := .agg #[.int .i64 k, .int .i64 0, .int .i64 0, .bool false, .int .i64 0, .string ByteArray.empty, .slice none 0 0]) (by simp [results, Tryd.results28, go_sem]; try rfl) rfl ⟨rfl, below3 _ _ _ _⟩
theorem rbare_ok {w : World} {v : Value} {f : Fr} (h : FrIs w v f) :
    Calls Tryd.prog 28 #[v] w fun e w' => ∃ v', e = .returned v' ∧ FrIs w' v' (bare f) ∧ Below w.heap.size w w' := by
  obtain ⟨d, a, cp, rfl, hd, hr⟩ := h
  obtain ⟨k, i, o, fn, c, dd, rg⟩ := f
  unfold bare
  simp only at hd hr ⊢
  by_cases k2 : k = 2
  · subst k2
    refine (rbare2 i o fn c d a rg.length cp w).mono ?_
    rintro e w' ⟨rfl, b⟩
    exact ⟨_, rfl, ⟨ByteArray.empty, a, cp, rfl, rfl, hr.keep b⟩, b⟩
  · by_cases k4 : k = 4
    · subst k4
      refine (rbare4 i o fn c d a rg.length cp w).mono ?_
      rintro e w' ⟨rfl, b⟩
      exact ⟨_, rfl, ⟨ByteArray.empty, none, 0, rfl, rfl, rgAt_nil _⟩, b⟩
    · by_cases k8 : k = 8
      · subst k8
        refine (rbare8 i o fn c d a rg.length cp w).mono ?_
        rintro e w' ⟨rfl, b⟩
        exact ⟨_, rfl, ⟨d, none, 0, rfl, hd, rgAt_nil _⟩, b⟩
      · by_cases k17 : k = 17
        · subst k17
          refine (rbare17 i o fn c d a rg.length cp w).mono ?_
          rintro e w' ⟨rfl, b⟩
          exact ⟨_, rfl, ⟨ByteArray.empty, none, 0, rfl, rfl, rgAt_nil _⟩, b⟩
        · by_cases k28 : k = 28
          · subst k28
            refine (rbare28 i o fn c d a rg.length cp w).mono ?_
            rintro e w' ⟨rfl, b⟩
            exact ⟨_, rfl, ⟨ByteArray.empty, none, 0, rfl, rfl, rgAt_nil _⟩, b⟩
          · by_cases k48 : k = 48
            · subst k48
              refine (rbare48 i o fn c d a rg.length cp w).mono ?_
              rintro e w' ⟨rfl, b⟩
              exact ⟨_, rfl, ⟨d, none, 0, rfl, hd, rgAt_nil _⟩, b⟩
            · rw [if_neg k2, if_neg k4, if_neg k8, if_neg k17, if_neg k28, if_neg k48]
              refine (rbareN k i o fn c d a rg.length cp w (by simp [k2]) (by simp [k4]) (by simp [k8]) (by simp [k17]) (by simp [k28]) (by simp [k48])).mono ?_
              rintro e w' ⟨rfl, b⟩
              exact ⟨_, rfl, ⟨ByteArray.empty, none, 0, rfl, rfl, rgAt_nil _⟩, b⟩
end Go.Proofs.YtmngpkkpkjnejaaDoor
