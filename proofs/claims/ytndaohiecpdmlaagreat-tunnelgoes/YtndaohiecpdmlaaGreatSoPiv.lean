/-
  What slices.choosePivotOrdered answers of numbers of 32 bits: some place between the two, and nothing turns. No condition but how many there can be.
-/
import Derived.Test.YtndaohiecpdmlaaGreatSoBrk
import Derived.Deep.RegionWith
import Derived.Deep.DeepCutAuto
namespace Go.Proofs.YtndaohiecpdmlaaGreat
set_option maxRecDepth 100000
open Go.RowKit Go.Sort

/-- A number in a block of its own. -/
def Cnt (w : World) (rb : Nat) : Prop := ∃ z : Int, Lies w rb [.int .i64 z]
theorem Cnt.of {w w' : World} {rb : Nat} (h : Cnt w rb) (e : w'.heap[rb]? = w.heap[rb]?) : Cnt w' rb := by
  obtain ⟨z, L⟩ := h
  exact ⟨z, L.of_block e⟩
/-- Numbers that are only read, beside the counter. -/
def Reads (w : World) (g off n : Nat) (G : Nat → Int) : Prop := ∀ t, t < n → w.cell? ⟨g, off + t, none⟩ = some (.int .u32 (G t))
theorem Reads.aside {w w' : World} {g off n rb : Nat} {G : Nat → Int} (h : Reads w g off n G) (k : Kept (· = rb) w w') (hg : rb ≠ g) : Reads w' g off n G := fun t ht => by
  have c := h t ht
  rw [← c]
  exact World.cell?_of_block (a := ⟨g, off + t, none⟩) (k.block g (World.block_lt_of_cell? w _ c) (Ne.symm hg))
set_option maxHeartbeats 2000000 in
theorem ord_ok (g off n c : Nat) (G : Nat → Int) (a b rb : Nat) (w : World) (h : Reads w g off n G) (ha : a < n) (hb : b < n) (hr : Cnt w rb) :
    Calls Tryz.prog 109 #[.slice (some ⟨g, off, none⟩) n c, .int .i64 a, .int .i64 b, .pointer (some ⟨rb, 0, none⟩)] w fun e w' => ∃ p q : Nat, e = .returned (.tuple #[.int .i64 p, .int .i64 q]) ∧ (p = a ∨ p = b) ∧ (q = a ∨ q = b) ∧ Cnt w' rb ∧ Kept (· = rb) w w' := by
  obtain ⟨z, L⟩ := hr
  have ca := h a ha
  have cb := h b hb
  have cs := L.cell 0 (v := .int .i64 z) rfl
  have fs := L.free 0 (by simp)
  replace L := Lib.hid L
  clear h
  go_enter Tryz.func109, Tryz.ntmps109
  go_wp2
  go_region_with (go_at_call 95; refine (less_ok _ _ _).mono ?_; rintro e w' ⟨rfl, rfl⟩)
  all_goals (try go_wp2)
  all_goals go_ret2
  all_goals first
    | exact ⟨b, a, rfl, .inr rfl, .inl rfl, ⟨_, (L.out.put 0 (by simp) _).of_block rfl⟩, ((Kept.refl (· = rb) w).set ⟨rb, 0, none⟩ rfl _).add ⟨rfl, rfl, rfl, Nat.le_refl _, fun _ _ => rfl⟩⟩
    | exact ⟨a, b, rfl, .inl rfl, .inr rfl, ⟨z, L.out.of_block rfl⟩, ⟨rfl, rfl, rfl, Nat.le_refl _, fun _ _ _ => rfl⟩⟩
set_option maxHeartbeats 2000000 in
theorem med_ok (g off n cap : Nat) (G : Nat → Int) (a b c rb : Nat) (w : World) (h : Reads w g off n G) (hg : rb ≠ g) (ha : a < n) (hb : b < n) (hc : c < n) (hr : Cnt w rb) :
    Calls Tryz.prog 106 #[.slice (some ⟨g, off, none⟩) n cap, .int .i64 a, .int .i64 b, .int .i64 c, .pointer (some ⟨rb, 0, none⟩)] w fun e w' => ∃ m : Nat, e = .returned (.int .i64 m) ∧ (m = a ∨ m = b ∨ m = c) ∧ Cnt w' rb ∧ Kept (· = rb) w w' := by
  have H := Lib.hid h
  have R := Lib.hid hr
  clear h hr
  go_enter Tryz.func106, Tryz.ntmps106
  go_wp2_with fail
  refine (ord_ok g off n cap G a b rb w H.out ha hb R.out).mono ?_
  rintro e w1 ⟨p1, q1, rfl, hp1, hq1, R1, k1⟩
  have H1 := Lib.hid (H.out.aside k1 hg)
  replace R1 := Lib.hid R1
  replace k1 := Lib.hid k1
  have lp1 : p1 < n := by omega
  have lq1 : q1 < n := by omega
  replace hp1 := Lib.hid hp1
  replace hq1 := Lib.hid hq1
  go_wp2_with fail
  refine (ord_ok g off n cap G q1 c rb w1 H1.out lq1 hc R1.out).mono ?_
  rintro e w2 ⟨p2, q2, rfl, hp2, hq2, R2, k2⟩
  have H2 := Lib.hid (H1.out.aside k2 hg)
  replace R2 := Lib.hid R2
  have K2 := Lib.hid (k1.out.trans k2)
  have lp2 : p2 < n := by omega
  replace hp2 := Lib.hid hp2
  clear k1 k2 H1 R1 hq2 H R
  go_wp2_with fail
  refine (ord_ok g off n cap G p1 p2 rb w2 H2.out lp1 lp2 R2.out).mono ?_
  rintro e w3 ⟨p3, q3, rfl, hp3, hq3, R3, k3⟩
  have K3 := Lib.hid (K2.out.trans k3)
  replace R3 := Lib.hid R3
  have hm : Hid (q3 = a ∨ q3 = b ∨ q3 = c) := by
    have := hp1.out; have := hq1.out; have := hp2.out
    show _ ∨ _ ∨ _
    omega
  clear K2 k3 H2 R2 hp3 hq3
  go_wp2_with fail
  go_ret
  exact ⟨q3, rfl, hm.out, R3.out, K3.out⟩
theorem adj_ok (g off n cap : Nat) (G : Nat → Int) (a rb : Nat) (w : World) (h : Reads w g off n G) (hg : rb ≠ g) (h1 : 1 ≤ a) (ha : a + 1 < n) (hn : n < 4611686018427387904) (hr : Cnt w rb) :
    Calls Tryz.prog 105 #[.slice (some ⟨g, off, none⟩) n cap, .int .i64 a, .pointer (some ⟨rb, 0, none⟩)] w fun e w' => ∃ m : Nat, e = .returned (.int .i64 m) ∧ (a ≤ m + 1 ∧ m ≤ a + 1) ∧ Cnt w' rb ∧ Kept (· = rb) w w' := by
  have M := Lib.hid (med_ok g off n cap G (a - 1) a (a + 1) rb w h hg (by omega) (by omega) ha hr)
  have e1 : (a : Int) - 1 = ((a - 1 : Nat) : Int) := by omega
  have e2 : (a : Int) + 1 = ((a + 1 : Nat) : Int) := by omega
  clear h hr
  replace e1 := Lib.hid e1
  replace e2 := Lib.hid e2
  go_enter Tryz.func105, Tryz.ntmps105
  go_wp2_with fail
  rw [e1.out, e2.out]
  refine M.out.mono ?_
  rintro e w1 ⟨m, rfl, hm, R1, k1⟩
  replace R1 := Lib.hid R1
  replace k1 := Lib.hid k1
  have hm' : Hid (a ≤ m + 1 ∧ m ≤ a + 1) := by
    show _ ∧ _
    omega
  clear hm M
  go_wp2_with fail
  go_ret
  exact ⟨m, rfl, hm'.out, R1.out, k1.out⟩
end Go.Proofs.YtndaohiecpdmlaaGreat
