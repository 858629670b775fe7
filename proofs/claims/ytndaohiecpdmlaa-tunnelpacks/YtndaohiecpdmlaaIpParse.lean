/-
  What the program's Parse answers, for every string. No condition.
-/
import Derived.Test.YtndaohiecpdmlaaIpCatch
import Derived.Test.YtndaohiecpdmlaaIpPackC
import Derived.Test.YtndaohiecpdmlaaIpPackD
namespace Go.Proofs.Ytndaohiecpdmlaa
open Go.RowKit

/-- An empty header. -/
def none' : Value := hv 0 0 0 0 0 0 0 ⟨#[]⟩
theorem w3_rd (w : World) (s : ByteArray) : Rd (((w.alloc (.cells #[.int .i64 0, .int .i64 0, .int .i64 0, .int .i64 0, .int .i64 0, .int .u32 0, .int .u32 0, .string ⟨#[]⟩] 40)).alloc (.cells #[.int .i64 0] 26)).alloc (.cells #[.string s, .int .i64 0] 72)) (w.heap.size + 1 + 1) s 0 := by
  refine ⟨by simp, ?_, ?_, ?_⟩ <;> simp [go_sem]
theorem w3_h (w : World) (s : ByteArray) : HB (((w.alloc (.cells #[.int .i64 0, .int .i64 0, .int .i64 0, .int .i64 0, .int .i64 0, .int .u32 0, .int .u32 0, .string ⟨#[]⟩] 40)).alloc (.cells #[.int .i64 0] 26)).alloc (.cells #[.string s, .int .i64 0] 72)) w.heap.size zs := ((hb_new w).alloc _).alloc _
theorem w3_e (w : World) (s : ByteArray) : (((w.alloc (.cells #[.int .i64 0, .int .i64 0, .int .i64 0, .int .i64 0, .int .i64 0, .int .u32 0, .int .u32 0, .string ⟨#[]⟩] 40)).alloc (.cells #[.int .i64 0] 26)).alloc (.cells #[.string s, .int .i64 0] 72)).cell? ⟨w.heap.size + 1, 0, none⟩ = some (.int .i64 0) ∧ (((w.alloc (.cells #[.int .i64 0, .int .i64 0, .int .i64 0, .int .i64 0, .int .i64 0, .int .u32 0, .int .u32 0, .string ⟨#[]⟩] 40)).alloc (.cells #[.int .i64 0] 26)).alloc (.cells #[.string s, .int .i64 0] 72)).frozen? ⟨w.heap.size + 1, 0, none⟩ = false := by
  constructor <;> simp [go_sem]
theorem w3_below (w : World) (s : ByteArray) : Below w.heap.size w (((w.alloc (.cells #[.int .i64 0, .int .i64 0, .int .i64 0, .int .i64 0, .int .i64 0, .int .u32 0, .int .u32 0, .string ⟨#[]⟩] 40)).alloc (.cells #[.int .i64 0] 26)).alloc (.cells #[.string s, .int .i64 0] 72)) :=
  (((Below.refl _ _).alloc (Nat.le_refl _) _).alloc (by simp) _).alloc (by simp; omega) _
theorem HB.below {w w' : World} {A B : Nat} {f : Nat → Value} (h : HB w A f) (k : Below B w w') (hA : A < B) : HB w' A f :=
  ⟨Nat.lt_of_lt_of_le h.lt k.size, fun i hi => ⟨(k.cell hA).trans (h.at' i hi).1, (k.frozen hA).trans (h.at' i hi).2⟩⟩
theorem n1 (w : World) : w.heap.size + 1 < w.heap.size + 1 + 1 := Nat.lt_succ_self _
theorem n2 (w : World) : w.heap.size < w.heap.size + 1 + 1 := by omega
theorem n3 (w : World) : ¬ w.heap.size + 1 = w.heap.size := by omega
set_option maxHeartbeats 2000000 in
theorem parse_err (s : ByteArray) (x : Int) (w : World) (hP : Hid (∀ w B, Rd w B s 0 → Calls Try.prog 42 #[.pointer (some ⟨B, 0, none⟩)] w fun e w' => e = .panicked (thrown x) ∧ Below B w w')) :
    Calls Try.prog 30 #[.string s] w fun e w' => e = .returned (.tuple #[none', .int .i64 x]) ∧ Below w.heap.size w w' := by
  have hmf : ∀ (fn : Fn) (first cap : Array Value) (w : World), (Instr.makeFunc fn first cap).run Try.prog w = .ok (.func fn first cap) w := fun _ _ _ _ => rfl
  go_enter_defers Try.func30, Try.ntmps30
  go_wp2_with (go_at_call 42; refine (hP.out _ _ (w3_rd w s)).mono ?_; rintro e w1 ⟨rfl, b1⟩)
  have hH := (w3_h w s).below b1 (by omega)
  have hE := (b1.cell (p := ⟨w.heap.size + 1, 0, none⟩) (by simp)).trans (w3_e w s).1
  have zE := (b1.frozen (p := ⟨w.heap.size + 1, 0, none⟩) (by simp)).trans (w3_e w s).2
  refine leaves_cons (f := 41) (args := #[.pointer (some ⟨w.heap.size, 0, none⟩), .pointer (some ⟨w.heap.size + 1, 0, none⟩)]) (by simp) (by simp [go_sem]) ?_
  refine (catch_thrown w.heap.size (w.heap.size + 1) x zs 0 [] w1 hH hE zE (by omega)).mono ?_
  rintro e u' w2 ⟨rfl, rfl, hz, he, bel⟩
  have bel' := (w3_below w s).trans ((b1.mono (by omega)).trans (bel w.heap.size (Nat.le_refl _) (Nat.le_succ _)))
  have a0 : w2.cell? ⟨w.heap.size, 0, none⟩ = some (.int .i64 0) := (hz.at' 0 (by decide)).1
  have a1 : w2.cell? ⟨w.heap.size, 1, none⟩ = some (.int .i64 0) := (hz.at' 1 (by decide)).1
  have a2 : w2.cell? ⟨w.heap.size, 2, none⟩ = some (.int .i64 0) := (hz.at' 2 (by decide)).1
  have a3 : w2.cell? ⟨w.heap.size, 3, none⟩ = some (.int .i64 0) := (hz.at' 3 (by decide)).1
  have a4 : w2.cell? ⟨w.heap.size, 4, none⟩ = some (.int .i64 0) := (hz.at' 4 (by decide)).1
  have a5 : w2.cell? ⟨w.heap.size, 5, none⟩ = some (.int .u32 0) := (hz.at' 5 (by decide)).1
  have a6 : w2.cell? ⟨w.heap.size, 6, none⟩ = some (.int .u32 0) := (hz.at' 6 (by decide)).1
  have a7 : w2.cell? ⟨w.heap.size, 7, none⟩ = some (.string ⟨#[]⟩) := (hz.at' 7 (by decide)).1
  refine ⟨.tuple #[none', .int .i64 x], ?_, rfl, bel'⟩
  clear hz bel bel' hH hE zE b1 hP
  simp [results, Try.results30, go_sem, none', hv, *]
set_option maxHeartbeats 2000000 in
theorem parse_right (s : ByteArray) (w : World) (h20 : 20 ≤ s.size) (hs : s.size ≤ 9223372036854775807) (hf : num (byt s) 0 1 = 69) (hl : said s = s.size) (hc : num (byt s) 10 2 = right s) :
    Calls Try.prog 30 #[.string s] w fun e w' => e = .returned (.tuple #[hdOf s, .int .i64 0]) ∧ Below w.heap.size w w' := by
  have hmf : ∀ (fn : Fn) (first cap : Array Value) (w : World), (Instr.makeFunc fn first cap).run Try.prog w = .ok (.func fn first cap) w := fun _ _ _ _ => rfl
  have hP : Hid (∀ w B, Rd w B s 0 → _) := fun w B hr => packet_ok w B s hr h20 hs hf hl hc
  clear hf hl hc
  unfold hdOf hv at *
  go_enter_defers Try.func30, Try.ntmps30
  go_wp2_with (go_at_call 42; refine (hP.out _ _ (w3_rd w s)).mono ?_; rintro e w1 ⟨rfl, b1⟩; have hH := (w3_h w s).below b1 (n2 w); have e0 := (b1.cell (p := ⟨w.heap.size + 1, 0, none⟩) (n1 w)).trans (w3_e w s).1; have e1 := (b1.frozen (p := ⟨w.heap.size + 1, 0, none⟩) (n1 w)).trans (w3_e w s).2; obtain ⟨g0, z0⟩ := hH.at' 0 (by decide); obtain ⟨g1, z1⟩ := hH.at' 1 (by decide); obtain ⟨g2, z2⟩ := hH.at' 2 (by decide); obtain ⟨g3, z3⟩ := hH.at' 3 (by decide); obtain ⟨g4, z4⟩ := hH.at' 4 (by decide); obtain ⟨g5, z5⟩ := hH.at' 5 (by decide); obtain ⟨g6, z6⟩ := hH.at' 6 (by decide); obtain ⟨g7, z7⟩ := hH.at' 7 (by decide); replace hH : Hid _ := hH; replace b1 : Hid _ := b1; have ne : ¬ w.heap.size + 1 = w.heap.size := n3 w)
  refine leaves_cons (f := 41) (args := #[.pointer (some ⟨w.heap.size, 0, none⟩), .pointer (some ⟨w.heap.size + 1, 0, none⟩)]) (by simp) (by simp [go_sem]) ?_
  refine (catch_idle _ _ _).mono ?_
  rintro e u' w2 ⟨rfl, rfl, rfl⟩
  refine ⟨.tuple #[.agg #[.int .i64 (num (byt s) 1 1), .int .i64 (num (byt s) 4 2), .int .i64 (num (byt s) 6 2), .int .i64 (num (byt s) 8 1), .int .i64 (num (byt s) 9 1), .int .u32 (num (byt s) 12 4), .int .u32 (num (byt s) 16 4), .string (s.extract 20 s.size)], .int .i64 0], ?_, rfl, ?_⟩
  · clear hP hH b1
    simp [results, Try.results30, go_sem, *]
  · have hn := Nat.le_refl w.heap.size
    exact ((((((((((w3_below w s).trans (b1.out.mono (by omega))).setCell (p := ⟨w.heap.size, 0, none⟩) hn _).setCell (p := ⟨w.heap.size, 1, none⟩) hn _).setCell (p := ⟨w.heap.size, 2, none⟩) hn _).setCell (p := ⟨w.heap.size, 3, none⟩) hn _).setCell (p := ⟨w.heap.size, 4, none⟩) hn _).setCell (p := ⟨w.heap.size, 5, none⟩) hn _).setCell (p := ⟨w.heap.size, 6, none⟩) hn _).setCell (p := ⟨w.heap.size, 7, none⟩) hn _).setCell (p := ⟨w.heap.size + 1, 0, none⟩) (Nat.le_succ _) _

/-- The error of some bytes; 0: none. -/
def errOf (s : ByteArray) : Int :=
  if s.size < 20 then 1 else if num (byt s) 0 1 ≠ 69 then 3 else if (s.size : Int) < said s ∨ said s < 20 then 1 else if said s < s.size then 6 else if num (byt s) 10 2 ≠ right s then 9 else 0
/-- The header of some bytes. -/
def valOf (s : ByteArray) : Value := if errOf s = 0 then hdOf s else none'
/-- Bytes that are a packet. -/
def Good (s : ByteArray) : Prop := 20 ≤ s.size ∧ num (byt s) 0 1 = 69 ∧ said s = s.size ∧ num (byt s) 10 2 = right s
theorem err_good (s : ByteArray) (h : Good s) : errOf s = 0 := by
  obtain ⟨h1, h2, h3, h4⟩ := h
  unfold errOf
  rw [if_neg (by omega), if_neg (by simp [h2]), if_neg (by omega), if_neg (by omega), if_neg (by simp [h4])]
theorem good_err (s : ByteArray) (h : errOf s = 0) : Good s := by
  unfold errOf at h
  split at h
  · omega
  split at h
  · omega
  split at h
  · omega
  split at h
  · omega
  split at h
  · omega
  rename_i a b c d e
  exact ⟨by omega, by simpa using b, by omega, by simpa using e⟩
theorem parse_ok (s : ByteArray) (w : World) (hs : s.size ≤ 9223372036854775807) :
    Calls Try.prog 30 #[.string s] w fun e w' => e = .returned (.tuple #[valOf s, .int .i64 (errOf s)]) ∧ Below w.heap.size w w' := by
  by_cases hg : Good s
  · have he := err_good s hg
    unfold valOf
    rw [he, if_pos rfl]
    exact parse_right s w hg.1 hs hg.2.1 hg.2.2.1 hg.2.2.2
  have hne : errOf s ≠ 0 := fun e => hg (good_err s e)
  unfold valOf
  rw [if_neg hne]
  unfold errOf
  by_cases h1 : s.size < 20
  · rw [if_pos h1]
    exact parse_err s 1 w fun w B hr => packet_short w B s hr h1
  rw [if_neg h1]
  by_cases h2 : num (byt s) 0 1 ≠ 69
  · rw [if_pos h2]
    exact parse_err s 3 w fun w B hr => packet_field w B s hr (by omega) hs h2
  rw [if_neg h2]
  have h2' : num (byt s) 0 1 = 69 := by simpa using h2
  by_cases h3 : (s.size : Int) < said s ∨ said s < 20
  · rw [if_pos h3]
    by_cases h3' : (s.size : Int) < said s
    · exact parse_err s 1 w fun w B hr => packet_short1 w B s hr (by omega) hs h2' h3'
    · exact parse_err s 1 w fun w B hr => packet_short2 w B s hr (by omega) hs h2' h3' (by omega)
  rw [if_neg h3]
  by_cases h4 : said s < s.size
  · rw [if_pos h4]
    exact parse_err s 6 w fun w B hr => packet_more w B s hr (by omega) hs h2' h4 (by omega)
  rw [if_neg h4]
  by_cases h5 : num (byt s) 10 2 ≠ right s
  · rw [if_pos h5]
    exact parse_err s 9 w fun w B hr => packet_sum w B s hr (by omega) hs h2' (by omega) h5
  · exact absurd ⟨by omega, h2', by omega, by simpa using h5⟩ hg
end Go.Proofs.Ytndaohiecpdmlaa
