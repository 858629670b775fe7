/-
  What the program's own Routes answers: a fold over the addresses at which something changes. No condition.
-/
import Derived.Test.YtndaohiecpdmlaaGreatPoSta
import Derived.Deep.DeepCutAuto
namespace Go.Proofs.YtndaohiecpdmlaaGreat
set_option maxRecDepth 100000
open Go.RowKit Go.Sort

/-- Rows of routes. -/
def KT : RowK (Int × Int) := ⟨61, 82, 3, 16, fun x => [.int .u32 x.1, .int .u32 x.2, .int .i64 0], (0, 0)⟩
theorem kt_ok : KT.Ok := ⟨Tryz.underlying61, info_of (z := .agg #[.int .u32 0, .int .u32 0, .int .i64 0]) (by kernel_rfl) rfl, by decide, fun _ => rfl, fun x u hu => by
  simp [KT] at hu
  rcases hu with rfl | rfl | rfl <;> rfl⟩
def w32 (x : Int) : Int := IntKind.u32.wrap x
/-- The last address ahead of the next one at which something changes. -/
def endH : List Int → Int
  | [] => 4294967295
  | x :: _ => w32 (x - 1)
/-- Whether the last route goes on at an address. -/
def joinB (fd : List (Int × Int)) (low : Int) : Bool := decide (0 < fd.length) && (fd.getD (fd.length - 1) (0, 0)).2 == w32 (low - 1)
def setH (fd : List (Int × Int)) (h : Int) : List (Int × Int) := fd.set (fd.length - 1) ((fd.getD (fd.length - 1) (0, 0)).1, h)
def prG (f : Int → Bool) : List Int → List (Int × Int) → List (Int × Int)
  | [], fd => fd
  | low :: rest, fd => if f low then (if joinB fd low then prG f rest (setH fd (endH rest)) else if fd.length = 16 then fd else prG f rest (fd ++ [(low, endH rest)])) else prG f rest fd
theorem prG_drop (f : Int → Bool) (st : List Int) (fd : List (Int × Int)) (k : Nat) (hk : k < st.length) : prG f (st.drop k) fd =
    if f (st.getD k 0) then (if joinB fd (st.getD k 0) then prG f (st.drop (k + 1)) (setH fd (endH (st.drop (k + 1)))) else if fd.length = 16 then fd else prG f (st.drop (k + 1)) (fd ++ [(st.getD k 0, endH (st.drop (k + 1)))])) else prG f (st.drop (k + 1)) fd := by
  rw [List.drop_eq_getElem_cons hk, prG, List.getD_eq_getElem?_getD, List.getElem?_eq_getElem hk]
  rfl
theorem prG_end (f : Int → Bool) (st : List Int) (fd : List (Int × Int)) : prG f (st.drop st.length) fd = fd := by rw [List.drop_length]; rfl
theorem endH_last {st : List Int} {k : Nat} (h : st.length ≤ k) : endH (st.drop k) = 4294967295 := by rw [List.drop_eq_nil_of_le h]; rfl
theorem endH_more {st : List Int} {k : Nat} (h : k < st.length) : endH (st.drop k) = w32 (st.getD k 0 - 1) := by
  rw [List.drop_eq_getElem_cons h, List.getD_eq_getElem?_getD, List.getElem?_eq_getElem h]
  rfl
theorem numU_at {w : World} {v : Value} {ps : List Int} (h : RowAt KU.n KU.cells KU.x0 w v ps) {k : Nat} (hk : k < ps.length) : ∃ g o cap, v = .slice (some ⟨g, o, none⟩) ps.length cap ∧ w.cell? ⟨g, o + k, none⟩ = some (.int .u32 (ps.getD k 0)) := by
  obtain ⟨a, cap, e, _, h⟩ := h
  obtain ⟨g, o, ha, hg, c⟩ := h k hk
  have := c 0 (by decide)
  refine ⟨g, o, cap, by rw [e, ha], ?_⟩
  have hn : KU.n = 1 := rfl
  rw [hn, Nat.one_mul, Nat.add_zero] at this
  exact this
theorem at_ro (B o N cap i : Nat) (w : World) (h : i < N) (z : Int) (hz : z = i) (p : Nat) (hp : p = o + 3 * i) :
    (Instr.indexAt 61 (.slice (some ⟨B, o, none⟩) N cap) (.int .i64 z)).run Tryz.prog w = .ok (.pointer (some ⟨B, p, none⟩)) w := by
  subst hz hp
  have e : Tryz.prog.elem 61 = 82 := by kernel_rfl
  rw [run_indexAt_slice (P := Tryz.prog) w 61 ⟨B, o, none⟩ N cap .i64 i (by rw [e]; exact Tryz.underlying61), if_pos (by omega), e]
  have s : (sizeOf 82).run Tryz.prog w = .ok 3 w := Tryz.sizeOf82 w
  rw [s]
  simp [Addr.add_mid, Nat.mul_comm]
theorem raw_in {l : List Ru} (HB : ∀ r ∈ l, RuB r) (HR : ∀ r ∈ l, ruR r = true) {x : Int} (h : x ∈ rawS l) : 0 ≤ x ∧ x < 4294967296 := by
  unfold rawS at h
  obtain ⟨r, hr, hx⟩ := List.mem_flatMap.1 h
  have hb := HB r hr
  have hh := hi_in hb (ruR_w (HR r hr)).t
  have h0 := hb.a0
  have h1 := hb.a1
  unfold rawR at hx
  split at hx
  · simp at hx
    omega
  · rename_i hne
    simp at hx
    omega
set_option maxHeartbeats 16000000 in
theorem routes_no (l : List Ru) (v : Value) (w : World) (h : RusAt w v l) (HB : ∀ r ∈ l, RuB r) (hl : l.length ≤ 9223372036854775807) (hk : ruK l ≠ 0) :
    Calls Tryz.prog 29 #[v] w fun e w' => e = .returned (.slice none 0 0) ∧ Below w.heap.size w w' := by
  have C := Lib.hid (pchk18_ok l v w h HB hl)
  obtain ⟨ad, cap, hv, -, -⟩ := h
  generalize l.length = n at hv
  obtain ⟨K, hK⟩ : ∃ K, K = ruK l := ⟨_, rfl⟩
  rw [← hK] at C hk
  have z : (K != 0) = true := by simpa using hk
  clear hK hk
  subst hv
  go_enter Tryz.func29, Tryz.ntmps29
  go_wp2_with (go_at_call 44; refine C.out.mono ?_; rintro e w1 ⟨rfl, b1⟩)
  go_ret
  exact ⟨rfl, b1⟩
end Go.Proofs.YtndaohiecpdmlaaGreat
