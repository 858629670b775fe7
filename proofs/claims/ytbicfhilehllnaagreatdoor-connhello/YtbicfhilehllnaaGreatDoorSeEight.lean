/-
  What the document's own Eight answers: a number in eight bytes, those below 0 as their 64 bits without sign. No condition.
-/
import Derived.Test.YtbicfhilehllnaaGreatDoorShFacts
import Derived.Laws.AppendOwnNone
import Derived.Deep.LoopGhost
import Derived.Deep.MidRow
namespace Go.Proofs.YtbicfhilehllnaaGreatDoor
set_option maxRecDepth 100000
open Go.RowKit Go.Sort

/-- A number's 64 bits without sign. -/
def uu (n : Int) : Nat := (n % 18446744073709551616).toNat
theorem uu_int (n : Int) : ((uu n : Nat) : Int) = n % 18446744073709551616 := by unfold uu; omega
theorem uu_lt (n : Int) : uu n < 18446744073709551616 := by unfold uu; omega
/-- A number in eight bytes. -/
def e8 (n : Int) : List Nat := be (uu n) 8
theorem e8_length (n : Int) : (e8 n).length = 8 := be_length _ _
theorem e8_lt (n : Int) : ∀ x ∈ e8 n, x < 256 := be_lt _ _
theorem bc_cons (x : Nat) (l : List Nat) : bc (x :: l) = .int .u8 (x : Int) :: bc l := rfl
set_option maxHeartbeats 4000000 in
theorem reight_ok (n : Int) (w : World) :
    Calls Tryz.prog 237 #[.int .i64 n] w fun e w' => e = .returned (.string (bstr (e8 n))) ∧ Below w.heap.size w w' := by
  obtain ⟨i0, hi, hz0, hz1, hz2⟩ := info_u8
  have hu := uu_int n
  have hlt := uu_lt n
  have hE : e8 n = be (uu n) 8 := rfl
  rw [hE]
  clear hE
  generalize uu n = m at *
  have hw : IntKind.u64.wrap n = (m : Int) := by rw [hu]; simp [IntKind.wrap, IntKind.bits, IntKind.signed]
  clear hu
  go_enter Tryz.func237, Tryz.ntmps237
  go_wp2
  clear hw
  go_loopg [3, 4, 5] 8 (fun g bv uv iv wr => ∃ k u : Nat, k + g = 8 ∧ Hid (u = m / 256 ^ k) ∧ u < 18446744073709551616 ∧ iv = .int .i64 k ∧ uv = .int .u64 (u : Int) ∧ Hid (wr.ownsRow w.heap.size 5 1 bv k (bc (be m k))) ∧ Hid (Below w.heap.size w wr))
  case atStart => exact ⟨0, m, rfl, by unfold Hid; simp, hlt, rfl, rfl, World.ownsRow_nil _ _ _ _, Below.refl _ _⟩
  case round =>
    obtain ⟨k, u, hk, hu, hul, rfl, rfl, hown, bel⟩ := hrel
    by_cases h8 : k < 8
    · have g1 : decide ((k : Int) < 8) = true := decide_eq_true (by omega)
      have hb := be_cons m k
      rw [← hu.out] at hb
      replace hb : Hid _ := hb
      have hy : u % 256 < 256 := Nat.mod_lt _ (by decide)
      have hr : (u : Int) % 256 = ((u % 256 : Nat) : Int) := by omega
      have hd : (u : Int) / 256 = ((u / 256 : Nat) : Int) := by omega
      have hu2 : Hid (u / 256 = m / 256 ^ (k + 1)) := by unfold Hid; rw [hu.out, Nat.div_div_eq_div_mul, ← Nat.pow_succ]
      have hul2 : u / 256 < 18446744073709551616 := by omega
      clear hu
      generalize u % 256 = y at *
      generalize u / 256 = u' at *
      have L : Hid ((wr.alloc (.cells #[.int .u8 (y : Int)] 5)).ownsRow w.heap.size 5 1 (.slice (some ⟨wr.heap.size, 0, none⟩) 1 1) 1 [.int .u8 (y : Int)]) :=
        World.ownsRow_lit wr #[.int .u8 (y : Int)] 1 bel.out.size (by decide) rfl
      have hlen : (bc (be m k)).length = k := by unfold bc; rw [List.length_map, be_length]
      replace hlen : Hid _ := hlen
      rcases hown.out.2 with ⟨rfl, rfl⟩ | ⟨g, cap, cur, rfl, hgb, hgc, -, -, -, -⟩
      · go_wp2_with (at_builtin; refine wpList_append_own_none rfl _ _ 129 rfl w.heap.size 5 i0 1 Tryz.underlying129 hi _ 1 _ rfl L.out rfl ?_)
        have hB : Hid (Below w.heap.size w (wr.alloc (.cells #[.int .u8 (y : Int)] 5))) := bel.out.alloc bel.out.size _
        have hO : Hid ((wr.alloc (.cells #[.int .u8 (y : Int)] 5)).ownsRow w.heap.size 5 1 (.slice (some ⟨wr.heap.size, 0, none⟩) 1 1) 1 (bc (be m 1))) := by
          unfold Hid
          rw [show be m 1 = y :: be m 0 from hb.out]
          exact L.out
        go_wp2
        go_roundg 7
        case measure => omega
        case rel => exact ⟨1, u', rfl, hu2, hul2, rfl, rfl, hO, hB⟩
      · have hglt : g < wr.heap.size := (Array.getElem?_eq_some_iff.1 hgc).1
        have hcell : Hid (∀ j v, (bc (be m k))[j]? = some v → (wr.alloc (.cells #[.int .u8 (y : Int)] 5)).cell? ((⟨g, 0, none⟩ : Addr).add j) = some v) := fun j v hj => by
          rw [Addr.add_mid, Nat.zero_add, World.cell?_alloc_lt _ _ _ hglt, hown.out.cellAt j (by have := (List.getElem?_eq_some_iff.1 hj).1; rw [hlen.out] at this; omega)]
          exact hj
        go_wp2_with (at_builtin; refine wpList_append_own _ rfl _ _ 129 rfl w.heap.size 5 i0 (.int .u8 0) 1 1 Tryz.underlying129 hi hz0 hz1 hz2 rfl (by decide) _ 1 _ rfl L.out ⟨g, 0, none⟩ k cap (bc (be m k)) rfl ?c0 hcell.out ?c2 ?c3 ?c4 ?c5 ?_)
        case c0 => rw [hlen.out]; omega
        case c2 =>
          intro v hv
          obtain ⟨x, _, rfl⟩ := List.mem_map.1 hv
          rfl
        case c3 => unfold maxLen; omega
        case c4 => omega
        case c5 => have := bel.out.size; simp; omega
        · intro v' w1 hown' hgrow _
          have hB : Hid (Below w.heap.size w w1) := (bel.out.alloc bel.out.size _).grown hgrow (Nat.le_trans bel.out.size (by simp)) (fun k hk => (L.out.lt k hk).1)
          have hO : Hid (w1.ownsRow w.heap.size 5 1 v' (k + 1) (bc (be m (k + 1)))) := by
            unfold Hid
            rw [hb.out, bc_cons, Nat.add_comm k 1]
            exact hown'
          clear hown' hgrow hown bel L hcell
          go_wp2
          go_roundg (8 - (k + 1))
          case measure => omega
          case rel => exact ⟨k + 1, u', by omega, hu2, hul2, by go_num, rfl, hO, hB⟩
    · obtain rfl : k = 8 := by omega
      obtain ⟨g, cap, rfl, hcv⟩ := own_str hown.out (by decide)
      have ek : ((8 : Nat) : Int) = 8 := rfl
      rw [ek]
      go_wp2
      go_ret
      exact ⟨rfl, bel.out⟩
end Go.Proofs.YtbicfhilehllnaaGreatDoor
