/-
  What numbers answers: the numbers of packets. Fewer than 2^20 packets; no other condition.
-/
import Derived.Test.YtfjampommgkfeaaLpTake
namespace Go.Proofs.Ytfjampommgkfeaa
set_option maxRecDepth 100000
open Go.RowKit Go.Sort

set_option maxHeartbeats 4000000 in
theorem numbers_ok (v : Value) (l : List Pk) (w : World) (hv : PkAt w v l) (hl : l.length < 1048576) :
    Calls Try.prog 30 #[v] w fun e w' => ∃ u, e = .returned u ∧ w'.ownsRow w.heap.size 2 1 u (nosP l).length (n64 (nosP l)) ∧ Below w.heap.size w w' := by
  obtain ⟨i0, hi0, hz0, hz1, hz2⟩ := info_i64
  obtain ⟨a, cap, rfl, hc⟩ := hv
  replace hc : Hid _ := hc
  go_enter Try.func30, Try.ntmps30
  go_wp2
  go_loopg [3, 8] l.length (fun g' tv iv wr => ∃ k : Nat, k + g' = l.length ∧ iv = .int .i64 k ∧ Hid (wr.ownsRow w.heap.size 2 1 tv (nosP (l.take k)).length (n64 (nosP (l.take k)))) ∧ Hid (Below w.heap.size w wr))
  case atStart => exact ⟨0, by omega, rfl, World.ownsRow_nil _ _ _ _, Below.refl _ _⟩
  case round =>
    obtain ⟨k, hkk, rfl, hT, bel⟩ := hrel
    by_cases hlt : k < l.length
    · have g1 : decide ((k : Int) < (l.length : Int)) = true := decide_eq_true (by omega)
      rcases hc.out with hc0 | ⟨g, po, rfl, hc1⟩
      · rw [hc0] at hlt; simp at hlt
      · obtain ⟨d0, d1, d2⟩ := hc1 k hlt
        replace d0 := (bel.out.cell (World.block_lt_of_cell? w _ d0)).trans d0
        replace d1 := (bel.out.cell (World.block_lt_of_cell? w _ d1)).trans d1
        replace d2 := (bel.out.cell (World.block_lt_of_cell? w _ d2)).trans d2
        have ia := fun w' => at_ppk g po l.length cap k w' hlt (k : Int) rfl (po + 3 * k) rfl
        have hn := nos_take l k hlt
        have hxl : (nosP (l.take k)).length < 1048576 := by rw [nos_len, List.length_take]; omega
        obtain ⟨p, hp⟩ : ∃ p, p = l.getD k (0, 0, 0) := ⟨_, rfl⟩
        rw [← hp] at d0 d1 d2 hn
        obtain ⟨x, y, z⟩ := p
        simp only at d0 d1 d2 hn
        generalize nosP (l.take k) = xs at *
        replace hp : Hid _ := hp
        replace hn : Hid _ := hn
        have al1 : Below wr.heap.size wr (wr.alloc (.cells #[.int .i64 x, .int .i64 y, .int .i64 z] 58)) := (Below.refl _ _).alloc (Nat.le_refl _) _
        have al2 : Below wr.heap.size wr ((wr.alloc (.cells #[.int .i64 x, .int .i64 y, .int .i64 z] 58)).alloc (.cells #[.int .i64 x] 2)) := al1.alloc al1.size _
        have o4 : Hid (((wr.alloc (.cells #[.int .i64 x, .int .i64 y, .int .i64 z] 58)).alloc (.cells #[.int .i64 x] 2)).ownsRow w.heap.size 2 1 u3 xs.length (n64 xs)) := row_block hT.out fun k hk => al2.block k (World.ownsRow.lt hT.out k hk).2
        have hnews : Hid (∀ j u, [Value.int .i64 x][j]? = some u → ((wr.alloc (.cells #[.int .i64 x, .int .i64 y, .int .i64 z] 58)).alloc (.cells #[.int .i64 x] 2)).cell? ((⟨wr.heap.size + 1, 0, none⟩ : Addr).add j) = some u) := fun j u hj => by
          rw [Addr.add_lit]
          have := (Lies.new (wr.alloc (.cells #[.int .i64 x, .int .i64 y, .int .i64 z] 58)) [.int .i64 x] 2).r j u hj
          simpa using this
        have n5 : Below w.heap.size w ((wr.alloc (.cells #[.int .i64 x, .int .i64 y, .int .i64 z] 58)).alloc (.cells #[.int .i64 x] 2)) := bel.out.trans (al2.mono bel.out.size)
        have fin : Hid (∀ v' w5, w5.ownsRow w.heap.size 2 1 v' (xs.length + 1) (n64 xs ++ [.int .i64 x]) → ((wr.alloc (.cells #[.int .i64 x, .int .i64 y, .int .i64 z] 58)).alloc (.cells #[.int .i64 x] 2)).grownBy w5 u3.ownBlock → w5.ownsRow w.heap.size 2 1 v' (xs ++ [x]).length (n64 (xs ++ [x])) ∧ Below w.heap.size w w5) := fun v' w5 q1 q2 => ⟨by rw [n64_snoc, List.length_append]; exact q1, below_grown n5 o4.out q2⟩
        have hWs : w.heap.size ≤ ((wr.alloc (.cells #[.int .i64 x, .int .i64 y, .int .i64 z] 58)).alloc (.cells #[.int .i64 x] 2)).heap.size := n5.size
        obtain ⟨ua, uc, rfl⟩ := rown_len hT.out
        clear al1 al2 n5 hT bel hc1
        go_wp2_with (at_builtin; refine wpList_append_own_at _ rfl _ _ 32 rfl w.heap.size 2 i0 (.int .i64 0) 1 8 Try.underlying32 hi0 hz0 hz1 hz2 rfl (by decide) (.slice ua xs.length uc) xs.length (n64 xs) rfl o4.out ⟨wr.heap.size + 1, 0, none⟩ 1 1 [.int .i64 x] rfl rfl hnews.out (fun u hu => by simp at hu; subst hu; rfl) (by unfold maxLen; omega) (by omega) hWs ?_; intro v' w5 q1 q2 q3 q4; obtain ⟨R1, R2⟩ := fin.out v' w5 q1 q2; clear q1 q2 q3 q4; clear fin o4 hnews hWs d0 d1 d2; replace R1 : Hid _ := R1; replace R2 : Hid _ := R2)
        go_roundg (l.length - (k + 1))
        case measure => omega
        case rel => exact ⟨k + 1, by omega, by go_num, by rw [hn.out]; exact R1, R2⟩
    · have g1 : decide ((k : Int) < (l.length : Int)) = false := decide_eq_false (by omega)
      obtain rfl : k = l.length := by omega
      rw [List.take_length] at hT
      clear hc
      go_wp2_with fail
      go_ret
      exact ⟨u3, rfl, hT.out, bel.out⟩
end Go.Proofs.Ytfjampommgkfeaa
