/-
  What readNumber and tell leave of the program's reader. No condition but the form's own reach.
-/
import Derived.Test.YtnngdlleicjegaaDoorH3PgA
import Derived.Deep.RegionHeld3
import Derived.Deep.AppendSrc
import Derived.OwnWalk
namespace Go.Proofs.YtnngdlleicjegaaDoor
set_option maxRecDepth 100000
open Go.RowKit

theorem pget_none (s : ByteArray) (w : World) (t : VTab w) (hs : s.size ≤ 9223372036854775807) (h : getL (toL s) = none) :
    Calls Tryd.prog 39 #[.string s] w fun e w' => e = .returned (.tuple #[.int .i64 0, .int .i64 0, .int .i64 1]) ∧ w = w' := by
  rcases cut_or_has s with q | ⟨k, q⟩
  · exact get_cut s w t hs q
  · rw [link_has q] at h
    cases h
theorem pget_some (s : ByteArray) (w : World) (t : VTab w) (hs : s.size ≤ 9223372036854775807) {n k : Nat} (h : getL (toL s) = some (n, k)) :
    Calls Tryd.prog 39 #[.string s] w fun e w' => e = .returned (.tuple #[.int .i64 (n : Int), .int .i64 (k : Int), .int .i64 0]) ∧ w = w' := by
  rcases cut_or_has s with q | ⟨j, q⟩
  · rw [link_cut q] at h
    cases h
  · have e := link_has q
    rw [h] at e
    injection e with e
    injection e with e1 e2
    subst e2
    have hq := q
    obtain ⟨_, _, m, hk, _⟩ := hq
    have hb := (gva_bd (byt s) (byt_bd s) hk).1
    have e3 : gva (byt s) k = (n : Int) := by omega
    refine (get_has s w t k hs q).mono ?_
    rw [e3]
    exact fun e w' h => h
set_option maxHeartbeats 4000000 in
theorem pnum_none (w0 w : World) (R : Nat) (q : Pm) (l : List Ev) (t : L) (h : PI w0 w R q l) (ht : t.length ≤ 4611686018427387903) (hk : getL q.kept = none) (hn : numP q.kept t = none) :
    Calls Tryd.prog 35 #[rp R, .string (strL t)] w fun e w' => e = .returned (.tuple #[.int .i64 0, .string (strL []), .bool false]) ∧ PI w0 w' R { q with kept := q.kept ++ t.take (min t.length (8 - q.kept.length)) } l := by
  have hk8 := getL_short hk
  obtain ⟨n, hm⟩ : ∃ n, n = min t.length (8 - q.kept.length) := ⟨_, rfl⟩
  obtain ⟨s, hs⟩ : ∃ s, s = strL t := ⟨_, rfl⟩
  obtain ⟨k, hkk⟩ : ∃ k, k = strL q.kept := ⟨_, rfl⟩
  have zs : s.size = t.length := by rw [hs, strL_size]
  have zk : k.size = q.kept.length := by rw [hkk, strL_size]
  have hsz : s.size ≤ 4611686018427387903 := by omega
  have hkz : k.size ≤ 7 := by omega
  have hns : n ≤ s.size := by omega
  have hn8 : n ≤ 8 := by omega
  obtain ⟨m, hmm⟩ : ∃ m, m = 8 - k.size := ⟨_, rfl⟩
  have sub : (8 : Int) - (k.size : Int) = (m : Int) := by omega
  have hm9 : m ≤ 8 := by omega
  have fold2 : (if m < s.size then (m : Int) else (s.size : Int)) = (n : Int) := by split <;> omega
  have e1 : k ++ s.extract 0 n = strL (q.kept ++ t.take n) := by rw [hs, cut_front, hkk, strL_append]
  have ez : (s.extract 0 n).size = n := by rw [hs, cut_front, strL_size, List.length_take]; omega
  unfold numP at hn
  rw [← hm] at hn ⊢
  have c2 := h.cell 2 (v := .string (strL q.kept)) fun _ => rfl
  rw [← hkk] at c2
  have f2 := h.free 2 (by decide)
  have c2d : w.drew.cell? ⟨R, 2, none⟩ = some (.string k) := c2
  have f2d : w.drew.frozen? ⟨R, 2, none⟩ = false := f2
  have GT : Hid (∀ _ : Unit, _) := fun _ => pget_none (strL (q.kept ++ t.take n)) w.drew h.drew.vt (by rw [strL_size, List.length_append, List.length_take]; omega) hn
  have h1 : Hid (PI w0 (w.drew.setCell ⟨R, 2, none⟩ (.string (strL (q.kept ++ t.take n)))) R { q with kept := q.kept ++ t.take n } l) := h.drew.put 2 (by decide) _ _ fun _ => rfl
  rw [← hs]
  rw [← e1] at GT h1
  generalize ({ q with kept := q.kept ++ t.take n } : Pm) = q2 at *
  replace hm : Hid _ := hm
  replace hs : Hid _ := hs
  replace hkk : Hid _ := hkk
  replace hmm : Hid _ := hmm
  clear h zs zk e1 hn hk
  go_enter Tryd.func35, Tryd.ntmps35
  go_upto_region 1 with fail
  go_region
  all_goals
    go_wp2_with fail
    refine (GT.out ()).mono ?_
    rintro e w1 ⟨rfl, rfl⟩
    go_wp2_with fail
    go_ret3
    exact ⟨rfl, h1.out⟩
set_option maxHeartbeats 4000000 in
theorem pnum_some (w0 w : World) (R : Nat) (q : Pm) (l : List Ev) (t : L) (h : PI w0 w R q l) (ht : t.length ≤ 4611686018427387903) (hk : getL q.kept = none) {v z : Nat} (hn : numP q.kept t = some (v, z)) :
    Calls Tryd.prog 35 #[rp R, .string (strL t)] w fun e w' => e = .returned (.tuple #[.int .i64 (v : Int), .string (strL (t.drop (z - q.kept.length))), .bool true]) ∧ PI w0 w' R { q with kept := [] } l := by
  have hk8 := getL_short hk
  obtain ⟨g1, g2, g3, g4, g5⟩ := num_some hk hn
  obtain ⟨n, hm⟩ : ∃ n, n = min t.length (8 - q.kept.length) := ⟨_, rfl⟩
  obtain ⟨s, hs⟩ : ∃ s, s = strL t := ⟨_, rfl⟩
  obtain ⟨k, hkk⟩ : ∃ k, k = strL q.kept := ⟨_, rfl⟩
  have zs : s.size = t.length := by rw [hs, strL_size]
  have zk : k.size = q.kept.length := by rw [hkk, strL_size]
  have hsz : s.size ≤ 4611686018427387903 := by omega
  have hkz : k.size ≤ 7 := by omega
  have hns : n ≤ s.size := by omega
  have hn8 : n ≤ 8 := by omega
  obtain ⟨m, hmm⟩ : ∃ m, m = 8 - k.size := ⟨_, rfl⟩
  have sub : (8 : Int) - (k.size : Int) = (m : Int) := by omega
  have hm9 : m ≤ 8 := by omega
  have fold2 : (if m < s.size then (m : Int) else (s.size : Int)) = (n : Int) := by split <;> omega
  have e1 : k ++ s.extract 0 n = strL (q.kept ++ t.take n) := by rw [hs, cut_front, hkk, strL_append]
  have ez : (s.extract 0 n).size = n := by rw [hs, cut_front, strL_size, List.length_take]; omega
  obtain ⟨d, hd⟩ : ∃ d, d = z - q.kept.length := ⟨_, rfl⟩
  have hds : d ≤ s.size := by omega
  have sub2 : (z : Int) - (k.size : Int) = (d : Int) := by omega
  have e2 : s.extract d s.size = strL (t.drop d) := by rw [hs]; exact cut_behind t d
  have hz8 : z ≤ 8 := by
    have := getL_len (show getL (q.kept ++ t.take (min t.length (8 - q.kept.length))) = some (v, z) from hn)
    rw [List.length_append, List.length_take] at this
    omega
  unfold numP at hn
  rw [← hm] at hn
  rw [← hd]
  have c2 := h.cell 2 (v := .string (strL q.kept)) fun _ => rfl
  rw [← hkk] at c2
  have f2 := h.free 2 (by decide)
  have c2d : w.drew.cell? ⟨R, 2, none⟩ = some (.string k) := c2
  have f2d : w.drew.frozen? ⟨R, 2, none⟩ = false := f2
  have GT : Hid (∀ _ : Unit, _) := fun _ => pget_some (strL (q.kept ++ t.take n)) w.drew h.drew.vt (by rw [strL_size, List.length_append, List.length_take]; omega) hn
  have h1 : Hid (PI w0 (w.drew.setCell ⟨R, 2, none⟩ (.string ⟨#[]⟩)) R { q with kept := [] } l) := h.drew.put 2 (by decide) _ _ fun _ => rfl
  rw [← hs, ← e2]
  rw [← e1] at GT
  generalize ({ q with kept := [] } : Pm) = q2 at *
  replace hm : Hid _ := hm
  replace hs : Hid _ := hs
  replace hkk : Hid _ := hkk
  replace hmm : Hid _ := hmm
  replace hd : Hid _ := hd
  clear h zs zk e1 e2 hn hk g1 g2 g3 g4 g5 hk8
  go_enter Tryd.func35, Tryd.ntmps35
  go_upto_region 1 with fail
  go_region
  all_goals
    go_wp2_with fail
    refine (GT.out ()).mono ?_
    rintro e w1 ⟨rfl, rfl⟩
    go_wp2_with fail
    go_ret3
    exact ⟨rfl, h1.out⟩
set_option maxHeartbeats 4000000 in
theorem ptell_ok (w0 w : World) (R : Nat) (q : Pm) (l : List Ev) (d : L) (h : PI w0 w R q l) (hl : l.length < 1000000000) :
    Calls Tryd.prog 54 #[rp R, .string (strL d)] w fun e w' => e = .returned (.tuple #[]) ∧ PI w0 w' R q (l ++ [(q.kind, d)]) := by
  obtain ⟨tv, h1, he⟩ := h.ex
  obtain ⟨av, cv, rfl⟩ := he.slice
  have hed : EvP w0.heap.size w.drew (.slice av l.length cv) l := he.of fun _ _ => rfl
  obtain ⟨v2, w2, hap, he2, kp2, hR2⟩ := hed.app (R := R) h.kept.size hl q.kind d
  obtain ⟨av2, cv2, rfl⟩ := he2.slice
  have hw2 := hR2 h.lt
  have h2 : Lies w2 R (pcs R q (.slice av l.length cv)) := h1.of_block hw2
  have k2 : Kept (fun k => k = R) w0 w2 := ⟨kp2.os.trans h.kept.os, kp2.tape.trans h.kept.tape, kp2.output.trans h.kept.output, Nat.le_trans h.kept.size kp2.size, fun k hk hf => (kp2.block k (Nat.lt_of_lt_of_le hk h.kept.size) (by omega)).trans (h.kept.block k hk hf)⟩
  have c8 := h1.cell 8 (v := .slice av l.length cv) rfl
  have c3 := h1.cell 3 (v := .int .i64 (q.kind : Int)) rfl
  have c8a : (w.alloc (.cells #[.int .i64 (q.kind : Int), .string (strL d)] 48)).cell? ⟨R, 8, none⟩ = some (.slice av l.length cv) := (h1.keep (by show 0 < 9; decide) ((Below.refl _ _).alloc (Nat.le_refl _) _)).cell 8 rfl
  have c8b := h2.cell 8 (v := .slice av l.length cv) rfl
  have f8b := h2.free 8 (by show 8 < 9; decide)
  have FI : Hid (PI w0 (w2.setCell ⟨R, 8, none⟩ (.slice av2 (l ++ [(q.kind, d)]).length cv2)) R q (l ++ [(q.kind, d)])) := ⟨⟨_, h2.put 8 (by show 8 < 9; decide) _, he2.set h.lt⟩, k2.set _ rfl _, h.lt, h.tab, h.ne⟩
  generalize l ++ [(q.kind, d)] = l2 at *
  have hapd : Hid (∀ z, (builtin .append #[28, 28] 28 z #[.slice av l.length cv, .slice (some ⟨w.heap.size, 0, none⟩) 1 1]).run Tryd.prog (w.alloc (.cells #[.int .i64 (q.kind : Int), .string (strL d)] 48)).drew = .ok (.value (.slice av2 l2.length cv2)) w2) := hap
  generalize strL d = D at *
  clear h h1 he hed hap he2 kp2 hR2 hw2 h2 k2
  go_enter Tryd.func54, Tryd.ntmps54
  go_upto_region 0 with fail
  go_region_law (refine obB2S rfl .append _ _ 28 28 rfl _ _ (by simp [Act.eval]) (by simp [Act.eval]) hapd.out ?_)
  all_goals
    go_wp2_with fail
    go_end0
    exact ⟨rfl, FI.out⟩
end Go.Proofs.YtnngdlleicjegaaDoor
