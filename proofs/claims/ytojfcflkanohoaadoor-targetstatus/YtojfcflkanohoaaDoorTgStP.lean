/-
  The walk of TargetStatus: a request of which one thing is changed, or missing. The tables of Go's library lie as the row's list gives them.
-/
import Derived.Test.YtojfcflkanohoaaDoorTgOrder
import Derived.Test.YtojfcflkanohoaaDoorTgApp
import Derived.OrdersHeld
namespace Go.Proofs.YtojfcflkanohoaaDoor
set_option maxRecDepth 100000
open Go.RowKit Go.Sort

theorem OwnF.lies {w : World} {base : Nat} {v : Value} {d : List Fd} (h : OwnF w base v d) (hn : v ≠ .slice none 0 0) : ∃ g c, v = .slice (some ⟨g, 0, none⟩) d.length c ∧ base ≤ g ∧ Lies w g (fCells d) := by
  rcases h.2 with ⟨rfl, _⟩ | ⟨g, cap, cur, rfl, hb, hc, hn1, hn2, hn3, hx⟩
  · exact absurd rfl hn
  · have hl := h.1
    have cell : ∀ j, w.cell? ⟨g, j, none⟩ = cur[j]? := fun j => by simp [World.cell?, hc]
    refine ⟨g, cap, rfl, hb, fun j u hu => ?_, fun j hj => ⟨?_, ?_⟩⟩
    · rw [Nat.zero_add, cell]
      rw [← hx] at hu
      have := (List.getElem?_eq_some_iff.1 hu).1
      rw [List.length_take] at this
      rw [List.getElem?_take_of_lt (by omega)] at hu
      simpa using hu
    · rw [Nat.zero_add, cell]
      rw [hl] at hj
      have : j < cur.size := by
        rw [hn3]
        exact Nat.lt_of_lt_of_le hj (Nat.mul_le_mul_right 2 hn1)
      simp [this]
    · simp [World.frozen?, hc]
theorem fds_sub {w : World} {g : Nat} {l : List Fd} (h : Lies w g (fCells l)) (i c cap : Nat) (hc : i + c ≤ l.length) : FdsAt w (.slice (some ⟨g, 2 * i, none⟩) c cap) ((l.drop i).take c) := by
  have e : ((l.drop i).take c).length = c := by rw [List.length_take, List.length_drop]; omega
  refine ⟨some ⟨g, 2 * i, none⟩, cap, by rw [e], .inr ⟨g, 2 * i, rfl, fun k hk => ?_⟩⟩
  rw [e] at hk
  have eg : ((l.drop i).take c).getD k nF = l.getD (i + k) nF := by rw [List.getD, List.getD, List.getElem?_take_of_lt hk, List.getElem?_drop]
  rw [eg]
  obtain ⟨c1, c2⟩ := fCells_get l (i + k) (by omega)
  rw [show 2 * i + 2 * k = 2 * (i + k) by omega]
  exact ⟨h.cell _ c1, h.cell _ c2⟩
theorem pre_miss {l : List Fd} (hm : getS l nMeth = some cConn) (hp : getS l nProt = none) : pre l = 400 := by
  unfold pre
  split
  · split
    · rename_i e1 _ _ _
      rw [hm] at e1
      injection e1 with e1
      rw [if_pos e1.symm, hp]
    · rfl
  · rfl
theorem pre_caps {l : List Fd} {p : L} (hm : getS l nMeth = some cConn) (hp : getS l nProt = some p) (hq : p = cUdp ∨ p = cIp) (hc : getS l nCaps = none) : pre l = 400 := by
  unfold pre
  split
  · split
    · rename_i e1 _ _ _
      rw [hm] at e1
      injection e1 with e1
      rw [if_pos e1.symm, hp]
      simp only
      rw [if_pos hq, if_neg (by rintro ⟨_, _, c⟩; rw [hc] at c; cases c)]
    · rfl
  · rfl
theorem pr_one (ip : Bool) : (if ip = true then cIp else cUdp) = cUdp ∨ (if ip = true then cIp else cUdp) = cIp := by cases ip <;> simp
theorem chg0 (ip : Bool) (a n : Int) (a0 : 0 ≤ a) (a1 : a < 4294967296) {ip' : Bool} {b m st : Int} (h : Asks ((fld6 cProxy ip a n).set 0 (nMeth, [71, 69, 84])) ip' b m st) : ip' = false ∧ b = 0 ∧ m = 0 ∧ st = 405 := by
  have hc : chkS ((fld6 cProxy ip a n).set 0 (nMeth, [71, 69, 84])) = 0 := by
    unfold chkS fld6
    rw [if_neg (by simp)]
    simp only [List.set_cons_zero, fstE]
    rw [if_pos (show rtE (nMeth, [71, 69, 84]) = 0 by decide), if_pos (rt_mid ip), if_pos (show rtE (nSchm, cHttps) = 0 by decide), if_pos (show rtE (nAuth, cProxy) = 0 by decide), if_pos (rt_path ip a n a0 a1), if_pos (show rtE (nCaps, cYes) = 0 by decide)]
  have P := pre_all (m := [71, 69, 84]) (s := cHttps) (a := cProxy) (p := pthT ip a n) hc rfl rfl rfl rfl rfl
  rw [if_neg (by decide)] at P
  exact asks_bad P (by decide) h
theorem mis0 (ip : Bool) (a n : Int) {ip' : Bool} {b m st : Int} (h : Asks ((fld6 cProxy ip a n).take 0 ++ (fld6 cProxy ip a n).drop 1) ip' b m st) : st = 400 := by
  exact (asks_bad (pre_none (.inl rfl)) (by decide) h).2.2.2
theorem chg1 (ip : Bool) (a n : Int) (a0 : 0 ≤ a) (a1 : a < 4294967296) {ip' : Bool} {b m st : Int} (h : Asks ((fld6 cProxy ip a n).set 1 (nProt, [99, 111, 110, 110, 101, 99, 116, 45, 116, 99, 112])) ip' b m st) : ip' = false ∧ b = 0 ∧ m = 0 ∧ st = 501 := by
  have hc : chkS ((fld6 cProxy ip a n).set 1 (nProt, [99, 111, 110, 110, 101, 99, 116, 45, 116, 99, 112])) = 0 := by
    unfold chkS fld6
    rw [if_neg (by simp)]
    simp only [List.set_cons_zero, List.set_cons_succ, fstE]
    rw [if_pos (show rtE (nMeth, cConn) = 0 by decide), if_pos (show rtE (nProt, [99, 111, 110, 110, 101, 99, 116, 45, 116, 99, 112]) = 0 by decide), if_pos (show rtE (nSchm, cHttps) = 0 by decide), if_pos (show rtE (nAuth, cProxy) = 0 by decide), if_pos (rt_path ip a n a0 a1), if_pos (show rtE (nCaps, cYes) = 0 by decide)]
  have P := pre_all (m := cConn) (s := cHttps) (a := cProxy) (p := pthT ip a n) hc rfl rfl rfl rfl rfl
  rw [if_pos rfl] at P
  rw [(show getS ((fld6 cProxy ip a n).set 1 (nProt, [99, 111, 110, 110, 101, 99, 116, 45, 116, 99, 112])) nProt = some [99, 111, 110, 110, 101, 99, 116, 45, 116, 99, 112] from rfl)] at P
  simp only at P
  rw [if_neg (by decide)] at P
  exact asks_bad P (by decide) h
theorem mis1 (ip : Bool) (a n : Int) {ip' : Bool} {b m st : Int} (h : Asks ((fld6 cProxy ip a n).take 1 ++ (fld6 cProxy ip a n).drop 2) ip' b m st) : st = 400 := by
  exact (asks_bad (pre_miss rfl rfl) (by decide) h).2.2.2
theorem chg2 (ip : Bool) (a n : Int) (a0 : 0 ≤ a) (a1 : a < 4294967296) {ip' : Bool} {b m st : Int} (h : Asks ((fld6 cProxy ip a n).set 2 (nSchm, [104, 116, 116, 112])) ip' b m st) : ip' = false ∧ b = 0 ∧ m = 0 ∧ st = 400 := by
  have hc : chkS ((fld6 cProxy ip a n).set 2 (nSchm, [104, 116, 116, 112])) = 0 := by
    unfold chkS fld6
    rw [if_neg (by simp)]
    simp only [List.set_cons_zero, List.set_cons_succ, fstE]
    rw [if_pos (show rtE (nMeth, cConn) = 0 by decide), if_pos (rt_mid ip), if_pos (show rtE (nSchm, [104, 116, 116, 112]) = 0 by decide), if_pos (show rtE (nAuth, cProxy) = 0 by decide), if_pos (rt_path ip a n a0 a1), if_pos (show rtE (nCaps, cYes) = 0 by decide)]
  have P := pre_all (m := cConn) (s := [104, 116, 116, 112]) (a := cProxy) (p := pthT ip a n) hc rfl rfl rfl rfl rfl
  rw [if_pos rfl] at P
  rw [(show getS ((fld6 cProxy ip a n).set 2 (nSchm, [104, 116, 116, 112])) nProt = some (if ip = true then cIp else cUdp) from rfl)] at P
  simp only at P
  rw [if_pos (pr_one ip)] at P
  rw [if_neg (by rintro ⟨c, _⟩; exact absurd c (by decide))] at P
  exact asks_bad P (by decide) h
theorem mis2 (ip : Bool) (a n : Int) {ip' : Bool} {b m st : Int} (h : Asks ((fld6 cProxy ip a n).take 2 ++ (fld6 cProxy ip a n).drop 3) ip' b m st) : st = 400 := by
  exact (asks_bad (pre_none (.inr (.inl rfl))) (by decide) h).2.2.2
theorem chg3 (ip : Bool) (a n : Int) (a0 : 0 ≤ a) (a1 : a < 4294967296) {ip' : Bool} {b m st : Int} (h : Asks ((fld6 cProxy ip a n).set 3 (nAuth, [])) ip' b m st) : ip' = false ∧ b = 0 ∧ m = 0 ∧ st = 400 := by
  have hc : chkS ((fld6 cProxy ip a n).set 3 (nAuth, [])) = 0 := by
    unfold chkS fld6
    rw [if_neg (by simp)]
    simp only [List.set_cons_zero, List.set_cons_succ, fstE]
    rw [if_pos (show rtE (nMeth, cConn) = 0 by decide), if_pos (rt_mid ip), if_pos (show rtE (nSchm, cHttps) = 0 by decide), if_pos (show rtE (nAuth, []) = 0 by decide), if_pos (rt_path ip a n a0 a1), if_pos (show rtE (nCaps, cYes) = 0 by decide)]
  have P := pre_all (m := cConn) (s := cHttps) (a := []) (p := pthT ip a n) hc rfl rfl rfl rfl rfl
  rw [if_pos rfl] at P
  rw [(show getS ((fld6 cProxy ip a n).set 3 (nAuth, [])) nProt = some (if ip = true then cIp else cUdp) from rfl)] at P
  simp only at P
  rw [if_pos (pr_one ip)] at P
  rw [if_neg (by rintro ⟨_, c, _⟩; exact c rfl)] at P
  exact asks_bad P (by decide) h
theorem mis3 (ip : Bool) (a n : Int) {ip' : Bool} {b m st : Int} (h : Asks ((fld6 cProxy ip a n).take 3 ++ (fld6 cProxy ip a n).drop 4) ip' b m st) : st = 400 := by
  exact (asks_bad (pre_none (.inr (.inr (.inl rfl)))) (by decide) h).2.2.2
theorem chg4 (ip : Bool) (a n : Int) (_ : 0 ≤ a) (_ : a < 4294967296) {ip' : Bool} {b m st : Int} (h : Asks ((fld6 cProxy ip a n).set 4 (nPath, [47])) ip' b m st) : ip' = false ∧ b = 0 ∧ m = 0 ∧ st = 404 := by
  have hc : chkS ((fld6 cProxy ip a n).set 4 (nPath, [47])) = 0 := by
    unfold chkS fld6
    rw [if_neg (by simp)]
    simp only [List.set_cons_zero, List.set_cons_succ, fstE]
    rw [if_pos (show rtE (nMeth, cConn) = 0 by decide), if_pos (rt_mid ip), if_pos (show rtE (nSchm, cHttps) = 0 by decide), if_pos (show rtE (nAuth, cProxy) = 0 by decide), if_pos (show rtE (nPath, [47]) = 0 by decide), if_pos (show rtE (nCaps, cYes) = 0 by decide)]
  have P := pre_all (m := cConn) (s := cHttps) (a := cProxy) (p := [47]) hc rfl rfl rfl rfl rfl
  rw [if_pos rfl] at P
  rw [(show getS ((fld6 cProxy ip a n).set 4 (nPath, [47])) nProt = some (if ip = true then cIp else cUdp) from rfl)] at P
  simp only at P
  rw [if_pos (pr_one ip)] at P
  rw [if_pos ⟨by first | rfl | trivial, by decide, rfl⟩] at P
  refine h.one (.inr ⟨P, .inr ⟨rfl, rfl, rfl, rfl, fun ip2 a2 n2 c => ?_⟩⟩)
  have e : (getS ((fld6 cProxy ip a n).set 4 (nPath, [47])) nPath).getD [] = [47] := rfl
  rw [e] at c
  cases hu : decide (getS ((fld6 cProxy ip a n).set 4 (nPath, [47])) nProt = some cUdp) with
  | false => rw [hu] at c; exact absurd (c.i rfl).1 (by decide)
  | true =>
    rw [hu] at c
    have := (c.q rfl).len
    simp at this
theorem mis4 (ip : Bool) (a n : Int) {ip' : Bool} {b m st : Int} (h : Asks ((fld6 cProxy ip a n).take 4 ++ (fld6 cProxy ip a n).drop 5) ip' b m st) : st = 400 := by
  exact (asks_bad (pre_none (.inr (.inr (.inr rfl)))) (by decide) h).2.2.2
theorem chg5 (ip : Bool) (a n : Int) (a0 : 0 ≤ a) (a1 : a < 4294967296) {ip' : Bool} {b m st : Int} (h : Asks ((fld6 cProxy ip a n).set 5 (nCaps, [63, 48])) ip' b m st) : ip' = false ∧ b = 0 ∧ m = 0 ∧ st = 400 := by
  have hc : chkS ((fld6 cProxy ip a n).set 5 (nCaps, [63, 48])) = 0 := by
    unfold chkS fld6
    rw [if_neg (by simp)]
    simp only [List.set_cons_zero, List.set_cons_succ, fstE]
    rw [if_pos (show rtE (nMeth, cConn) = 0 by decide), if_pos (rt_mid ip), if_pos (show rtE (nSchm, cHttps) = 0 by decide), if_pos (show rtE (nAuth, cProxy) = 0 by decide), if_pos (rt_path ip a n a0 a1), if_pos (show rtE (nCaps, [63, 48]) = 0 by decide)]
  have P := pre_all (m := cConn) (s := cHttps) (a := cProxy) (p := pthT ip a n) hc rfl rfl rfl rfl rfl
  rw [if_pos rfl] at P
  rw [(show getS ((fld6 cProxy ip a n).set 5 (nCaps, [63, 48])) nProt = some (if ip = true then cIp else cUdp) from rfl)] at P
  simp only at P
  rw [if_pos (pr_one ip)] at P
  rw [if_neg (by rintro ⟨_, _, c⟩; rw [show getS ((fld6 cProxy ip a n).set 5 (nCaps, [63, 48])) nCaps = some [63, 48] from rfl] at c; exact absurd c (by decide))] at P
  exact asks_bad P (by decide) h
theorem mis5 (ip : Bool) (a n : Int) {ip' : Bool} {b m st : Int} (h : Asks ((fld6 cProxy ip a n).take 5 ++ (fld6 cProxy ip a n).drop 6) ip' b m st) : st = 400 := by
  exact (asks_bad (pre_caps rfl rfl (pr_one ip) rfl) (by decide) h).2.2.2
end Go.Proofs.YtojfcflkanohoaaDoor
