/-
  What take hands out, and what it leaves: the packets of which a test says yes, and the others. The test keeps what it leans on while the ledger changes; fewer than 2^20 packets; no other condition.
-/
import Derived.Test.YtfjampommgkfeaaLpDel
import Derived.Test.YtfjampommgkfeaaLpBase
namespace Go.Proofs.Ytfjampommgkfeaa
set_option maxRecDepth 100000
open Go.RowKit Go.Sort

theorem take_next (l : List Pk) (t : Pk → Bool) (j : Nat) (hj : j < l.length) : (l.take (j + 1)).filter t = (l.take j).filter t ++ (if t (l.getD j (0, 0, 0)) = true then [l.getD j (0, 0, 0)] else []) := by
  rw [List.take_succ_eq_append_getElem hj, List.filter_append]
  have e : l.getD j (0, 0, 0) = l[j] := by simp [List.getD, List.getElem?_eq_getElem hj]
  rw [e]
  cases q : t l[j] <;> simp [q]
theorem below_grown {w a b : World} {v : Value} {n : Nat} {t : TypeId} {s : Nat} {xs : List Value} (h : Below w.heap.size w a) (ho : a.ownsRow w.heap.size t s v n xs) (g : a.grownBy b v.ownBlock) : Below w.heap.size w b :=
  h.grown g h.size fun k hk => (ho.lt k hk).1
set_option maxHeartbeats 4000000 in
theorem take_ok (B : Nat) (sv : Value) (d : Ld) (f : FuncId) (caps : Array Value) (t : Pk → Bool) (I : World → Prop) (w : World) (h : Lies w B (lgc sv d)) (ho : w.ownsRow 0 58 3 sv d.l.length (pks d.l)) (hne : sv.ownBlock ≠ some B) (hl : d.l.length < 1048576)
    (hk : ∀ w', Kept (fun k => sv.ownBlock = some k) w w' → I w') (ht : TstP f caps t I) :
    Calls Try.prog 24 #[ptr B, .func (.func f) #[] caps] w fun e w' => ∃ tv sv', e = .returned tv ∧ w'.ownsRow w.heap.size 58 3 tv (d.l.filter t).length (pks (d.l.filter t)) ∧ Lies w' B (lgc sv' d) ∧ w'.ownsRow 0 58 3 sv' (d.l.filter fun p => !t p).length (pks (d.l.filter fun p => !t p)) ∧ sv'.ownBlock = sv.ownBlock ∧ Kept (fun k => k = B ∨ sv.ownBlock = some k) w w' := by
  obtain ⟨i0, hi0, hz0, hz1, hz2⟩ := info_ppk
  have c0 := h.cell 0 (v := sv) rfl
  have hB : B < w.heap.size := h.lt (by show 0 < 6; decide)
  obtain ⟨hcf, hC⟩ := id ht
  have D : Hid (∀ w1, Below w.heap.size w w1 → Calls Try.prog 38 #[sv, .func (.func f) #[] caps] w1 fun e w' => ∃ sv', e = .returned sv' ∧ w'.ownsRow 0 58 3 sv' (d.l.filter fun p => !t p).length (pks (d.l.filter fun p => !t p)) ∧ sv'.ownBlock = sv.ownBlock ∧ Kept (fun k => sv.ownBlock = some k) w1 w') := fun w1 b =>
    del_ok sv d.l f caps t I w1 (row_block ho fun k hk => b.block k (ho.lt k hk).2) (by omega) (fun w' K => hk w' ((Kept.of _ b).trans K)) ht
  obtain ⟨a, cap, rfl, hc⟩ := own_pkAt ho
  replace hc : Hid _ := hc
  replace hC : Hid _ := hC
  replace hk : Hid _ := hk
  replace ho : Hid (w.ownsRow 0 58 3 (.slice a d.l.length cap) d.l.length (pks d.l)) := ho
  replace h : Hid (Lies w B (lgc (.slice a d.l.length cap) d)) := h
  clear ht
  go_enter Try.func24, Try.ntmps24
  go_wp2
  clear c0
  go_loopg [5, 13] d.l.length (fun g' tv iv wr => ∃ k : Nat, k + g' = d.l.length ∧ iv = .int .i64 k ∧ Hid (wr.ownsRow w.heap.size 58 3 tv ((d.l.take k).filter t).length (pks ((d.l.take k).filter t))) ∧ Hid (Below w.heap.size w wr))
  case atStart => exact ⟨0, by omega, rfl, World.ownsRow_nil _ _ _ _, Below.refl _ _⟩
  case round =>
    obtain ⟨k, hkk, rfl, hT, bel⟩ := hrel
    by_cases hlt : k < d.l.length
    · have g1 : decide ((k : Int) < (d.l.length : Int)) = true := decide_eq_true (by omega)
      rcases hc.out with hc0 | ⟨g, po, rfl, hc1⟩
      · rw [hc0] at hlt; simp at hlt
      · obtain ⟨d0, d1, d2⟩ := hc1 k hlt
        replace d0 := (bel.out.cell (World.block_lt_of_cell? w _ d0)).trans d0
        replace d1 := (bel.out.cell (World.block_lt_of_cell? w _ d1)).trans d1
        replace d2 := (bel.out.cell (World.block_lt_of_cell? w _ d2)).trans d2
        have ia := fun w' => at_ppk g po d.l.length cap k w' hlt (k : Int) rfl (po + 3 * k) rfl
        have hn := take_next d.l t k hlt
        have hxl : ((d.l.take k).filter t).length < 1048576 := Nat.lt_of_le_of_lt (Nat.le_trans (List.length_filter_le ..) (List.length_take_le ..)) (by omega)
        obtain ⟨p, hp⟩ : ∃ p, p = d.l.getD k (0, 0, 0) := ⟨_, rfl⟩
        rw [← hp] at d0 d1 d2 hn
        have al : Below w.heap.size w (wr.alloc (.cells #[.int .i64 p.1, .int .i64 p.2.1, .int .i64 p.2.2] 58)) := bel.out.alloc bel.out.size _
        have C : Hid _ := hC.out p (wr.alloc (.cells #[.int .i64 p.1, .int .i64 p.2.1, .int .i64 p.2.2] 58)) (hk.out _ (Kept.of _ al))
        obtain ⟨x, y, z⟩ := p
        simp only at d0 d1 d2 C al
        generalize (d.l.take k).filter t = xs at *
        have N0 := Lies.new wr [.int .i64 x, .int .i64 y, .int .i64 z] 58
        have oA : (wr.alloc (.cells #[.int .i64 x, .int .i64 y, .int .i64 z] 58)).ownsRow w.heap.size 58 3 u5 xs.length (pks xs) := row_block hT.out fun k hk => ((Below.refl wr.heap.size wr).alloc (Nat.le_refl _) _).block k (World.ownsRow.lt hT.out k hk).2
        have nx : Hid (∀ w', Below (wr.alloc (.cells #[.int .i64 x, .int .i64 y, .int .i64 z] 58)).heap.size (wr.alloc (.cells #[.int .i64 x, .int .i64 y, .int .i64 z] 58)) w' → w'.cell? ⟨wr.heap.size, 0, none⟩ = some (.int .i64 x) ∧ w'.cell? ⟨wr.heap.size, 1, none⟩ = some (.int .i64 y) ∧ w'.cell? ⟨wr.heap.size, 2, none⟩ = some (.int .i64 z) ∧ w'.ownsRow w.heap.size 58 3 u5 xs.length (pks xs) ∧ Below w.heap.size w w') := fun w' b => by
          have N1 := N0.keep (by show 0 < 3; decide) b
          exact ⟨N1.cell 0 rfl, N1.cell 1 rfl, N1.cell 2 rfl, row_block oA fun k hk => b.block k (oA.lt k hk).2, al.trans (b.mono al.size)⟩
        replace hp : Hid _ := hp
        clear N0 oA al bel hT hc1
        cases htk : t (x, y, z)
        · rw [htk] at C
          rw [if_neg (by rw [htk]; decide), List.append_nil] at hn
          replace hn : Hid _ := hn
          replace htk : Hid _ := htk
          go_wp2_with fail
          refine Calls.mono C.out ?_
          rintro e w2 ⟨rfl, b2⟩
          obtain ⟨-, -, -, n3, n4⟩ := nx.out w2 b2
          replace n3 : Hid _ := n3
          replace n4 : Hid _ := n4
          clear C nx b2 d0 d1 d2
          go_wp2_with fail
          go_roundg (d.l.length - (k + 1))
          case measure => omega
          case rel => exact ⟨k + 1, by omega, by go_num, by rw [hn.out]; exact n3, n4⟩
        · rw [htk] at C
          rw [if_pos htk] at hn
          replace hn : Hid _ := hn
          replace htk : Hid _ := htk
          go_wp2_with fail
          refine Calls.mono C.out ?_
          rintro e w2 ⟨rfl, b2⟩
          obtain ⟨n0, n1, n2, n3, n4⟩ := nx.out w2 b2
          have al2 : Below w2.heap.size w2 (w2.alloc (.cells #[.int .i64 x, .int .i64 y, .int .i64 z] 58)) := (Below.refl _ _).alloc (Nat.le_refl _) _
          have o4 : Hid ((w2.alloc (.cells #[.int .i64 x, .int .i64 y, .int .i64 z] 58)).ownsRow w.heap.size 58 3 u5 xs.length (pks xs)) := row_block n3 fun k hk => al2.block k (n3.lt k hk).2
          have hnews : Hid (∀ j u, (pkc (x, y, z))[j]? = some u → (w2.alloc (.cells #[.int .i64 x, .int .i64 y, .int .i64 z] 58)).cell? ((⟨w2.heap.size, 0, none⟩ : Addr).add j) = some u) := fun j u hj => by
            rw [Addr.add_lit]
            exact (Lies.new w2 (pkc (x, y, z)) 58).r j u hj
          have n5 : Below w.heap.size w (w2.alloc (.cells #[.int .i64 x, .int .i64 y, .int .i64 z] 58)) := n4.trans (al2.mono n4.size)
          have fin : Hid (∀ v' w5, w5.ownsRow w.heap.size 58 3 v' (xs.length + 1) (pks xs ++ pkc (x, y, z)) → (w2.alloc (.cells #[.int .i64 x, .int .i64 y, .int .i64 z] 58)).grownBy w5 u5.ownBlock → w5.ownsRow w.heap.size 58 3 v' (xs ++ [(x, y, z)]).length (pks (xs ++ [(x, y, z)])) ∧ Below w.heap.size w w5) := fun v' w5 q1 q2 => ⟨by rw [pks_snoc, List.length_append]; exact q1, below_grown n5 o4.out q2⟩
          have hWs : w.heap.size ≤ (w2.alloc (.cells #[.int .i64 x, .int .i64 y, .int .i64 z] 58)).heap.size := n5.size
          obtain ⟨ua, uc, rfl⟩ := rown_len n3
          clear C nx b2 d0 d1 d2 al2 n3 n4 n5
          go_wp2_with (at_builtin; refine wpList_append_own_at _ rfl _ _ 54 rfl w.heap.size 58 i0 (.agg #[.int .i64 0, .int .i64 0, .int .i64 0]) 3 24 Try.underlying54 hi0 hz0 hz1 hz2 rfl (by decide) (.slice ua xs.length uc) xs.length (pks xs) rfl o4.out ⟨w2.heap.size, 0, none⟩ 1 1 (pkc (x, y, z)) rfl rfl hnews.out (pkc_one _) (by unfold maxLen; omega) (by omega) hWs ?_; intro v' w5 q1 q2 q3 q4; obtain ⟨R1, R2⟩ := fin.out v' w5 q1 q2; clear q1 q2 q3 q4; clear fin o4 hnews hWs n0 n1 n2; replace R1 : Hid _ := R1; replace R2 : Hid _ := R2)
          go_roundg (d.l.length - (k + 1))
          case measure => omega
          case rel => exact ⟨k + 1, by omega, by go_num, by rw [hn.out]; exact R1, R2⟩
    · have g1 : decide ((k : Int) < (d.l.length : Int)) = false := decide_eq_false (by omega)
      obtain rfl : k = d.l.length := by omega
      rw [List.take_length] at hT
      have L1 := h.out.keep (by show 0 < 6; decide) bel.out
      have c1 := L1.cell 0 (v := .slice a d.l.length cap) rfl
      have D1 : Hid _ := D.out wr bel.out
      have fin : Hid (∀ sv' w2, sv'.ownBlock = (Value.slice a d.l.length cap).ownBlock → w2.ownsRow 0 58 3 sv' (d.l.filter fun p => !t p).length (pks (d.l.filter fun p => !t p)) → Kept (fun k => (Value.slice a d.l.length cap).ownBlock = some k) wr w2 → Lies w2 B (lgc (.slice a d.l.length cap) d) ∧ (w2.setCell ⟨B, 0, none⟩ sv').ownsRow w.heap.size 58 3 u5 (d.l.filter t).length (pks (d.l.filter t)) ∧ Lies (w2.setCell ⟨B, 0, none⟩ sv') B (lgc sv' d) ∧ (w2.setCell ⟨B, 0, none⟩ sv').ownsRow 0 58 3 sv' (d.l.filter fun p => !t p).length (pks (d.l.filter fun p => !t p)) ∧ Kept (fun k => k = B ∨ (Value.slice a d.l.length cap).ownBlock = some k) w (w2.setCell ⟨B, 0, none⟩ sv')) := fun sv' w2 e1 e2 K => by
        have hz := bel.out.size
        have L2 : Lies w2 B (lgc (.slice a d.l.length cap) d) := L1.of_block (K.block B (by omega) hne)
        have ot : ∀ k, k ≠ B → (w2.setCell ⟨B, 0, none⟩ sv').heap[k]? = w2.heap[k]? := fun k hk => Below.heap_setCell _ _ _ _ hk
        refine ⟨L2, row_block hT.out fun k hk => ?_, L2.put 0 (by show 0 < 6; decide) sv', row_block e2 fun k hk => ot k fun e => hne (by rw [← e1, hk, e]), Kept.set (F := fun k => k = B ∨ (Value.slice a d.l.length cap).ownBlock = some k) (((Kept.of _ bel.out)).trans (K.mono fun k _ e => .inr e)) ⟨B, 0, none⟩ (.inl rfl) _⟩
        have h1 := (World.ownsRow.lt hT.out k hk)
        rw [ot k (by omega), K.block k h1.2 (fun e => by have := (World.ownsRow.lt ho.out k e).2; omega)]
      clear L1 hT hC hc D bel hk ho h
      go_wp2_with fail
      refine Calls.mono D1.out ?_
      rintro e w2 ⟨sv', rfl, e2, e1, K⟩
      obtain ⟨sa, sc, rfl⟩ := rown_len e2
      obtain ⟨F0, F1, F2, F3, F4⟩ := fin.out _ w2 e1 e2 K
      have c2 := F0.cell 0 (v := .slice a d.l.length cap) rfl
      have f2 := F0.free 0 (by show 0 < 6; decide)
      replace F0 : Hid _ := F0
      replace F1 : Hid _ := F1
      replace F2 : Hid _ := F2
      replace F3 : Hid _ := F3
      replace F4 : Hid _ := F4
      clear e2 K fin D1 c1
      replace e1 : Hid _ := e1
      go_wp2_with fail
      go_ret
      exact ⟨u5, _, rfl, F1.out, F2.out, F3.out, e1.out, F4.out⟩
end Go.Proofs.Ytfjampommgkfeaa
