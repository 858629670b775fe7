/-
  What Expire of the program's ledger does. No condition but what always holds of a ledger.
-/
import Derived.Test.YtfjampommgkfeaaLpClo
import Derived.Test.YtfjampommgkfeaaLpGrow
import Derived.Test.YtfjampommgkfeaaLpNum
namespace Go.Proofs.Ytfjampommgkfeaa
set_option maxRecDepth 100000
open Go.RowKit Go.Sort

theorem own_n64 {w : World} {base : Nat} {u : Value} {xs : List Int} (h : w.ownsRow base 2 1 u xs.length (n64 xs)) : N64 w (fun k => base ≤ k) u xs := by
  rcases h.2 with ⟨rfl, h0⟩ | ⟨g, cap, cur, rfl, hb, -⟩
  · have e : xs = [] := List.eq_nil_of_length_eq_zero h0
    subst e
    exact ⟨none, 0, rfl, fun _ => rfl, .inl rfl⟩
  · refine ⟨_, cap, rfl, (fun e => nomatch e), .inr ⟨g, 0, rfl, hb, fun k hk => ?_⟩⟩
    have := h.cellAt k (by omega)
    rw [Nat.zero_add, this]
    simp [n64, List.getD, List.getElem?_eq_getElem hk]
theorem n64_nil (w : World) (A : Nat → Prop) : N64 w A (.slice none 0 0) [] := ⟨none, 0, rfl, fun _ => rfl, .inl rfl⟩
theorem lgc_lose (sv : Value) (d : Ld) (l : List Pk) (xs : List Int) : lgc sv (lose { d with l := l } xs) = lgc sv (lose d xs) := by
  unfold lose
  show lgc sv (if xs.any (fun n => decide (d.mark < n)) = true then _ else _) = _
  split <;> rfl
theorem due_any (d : Ld) (now : Int) (hd : Lw d) (hn : In64 now) : d.l.any (dueT now (wait d)) = dueA d now := by
  unfold dueA
  have e : ∀ p ∈ d.l, dueT now (wait d) p = dueB d now p := fun p hp => due_is d now p hn (hd.ticks p hp) hd.k.bo
  generalize d.l = l at e
  induction l with
  | nil => rfl
  | cons x l ih =>
    rw [List.any_cons, List.any_cons, e x (List.mem_cons_self ..), ih fun p hp => e p (List.mem_cons_of_mem _ hp)]
theorem lgc_bo (sv : Value) (d : Ld) (xs : List Int) (n : Nat) : (lgc sv (lose d xs)).set 5 (.int .i64 n) = lgc sv { lose d xs with bo := n } := rfl
set_option maxHeartbeats 4000000 in
theorem pg_expire (w : World) (B : Nat) (F : Nat → Prop) (d : Ld) (now : Int) (h : LS w B F d) (hd : Lw d) (hn : In64 now) :
    Calls Try.prog 15 #[ptr B, .int .i64 now] w fun e w' => ∃ v, e = .returned v ∧ ∃ F', N64 w' (Free w F') v (expL d now) ∧ LS w' B F' (expire d now) ∧ (∀ k, F' k → F k ∨ w.heap.size ≤ k) ∧ Kept F w w' := by
  have hlen := hd.len
  obtain ⟨o, ⟨sv, L, ho, hob⟩, hoB, hF⟩ := id h
  have hlt := h.lt
  have hBF : F B := (hF B).2 (.inl rfl)
  have hoF : ∀ k, sv.ownBlock = some k → F k := fun k e => (hF k).2 (.inr (hob ▸ e))
  have hne : sv.ownBlock ≠ some B := hob ▸ hoB
  have b1 := (Below.refl w.heap.size w).alloc (Nat.le_refl _) (.cells #[.int .i64 now] 2)
  have b2 := b1.alloc b1.size (.cells #[.int .i64 (wait d)] 2)
  have CW : Hid (Calls Try.prog 20 #[ptr B] (w.alloc (.cells #[.int .i64 now] 2)) _) := pwait_ok (w.alloc (.cells #[.int .i64 now] 2)) B sv d (L.keep (by show 0 < 6; decide) b1) hd.k.bo
  have L2 := L.keep (by show 0 < 6; decide) b2
  have c0 := L2.cell 0 (v := sv) rfl
  have o2 := row_block (w' := (w.alloc (.cells #[.int .i64 now] 2)).alloc (.cells #[.int .i64 (wait d)] 2)) ho fun k hk => b2.block k (ho.lt k hk).2
  have CC : Hid (Calls Try.prog 34 #[sv, .func (.func 35) #[] #[.pointer (some ⟨w.heap.size, 0, none⟩), .pointer (some ⟨w.heap.size + 1, 0, none⟩)]] ((w.alloc (.cells #[.int .i64 now] 2)).alloc (.cells #[.int .i64 (wait d)] 2)) _) :=
    conP_ok sv d.l 35 _ (dueT now (wait d)) _ _ (own_pkAt o2) (by omega) (fun w' b' => ⟨(b'.cell (by simp; omega)).trans (by simp), (b'.cell (by simp)).trans (by simp)⟩) (expire1_ok now (wait d) w.heap.size (w.heap.size + 1))
  rw [due_any d now hd hn] at CC
  obtain ⟨a, cap, rfl⟩ := rown_len ho
  generalize hwt : wait d = wt at *
  replace hwt : Hid _ := hwt
  replace hd : Hid (Lw d) := hd
  replace L : Hid (Lies w B (lgc (.slice a d.l.length cap) d)) := L
  replace ho : Hid (w.ownsRow 0 58 3 (.slice a d.l.length cap) d.l.length (pks d.l)) := ho
  replace hF : Hid _ := hF
  replace hlt : Hid _ := hlt
  replace b2 : Hid (Below w.heap.size w ((w.alloc (.cells #[.int .i64 now] 2)).alloc (.cells #[.int .i64 wt] 2))) := b2
  replace hoF : Hid _ := hoF
  replace hne : Hid _ := hne
  replace h : Hid (LS w B F d) := h
  clear L2 o2 b1
  go_enter Try.func15, Try.ntmps15
  go_wp2_with fail
  refine Calls.mono CW.out ?_
  rintro e w1 ⟨rfl, rfl⟩
  clear CW
  go_wp2_with fail
  refine Calls.mono CC.out ?_
  rintro e w3 ⟨rfl, b3⟩
  have b3 : Below w.heap.size w w3 := b2.out.trans (b3.mono b2.out.size)
  clear CC c0 b2
  cases hdue : dueA d now
  · have fin : Hid (N64 w3 (Free w F) (.slice none 0 0) (expL d now) ∧ LS w3 B F (expire d now)) := by
      have e1 : expL d now = [] := by unfold expL; rw [if_neg (by rw [hdue]; decide)]
      have e2 : expire d now = d := by unfold expire; rw [if_neg (by rw [hdue]; decide)]
      rw [e1, e2]
      exact ⟨n64_nil _ _, LS.keep h.out fun k hk => b3.block k (hlt.out k hk)⟩
    have K3 : Hid (Kept F w w3) := Kept.of _ b3
    clear b3
    replace hdue : Hid _ := hdue
    have gn : (!false) = true := rfl
    go_wp2_with fail
    go_ret
    exact ⟨_, rfl, F, fin.out.1, fin.out.2, fun k hk => .inl hk, K3.out⟩
  · have o3 := row_block (w' := w3) ho.out fun k hk => b3.block k (World.ownsRow.lt ho.out k hk).2
    have CT : Hid (Calls Try.prog 24 #[ptr B, .func (.func 37) #[] #[]] w3 _) := take_ok B (.slice a d.l.length cap) d 37 #[] (fun _ => true) _ w3 (L.out.keep (by show 0 < 6; decide) b3) o3 hne.out hlen (fun _ _ => trivial) expire2_ok
    replace b3 : Hid (Below w.heap.size w w3) := b3
    replace hdue : Hid _ := hdue
    clear o3
    go_wp2_with fail
    refine Calls.mono CT.out ?_
    rintro e w4 ⟨tv, sv', rfl, T4, L4, O4, E4, K4⟩
    clear CT
    have e1 : d.l.filter (fun _ => true) = d.l := List.filter_eq_self.2 fun _ _ => rfl
    have e2 : d.l.filter (fun p => !(fun _ : Pk => true) p) = [] := List.filter_eq_nil_iff.2 fun _ _ => (by simp)
    rw [e1] at T4
    rw [e2] at O4
    have CL : Hid (Calls Try.prog 29 #[ptr B, tv] w4 _) := lose_ok B sv' d d.l tv w4 L4 (own_pkAt T4) hd.out.k.rise (by omega) hd.out.k.win
    replace T4 : Hid (w4.ownsRow w3.heap.size 58 3 tv d.l.length (pks d.l)) := T4
    replace O4 : Hid (w4.ownsRow 0 58 3 sv' ([] : List Pk).length (pks [])) := O4
    replace K4 : Hid (Kept _ w3 w4) := K4
    replace E4 : Hid _ := E4
    clear L4 e1 e2
    obtain ⟨ta, tc, rfl⟩ := rown_len T4.out
    go_wp2_with fail
    refine Calls.mono CL.out ?_
    rintro e w5 ⟨rfl, L5, K5⟩
    clear CL
    have c5 := L5.cell 5 (v := .int .i64 d.bo) (by unfold lose; split <;> rfl)
    have f5 := L5.free 5 (by show 5 < 6; decide)
    have hbo := hd.out.k.bo
    obtain ⟨nb, hnb⟩ : ∃ nb : Nat, nb = min 6 (d.bo + 1) := ⟨_, rfl⟩
    have L6 : Lies (w5.setCell ⟨B, 5, none⟩ (.int .i64 nb)) B (lgc sv' (expire d now)) := by
      have e : expire d now = { lose { d with l := [] } (nosP d.l) with bo := nb } := by unfold expire; rw [if_pos hdue.out, hnb]
      have q := L5.put 5 (by show 5 < 6; decide) (.int .i64 nb)
      rw [lgc_bo] at q
      rw [e]
      have r := congrArg (fun l : List Value => l.set 5 (.int .i64 nb)) (lgc_lose sv' d [] (nosP d.l))
      simp only [lgc_bo] at r
      rw [r]
      exact q
    have K45 := K4.out.trans (K5.mono fun k _ e => .inl e)
    have K6 := Kept.set (F := fun k => k = B ∨ (Value.slice a d.l.length cap).ownBlock = some k) K45 ⟨B, 5, none⟩ (.inl rfl) (.int .i64 nb)
    have hz3 := b3.out.size
    have nF : ∀ k, w.heap.size ≤ k → ¬ (k = B ∨ (Value.slice a d.l.length cap).ownBlock = some k) := fun k hk e => by
      rcases e with rfl | e
      · have := hlt.out k hBF; omega
      · have := hlt.out k (hoF.out k e); omega
    have hB := hlt.out B hBF
    have ot : ∀ k, k < w4.heap.size → k ≠ B → (w5.setCell ⟨B, 5, none⟩ (.int .i64 nb)).heap[k]? = w4.heap[k]? := fun k q hk => (Below.heap_setCell _ _ _ _ hk).trans (K5.block k q hk)
    have T6 : (w5.setCell ⟨B, 5, none⟩ (.int .i64 nb)).ownsRow w3.heap.size 58 3 (.slice ta d.l.length tc) d.l.length (pks d.l) := row_block T4.out fun k hk => ot k (World.ownsRow.lt T4.out k hk).2 (by have := (World.ownsRow.lt T4.out k hk).1; omega)
    have O6 : (w5.setCell ⟨B, 5, none⟩ (.int .i64 nb)).ownsRow 0 58 3 sv' ([] : List Pk).length (pks []) := row_block O4.out fun k hk => ot k (World.ownsRow.lt O4.out k hk).2 (fun e => hne.out (by rw [← E4.out, hk, e]))
    have CN : Hid (Calls Try.prog 30 #[.slice ta d.l.length tc] (w5.setCell ⟨B, 5, none⟩ (.int .i64 nb)) _) := numbers_ok _ d.l _ (own_pkAt T6) hlen
    have fin : Hid (∀ u w7, w7.ownsRow (w5.setCell ⟨B, 5, none⟩ (.int .i64 nb)).heap.size 2 1 u (nosP d.l).length (n64 (nosP d.l)) → Below (w5.setCell ⟨B, 5, none⟩ (.int .i64 nb)).heap.size (w5.setCell ⟨B, 5, none⟩ (.int .i64 nb)) w7 → ∃ F', N64 w7 (Free w F') u (expL d now) ∧ LS w7 B F' (expire d now) ∧ (∀ k, F' k → F k ∨ w.heap.size ≤ k) ∧ Kept F w w7) := fun u w7 U b7 => by
      have e1 : expL d now = nosP d.l := by unfold expL; rw [if_pos hdue.out]
      have e2 : (expire d now).l = [] := by rw [expire_l, if_pos hdue.out]
      have hz6 := K6.size
      rw [e1]
      refine ⟨F, (own_n64 U).mono fun k hk => ⟨by omega, fun e => by have := hlt.out k e; omega⟩, ⟨o, ⟨sv', L6.keep (by show 0 < 6; decide) b7, ?_, E4.out.trans hob⟩, hoB, hF.out⟩, fun k hk => .inl hk, ?_⟩
      · rw [e2]
        exact row_block O6 fun k hk => b7.block k (O6.lt k hk).2
      · exact ((Kept.of F b3.out).trans (K6.mono fun k _ e => (hF.out k).2 (e.imp id fun q => hob ▸ q))).add b7
    clear L5 L6 K45 K6 nF ot T6 O6 K5 T4 O4 K4 E4
    generalize d.bo = bo at c5 hnb hbo
    rcases bo with _ | _ | _ | _ | _ | _ | _ | bo
    all_goals first
      | (exfalso; omega)
      | (clear hbo
         subst hnb
         go_wp2_with fail
         refine Calls.mono CN.out ?_
         rintro e w7 ⟨u, rfl, U, b7⟩
         have FF := fin.out u w7 U b7
         replace FF : Hid _ := FF
         clear U b7 fin CN
         obtain ⟨F', FF⟩ := FF.out
         replace FF : Hid _ := FF
         go_wp2_with fail
         go_ret
         exact ⟨u, rfl, F', FF.out⟩)
end Go.Proofs.Ytfjampommgkfeaa
