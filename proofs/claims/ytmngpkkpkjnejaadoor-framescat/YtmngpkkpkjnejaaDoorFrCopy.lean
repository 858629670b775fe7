/-
  What the law's own copy of frames answers: the same frames, in memory of their own. No condition but the statements' own bound of an argument's bytes.
-/
import Derived.Test.YtmngpkkpkjnejaaDoorFrPar
import Derived.Test.YtmngpkkpkjnejaaDoorFrOpen
import Derived.Test.YtmngpkkpkjnejaaDoorAkRun
namespace Go.Proofs.YtmngpkkpkjnejaaDoor
set_option maxRecDepth 100000
open Go.RowKit Go.Sort

/-- append of ranges, nil ones too, onto a row that has none and no room. -/
theorem app_rgs {w : World} {E : Nat} {a : Option Addr} {cp : Nat} {l : List Rg} (hE : w.ownsRow E 67 2 (.slice (some ⟨E, 0, none⟩) 0 0) 0 []) (hr : RgAt w (.slice a l.length cp) l) (hl : l.length * 16 ≤ 140737488351232) (hs : E < w.heap.size) (ty : TypeId) :
    ∃ v' w', (∀ z, (builtin .append #[22, 22] ty z #[.slice (some ⟨E, 0, none⟩) 0 0, .slice a l.length cp]).run Tryd.prog w = .ok (.value v') w') ∧ w'.ownsRow E 67 2 v' l.length (rgs l) ∧ w.grownBy w' (some E) ∧ ∃ a' c', v' = .slice a' l.length c' := by
  obtain ⟨i0, hi0, hz0, hz1, hz2⟩ := info_rg
  cases a with
  | none =>
    have e : l = [] := by
      obtain ⟨a', cp', e, hc⟩ := hr
      injection e with e1 _ _
      subst e1
      rcases hc with h | ⟨g, o, h, _⟩
      · exact h
      · cases h
    subst e
    refine ⟨_, w, fun z => ?_, hE, ⟨rfl, rfl, rfl, Nat.le_refl _, fun _ _ _ => rfl⟩, _, _, rfl⟩
    have hS : Src Tryd.prog i0.size 22 (.slice none 0 cp) 0 [] w := Src.ofNil w Tryd.underlying22 cp
    have := run_append_room_src w 22 22 ty 67 i0 Tryd.underlying22 hi0 E 0 0 0 (.slice none 0 cp) 0 [] hS (Nat.le_refl _) (fun j hj => by cases hj) (fun j hj => by cases hj)
    simp only [builtin, Sem.run_bind, Sem.run_pure, List.length_nil, this, Result.andThen_ok]
    rfl
  | some p =>
    have hnews : ∀ j u, (rgs l)[j]? = some u → w.cell? (p.add j) = some u := fun j u hj => by
      obtain ⟨a', cp', e, hc⟩ := hr
      injection e with e1 _ _
      subst e1
      have hj2 : j < 2 * l.length := by rw [← rgs_len]; exact (List.getElem?_eq_some_iff.1 hj).1
      rcases hc with h | ⟨g, o, h, hc⟩
      · rw [h] at hj2; simp at hj2
      · injection h with h
        subst h
        rw [Addr.add_lit]
        obtain ⟨c1, c2⟩ := hc (j / 2) (by omega)
        obtain ⟨q1, q2⟩ := rgs_get l (j / 2) (by omega)
        rcases Nat.mod_two_eq_zero_or_one j with e | e
        · have e2 : 2 * (j / 2) = j := by omega
          rw [e2] at q1 c1
          rw [c1, ← q1, hj]
        · have e2 : 2 * (j / 2) + 1 = j := by omega
          rw [e2] at q2
          rw [show o + 2 * (j / 2) + 1 = o + j by omega] at c2
          rw [c2, ← q2, hj]
    obtain ⟨v', w', h1, h2, h3, h4⟩ := run_append_own (P := Tryd.prog) w E 22 ty 67 i0 (.agg #[.int .i64 0, .int .i64 0]) 2 16 Tryd.underlying22 hi0 hz0 hz1 hz2 rfl (by decide) (.slice (some ⟨E, 0, none⟩) 0 0) 0 [] hE p l.length cp (rgs l) (by rw [rgs_len]; omega) hnews (rgs_one _) (by unfold maxLen; omega) (by omega) (Nat.le_of_lt hs)
    rw [Nat.zero_add, List.nil_append] at h2
    obtain ⟨a', c', e⟩ := own_len h2
    exact ⟨v', w', fun z => by simp only [builtin, Sem.run_bind, Sem.run_pure, h1, Result.andThen_ok], h2, h3, a', c', e⟩
theorem heap_at (w : World) (o : Obj) : (w.alloc o).heap[w.heap.size]? = some o := by
  show (w.heap.push o)[w.heap.size]? = some o
  simp
/-- One frame more behind a row. -/
theorem frow_more0 {w4 w5 : World} {base : Nat} {lv lv' : Value} {xs : List FX} {x : FX} (h : FRow w4 base lv xs (fun k => lv.ownBlock = some k)) (hx : FG w4 (fun k => lv.ownBlock = some k) x) (ho : w5.ownsRow base 24 7 lv' (xs.length + 1) (fcells xs ++ fcell x)) (hg : w4.grownBy w5 lv.ownBlock) (hp : lv'.ownBlock = lv.ownBlock ∨ lv'.ownBlock = some w4.heap.size) :
    FRow w5 base lv' (xs ++ [x]) (fun k => lv'.ownBlock = some k) := by
  have mv : ∀ y : FX, FG w4 (fun k => lv.ownBlock = some k) y → FG w5 (fun k => lv'.ownBlock = some k) y := fun y hy => hy.move (fun b hb hn => hg.block b hb fun e => hn e.symm) fun b hb hn => by
    rcases hp with e | e
    · exact e ▸ hn
    · rw [e] at hn
      injection hn with hn
      omega
  refine ⟨by rw [List.length_append, fcells_snoc]; exact ho, fun y hy => ?_⟩
  rcases List.mem_append.1 hy with q | q
  · exact mv y (h.2 y q)
  · rw [List.mem_singleton.1 q]
    exact mv x hx
set_option maxHeartbeats 8000000 in
theorem copy_ok {w : World} {v : Value} {fs : List Fr} (hv : FrsAt w v fs) (hl : fs.length * 80 ≤ 140737488351232) (hb : ∀ f ∈ fs, FrB f) :
    Calls Tryd.prog 15 #[v] w fun e w' => ∃ u xs, e = .returned u ∧ xs.map (·.1) = fs ∧ FRow w' w.heap.size u xs (fun k => u.ownBlock = some k) ∧ Below w.heap.size w w' := by
  obtain ⟨i0, hi0, hz0, hz1, hz2⟩ := info_fr
  obtain ⟨a, cap, rfl, hc⟩ := hv
  rcases hc with rfl | ⟨g, o, rfl, hc⟩
  · have fin : Hid (FRow w w.heap.size (.slice none 0 0) [] (fun k => (Value.slice none 0 0).ownBlock = some k)) := FRow.nil _ _ _
    clear hb hl
    go_enter Tryd.func15, Tryd.ntmps15
    go_wp2
    go_rounds 1
    go_ret
    exact ⟨_, [], rfl, rfl, fin.out, Below.refl _ _⟩
  · replace hc : Hid _ := hc
    replace hb : Hid _ := hb
    go_enter Tryd.func15, Tryd.ntmps15
    go_wp2
    go_loopg [3, 4] fs.length (fun g' lv iv wr => ∃ (k : Nat) (xs : List FX), k + g' = fs.length ∧ iv = .int .i64 k ∧ xs.length = k ∧ Hid (xs.map (·.1) = fs.take k) ∧ Hid (FRow wr w.heap.size lv xs (fun b => lv.ownBlock = some b)) ∧ Hid (Below w.heap.size w wr))
    case atStart => exact ⟨0, [], by omega, rfl, rfl, rfl, FRow.nil _ _ _, Below.refl _ _⟩
    case round =>
      obtain ⟨k, xs, hk, rfl, hxk, hxs, row, bel⟩ := hrel
      obtain ⟨la, lc, rfl⟩ := own_len row.out.1
      by_cases hlt : k < fs.length
      · have g1 : decide ((k : Int) < (fs.length : Int)) = true := decide_eq_true (by omega)
        have F1 := (hc.out k hlt).keep bel.out
        have m1 := hb.out (fs.getD k fr0) (by simp [List.getD, List.getElem?_eq_getElem hlt])
        have ia := fun w' => at_frs g o fs.length cap k w' hlt (k : Int) rfl (o + 7 * k) rfl
        have htk : fs.take (k + 1) = fs.take k ++ [fs.getD k fr0] := by
          rw [List.take_succ_eq_append_getElem hlt]
          simp [List.getD, List.getElem?_eq_getElem hlt]
        generalize fs.getD k fr0 = f at *
        obtain ⟨d, sl, cp, d1, d2, d3⟩ := F1
        obtain ⟨x0, x1, x2, x3, x4, x5, x6⟩ := d3
        have bA := (Below.refl wr.heap.size wr).alloc (Nat.le_refl _) (.cells #[.int .i64 f.kind, .int .i64 f.id, .int .i64 f.off, .bool f.fin, .int .i64 f.code, .string d, .slice sl f.rg.length cp] 24)
        have zA : (wr.alloc (.cells #[.int .i64 f.kind, .int .i64 f.id, .int .i64 f.off, .bool f.fin, .int .i64 f.code, .string d, .slice sl f.rg.length cp] 24)).heap.size = wr.heap.size + 1 := by simp
        have bB := bA.alloc (by simp) (.cells #[] 67)
        have zB : ((wr.alloc (.cells #[.int .i64 f.kind, .int .i64 f.id, .int .i64 f.off, .bool f.fin, .int .i64 f.code, .string d, .slice sl f.rg.length cp] 24)).alloc (.cells #[] 67)).heap.size = wr.heap.size + 2 := by simp
        have hE : ((wr.alloc (.cells #[.int .i64 f.kind, .int .i64 f.id, .int .i64 f.off, .bool f.fin, .int .i64 f.code, .string d, .slice sl f.rg.length cp] 24)).alloc (.cells #[] 67)).ownsRow (wr.heap.size + 1) 67 2 (.slice (some ⟨wr.heap.size + 1, 0, none⟩) 0 0) 0 [] := ⟨rfl, .inr ⟨wr.heap.size + 1, 0, #[], rfl, Nat.le_refl _, by have := heap_at (wr.alloc (.cells #[.int .i64 f.kind, .int .i64 f.id, .int .i64 f.off, .bool f.fin, .int .i64 f.code, .string d, .slice sl f.rg.length cp] 24)) (.cells #[] 67); rwa [zA] at this, Nat.le_refl _, Nat.zero_le _, rfl, rfl⟩⟩
        obtain ⟨v', wC, hrun, oC, gC, a', c', ev⟩ := app_rgs (ty := 22) hE (d2.keep bB) m1.rgs (by rw [zB]; omega)
        subst ev
        have al : ∀ (W : World) (o : Obj), ∀ b, b < W.heap.size → (W.alloc o).heap[b]? = W.heap[b]? := fun W o b hb => ((Below.refl W.heap.size W).alloc (Nat.le_refl _) o).block b hb
        have keepC : ∀ b, b < wr.heap.size → wC.heap[b]? = wr.heap[b]? := fun b hb => (gC.block b (by rw [zB]; omega) (by intro q; injection q with q; omega)).trans ((al _ _ b (by rw [zA]; omega)).trans (al _ _ b hb))
        have LC : Lies wC wr.heap.size [.int .i64 f.kind, .int .i64 f.id, .int .i64 f.off, .bool f.fin, .int .i64 f.code, .string d, .slice sl f.rg.length cp] := (Lies.new wr [.int .i64 f.kind, .int .i64 f.id, .int .i64 f.off, .bool f.fin, .int .i64 f.code, .string d, .slice sl f.rg.length cp] 24).of_block ((gC.block _ (by rw [zB]; omega) (by intro q; injection q with q; omega)).trans (al _ _ _ (by rw [zA]; omega)))
        have zC : wr.heap.size + 2 ≤ wC.heap.size := by have := gC.size; rw [zB] at this; exact this
        have LC1 := LC.put 6 (by show 6 < 7; decide) (Value.slice a' f.rg.length c')
        have y6 := LC.cell 6 (v := .slice sl f.rg.length cp) rfl
        have f6 := LC.free 6 (by show 6 < 7; decide)
        have u0 := LC1.cell 0 (v := .int .i64 f.kind) rfl
        have u1 := LC1.cell 1 (v := .int .i64 f.id) rfl
        have u2 := LC1.cell 2 (v := .int .i64 f.off) rfl
        have u3 := LC1.cell 3 (v := .bool f.fin) rfl
        have u4 := LC1.cell 4 (v := .int .i64 f.code) rfl
        have u5 := LC1.cell 5 (v := .string d) rfl
        have u6 := LC1.cell 6 (v := (Value.slice a' f.rg.length c')) rfl
        have y6' := LC.cell 6 (v := .slice sl f.rg.length cp) rfl
        have zC1 : (wC.setCell ⟨wr.heap.size, 6, none⟩ (Value.slice a' f.rg.length c')).heap.size = wC.heap.size := by simp
        have setC : ∀ b, b ≠ wr.heap.size → (wC.setCell ⟨wr.heap.size, 6, none⟩ (Value.slice a' f.rg.length c')).heap[b]? = wC.heap[b]? := fun b hb => Below.heap_setCell _ _ _ _ hb
        have keepD : ∀ b, b < wr.heap.size → ((wC.setCell ⟨wr.heap.size, 6, none⟩ (Value.slice a' f.rg.length c')).alloc (.cells #[.int .i64 f.kind, .int .i64 f.id, .int .i64 f.off, .bool f.fin, .int .i64 f.code, .string d, (Value.slice a' f.rg.length c')] 24)).heap[b]? = wr.heap[b]? := fun b hb => (al _ _ b (by rw [zC1]; omega)).trans ((setC b (by omega)).trans (keepC b hb))
        have row4 : FRow ((wC.setCell ⟨wr.heap.size, 6, none⟩ (Value.slice a' f.rg.length c')).alloc (.cells #[.int .i64 f.kind, .int .i64 f.id, .int .i64 f.off, .bool f.fin, .int .i64 f.code, .string d, (Value.slice a' f.rg.length c')] 24)) w.heap.size (Value.slice la xs.length lc) xs (fun b => (Value.slice la xs.length lc).ownBlock = some b) := row.out.move (fun b hb _ => keepD b hb) (fun _ _ q => q) fun b hb => keepD b (row.out.1.lt b hb).2
        have fg4 : FG ((wC.setCell ⟨wr.heap.size, 6, none⟩ (Value.slice a' f.rg.length c')).alloc (.cells #[.int .i64 f.kind, .int .i64 f.id, .int .i64 f.off, .bool f.fin, .int .i64 f.code, .string d, (Value.slice a' f.rg.length c')] 24)) (fun b => (Value.slice la xs.length lc).ownBlock = some b) ((f, d, (Value.slice a' f.rg.length c')) : FX) := ⟨d1, a', c', rfl, (own_rgAt oC).move fun _ p hp => by
          have q := oC.lt p.block (by rw [hp]; rfl)
          exact (al _ _ _ (by rw [zC1]; exact q.2)).trans (setC _ (by omega)), fun _ p hp q => by
          have q1 := (oC.lt p.block (by rw [hp]; rfl)).1
          have q2 := (row.out.1.lt _ q).2
          omega⟩
        have b4 : Below w.heap.size w ((wC.setCell ⟨wr.heap.size, 6, none⟩ (Value.slice a' f.rg.length c')).alloc (.cells #[.int .i64 f.kind, .int .i64 f.id, .int .i64 f.off, .bool f.fin, .int .i64 f.code, .string d, (Value.slice a' f.rg.length c')] 24)) := ⟨(gC.os.trans (show _ = wr.os from rfl)).trans bel.out.os, (gC.tape.trans (show _ = wr.tape from rfl)).trans bel.out.tape, (gC.output.trans (show _ = wr.output from rfl)).trans bel.out.output, by have := bel.out.size; simp; omega, fun b hb => (keepD b (by have := bel.out.size; omega)).trans (bel.out.block b hb)⟩
        have hnews : Hid (∀ j u, (fcell ((f, d, (Value.slice a' f.rg.length c')) : FX))[j]? = some u → ((wC.setCell ⟨wr.heap.size, 6, none⟩ (Value.slice a' f.rg.length c')).alloc (.cells #[.int .i64 f.kind, .int .i64 f.id, .int .i64 f.off, .bool f.fin, .int .i64 f.code, .string d, (Value.slice a' f.rg.length c')] 24)).cell? ((⟨wC.heap.size, 0, none⟩ : Addr).add j) = some u) := fun j u hj => by
          have := (Lies.new (wC.setCell ⟨wr.heap.size, 6, none⟩ (Value.slice a' f.rg.length c')) (fcell ((f, d, (Value.slice a' f.rg.length c')) : FX)) 24).r j u hj
          rw [zC1] at this
          rw [Addr.add_lit]
          exact this
        have h1c : ∀ u ∈ fcell ((f, d, (Value.slice a' f.rg.length c')) : FX), u.oneCell' = true := fun u hu => by
          simp [fcell] at hu
          rcases hu with rfl | rfl | rfl | rfl | rfl | rfl | rfl <;> rfl
        have fin : Hid (∀ lv' w5, w5.ownsRow w.heap.size 24 7 lv' (xs.length + 1) (fcells xs ++ fcell ((f, d, (Value.slice a' f.rg.length c')) : FX)) → ((wC.setCell ⟨wr.heap.size, 6, none⟩ (Value.slice a' f.rg.length c')).alloc (.cells #[.int .i64 f.kind, .int .i64 f.id, .int .i64 f.off, .bool f.fin, .int .i64 f.code, .string d, (Value.slice a' f.rg.length c')] 24)).grownBy w5 (Value.slice la xs.length lc).ownBlock → (lv'.ownBlock = (Value.slice la xs.length lc).ownBlock ∨ lv'.ownBlock = some ((wC.setCell ⟨wr.heap.size, 6, none⟩ (Value.slice a' f.rg.length c')).alloc (.cells #[.int .i64 f.kind, .int .i64 f.id, .int .i64 f.off, .bool f.fin, .int .i64 f.code, .string d, (Value.slice a' f.rg.length c')] 24)).heap.size) → Hid (FRow w5 w.heap.size lv' (xs ++ [((f, d, (Value.slice a' f.rg.length c')) : FX)]) (fun b => lv'.ownBlock = some b)) ∧ Hid (Below w.heap.size w w5)) := fun lv' w5 q1 q2 q3 => ⟨frow_more0 row4 fg4 q1 q2 q3, b4.grown q2 b4.size (fun k hk => (row4.1.lt k hk).1)⟩
        have o4 : Hid (((wC.setCell ⟨wr.heap.size, 6, none⟩ (Value.slice a' f.rg.length c')).alloc (.cells #[.int .i64 f.kind, .int .i64 f.id, .int .i64 f.off, .bool f.fin, .int .i64 f.code, .string d, (Value.slice a' f.rg.length c')] 24)).ownsRow w.heap.size 24 7 (Value.slice la xs.length lc) xs.length (fcells xs)) := row4.1
        have hxs2 : Hid ((xs ++ [((f, d, (Value.slice a' f.rg.length c')) : FX)]).map (·.1) = fs.take (k + 1)) := by
          unfold Hid
          rw [List.map_append, hxs.out, htk]
          rfl
        have hb5 := b4.size
        replace hrun : Hid _ := hrun
        clear d1 d2 bA zA bB zB hE oC gC al keepC LC LC1 zC1 setC keepD row4 fg4 b4 hxs htk m1
        have hTC : wr.heap.size < wC.heap.size := by omega
        have hxl : (xs.length + 1) * 80 ≤ 140737488355328 := by omega
        replace hxk : Hid _ := hxk
        go_wp2_with (first
          | refine obB2L _ rfl .append _ _ 22 22 rfl (.slice (some ⟨wr.heap.size + 1, 0, none⟩) 0 0) (.slice sl f.rg.length cp) rfl rfl hrun.out ?_
          | (at_builtin; refine wpList_append_own_at _ rfl _ _ 29 rfl w.heap.size 24 i0 (.agg #[.int .i64 0, .int .i64 0, .int .i64 0, .bool false, .int .i64 0, .string ⟨#[]⟩, .slice none 0 0]) 7 80 Tryd.underlying29 hi0 hz0 hz1 hz2 rfl (by decide) (Value.slice la xs.length lc) xs.length (fcells xs) rfl o4.out ⟨wC.heap.size, 0, none⟩ 1 1 (fcell ((f, d, (Value.slice a' f.rg.length c')) : FX)) rfl rfl hnews.out h1c (by unfold maxLen; omega) hxl hb5 ?_; intro lv' w5 q1 q2 q3 q4; obtain ⟨R2, R4⟩ := fin.out lv' w5 q1 q2 q4; clear q1 q2 q3 q4))
        go_roundg (fs.length - (k + 1))
        case measure => omega
        case rel => exact ⟨k + 1, xs ++ [((f, d, (Value.slice a' f.rg.length c')) : FX)], by omega, by go_num, by have := hxk.out; simp [this], hxs2, R2, R4⟩
      · have g1 : decide ((k : Int) < (fs.length : Int)) = false := decide_eq_false (by omega)
        obtain rfl : k = fs.length := by omega
        have e : Hid (xs.map (·.1) = fs) := by have := hxs.out; rwa [List.take_length] at this
        have fin : Hid (FRow wr w.heap.size (.slice la xs.length lc) xs (fun b => (Value.slice la xs.length lc).ownBlock = some b)) := row.out
        clear hxs row
        replace hxk : Hid _ := hxk
        go_wp2
        go_ret
        exact ⟨_, xs, rfl, e.out, fin.out, bel.out⟩
end Go.Proofs.YtmngpkkpkjnejaaDoor
