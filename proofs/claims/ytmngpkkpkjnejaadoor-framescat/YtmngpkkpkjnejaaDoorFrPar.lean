/-
  What the document's own Parse answers, and where its frames lie. Texts below 2^40 bytes; no other condition.
-/
import Derived.Test.YtmngpkkpkjnejaaDoorFrFrm
import Derived.Test.YtmngpkkpkjnejaaDoorFrParse
import Derived.Test.YtmngpkkpkjnejaaDoorFrRow
import Derived.Maps.AppendAt
namespace Go.Proofs.YtmngpkkpkjnejaaDoor
set_option maxRecDepth 100000
open Go.RowKit Go.Sort

/-- What has been read so far, and what is left. -/
def PSo (s s' : ByteArray) (m : List Fr) : Prop := parse (toL s) 0 = match parse (toL s') m.length with
  | .ok l => .ok (m ++ l)
  | .error e => .error e
theorem pso_skip {s s1 s2 : ByteArray} {m : List Fr} {f : Fr} (h : PSo s s1 m) (hm : m.length ≤ 64) (hf : rFrame (toL s1) = .ok (f, toL s2)) (h0 : f.kind = 0) : PSo s s2 m := by
  unfold PSo at h ⊢
  rw [h, parse_ok hf, show one f = 0 by unfold one; rw [if_pos h0], Nat.add_zero, if_neg (by omega)]
  cases parse (toL s2) m.length with
  | ok l => simp [keep, h0]
  | error e => rfl
theorem pso_more {s s1 s2 : ByteArray} {m : List Fr} {f : Fr} (h : PSo s s1 m) (hm : m.length < 64) (hf : rFrame (toL s1) = .ok (f, toL s2)) (h0 : f.kind ≠ 0) : PSo s s2 (m ++ [f]) := by
  unfold PSo at h ⊢
  rw [h, parse_ok hf, show one f = 1 by unfold one; rw [if_neg h0], if_neg (by omega), List.length_append]
  rw [show [f].length = 1 from rfl]
  cases parse (toL s2) (m.length + 1) with
  | ok l => simp [keep, h0]
  | error e => rfl
theorem pso_full {s s1 s2 : ByteArray} {m : List Fr} {f : Fr} (h : PSo s s1 m) (hm : m.length = 64) (hf : rFrame (toL s1) = .ok (f, toL s2)) (h0 : f.kind ≠ 0) : parse (toL s) 0 = .error 8 := by
  unfold PSo at h
  rw [h, parse_ok hf, show one f = 1 by unfold one; rw [if_neg h0], if_pos (by omega)]
theorem pso_err {s s1 : ByteArray} {m : List Fr} {e : Int} (h : PSo s s1 m) (hs : toL s1 ≠ []) (hf : rFrame (toL s1) = .error e) : parse (toL s) 0 = .error e := by
  unfold PSo at h
  rw [h, parse_err hs hf]
theorem pso_done {s s1 : ByteArray} {m : List Fr} (h : PSo s s1 m) (hs : toL s1 = []) : parse (toL s) 0 = .ok m := by
  unfold PSo at h
  rw [h, hs, parse_nil]
  simp
theorem own_len {w : World} {base size n : Nat} {t : TypeId} {v : Value} {xs : List Value} (h : w.ownsRow base t size v n xs) : ∃ a c, v = .slice a n c := by
  rcases h.2 with ⟨rfl, rfl⟩ | ⟨g, cap, cur, rfl, _⟩
  · exact ⟨_, _, rfl⟩
  · exact ⟨_, _, rfl⟩
theorem FRow.move {w w' : World} {base : Nat} {v : Value} {xs : List FX} {no no' : Nat → Prop} (h : FRow w base v xs no) (k : ∀ b, b < w.heap.size → ¬ no b → w'.heap[b]? = w.heap[b]?) (hn : ∀ b, b < w.heap.size → no' b → no b) (hv : ∀ b, v.ownBlock = some b → w'.heap[b]? = w.heap[b]?) : FRow w' base v xs no' :=
  ⟨rows_block h.1 hv, fun x hx => (h.2 x hx).move k hn⟩
def AfterP (w w' : World) (s : ByteArray) (e : Ending) : Prop :=
  Below w.heap.size w w' ∧ ((∃ xs v, parse (toL s) 0 = .ok (xs.map (·.1)) ∧ e = .returned (.tuple #[v, .int .i64 0]) ∧ FRow w' w.heap.size v xs (fun k => v.ownBlock = some k)) ∨
    (∃ x, parse (toL s) 0 = .error x ∧ x ≠ 0 ∧ e = .returned (.tuple #[.slice none 0 0, .int .i64 x])))
/-- One frame more behind a row. -/
theorem frow_more {w4 w5 : World} {base R : Nat} {lv lv' : Value} {xs : List FX} {x : FX} (h : FRow w4 base lv xs (fun k => k = R ∨ lv.ownBlock = some k)) (hx : FG w4 (fun k => k = R ∨ lv.ownBlock = some k) x) (ho : w5.ownsRow base 24 7 lv' (xs.length + 1) (fcells xs ++ fcell x)) (hg : w4.grownBy w5 lv.ownBlock) (hp : lv'.ownBlock = lv.ownBlock ∨ lv'.ownBlock = some w4.heap.size) :
    FRow w5 base lv' (xs ++ [x]) (fun k => k = R ∨ lv'.ownBlock = some k) := by
  have mv : ∀ y : FX, FG w4 (fun k => k = R ∨ lv.ownBlock = some k) y → FG w5 (fun k => k = R ∨ lv'.ownBlock = some k) y := fun y hy => hy.move (fun b hb hn => hg.block b hb fun e => hn (.inr e.symm)) fun b hb hn => by
    rcases hn with q | q
    · exact .inl q
    · rcases hp with e | e
      · exact .inr (e ▸ q)
      · rw [e] at q
        injection q with q
        omega
  refine ⟨by rw [List.length_append, fcells_snoc]; exact ho, fun y hy => ?_⟩
  rcases List.mem_append.1 hy with q | q
  · exact mv y (h.2 y q)
  · rw [List.mem_singleton.1 q]
    exact mv x hx
set_option maxHeartbeats 8000000 in
theorem rparse_ok (s : ByteArray) (w : World) (hs : s.size < 1099511627776) :
    Calls Tryd.prog 20 #[.string s] w fun e w' => AfterP w w' s e := by
  obtain ⟨i0, hi0, hz0, hz1, hz2⟩ := info_fr
  have b0 := (Below.refl w.heap.size w).alloc (Nat.le_refl _) (.cells #[.string s, .int .i64 0] 64)
  have r0 : Hid (RdIs (w.alloc (.cells #[.string s, .int .i64 0] 64)) w.heap.size s 0) := Lies.new w [.string s, .int .i64 0] 64
  have p0 : Hid (PSo s s []) := by
    unfold Hid PSo
    rw [List.length_nil]
    cases parse (toL s) 0 <;> rfl
  replace b0 : Hid _ := b0
  go_enter Tryd.func20, Tryd.ntmps20
  go_wp2
  go_loopg [5] s.size (fun g lv wr => ∃ (s1 : ByteArray) (xs : List FX), g = s1.size ∧ s1.size ≤ s.size ∧ xs.length ≤ 64 ∧ Hid (RdIs wr w.heap.size s1 0) ∧ Hid (FRow wr w.heap.size lv xs (fun k => k = w.heap.size ∨ lv.ownBlock = some k)) ∧ Hid (lv.ownBlock ≠ some w.heap.size) ∧ Hid (PSo s s1 (xs.map (·.1))) ∧ Hid (Below w.heap.size w wr))
  case atStart => exact ⟨s, [], rfl, Nat.le_refl _, by simp, r0, FRow.nil _ _ _, by simp [Hid, Value.ownBlock], p0, b0⟩
  case round =>
    obtain ⟨s1, xs, rfl, hle, h64, rd, row, own, pso, bel⟩ := hrel
    have hsz : Hid (s1.size = (toL s1).length) := (toL_len s1).symm
    obtain ⟨la, lc, rfl⟩ := own_len row.out.1
    have hR : w.heap.size < wr.heap.size := rd.out.lt (by show 0 < 2; decide)
    have d0 := rd.out.cell 0 (v := .string s1) rfl
    have d1 := rd.out.cell 1 (v := .int .i64 0) rfl
    cases e : toL s1 with
    | nil =>
      have hE : s1.toList.isEmpty = true := by
        rw [ByteArray.toList_eq]
        show (toL s1).isEmpty = true
        rw [e]
        rfl
      have fin : Hid (AfterP w wr s (.returned (.tuple #[.slice la xs.length lc, .int .i64 0]))) := ⟨bel.out, .inl ⟨xs, _, pso_done pso.out e, rfl, row.out.1, fun x hx => (row.out.2 x hx).move (fun _ _ _ => rfl) fun b _ q => .inr q⟩⟩
      clear hsz e
      go_wp2
      go_ret2
      exact fin.out
    | cons c r =>
      have hne : Hid (toL s1 ≠ []) := by rw [e]; exact List.cons_ne_nil _ _
      have hE : s1.toList.isEmpty = false := by
        rw [ByteArray.toList_eq]
        show (toL s1).isEmpty = false
        rw [e]
        rfl
      clear e
      go_wp2_with fail
      refine (rframe_ok w.heap.size s1 wr rd.out (by omega)).mono ?_
      rintro e2 w2 ⟨kp, ⟨f, s2, v, hf, rfl, ⟨d, a, cp, hv, hd, hr, hnew⟩, rd2⟩ | ⟨x, v, s2, hx, hf, rfl, ⟨k1, k2, k3, k4, k5, k6, k7, k8, k9, rfl⟩, rd2⟩⟩
      · unfold frV at hv
        subst hv
        have hlt2 := frame_less hf
        rw [toL_len, toL_len] at hlt2
        have hown : ∀ b, (Value.slice la xs.length lc).ownBlock = some b → b < wr.heap.size ∧ b ≠ w.heap.size := fun b hb => ⟨(row.out.1.lt b hb).2, fun q => own.out (q ▸ hb)⟩
        have row2 : FRow w2 w.heap.size (.slice la xs.length lc) xs (fun k => k = w.heap.size ∨ (Value.slice la xs.length lc).ownBlock = some k) := row.out.move (fun b hb hn => kp.block b hb fun q => hn (.inl q)) (fun _ _ q => q) fun b hb => kp.block b (hown b hb).1 (hown b hb).2
        have fg2 : FG w2 (fun k => k = w.heap.size ∨ (Value.slice la xs.length lc).ownBlock = some k) ((f, d, Value.slice a f.rg.length cp) : FX) := ⟨hd, a, cp, rfl, hr, fun _ p hp q => by
          have := hnew p hp
          rcases q with q | q
          · omega
          · have := (hown _ q).1
            omega⟩
        have b2 : Below w.heap.size w w2 := ⟨kp.os.trans bel.out.os, kp.tape.trans bel.out.tape, kp.output.trans bel.out.output, Nat.le_trans bel.out.size kp.size, fun k hk => (kp.block k (by omega) (by omega)).trans (bel.out.block k hk)⟩
        have al : ∀ (W : World) (o : Obj), ∀ b, b < W.heap.size → (W.alloc o).heap[b]? = W.heap[b]? := fun W o b hb => ((Below.refl W.heap.size W).alloc (Nat.le_refl _) o).block b hb
        have hR2 : w.heap.size < w2.heap.size := rd2.lt (by show 0 < 2; decide)
        have d2 := rd2.cell 1 (v := .int .i64 0) rfl
        have f2 := rd2.free 1 (by show 1 < 2; decide)
        have b3 : Below w.heap.size w (w2.alloc (.cells #[.int .i64 f.kind, .int .i64 f.id, .int .i64 f.off, .bool f.fin, .int .i64 f.code, .string d, .slice a f.rg.length cp] 24)) := b2.alloc b2.size _
        have rd3 : RdIs (w2.alloc (.cells #[.int .i64 f.kind, .int .i64 f.id, .int .i64 f.off, .bool f.fin, .int .i64 f.code, .string d, .slice a f.rg.length cp] 24)) w.heap.size s2 0 := rd2.of_block (al _ _ _ hR2)
        have row3 : FRow (w2.alloc (.cells #[.int .i64 f.kind, .int .i64 f.id, .int .i64 f.off, .bool f.fin, .int .i64 f.code, .string d, .slice a f.rg.length cp] 24)) w.heap.size (.slice la xs.length lc) xs (fun k => k = w.heap.size ∨ (Value.slice la xs.length lc).ownBlock = some k) := row2.move (fun b hb _ => al _ _ b hb) (fun _ _ q => q) fun b hb => al _ _ b (row2.1.lt b hb).2
        by_cases h0 : f.kind = 0
        · have g0 : (f.kind != 0) = false := by simp [h0]
          have ps3 := pso_skip pso.out (by simpa using h64) hf h0
          replace rd3 : Hid _ := rd3
          replace row3 : Hid _ := row3
          replace b3 : Hid _ := b3
          replace ps3 : Hid (PSo s s2 (xs.map (·.1))) := ps3
          clear rd row pso bel rd2 row2 fg2 b2 hf hd hr hnew kp hown al hsz hne h0
          go_wp2
          go_roundg s2.size
          case measure => omega
          case rel => exact ⟨s2, xs, rfl, by omega, h64, rd3, row3, own, ps3, b3⟩
        · have g0 : (f.kind != 0) = true := by simp [h0]
          by_cases h6 : xs.length = 64
          · have g6 : ((xs.length : Int) == 64) = true := by simp [h6]
            have pe := pso_full pso.out (by rw [List.length_map]; exact h6) hf h0
            have b5 : Below w.heap.size w (w2.setCell ⟨w.heap.size, 1, none⟩ (.int .i64 8)) := ⟨b2.os, b2.tape, b2.output, by simpa using b2.size, fun k hk => (Below.heap_setCell _ _ _ _ (by show k ≠ w.heap.size; omega)).trans (b2.block k hk)⟩
            have fin : Hid (AfterP w ((w2.setCell ⟨w.heap.size, 1, none⟩ (.int .i64 8)).alloc (.cells #[.int .i64 f.kind, .int .i64 f.id, .int .i64 f.off, .bool f.fin, .int .i64 f.code, .string d, .slice a f.rg.length cp] 24)).drew s (.returned (.tuple #[.slice none 0 0, .int .i64 8]))) := ⟨(b5.alloc b5.size _).trans (drewB _ _), .inr ⟨8, pe, by decide, rfl⟩⟩
            have d3 := (rd2.put 1 (by show 1 < 2; decide) (.int .i64 8)).cell 1 (v := .int .i64 8) rfl
            clear b5
            clear rd row pso bel rd2 row2 fg2 b2 hf hd hr hnew kp hown al hsz hne h0 rd3 row3 b3 pe
            go_wp2
            go_region
            go_wp2
            go_ret2
            exact fin.out
          · have g6 : ((xs.length : Int) == 64) = false := by simp; omega
            have ps3 : Hid (PSo s s2 ((xs ++ [((f, d, Value.slice a f.rg.length cp) : FX)]).map (·.1))) := by
              unfold Hid
              rw [List.map_append]
              exact pso_more pso.out (by rw [List.length_map]; omega) hf h0
            have b4 : Below w.heap.size w ((w2.alloc (.cells #[.int .i64 f.kind, .int .i64 f.id, .int .i64 f.off, .bool f.fin, .int .i64 f.code, .string d, .slice a f.rg.length cp] 24)).alloc (.cells #[.int .i64 f.kind, .int .i64 f.id, .int .i64 f.off, .bool f.fin, .int .i64 f.code, .string d, .slice a f.rg.length cp] 24)) := b3.alloc b3.size _
            have rd4 : RdIs ((w2.alloc (.cells #[.int .i64 f.kind, .int .i64 f.id, .int .i64 f.off, .bool f.fin, .int .i64 f.code, .string d, .slice a f.rg.length cp] 24)).alloc (.cells #[.int .i64 f.kind, .int .i64 f.id, .int .i64 f.off, .bool f.fin, .int .i64 f.code, .string d, .slice a f.rg.length cp] 24)) w.heap.size s2 0 := rd3.of_block (al _ _ _ (by simp; omega))
            have row4 : FRow ((w2.alloc (.cells #[.int .i64 f.kind, .int .i64 f.id, .int .i64 f.off, .bool f.fin, .int .i64 f.code, .string d, .slice a f.rg.length cp] 24)).alloc (.cells #[.int .i64 f.kind, .int .i64 f.id, .int .i64 f.off, .bool f.fin, .int .i64 f.code, .string d, .slice a f.rg.length cp] 24)) w.heap.size (.slice la xs.length lc) xs (fun k => k = w.heap.size ∨ (Value.slice la xs.length lc).ownBlock = some k) := row3.move (fun b hb _ => al _ _ b hb) (fun _ _ q => q) fun b hb => al _ _ b (row3.1.lt b hb).2
            have fg4 : FG ((w2.alloc (.cells #[.int .i64 f.kind, .int .i64 f.id, .int .i64 f.off, .bool f.fin, .int .i64 f.code, .string d, .slice a f.rg.length cp] 24)).alloc (.cells #[.int .i64 f.kind, .int .i64 f.id, .int .i64 f.off, .bool f.fin, .int .i64 f.code, .string d, .slice a f.rg.length cp] 24)) (fun k => k = w.heap.size ∨ (Value.slice la xs.length lc).ownBlock = some k) ((f, d, Value.slice a f.rg.length cp) : FX) := fg2.move (fun b hb _ => (al _ _ b (by simp; omega)).trans (al _ _ b hb)) (fun _ _ q => q)
            have hnews : Hid (∀ j u, (fcell ((f, d, Value.slice a f.rg.length cp) : FX))[j]? = some u → (((w2.alloc (.cells #[.int .i64 f.kind, .int .i64 f.id, .int .i64 f.off, .bool f.fin, .int .i64 f.code, .string d, .slice a f.rg.length cp] 24)).alloc (.cells #[.int .i64 f.kind, .int .i64 f.id, .int .i64 f.off, .bool f.fin, .int .i64 f.code, .string d, .slice a f.rg.length cp] 24))).cell? ((⟨w2.heap.size + 1, 0, none⟩ : Addr).add j) = some u) := fun j u hj => by
              have z3 : (w2.alloc (.cells #[.int .i64 f.kind, .int .i64 f.id, .int .i64 f.off, .bool f.fin, .int .i64 f.code, .string d, .slice a f.rg.length cp] 24)).heap.size = w2.heap.size + 1 := by simp
              have := (Lies.new (w2.alloc (.cells #[.int .i64 f.kind, .int .i64 f.id, .int .i64 f.off, .bool f.fin, .int .i64 f.code, .string d, .slice a f.rg.length cp] 24)) (fcell ((f, d, Value.slice a f.rg.length cp) : FX)) 24).r j u hj
              rw [z3] at this
              rw [Addr.add_lit]
              exact this
            have h1c : ∀ u ∈ fcell ((f, d, Value.slice a f.rg.length cp) : FX), u.oneCell' = true := fun u hu => by
              simp [fcell] at hu
              rcases hu with rfl | rfl | rfl | rfl | rfl | rfl | rfl <;> rfl
            have fin : Hid (∀ v' w5, w5.ownsRow w.heap.size 24 7 v' (xs.length + 1) (fcells xs ++ fcell ((f, d, Value.slice a f.rg.length cp) : FX)) → (((w2.alloc (.cells #[.int .i64 f.kind, .int .i64 f.id, .int .i64 f.off, .bool f.fin, .int .i64 f.code, .string d, .slice a f.rg.length cp] 24)).alloc (.cells #[.int .i64 f.kind, .int .i64 f.id, .int .i64 f.off, .bool f.fin, .int .i64 f.code, .string d, .slice a f.rg.length cp] 24))).grownBy w5 (Value.slice la xs.length lc).ownBlock → (v'.ownBlock = (Value.slice la xs.length lc).ownBlock ∨ v'.ownBlock = some (((w2.alloc (.cells #[.int .i64 f.kind, .int .i64 f.id, .int .i64 f.off, .bool f.fin, .int .i64 f.code, .string d, .slice a f.rg.length cp] 24)).alloc (.cells #[.int .i64 f.kind, .int .i64 f.id, .int .i64 f.off, .bool f.fin, .int .i64 f.code, .string d, .slice a f.rg.length cp] 24))).heap.size) → Hid (RdIs w5 w.heap.size s2 0) ∧ Hid (FRow w5 w.heap.size v' (xs ++ [((f, d, Value.slice a f.rg.length cp) : FX)]) (fun k => k = w.heap.size ∨ v'.ownBlock = some k)) ∧ Hid (v'.ownBlock ≠ some w.heap.size) ∧ Hid (Below w.heap.size w w5)) := fun v' w5 q1 q2 q3 => by
              have hz4 : w.heap.size < (((w2.alloc (.cells #[.int .i64 f.kind, .int .i64 f.id, .int .i64 f.off, .bool f.fin, .int .i64 f.code, .string d, .slice a f.rg.length cp] 24)).alloc (.cells #[.int .i64 f.kind, .int .i64 f.id, .int .i64 f.off, .bool f.fin, .int .i64 f.code, .string d, .slice a f.rg.length cp] 24))).heap.size := by simp; omega
              refine ⟨rd4.of_block (q2.block _ hz4 fun q => own.out q.symm), frow_more row4 fg4 q1 q2 q3, ?_, b4.grown q2 b4.size (fun k hk => (row4.1.lt k hk).1)⟩
              rcases q3 with q3 | q3
              · rw [Hid, q3]; exact own.out
              · rw [Hid, q3]; intro q; injection q with q; omega
            have o4 : Hid ((((w2.alloc (.cells #[.int .i64 f.kind, .int .i64 f.id, .int .i64 f.off, .bool f.fin, .int .i64 f.code, .string d, .slice a f.rg.length cp] 24)).alloc (.cells #[.int .i64 f.kind, .int .i64 f.id, .int .i64 f.off, .bool f.fin, .int .i64 f.code, .string d, .slice a f.rg.length cp] 24))).ownsRow w.heap.size 24 7 (.slice la xs.length lc) xs.length (fcells xs)) := row4.1
            clear rd row pso bel rd2 row2 fg2 b2 hf hd hr hnew kp hown al hsz hne h0 rd3 row3 b3 b4 rd4 row4 fg4
            go_wp2_with (at_builtin; refine wpList_append_own_at _ rfl _ _ 29 rfl w.heap.size 24 i0 (.agg #[.int .i64 0, .int .i64 0, .int .i64 0, .bool false, .int .i64 0, .string ⟨#[]⟩, .slice none 0 0]) 7 80 Tryd.underlying29 hi0 hz0 hz1 hz2 rfl (by decide) (.slice la xs.length lc) xs.length (fcells xs) rfl o4.out ⟨w2.heap.size + 1, 0, none⟩ 1 1 (fcell ((f, d, Value.slice a f.rg.length cp) : FX)) rfl rfl hnews.out h1c (by unfold maxLen; omega) (by omega) (by simp; omega) ?_; intro v' w5 q1 q2 q3 q4; obtain ⟨R1, R2, R3, R4⟩ := fin.out v' w5 q1 q2 q4; clear q1 q2 q3 q4)
            go_roundg s2.size
            case measure => omega
            case rel => exact ⟨s2, xs ++ [((f, d, Value.slice a f.rg.length cp) : FX)], rfl, by omega, by simp; omega, R1, R2, R3, ps3, R4⟩
      · have b2 : Below w.heap.size w w2 := ⟨kp.os.trans bel.out.os, kp.tape.trans bel.out.tape, kp.output.trans bel.out.output, Nat.le_trans bel.out.size kp.size, fun k hk => (kp.block k (by omega) (by omega)).trans (bel.out.block k hk)⟩
        have d2 := rd2.cell 1 (v := .int .i64 x) rfl
        have hR2 : w.heap.size < w2.heap.size := rd2.lt (by show 0 < 2; decide)
        have b3 := b2.alloc b2.size (.cells #[.int .i64 k1, .int .i64 k2, .int .i64 k3, .bool k4, .int .i64 k5, .string k6, .slice k7 k8 k9] 24)
        have fin : Hid (AfterP w (w2.alloc (.cells #[.int .i64 k1, .int .i64 k2, .int .i64 k3, .bool k4, .int .i64 k5, .string k6, .slice k7 k8 k9] 24)).drew s (.returned (.tuple #[.slice none 0 0, .int .i64 x]))) := ⟨b3.trans (drewB _ _), .inr ⟨x, pso_err pso.out hne.out hf, hx, rfl⟩⟩
        have gx : (x == 0) = false := by simp [hx]
        have gx' : (x != 0) = true := by simp [hx]
        replace hx : Hid _ := hx
        clear rd row pso bel rd2 b2 b3 hf kp hsz hne
        go_wp2
        go_region
        go_wp2
        go_ret2
        exact fin.out
end Go.Proofs.YtmngpkkpkjnejaaDoor
