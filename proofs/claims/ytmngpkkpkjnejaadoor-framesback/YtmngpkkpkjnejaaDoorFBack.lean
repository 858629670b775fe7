/-
  The law FramesBack returns true for every row of frames and every text: frames that are written are read as they were, but for padding; what is read, written again, has no more bytes, and is read as the same. No condition but the form's own reach.
-/
import Derived.Test.YtmngpkkpkjnejaaDoorFrO
import Derived.Test.YtmngpkkpkjnejaaDoorFrCopy
import Derived.Test.YtmngpkkpkjnejaaDoorFrTab
import Derived.Test.YtmngpkkpkjnejaaDoorFrOpen
import Derived.LaidLaws
namespace Go.Proofs.YtmngpkkpkjnejaaDoor.framesBack
set_option maxRecDepth 100000
open Go.ChangeShapes Go.WideShapes Go.ChangeAt Go.RowKit
open Go.ChangeMaps (open_string shut_string)

theorem wrAll_size {l : List Fr} (h : ∀ f ∈ l, Rt f) : (wrAll l).length ≤ 2000 * l.length := by
  induction l with
  | nil => simp [wrAll]
  | cons f l ih =>
    have e : wrAll (f :: l) = wrF f ++ wrAll l := rfl
    have h1 := wrF_le (h f (List.mem_cons_self ..))
    have h2 := ih fun g hg => h g (List.mem_cons_of_mem _ hg)
    rw [e, List.length_append, List.length_cons]
    omega
theorem kept_take (l : List Fr) (k : Nat) (h : k < l.length) : kept (l.take (k + 1)) = kept (l.take k) ++ (if (l.getD k fr0).kind = 0 then [] else [l.getD k fr0]) := by
  have e : l.getD k fr0 = l[k] := by simp [List.getD, List.getElem?_eq_getElem h]
  unfold kept
  rw [List.take_succ_eq_append_getElem h, List.filter_append, e]
  congr 1
  by_cases q : l[k].kind = 0
  · rw [if_pos q]; simp [q]
  · rw [if_neg q]; simp [q]
theorem rt_frb {f : Fr} (h : Rt f) : FrB f := by
  have hk := kind_iff.1 h.kind
  have i1 := h.id
  have i2 := h.off
  have i3 := h.code
  have hl := h.long
  refine ⟨by unfold In64; omega, by unfold In64; omega, by unfold In64; omega, by unfold In64; omega, ?_, ?_, by omega⟩
  · intro x hx
    by_cases q : f.kind = 2
    · have := (rg_in (h.rg q).2).2 x hx
      unfold In64
      omega
    · have e : f.rg = [] := by
        have hb := h.bare
        unfold bare at hb
        rw [if_neg q] at hb
        repeat' split at hb
        all_goals (rw [hb])
      rw [e] at hx
      cases hx
  · by_cases q : f.kind = 2
    · have := (rg_in (h.rg q).2).1
      omega
    · have e : f.rg = [] := by
        have hb := h.bare
        unfold bare at hb
        rw [if_neg q] at hb
        repeat' split at hb
        all_goals (rw [hb])
      rw [e]
      decide
set_option maxHeartbeats 8000000 in
theorem walk (fs : List Fr) (v : Value) (s : ByteArray) (w : World) (t : VTab w) (hv : FrsAt w v fs) (hl : fs.length * 80 ≤ 140737488351232) (hb : ∀ f ∈ fs, FrB f) :
    Calls Tryd.prog 6 #[v, .string s] w fun e w' => e = .returned (.bool true) ∧ Below w.heap.size w w' := by
  have WO : Hid (Calls Tryd.prog 21 #[] w fun e w' => e = .returned (.bool true) ∧ Below w.heap.size w w') := works_ok w t
  have WR : Hid (fs.length ≤ 64 → ∀ w', Below w.heap.size w w' → Calls Tryd.prog 16 #[v] w' fun e w'' => e = wrE fs ∧ Below w'.heap.size w' w'') := fun hn w' b => fwriteAll_ok (t.below b) (hv.keep b) (by omega) hb
  unfold wrE at WR
  have PA : Hid (∀ (s : ByteArray) w', Below w.heap.size w w' → s.size < 1099511627776 → Calls Tryd.prog 19 #[.string s] w' fun e w'' => ∃ v x, e = .returned (.tuple #[v, .int .i64 x]) ∧ Ans w'' s v x ∧ Below w'.heap.size w' w'') := fun s w' b hs => (fparse_ok s w' (t.below b) hs).mono fun e w'' h => AfterP.ans h
  replace t : Hid (VTab w) := t
  obtain ⟨a, cap, rfl, hc⟩ := hv
  by_cases hin : fs.length ≤ 64 ∧ s.size ≤ 5000
  · obtain ⟨hn, hs⟩ := hin
    have WR1 := WR.out hn
    clear WR
    have WR : Hid (∀ w', Below w.heap.size w w' → _) := WR1
    clear WR1
    have q1 : decide ((64 : Int) < (fs.length : Int)) = false := decide_eq_false (by omega)
    have q2 : decide ((5000 : Int) < (s.size : Int)) = false := decide_eq_false (by omega)
    by_cases h0 : bad1 fs = 0
    · rw [h0, if_pos rfl] at WR
      have hR := bad1_zero.1 h0
      have hsz := wrAll_size hR
      have hkk : (kept fs).length ≤ 64 := Nat.le_trans (List.length_filter_le _ _) hn
      have pw : Hid (parse (toL (strL (wrAll fs))) 0 = .ok (kept fs)) := by
        unfold Hid
        rw [toL_strL]
        exact parse_wrAll hR hkk
      have zY : (strL (wrAll fs)).size = (wrAll fs).length := strL_size _
      have SM : Hid ((kept fs).length ≤ 64 ∧ ∀ f ∈ kept fs, f.rg.length < 9223372036854775807) := ⟨hkk, fun f hf => (rt_small (hR f ((List.mem_filter.1 hf).1))).1⟩
      have SZ : Hid (∀ f ∈ fs, ∀ (d : ByteArray) sl cp w', toL d = f.data → RgAt w' (.slice sl f.rg.length cp) f.rg → Below w.heap.size w w' → Calls Tryd.prog 11 #[.agg #[.int .i64 f.kind, .int .i64 f.id, .int .i64 f.off, .bool f.fin, .int .i64 f.code, .string d, .slice sl f.rg.length cp]] w' fun e w'' => e = .returned (.int .i64 ((wrF f).length : Nat)) ∧ Below w'.heap.size w' w'') := fun f hf d sl cp w' e1 e2 b => by
        have := fsize_ok (t.out.below b) (v := frV f d (.slice sl f.rg.length cp)) (f := f) ⟨d, sl, cp, rfl, e1, e2⟩ (hb f hf)
        rw [show sizF f = (wrF f).length by unfold sizF; rw [if_pos (chkF_zero.2 (hR f hf))]] at this
        exact this
      obtain ⟨i0, hi0, hz0, hz1, hz2⟩ := info_fr
      replace hR : Hid _ := hR
      replace hc : Hid _ := hc
      clear hb hl hkk h0
      obtain ⟨Y, hY⟩ : ∃ Y, strL (wrAll fs) = Y := ⟨_, rfl⟩
      rw [hY] at WR pw zY
      clear hY
      go_enter Tryd.func6, Tryd.ntmps6
      go_wp2_with fail
      refine WO.out.mono ?_
      rintro _ w1 ⟨rfl, b1⟩
      have B1 : Hid (Below w.heap.size w w1) := b1
      have W1 := WR.out w1 b1
      replace W1 : Hid (Calls _ _ _ _ _) := W1
      clear b1 WO WR
      go_wp2_with fail
      refine W1.out.mono ?_
      rintro _ w2 ⟨rfl, b2⟩
      have B2 : Hid (Below w.heap.size w w2) := B1.out.trans (b2.mono B1.out.size)
      clear b2 W1 B1
      go_wp2_with fail
      refine (PA.out Y w2 B2.out (by omega)).mono ?_
      rintro _ w3 ⟨v3, x3, rfl, a3, b3⟩
      have B3 : Hid (Below w.heap.size w w3) := B2.out.trans (b3.mono B2.out.size)
      rcases a3 with ⟨l3, hp3, rfl, at3⟩ | ⟨hp3, hx3, rfl⟩
      · obtain rfl : l3 = kept fs := by rw [pw.out] at hp3; injection hp3 with hp3; exact hp3.symm
        have AT3 : Hid (FrsAt w3 v3 (kept fs)) := at3
        clear b3 at3 B2 hp3 pw
        go_wp2_with fail
        go_loopg [9, 10, 11] fs.length (fun g' lv nv iv wr => ∃ (k : Nat) (xs : List FX), k + g' = fs.length ∧ iv = .int .i64 k ∧ nv = .int .i64 ((wrAll (fs.take k)).length : Nat) ∧ xs.length ≤ k ∧ Hid (xs.map (·.1) = kept (fs.take k)) ∧ Hid (FRow wr w3.heap.size lv xs (fun b => lv.ownBlock = some b)) ∧ Hid (Below w3.heap.size w3 wr))
        case atStart => exact ⟨0, [], by omega, rfl, rfl, Nat.le_refl _, rfl, FRow.nil _ _ _, Below.refl _ _⟩
        case round =>
          obtain ⟨k, xs, hk, rfl, rfl, hxk, hxs, row, bel⟩ := hrel
          obtain ⟨la, lc, rfl⟩ := own_len row.out.1
          by_cases hlt : k < fs.length
          · have g1 : decide ((k : Int) < (fs.length : Int)) = true := decide_eq_true (by omega)
            rcases hc.out with hc' | ⟨g, o, rfl, hc'⟩
            · rw [hc'] at hlt; simp at hlt
            · have hw3 := B3.out.size
              have bw : Below w.heap.size w wr := B3.out.trans (bel.out.mono hw3)
              have F0 := hc' k hlt
              have hmem : fs.getD k fr0 ∈ fs := by simp [List.getD, List.getElem?_eq_getElem hlt]
              have hRf := hR.out _ hmem
              have ia := fun w' => at_frs g o fs.length cap k w' hlt (k : Int) rfl (o + 7 * k) rfl
              have wt := wrAll_take fs k hlt
              have hle := wrF_le hRf
              have kt := kept_take fs k hlt
              have S0 := SZ.out _ hmem
              have wl : (wrAll (fs.take k)).length ≤ 2000 * k := Nat.le_trans (wrAll_size fun f hf => hR.out f (List.mem_of_mem_take hf)) (by rw [List.length_take]; have : min k fs.length ≤ k := Nat.min_le_left _ _; omega)
              generalize fs.getD k fr0 = f at *
              obtain ⟨d, sl, cp, d1, d2, d3⟩ := F0
              have D3 : Hid (C7 wr g (o + 7 * k) f d (.slice sl f.rg.length cp)) := d3.keep bw
              have C1 : Hid (Calls Tryd.prog 11 #[.agg #[.int .i64 f.kind, .int .i64 f.id, .int .i64 f.off, .bool f.fin, .int .i64 f.code, .string d, .slice sl f.rg.length cp]] wr fun e w'' => e = .returned (.int .i64 ((wrF f).length : Nat)) ∧ Below wr.heap.size wr w'') := S0 d sl cp wr d1 (d2.keep bw) bw
              obtain ⟨x0, x1, x2, x3, x4, x5, x6⟩ := D3.out
              have wl2 : (wrAll (fs.take (k + 1))).length = (wrAll (fs.take k)).length + (wrF f).length := by rw [wt, List.length_append]
              replace hRf : Hid _ := hRf
              replace bw : Hid _ := bw
              replace d1 : Hid (toL d = f.data) := d1
              replace d2 : Hid (RgAt w (.slice sl f.rg.length cp) f.rg) := d2
              replace kt : Hid _ := kt
              clear S0 wt d3 hmem
              have hk64 : k ≤ 64 := by omega
              replace hk : Hid _ := hk
              replace wl2 : Hid _ := wl2
              generalize (wrAll (fs.take k)).length = N0 at *
              generalize (wrF f).length = NF at *
              go_wp2_with fail
              refine C1.out.mono ?_
              rintro _ w4 ⟨rfl, b4⟩
              have bel4 : Below w3.heap.size w3 w4 := bel.out.trans (b4.mono bel.out.size)
              have row2 : FRow w4 w3.heap.size (Value.slice la xs.length lc) xs (fun b => (Value.slice la xs.length lc).ownBlock = some b) := row.out.move (fun b hb _ => b4.block b hb) (fun _ _ q => q) fun b hb => b4.block b (row.out.1.lt b hb).2
              clear x0 x1 x2 x3 x4 x5 x6
              obtain ⟨x0, x1, x2, x3, x4, x5, x6⟩ := D3.out.keep b4
              by_cases h0 : f.kind = 0
              · have gk : (f.kind != 0) = false := by simp [h0]
                have hxs2 : Hid (xs.map (·.1) = kept (fs.take (k + 1))) := by unfold Hid; rw [kt.out, if_pos h0, List.append_nil]; exact hxs.out
                replace row2 : Hid (FRow w4 w3.heap.size (Value.slice la xs.length lc) xs (fun b => (Value.slice la xs.length lc).ownBlock = some b)) := row2
                replace bel4 : Hid _ := bel4
                replace hxk : Hid _ := hxk
                clear C1 D3 b4 row bel hxs h0
                go_wp2_with fail
                go_roundg (fs.length - (k + 1))
                case measure => have := hk.out; omega
                case rel => exact ⟨k + 1, xs, by have := hk.out; omega, by go_num, by rw [wl2.out]; go_num, by have := hxk.out; omega, hxs2, row2, bel4⟩
              · have gk : (f.kind != 0) = true := by simp [h0]
                have al : ∀ b, b < w4.heap.size → (w4.alloc (.cells #[.int .i64 f.kind, .int .i64 f.id, .int .i64 f.off, .bool f.fin, .int .i64 f.code, .string d, .slice sl f.rg.length cp] 24)).heap[b]? = w4.heap[b]? := fun b hb => ((Below.refl w4.heap.size w4).alloc (Nat.le_refl _) (.cells #[.int .i64 f.kind, .int .i64 f.id, .int .i64 f.off, .bool f.fin, .int .i64 f.code, .string d, .slice sl f.rg.length cp] 24)).block b hb
                have row4 : FRow (w4.alloc (.cells #[.int .i64 f.kind, .int .i64 f.id, .int .i64 f.off, .bool f.fin, .int .i64 f.code, .string d, .slice sl f.rg.length cp] 24)) w3.heap.size (Value.slice la xs.length lc) xs (fun b => (Value.slice la xs.length lc).ownBlock = some b) := row2.move (fun b hb _ => al b hb) (fun _ _ q => q) fun b hb => al b (row2.1.lt b hb).2
                have b5 : Below w3.heap.size w3 (w4.alloc (.cells #[.int .i64 f.kind, .int .i64 f.id, .int .i64 f.off, .bool f.fin, .int .i64 f.code, .string d, .slice sl f.rg.length cp] 24)) := bel4.alloc bel4.size _
                have bw4 : Below w.heap.size w (w4.alloc (.cells #[.int .i64 f.kind, .int .i64 f.id, .int .i64 f.off, .bool f.fin, .int .i64 f.code, .string d, .slice sl f.rg.length cp] 24)) := B3.out.trans (b5.mono hw3)
                have fg4 : FG (w4.alloc (.cells #[.int .i64 f.kind, .int .i64 f.id, .int .i64 f.off, .bool f.fin, .int .i64 f.code, .string d, .slice sl f.rg.length cp] 24)) (fun b => (Value.slice la xs.length lc).ownBlock = some b) ((f, d, Value.slice sl f.rg.length cp) : FX) := ⟨d1.out, sl, cp, rfl, d2.out.keep bw4, fun hl p hp q => by
                  obtain ⟨g9, o9, e9, hg9⟩ := d2.out.lt hl
                  rw [hp] at e9
                  injection e9 with e9
                  subst e9
                  have := (row4.1.lt _ q).1
                  simp only at this
                  omega⟩
                have hnews : Hid (∀ j u, (fcell ((f, d, Value.slice sl f.rg.length cp) : FX))[j]? = some u → (w4.alloc (.cells #[.int .i64 f.kind, .int .i64 f.id, .int .i64 f.off, .bool f.fin, .int .i64 f.code, .string d, .slice sl f.rg.length cp] 24)).cell? ((⟨w4.heap.size, 0, none⟩ : Addr).add j) = some u) := fun j u hj => by
                  have := (Lies.new w4 (fcell ((f, d, Value.slice sl f.rg.length cp) : FX)) 24).r j u hj
                  rw [Addr.add_lit]
                  exact this
                have h1c : ∀ u ∈ fcell ((f, d, Value.slice sl f.rg.length cp) : FX), u.oneCell' = true := fun u hu => by
                  simp [fcell] at hu
                  rcases hu with rfl | rfl | rfl | rfl | rfl | rfl | rfl <;> rfl
                have fin : Hid (∀ lv' w5, w5.ownsRow w3.heap.size 24 7 lv' (xs.length + 1) (fcells xs ++ fcell ((f, d, Value.slice sl f.rg.length cp) : FX)) → (w4.alloc (.cells #[.int .i64 f.kind, .int .i64 f.id, .int .i64 f.off, .bool f.fin, .int .i64 f.code, .string d, .slice sl f.rg.length cp] 24)).grownBy w5 (Value.slice la xs.length lc).ownBlock → (lv'.ownBlock = (Value.slice la xs.length lc).ownBlock ∨ lv'.ownBlock = some (w4.alloc (.cells #[.int .i64 f.kind, .int .i64 f.id, .int .i64 f.off, .bool f.fin, .int .i64 f.code, .string d, .slice sl f.rg.length cp] 24)).heap.size) → Hid (FRow w5 w3.heap.size lv' (xs ++ [((f, d, Value.slice sl f.rg.length cp) : FX)]) (fun b => lv'.ownBlock = some b)) ∧ Hid (Below w3.heap.size w3 w5)) := fun lv' w5 q1 q2 q3 => ⟨frow_more0 row4 fg4 q1 q2 q3, b5.grown q2 b5.size (fun k hk => (row4.1.lt k hk).1)⟩
                have o4 : Hid ((w4.alloc (.cells #[.int .i64 f.kind, .int .i64 f.id, .int .i64 f.off, .bool f.fin, .int .i64 f.code, .string d, .slice sl f.rg.length cp] 24)).ownsRow w3.heap.size 24 7 (Value.slice la xs.length lc) xs.length (fcells xs)) := row4.1
                have hxs2 : Hid ((xs ++ [((f, d, Value.slice sl f.rg.length cp) : FX)]).map (·.1) = kept (fs.take (k + 1))) := by
                  unfold Hid
                  rw [List.map_append, hxs.out, kt.out, if_neg h0]
                  rfl
                have hb5 := b5.size
                have hxl : (xs.length + 1) * 80 ≤ 140737488355328 := by omega
                replace hxk : Hid _ := hxk
                clear C1 D3 b4 row bel hxs h0 al row4 b5 bw4 fg4 row2 bel4 kt
                go_wp2_with (at_builtin; refine wpList_append_own_at _ rfl _ _ 29 rfl w3.heap.size 24 i0 (.agg #[.int .i64 0, .int .i64 0, .int .i64 0, .bool false, .int .i64 0, .string ⟨#[]⟩, .slice none 0 0]) 7 80 Tryd.underlying29 hi0 hz0 hz1 hz2 rfl (by decide) (Value.slice la xs.length lc) xs.length (fcells xs) rfl o4.out ⟨w4.heap.size, 0, none⟩ 1 1 (fcell ((f, d, Value.slice sl f.rg.length cp) : FX)) rfl rfl hnews.out h1c (by unfold maxLen; omega) hxl hb5 ?_; intro lv' w5 q1 q2 q3 q4; obtain ⟨R2, R4⟩ := fin.out lv' w5 q1 q2 q4; clear q1 q2 q3 q4)
                go_roundg (fs.length - (k + 1))
                case measure => have := hk.out; omega
                case rel => exact ⟨k + 1, xs ++ [((f, d, Value.slice sl f.rg.length cp) : FX)], by have := hk.out; omega, by go_num, by rw [wl2.out]; go_num, by have := hxk.out; simp; omega, hxs2, R2, R4⟩
          · have g1 : decide ((k : Int) < (fs.length : Int)) = false := decide_eq_false (by omega)
            obtain rfl : k = fs.length := by omega
            have e : xs.map (·.1) = kept fs := by have := hxs.out; rwa [List.take_length] at this
            have bw : Hid (Below w.heap.size w wr) := B3.out.trans (bel.out.mono B3.out.size)
            have SA : Hid (Calls Tryd.prog 18 #[v3, .slice la xs.length lc] wr fun e w'' => e = .returned (.bool true) ∧ Below wr.heap.size wr w'') := by
              have := rsameAll_ok (AT3.out.keep bel.out) (e ▸ row.out.at) (by have := SM.out.1; omega) (by have := SM.out.1; omega) SM.out.2 SM.out.2
              rw [eqFs_true rfl] at this
              exact this
            have zz : ((wrAll (fs.take fs.length)).length : Int) = (Y.size : Int) := by rw [List.take_length, zY]
            rw [zz]
            clear e row hxs AT3 SM bel zz
            replace hxk : Hid _ := hxk
            go_wp2_with fail
            refine SA.out.mono ?_
            rintro _ w6 ⟨rfl, b6⟩
            have B6 : Hid (Below w.heap.size w w6) := bw.out.trans (b6.mono bw.out.size)
            clear b6 SA bw
            go_wp2_with fail
            refine (PA.out s w6 B6.out (by omega)).mono ?_
            rintro _ T1 ⟨v1, x1, rfl, a1, b1⟩
            have C1 : Hid (Below w.heap.size w T1) := B6.out.trans (b1.mono B6.out.size)
            have A1 : Hid (Ans T1 s v1 x1) := a1
            clear b1 a1
            rcases A1.out with ⟨l, hp, rfl, at1⟩ | ⟨hp, hx1, rfl⟩
            · have sm := parse_small hp
              have bk := (parse_back _ (toL s) 0 l (Nat.le_refl _) (by omega) hp).2.2
              rw [toL_len] at bk
              have kl := kept_all sm.2
              have pw : Hid (parse (toL (strL (wrAll l))) 0 = .ok l) := by
                unfold Hid
                rw [toL_strL, parse_wrAll (fun f hf => (sm.2 f hf).1) (by rw [kl]; exact sm.1), kl]
              have W2 : Hid (Calls Tryd.prog 16 #[v1] T1 fun e w'' => e = .returned (.tuple #[.string (strL (wrAll l)), .int .i64 0]) ∧ Below T1.heap.size T1 w'') := by
                have := fwriteAll_ok (t.out.below C1.out) at1 (by have := sm.1; omega) (fun f hf => rt_frb (sm.2 f hf).1)
                unfold wrE at this
                rw [bad1_zero.2 fun f hf => (sm.2 f hf).1, if_pos rfl] at this
                exact this
              have zY : (strL (wrAll l)).size ≤ s.size := by rw [strL_size]; exact bk
              have AT1 : Hid (FrsAt T1 v1 l) := at1
              have SM : Hid (l.length ≤ 64 ∧ ∀ f ∈ l, f.rg.length < 9223372036854775807) := ⟨sm.1, fun f hf => (rt_small (sm.2 f hf).1).1⟩
              clear at1 sm bk kl hp A1
              generalize strL (wrAll l) = Y at *
              go_wp2_with fail
              refine W2.out.mono ?_
              rintro _ T2 ⟨rfl, b2⟩
              have C2 : Hid (Below w.heap.size w T2) := C1.out.trans (b2.mono C1.out.size)
              have AT2 : Hid (FrsAt T2 v1 l) := AT1.out.keep b2
              clear b2 W2 AT1
              go_wp2_with fail
              refine (PA.out Y T2 C2.out (by omega)).mono ?_
              rintro _ T3 ⟨v3, x3, rfl, a3, b3⟩
              have C3 : Hid (Below w.heap.size w T3) := C2.out.trans (b3.mono C2.out.size)
              have AT3 : Hid (FrsAt T3 v1 l) := AT2.out.keep b3
              rcases a3 with ⟨l3, hp3, rfl, at3⟩ | ⟨hp3, hx3, rfl⟩
              · obtain rfl : l3 = l := by rw [pw.out] at hp3; injection hp3 with hp3; exact hp3.symm
                have SA : Hid (Calls Tryd.prog 18 #[v1, v3] T3 fun e w'' => e = .returned (.bool true) ∧ Below T3.heap.size T3 w'') := by
                  have := rsameAll_ok AT3.out at3 (by have := SM.out.1; omega) (by have := SM.out.1; omega) SM.out.2 SM.out.2
                  rw [eqFs_true rfl] at this
                  exact this
                have gl : decide ((Y.size : Int) ≤ (s.size : Int)) = true := decide_eq_true (by omega)
                clear b3 at3 AT2 AT3 SM pw hp3 C2
                go_wp2_with fail
                refine SA.out.mono ?_
                rintro _ T4 ⟨rfl, b4⟩
                have C4 : Hid (Below w.heap.size w T4) := C3.out.trans (b4.mono C3.out.size)
                clear b4 SA
                go_wp2_with fail
                go_ret
                exact ⟨rfl, C4.out⟩
              · rw [pw.out] at hp3
                cases hp3
            · have gx : (x1 != 0) = true := by simp [hx1]
              clear hp A1
              replace hx1 : Hid _ := hx1
              go_wp2_with fail
              go_ret
              exact ⟨rfl, C1.out⟩
      · rw [pw.out] at hp3
        cases hp3
    · rw [if_neg h0] at WR
      have g0 : (bad1 fs == 0) = false := by simp [h0]
      replace h0 : Hid _ := h0
      generalize bad1 fs = y at *
      clear hc hb hl
      go_enter Tryd.func6, Tryd.ntmps6
      go_wp2_with fail
      refine WO.out.mono ?_
      rintro _ w1 ⟨rfl, b1⟩
      have B1 : Hid (Below w.heap.size w w1) := b1
      have W1 := WR.out w1 b1
      replace W1 : Hid (Calls _ _ _ _ _) := W1
      clear b1 WO WR
      go_wp2_with fail
      refine W1.out.mono ?_
      rintro _ w2 ⟨rfl, b2⟩
      have B2 : Hid (Below w.heap.size w w2) := B1.out.trans (b2.mono B1.out.size)
      clear b2 W1 B1
      go_wp2_with fail
      refine (PA.out s w2 B2.out (by omega)).mono ?_
      rintro _ T1 ⟨v1, x1, rfl, a1, b1⟩
      have C1 : Hid (Below w.heap.size w T1) := B2.out.trans (b1.mono B2.out.size)
      have A1 : Hid (Ans T1 s v1 x1) := a1
      clear b1 a1
      rcases A1.out with ⟨l, hp, rfl, at1⟩ | ⟨hp, hx1, rfl⟩
      · have sm := parse_small hp
        have bk := (parse_back _ (toL s) 0 l (Nat.le_refl _) (by omega) hp).2.2
        rw [toL_len] at bk
        have kl := kept_all sm.2
        have pw : Hid (parse (toL (strL (wrAll l))) 0 = .ok l) := by
          unfold Hid
          rw [toL_strL, parse_wrAll (fun f hf => (sm.2 f hf).1) (by rw [kl]; exact sm.1), kl]
        have W2 : Hid (Calls Tryd.prog 16 #[v1] T1 fun e w'' => e = .returned (.tuple #[.string (strL (wrAll l)), .int .i64 0]) ∧ Below T1.heap.size T1 w'') := by
          have := fwriteAll_ok (t.out.below C1.out) at1 (by have := sm.1; omega) (fun f hf => rt_frb (sm.2 f hf).1)
          unfold wrE at this
          rw [bad1_zero.2 fun f hf => (sm.2 f hf).1, if_pos rfl] at this
          exact this
        have zY : (strL (wrAll l)).size ≤ s.size := by rw [strL_size]; exact bk
        have AT1 : Hid (FrsAt T1 v1 l) := at1
        have SM : Hid (l.length ≤ 64 ∧ ∀ f ∈ l, f.rg.length < 9223372036854775807) := ⟨sm.1, fun f hf => (rt_small (sm.2 f hf).1).1⟩
        clear at1 sm bk kl hp A1
        generalize strL (wrAll l) = Y at *
        go_wp2_with fail
        refine W2.out.mono ?_
        rintro _ T2 ⟨rfl, b2⟩
        have C2 : Hid (Below w.heap.size w T2) := C1.out.trans (b2.mono C1.out.size)
        have AT2 : Hid (FrsAt T2 v1 l) := AT1.out.keep b2
        clear b2 W2 AT1
        go_wp2_with fail
        refine (PA.out Y T2 C2.out (by omega)).mono ?_
        rintro _ T3 ⟨v3, x3, rfl, a3, b3⟩
        have C3 : Hid (Below w.heap.size w T3) := C2.out.trans (b3.mono C2.out.size)
        have AT3 : Hid (FrsAt T3 v1 l) := AT2.out.keep b3
        rcases a3 with ⟨l3, hp3, rfl, at3⟩ | ⟨hp3, hx3, rfl⟩
        · obtain rfl : l3 = l := by rw [pw.out] at hp3; injection hp3 with hp3; exact hp3.symm
          have SA : Hid (Calls Tryd.prog 18 #[v1, v3] T3 fun e w'' => e = .returned (.bool true) ∧ Below T3.heap.size T3 w'') := by
            have := rsameAll_ok AT3.out at3 (by have := SM.out.1; omega) (by have := SM.out.1; omega) SM.out.2 SM.out.2
            rw [eqFs_true rfl] at this
            exact this
          have gl : decide ((Y.size : Int) ≤ (s.size : Int)) = true := decide_eq_true (by omega)
          clear b3 at3 AT2 AT3 SM pw hp3 C2
          go_wp2_with fail
          refine SA.out.mono ?_
          rintro _ T4 ⟨rfl, b4⟩
          have C4 : Hid (Below w.heap.size w T4) := C3.out.trans (b4.mono C3.out.size)
          clear b4 SA
          go_wp2_with fail
          go_ret
          exact ⟨rfl, C4.out⟩
        · rw [pw.out] at hp3
          cases hp3
      · have gx : (x1 != 0) = true := by simp [hx1]
        clear hp A1
        replace hx1 : Hid _ := hx1
        go_wp2_with fail
        go_ret
        exact ⟨rfl, C1.out⟩
  · have Q : decide ((64 : Int) < (fs.length : Int)) = true ∨ (decide ((64 : Int) < (fs.length : Int)) = false ∧ decide ((5000 : Int) < (s.size : Int)) = true) := by
      simp only [decide_eq_true_eq, decide_eq_false_iff_not]
      omega
    clear hc hb hl hin
    rcases Q with q | ⟨q, q2⟩
    all_goals (
      go_enter Tryd.func6, Tryd.ntmps6
      go_wp2_with fail
      refine WO.out.mono ?_
      rintro _ w1 ⟨rfl, b1⟩
      replace b1 : Hid _ := b1
      go_wp2_with fail
      go_ret
      exact ⟨rfl, b1.out⟩)

set_option maxRecDepth 100000 in
theorem contract (H : Type) (enc : TypeId × Value → H) (W : World) (base : Nat) (args : Array Value) (ds gs : List (DataW H)) (before : List MemPlace)
    (hval : ∀ (j : Nat) t v, Tryd.f6.params[j]? = some t → args[j]? = some v → Value.okWide Tryd.prog W .any base t v)
    (hW : DataW.Whole enc Tryd.prog Tryd.f6.params.toList Rows.framesBackSpec.vars false W args.toList ds gs before) (hT : VTab W)
    (hsz : (DataW.weightsEach Tryd.prog (Tryd.f6.params.toList ++ (OpenSpec.ofChange Rows.framesBackSpec).bare.plain.varTypes Tryd.prog) (ds ++ gs)).all (· ≤ reachBytes) = true) :
    Calls Tryd.prog 6 args W fun e W' => ∃ v, e = .returned v ∧ Rows.framesBackSpec.post enc Tryd.prog Tryd.f6 false true false false W args v W' := by
  have hW' := hW
  obtain ⟨p, q, hA0, hV, rfl, hfz, hnd⟩ := hW
  have hA : DataW.TrodAll enc Tryd.prog W 0 (fun _ => true) true Tryd.f6.params.toList args.toList ds p := hA0
  rw [Tryd.params6] at hA hval hsz
  obtain ⟨v0, vs0, d0, ds0, p0, q0, hargs, rfl, rfl, h0, r0⟩ := trodAll_cons hA
  obtain ⟨v1, vs1, d1, ds1, p1, q1, rfl, rfl, rfl, h1, r1⟩ := trodAll_cons r0
  obtain ⟨rfl, rfl, rfl⟩ := trodAll_nil r1
  obtain rfl : args = #[v0, v1] := by cases args; simp_all
  obtain ⟨rfl, rfl⟩ := trodVars_none hV
  have k0 := h0
  have lt0 : ∀ x ∈ p0, x.block < W.heap.size := by obtain ⟨m, hm⟩ := k0; exact DataW.trod_lt m _ _ _ hm
  obtain ⟨f0, fi0, fb0⟩ := open_frms (hval 0 29 v0 rfl rfl) h0 (fun n hn => by simpa using List.all_eq_true.1 hsz _ (DataW.weights_mem_each (j := 0) (t := 29) rfl rfl n hn))
  obtain ⟨a1, rfl, rfl, rfl, w1⟩ := open_string Tryd.underlying9 (hval 1 9 v1 rfl rfl) h1
  have z1 : a1.size ≤ 140737488351232 := by
    have hz := sized_string hsz (j := 1) (t := 9) (bytes := a1.data.toList) rfl rfl
    simpa [reachBytes] using hz
  clear hA0
  simp only [List.append_nil] at hW'
  refine (walk f0 v0 a1 W hT fi0 fb0.1 fb0.2).mono fun e W' ⟨he, bel⟩ => ?_
  subst he
  exact ⟨_, rfl, _, _, _, [], _, [], hW', trodAll_mk1 (shut_bool Tryd.underlying4 _), (trodAll_cons_mk (Below.trod laidOut (by kernel_rfl) (of_decide_eq_true (by kernel_rfl)) k0 bel lt0) (trodAll_cons_mk (shut_string Tryd.underlying9 w1) trodAll_mk0)), rfl, bel.frame _, fun h => by cases h⟩

set_option maxRecDepth 100000 in
theorem lifted (os : Os) (started : os.Started) (H : Type) (enc : TypeId × Value → H) :
    ReturnsInHanded {} Tryd.checked os 6 .any (fun w args => (Rows.framesBackSpec.pre enc Tryd.prog Tryd.f6 Rows.framesBackRow.domain false w args ∧ laidMetH Tryd.prog Rows.framesBackRow.laid w) ∧ sizedMet enc Tryd.prog Tryd.f6 (OpenSpec.ofChange Rows.framesBackSpec) false w args)
      (Rows.framesBackSpec.post enc Tryd.prog Tryd.f6 false true false false) := by
  refine returnsInHanded_of_change_and (C := Tryd.checked) (X := fun w _ => laidMetH Tryd.prog Rows.framesBackRow.laid w) (fun _ _ _ hh h => h.of_heap hh) own started (by kernel_rfl) Tryd.func6
    (ChangeSpec.witness_shaped (enc := enc) (C := Tryd.checked) (os := os) (X := fun w _ => laidMetH Tryd.prog Rows.framesBackRow.laid w) false (World.laidAll Tryd.prog os Rows.framesBackRow.laid) #[.slice none 0 0, .string ByteArray.empty] 8 (World.laidAll_os _ _ _)
      (World.shaped_of_ZipB (by kernel_rfl) (by kernel_rfl)) (by kernel_rfl) (by kernel_rfl) (by kernel_rfl)
      (by rw [MakeChecks.laidMetH_plain _ _ _ (by kernel_rfl)]; exact laidMet_laidAll _ (by kernel_rfl) (by kernel_rfl))) ?_
  intro W base args ds gs before hval hW _ hsz hL _
  have hL' : laidMet Tryd.prog Rows.framesBackRow.laid W := by
    rw [MakeChecks.laidMetH_plain _ _ _ (by kernel_rfl)] at hL
    exact hL
  exact contract H enc W base args ds gs before hval hW (vtabOf rfl hL') hsz

theorem said : Rows.FramesBackSaid :=
  OpenClaim.holds_of_wide 6 Tryd.f6 rfl rfl rfl rfl rfl rfl rfl ⟨rfl, rfl, rfl, rfl, rfl⟩ rfl rfl rfl rfl rfl (by kernel_rfl) Tryd.func6 (by kernel_rfl)
    (of_decide_eq_true (by kernel_rfl)) (by unfold Func.isWrapper; first | (rw [if_pos (by decide +kernel)]; kernel_rfl) | (rw [if_neg (by decide +kernel)]; exact ⟨rfl, rfl⟩))
    (fun os started H enc _ => lifted os started H enc)

theorem plain (f : FuncId) (fn : Func) (hf : Tryd.pinned.checked.prog.funcNamed Rows.framesBackRow.func = some f) (hfn : Tryd.pinned.checked.prog.funcs[f]? = some fn) :
    (Tryd.pinned.checked.prog.looks [] = Tryd.pinned.checked.prog.looks []) ∧ ∀ (j : Nat) t, fn.params[j]? = some t → Tryd.pinned.checked.prog.wantsStandIn t = false := by
  obtain rfl : f = 6 := Option.some.inj ((show Tryd.prog.funcNamed Rows.framesBackRow.func = some 6 by kernel_rfl).symm.trans hf) |>.symm
  obtain rfl : fn = Tryd.f6 := (Option.some.inj (Tryd.func6.symm.trans hfn)).symm
  refine ⟨rfl, fun j t ht => ?_⟩
  rw [Tryd.params6] at ht
  have hm : t ∈ [29, 9] := by simpa using Array.mem_of_getElem? ht
  have hall : ([29, 9].all fun u => !Tryd.prog.wantsStandIn u) = true := by kernel_rfl
  exact (show Tryd.prog.wantsStandIn t = false by simpa using List.all_eq_true.1 hall t hm)
theorem card : Rows.FramesBackCardSaid :=
  Claim7.holds_tied_plain_at .later [] _ _ _ _ said (fun _ h => by cases h) (by kernel_rfl) (fun _ h => by cases h) framesBack_row_tie rfl ⟨rfl, rfl⟩ (by kernel_rfl) rfl (fun f fn hf hfn => ⟨by kernel_rfl, (plain f fn hf hfn).2⟩) (by kernel_rfl)
end Go.Proofs.YtmngpkkpkjnejaaDoor.framesBack
namespace Go.Proofs.YtmngpkkpkjnejaaDoor
theorem framesBack_card : Rows.FramesBackCardSaid := framesBack.card
end Go.Proofs.YtmngpkkpkjnejaaDoor
