/-
  What the program's Read answers of bytes; all that the laws ask of the program's calls. Texts of at most 100000 bytes; no condition but the tables, that lie as the row's list gives them.
-/
import Derived.Test.YtphmoieaddjanaaDoorFiPgR
import Derived.Test.YtphmoieaddjanaaDoorTie
import Derived.Test.YtphmoieaddjanaaDoorCards
import Derived.OpenShut
import Derived.ShutString
import Derived.LaidMore
import Derived.Lay
import Derived.Lib.LaidTab
import Derived.Stop.LaidErr
import Derived.WalkKit
namespace Go.Proofs.YtphmoieaddjanaaDoor
set_option maxRecDepth 100000
open Go.RowKit Go.Sort

set_option maxHeartbeats 16000000 in
theorem pread14_ok (s : ByteArray) (w : World) (t : T14 w) (hs : s.size ≤ 100000) : Calls Tryd.prog 15 #[.string s] w fun e w' => RdA s w' e ∧ Below w.heap.size w w' := by
  have R0 := Lib.hid (RdS.start (toL s))
  have FZ : Hid (∀ (s' : ByteArray) w', Below w.heap.size w w' → s'.size ≤ s.size → 0 < s'.size → _) := fun s' w' b (h1 : s'.size ≤ s.size) (h2 : 0 < s'.size) => takeL_ok s' w' (t.keep b) (by omega) h2
  have RT : Hid (∀ f w, _) := fun f w => cfield_ok f w
  clear t
  go_enter Tryd.func15, Tryd.ntmps15
  go_wp2_with fail
  go_loopg [0, 4] s.size (fun g' sv lv wr => ∃ (s' : ByteArray) (d : List Fd) (k : Nat), Hid (g' = s'.size ∧ s'.size ≤ s.size) ∧ sv = .string s' ∧ Hid (RdS (toL s) k d (toL s')) ∧ Hid (OwnF wr w.heap.size lv d) ∧ Hid (Below w.heap.size w wr))
  case atStart => exact ⟨s, [], _, ⟨rfl, Nat.le_refl _⟩, rfl, R0, OwnF.nil _ _, Below.refl _ _⟩
  case round =>
    clear R0
    obtain ⟨s', d, k, hg, rfl, RS, OW, bl⟩ := hrel
    obtain ⟨hg1, hg2⟩ := hg.out
    obtain ⟨a, c, rfl⟩ := OW.out.form
    have hd16 := RS.out.2.1
    have hl := toL_len s'
    rcases Nat.eq_zero_or_pos s'.size with h0 | h0
    · have z0 : s'.toList.isEmpty = true := by rw [emp_toL, List.isEmpty_iff_length_eq_zero]; omega
      have et : toL s' = [] := List.eq_nil_of_length_eq_zero (by omega)
      rw [et] at RS
      have ANS : Hid (RdA s wr (.returned (.tuple #[.slice a d.length c, .int .i64 0]))) := RdA.yes RS.out.stop OW.out.fds
      clear RS OW hg hg1 hl et FZ RT
      go_wp2_with fail
      go_ret2
      exact ⟨ANS.out, bl.out⟩
    · have z0 : s'.toList.isEmpty = false := by
        rw [emp_toL]
        cases e : toL s' with
        | nil => rw [e] at hl; simp at hl; omega
        | cons => rfl
      have hne : toL s' ≠ [] := fun c => by rw [c] at hl; simp at hl; omega
      have FF := Lib.hid (FZ.out s' wr bl.out hg2 h0)
      replace hne := Lib.hid hne
      go_wp2_with fail
      refine FF.out.mono ?_
      rintro e w1 ⟨hR, b1⟩
      have OW1 := Lib.hid (OW.out.keep b1)
      have B1 := Lib.hid (bl.out.trans (b1.mono bl.out.size))
      clear FF b1 OW bl
      rcases hR with ⟨f, rest, e1, rfl⟩ | ⟨x, e1, hx, rfl⟩
      · obtain ⟨f1, f2⟩ := f
        unfold fbV
        simp only
        have hlen : rest.length < (toL s').length := by
          have q := line_short e1
          have p : 1 ≤ (lineL (f1, f2)).length := List.length_pos_iff.2 (line_pos _)
          omega
        obtain ⟨w2, hw2⟩ : ∃ w2, w2 = w1.alloc (.cells #[.string (strL f1), .string (strL f2)] 34) := ⟨_, rfl⟩
        have b2 : Below w1.heap.size w1 w2 := by rw [hw2]; exact (Below.refl _ _).alloc (Nat.le_refl _) _
        have l2 : Lies w2 w1.heap.size [.string (strL f1), .string (strL f2)] := by rw [hw2]; exact Lies.new w1 _ _
        by_cases q16 : d.length = 16
        · have z16 : ((d.length : Int) == 16) = true := by rw [beq_iff_eq]; omega
          have ANS : Hid (∀ w', RdA s w' (.returned (.tuple #[.slice none 0 0, .int .i64 8]))) := fun w' => RdA.no (RS.out.full hne.out e1 q16)
          have B2 := Lib.hid (B1.out.trans (b2.mono B1.out.size))
          clear RS OW1 FZ RT e1 l2 hg hg1 hl q16 b2
          go_wp2_with fail
          rw [← hw2]
          go_ret2
          exact ⟨ANS.out _, B2.out⟩
        · have z16 : ((d.length : Int) == 16) = false := by rw [beq_eq_false_iff_ne]; omega
          have R1 := Lib.hid (RT.out (f1, f2) w2)
          unfold fbV at R1
          simp only at R1
          have B2 := Lib.hid (B1.out.trans (b2.mono B1.out.size))
          have OW2 := Lib.hid (OW1.out.keep b2)
          have c0 := l2.cell 0 (v := .string (strL f1)) rfl
          have c1 := l2.cell 1 (v := .string (strL f2)) rfl
          replace l2 := Lib.hid l2
          by_cases qf : rtE (f1, f2) = 0
          · have RS2 := Lib.hid (RS.out.step hne.out e1 hlen q16 qf)
            rw [qf] at R1
            obtain ⟨K, hK⟩ : ∃ K, K = w1.heap.size := ⟨_, rfl⟩
            rw [← hK] at c0 c1 l2
            have hms : Hid ((strL rest).size < gk) := by unfold Hid; rw [strL_size]; omega
            have hg3 : Hid ((strL rest).size ≤ s.size) := by unfold Hid; rw [strL_size]; omega
            rw [← toL_strL rest] at RS2
            replace qf := Lib.hid qf
            replace q16 := Lib.hid q16
            replace e1 := Lib.hid e1
            clear RS OW1 hg hg1 hl hlen b2 FZ RT hne
            go_wp2_with fail
            rw [← hw2, ← hK]
            clear hw2
            replace hK := Lib.hid hK
            refine R1.out.mono ?_
            rintro e w3 ⟨rfl, b3⟩
            have L3 := l2.out.keep (by simp) b3
            have OW3 := OW2.out.keep b3
            have B3 := B2.out.trans (b3.mono B2.out.size)
            have d0 := L3.cell 0 (v := .string (strL f1)) rfl
            have d1 := L3.cell 1 (v := .string (strL f2)) rfl
            have b4 : Below w3.heap.size w3 (w3.alloc (.cells #[.string (strL f1), .string (strL f2)] 34)) := (Below.refl _ _).alloc (Nat.le_refl _) _
            have l4 : Lies (w3.alloc (.cells #[.string (strL f1), .string (strL f2)] 34)) w3.heap.size [.string (strL f1), .string (strL f2)] := Lies.new w3 _ _
            obtain ⟨v5, w5, hap, ow5, gr5⟩ := (OW3.keep b4).app (Nat.le_trans B3.size b4.size) w3.heap.size (f1, f2) (l4.cell 0 (v := .string (strL f1)) rfl) (l4.cell 1 (v := .string (strL f2)) rfl) (by omega) 22
            have B5 : Hid (Below w.heap.size w w5) := (B3.trans (b4.mono B3.size)).grown gr5 (Nat.le_trans B3.size b4.size) (fun k hk => (OW3.lt k hk).1)
            replace hap := Lib.hid hap
            have OW5 := Lib.hid ow5
            clear R1 l2 L3 OW2 OW3 B2 B3 b3 b4 l4 ow5 gr5 c0 c1 B1
            go_wp2_with (refine obB2L _ rfl .append _ _ 22 22 rfl (.slice a d.length c) (.slice (some ⟨w3.heap.size, 0, none⟩) 1 1) rfl rfl hap.out ?_)
            go_roundg (strL rest).size
            case measure => exact hms.out
            case rel => exact ⟨strL rest, d ++ [(f1, f2)], k - 1, ⟨rfl, hg3.out⟩, rfl, RS2, OW5, B5⟩
          · have z1 : (rtE (f1, f2) != 0) = true := bne_iff_ne.2 qf
            have ANS : Hid (∀ w', RdA s w' (.returned (.tuple #[.slice none 0 0, .int .i64 (rtE (f1, f2))]))) := fun w' => RdA.no (RS.out.bad hne.out e1 q16 qf)
            generalize rtE (f1, f2) = x at *
            obtain ⟨K, hK⟩ : ∃ K, K = w1.heap.size := ⟨_, rfl⟩
            rw [← hK] at c0 c1
            replace q16 := Lib.hid q16
            clear RS OW1 OW2 hg hg1 hl hlen b2 FZ RT hne e1 l2 qf
            go_wp2_with fail
            rw [← hw2, ← hK]
            clear hw2
            replace hK := Lib.hid hK
            refine R1.out.mono ?_
            rintro e w3 ⟨rfl, b3⟩
            have B3 := Lib.hid (B2.out.trans (b3.mono B2.out.size))
            clear R1 b3 B2 c0 c1
            go_wp2_with fail
            go_ret2
            exact ⟨ANS.out _, B3.out⟩
      · have z1 : (x != 0) = true := bne_iff_ne.2 hx
        have z2 : (x == 0) = false := beq_eq_false_iff_ne.2 hx
        have ANS : Hid (∀ w', RdA s w' (.returned (.tuple #[.slice none 0 0, .int .i64 x]))) := fun w' => RdA.no (RS.out.err hne.out e1)
        unfold fbV
        simp only
        rw [emp0]
        have B2 : Hid (Below w.heap.size w (w1.alloc (.cells #[.string ⟨#[]⟩, .string ⟨#[]⟩] 34))) := B1.out.alloc B1.out.size _
        replace hx := Lib.hid hx
        clear RS OW1 FZ RT e1 hg hg1 hl B1
        go_wp2_with fail
        go_ret2
        exact ⟨ANS.out _, B2.out⟩
/-- All that the laws ask of the program's calls. -/
theorem face : FiFace T14 where
  keep := fun t b => t.keep b
  check := fun w v l _ h hl => pcheck14_ok l v w h hl
  write := fun w v l t h hl => pwrite14_ok l v w t h hl
  read := fun w s t hs => pread14_ok s w t hs
  get := fun w v l n _ h hl => pget14_ok l n v w h hl
  entry := fun w i t hi => entry_ok w i t hi

/-! ### The tables as the row's list gives them -/
theorem gSiz : Tryd.prog.globalNamed "vizard/varint.sizes" = some 1 := by kernel_rfl
theorem tSiz : (Tryd.prog.globals[1]?).map (·.type) = some 72 := by kernel_rfl
theorem cellsSiz : Tryd.prog.cellsOf 72 = 4 := by kernel_rfl
theorem cellsInt : Tryd.prog.cellsOf 3 = 1 := by kernel_rfl
theorem gFdt : Tryd.prog.globalNamed "vizard/fields.table" = some 0 := by kernel_rfl
theorem tFdt : (Tryd.prog.globals[0]?).map (·.type) = some 53 := by kernel_rfl
theorem cellsFd : Tryd.prog.cellsOf 34 = 2 := by kernel_rfl
theorem cellsStr : Tryd.prog.cellsOf 9 = 1 := by kernel_rfl
def fdData {H : Type} (f : Fd) : DataW H := .agg [.lit (.string f.1), .lit (.string f.2)]
theorem laidFdt : (Rows.laid_vizard_fields_table : DataW Unit) = .agg (tab.map fdData) := by kernel_rfl
theorem fd_cells {H : Type} {enc : TypeId × Value → H} {W : World} {base fuel : Nat} {sp : Nat → Bool} {held : Bool} {cs : List Value} {f : Fd} {p : List MemPlace} (h : DataW.trod enc Tryd.prog W base sp held fuel 34 cs = some (fdData f, p)) : cs = [.string (strL f.1), .string (strL f.2)] := by
  obtain ⟨y0, y1, n, hx, hl, h0, h1⟩ := Go.ChangeShapes.trod_struct2 Tryd.underlying34 h
  rw [cellsFd] at hl
  match cs, hl with
  | [v0, v1], _ =>
    simp [cellsStr] at h0 h1
    obtain ⟨s0, e0, x0, _⟩ := DataW.trod_string Tryd.underlying9 h0
    obtain ⟨s1, e1, x1, _⟩ := DataW.trod_string Tryd.underlying9 h1
    unfold fdData at hx
    rw [x0, x1] at hx
    injection hx with hx _
    injection hx with hx
    injection hx with a0 hx
    injection hx with a1 _
    injection a0 with a0
    injection a0 with a0
    injection a1 with a1
    injection a1 with a1
    injection e0 with e0 _
    injection e1 with e1 _
    rw [e0, e1, a0, a1]
    rfl
theorem tabOf14 {H : List (String × DataW Unit)} {W : World} (e : H = [("vizard/varint.sizes", Rows.laid_vizard_varint_sizes), ("vizard/fields.table", Rows.laid_vizard_fields_table)]) (h : laidMet Tryd.prog H W) : T14 W := by
  subst e
  have h1 : Lib.TabIs Tryd.prog W "vizard/varint.sizes" .i64 [1, 2, 4, 8] := Lib.tabIs_of_head (zs := [1, 2, 4, 8]) gSiz tSiz Tryd.underlying72 Tryd.underlying3 cellsInt cellsSiz h
  have c0 : W.cell? ⟨1, 0, none⟩ = some (.int .i64 1) := h1.cell gSiz 0 (by decide)
  have c1 : W.cell? ⟨1, 1, none⟩ = some (.int .i64 2) := h1.cell gSiz 1 (by decide)
  have c2 : W.cell? ⟨1, 2, none⟩ = some (.int .i64 4) := h1.cell gSiz 2 (by decide)
  have c3 : W.cell? ⟨1, 3, none⟩ = some (.int .i64 8) := h1.cell gSiz 3 (by decide)
  refine ⟨⟨World.block_lt_of_cell? W _ c0, c0, c1, c2, c3⟩, ?_⟩
  obtain ⟨ps, ⟨g', t', cs', fuel', p', q', hg', ht', hvar', hd', hq, _⟩, _⟩ := h
  obtain ⟨g, t, cs, fuel, p, q, hg, ht, hvar, hd, _, _⟩ := hq
  obtain rfl := Option.some.inj (gFdt.symm.trans hg)
  obtain rfl := Option.some.inj (tFdt.symm.trans ht)
  rw [laidFdt] at hd
  obtain ⟨xs, m, _, hx, hcl, hxl, hf⟩ := DataW.trod_array Tryd.underlying53 hd
  injection hx with hx _
  injection hx with hx
  rw [cellsFd] at hf
  have key : ∀ i, i < 20 → (cs.toList.drop (i * 2)).take 2 = [.string (strL (tab.getD i nF).1), .string (strL (tab.getD i nF).2)] := fun i hi => by
    have hfi := hf i hi
    have hxi : (xs.map (·.1))[i]? = some (fdData (tab.getD i nF)) := by
      rw [← hx, List.getElem?_map]
      have ht : i < tab.length := hi
      rw [List.getElem?_eq_getElem ht]
      simp [List.getD, List.getElem?_eq_getElem ht]
    rw [List.getElem?_map] at hxi
    obtain ⟨y, hy, hy2⟩ := Option.map_eq_some_iff.1 hxi
    obtain ⟨y1, y2⟩ := y
    simp only at hy2
    subst hy2
    exact fd_cells (hfi.trans hy)
  intro j v hv
  rw [Nat.zero_add]
  have hj : j < 40 := by
    have := (List.getElem?_eq_some_iff.1 hv).1
    rw [fCells_len] at this
    exact this
  have cell : ∀ u, cs.toList[j]? = some u → W.cell? ⟨0, j, none⟩ = some u := fun u hu => by
    have := World.var?_cell gFdt hvar j
    rw [this]
    simpa using hu
  refine cell v ?_
  obtain ⟨i, o, hi, ho, rfl⟩ : ∃ i o, i < 20 ∧ o < 2 ∧ j = i * 2 + o := ⟨j / 2, j % 2, by omega, by omega, by omega⟩
  have hk := key i hi
  have hg := congrArg (fun l => l[o]?) hk
  rw [List.getElem?_take_of_lt ho, List.getElem?_drop] at hg
  rw [hg, ← hv]
  obtain ⟨f1, f2⟩ := fCells_get tab i hi
  rcases (show o = 0 ∨ o = 1 by omega) with rfl | rfl
  · rw [Nat.add_zero, Nat.mul_comm, f1]; rfl
  · rw [Nat.mul_comm, f2]; rfl
end Go.Proofs.YtphmoieaddjanaaDoor
