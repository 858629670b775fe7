/-
  What the program's own Sum of a Hash answers: the digest of all that is in; it goes on as before. Texts below 2^39 bytes; the table of cubes lies where the program's text lays it. No other condition.
-/
import Derived.Test.YtbicfhilehllnaaGreatDoorShWrite
namespace Go.Proofs.YtbicfhilehllnaaGreatDoor
set_option maxRecDepth 100000
open Go.RowKit Go.Sort

theorem close_lt (n : Nat) : ∀ x ∈ close n, x < 256 := by
  intro x hx
  unfold close at hx
  simp only [List.mem_append, List.mem_cons, List.mem_replicate] at hx
  rcases hx with rfl | ⟨_, rfl⟩ | hx
  · decide
  · decide
  · exact be_lt _ _ x hx
theorem close_length (n : Nat) : (close n).length = 9 + (119 - n % 64) % 64 := by unfold close; simp [be_length]; omega
/-- A Hash copied whole. -/
theorem hb_copy {w : World} {B : Nat} {l r : List Nat} (h : HB w B l r) (Z : List Value) (hZ : Z.length = 73) (t : TypeId) :
    HB ((w.alloc (.cells Z.toArray t)).setCells w.heap.size 0 (hv (blks l (l.length / 64)).list r l.length)) w.heap.size l r := by
  have hn := (range_new w Z t).2
  rw [hZ] at hn
  have hl : (hv (blks l (l.length / 64)).list r l.length).length = 73 := by rw [hv_length, h.len]; rfl
  exact hb_of (World.rangeAt_setCells_same _ _ _ _ (by rw [hl]; exact hn)) (World.there_setCells hn _ _ _) h.len h.lt h.eq
set_option maxHeartbeats 8000000 in
set_option maxRecDepth 100000 in
theorem hs_ok (B : Nat) (l r : List Nat) (w : World) (tab : Tab w) (h : HB w B l r) (hs : l.length < 549755813888) :
    Calls Tryz.prog 303 #[.pointer (some ⟨B, 0, none⟩)] w fun e w' => e = .returned (.string (bstr (dig l))) ∧ HB w' B l r ∧ Below w.heap.size w w' := by
  obtain ⟨D, hD⟩ : ∃ D, D = bstr (dig l) := ⟨_, rfl⟩
  rw [← hD]
  replace hD : Hid _ := hD
  have hz := zero47.1
  have h73 := zero47.2
  have hBw : B < w.heap.size := h.s.lt (by show 0 < 8; decide)
  obtain ⟨Z, hZ⟩ : ∃ Z, Z = hv (List.replicate 8 0) (List.replicate 64 0) 0 := ⟨_, rfl⟩
  rw [← hZ] at hz
  have hZl : Z.length = 73 := by rw [hZ]; rfl
  clear hZ
  have hC := hb_copy h Z hZl 365
  obtain ⟨V, hV⟩ : ∃ V, V = hv (blks l (l.length / 64)).list r l.length := ⟨_, rfl⟩
  have hVl : V.length = 73 := by rw [hV, hv_length, h.len]; rfl
  have hVr : w.rangeAt B 0 V := by rw [hV]; exact h.cells
  have hV1 : V.toArray.all (·.oneCell') = true := by rw [hV]; exact hv_one _ _ _
  have hth := (range_new w Z 365).2
  rw [hZl] at hth
  rw [← hV] at hC
  have b1 : Below w.heap.size w ((w.alloc (.cells Z.toArray 365)).setCells w.heap.size 0 V) := below_cells ((Below.refl _ _).alloc (Nat.le_refl _) _) (Nat.le_refl _) _ _
  have LD : Hid (∀ (ops : Array Oper) (rest : List Oper) (op : Oper) (a : Act) (Q : Exit → Act → World → Prop) (x : Operand), op.guard = none → op.op = .load 365 x → a.eval x = .pointer (some ⟨B, 0, none⟩) → wpList Tryz.prog ops Q rest (a.put op.dst (.agg V.toArray)) w → wpList Tryz.prog ops Q (op :: rest) a w) :=
    fun ops rest op a Q x h1 h2 h3 h4 => wpList_load_mid h1 365 x h2 B 0 h3 V _ hVr Tryz.underlying365 rfl (by rw [hVl]; exact h73) h4
  have ST : Hid (∀ (ops : Array Oper) (rest : List Oper) (op : Oper) (a : Act) (Q : Exit → Act → World → Prop) (x y : Operand), op.guard = none → op.op = .store 365 x y → op.dst = none → a.eval x = .pointer (some ⟨w.heap.size, 0, none⟩) → a.eval y = .agg V.toArray → wpList Tryz.prog ops Q rest a ((w.alloc (.cells Z.toArray 365)).setCells w.heap.size 0 V) → wpList Tryz.prog ops Q (op :: rest) a (w.alloc (.cells Z.toArray 365))) :=
    fun ops rest op a Q x y h1 h2 hd h3 h4 h5 => wpList_store_mid h1 365 x y h2 w.heap.size 0 V.toArray h3 h4 (by simpa [hVl] using hth) (by simpa [hVl] using h73) hV1 (by rw [hd]; simpa [Act.put] using h5)
  have H1 := Lib.hid (h.of_block (b1.block B hBw))
  have C1 := Lib.hid hC
  have T1 := Lib.hid (tab.keep b1)
  have Z1 := Lib.hid b1
  have ZA := Lib.hid hz
  have sz1 : Hid (((w.alloc (.cells Z.toArray 365)).setCells w.heap.size 0 V).heap.size = w.heap.size + 1) := by unfold Hid; rw [size_cells, World.size_alloc]
  clear hz h73 hZl hV hVl hVr hV1 hth hC b1
  have hz := ZA.out
  go_enter Tryz.func303, Tryz.ntmps303
  go_wp2_with (first
    | (refine LD.out _ _ _ _ _ _ rfl rfl rfl ?_)
    | (refine ST.out _ _ _ _ _ _ _ rfl rfl rfl rfl rfl ?_; refine Hid.out ?_))
  refine Lib.hid ?_
  obtain ⟨w1, hw1⟩ : ∃ w1, w1 = ((w.alloc (.cells Z.toArray 365)).setCells w.heap.size 0 V) := ⟨_, rfl⟩
  rw [← hw1] at H1 C1 T1 Z1 sz1
  rw [← hw1]
  clear hw1 LD ST ZA hz
  have c72 : w1.cell? ⟨B, 72, none⟩ = some (.int .u64 (l.length : Int)) := H1.out.c.cell 0 Nat.one_pos
  have EN : Hid (∀ w, _) := fun w => ending_ok l.length w (by omega)
  have hcl := close_length l.length
  have hsz : Hid ((bstr (close l.length)).size = 9 + (119 - l.length % 64) % 64) := by unfold Hid; rw [bstr_size, hcl]
  have hnb : Hid (nb (bstr (close l.length)) = close l.length) := nb_bstr (close_lt _)
  have hpad : Hid (l ++ close l.length = pad l) := rfl
  have hdig : Hid (dig l = (blks (pad l) ((pad l).length / 64)).list.flatMap fun x => be x 4) := rfl
  clear hcl
  generalize bstr (close l.length) = cl at *
  go_wp2_with (go_at_call 324; refine (EN.out _).mono ?_; rintro e w2 ⟨rfl, b2⟩; refine Hid.out ?_)
  refine Lib.hid ?_
  have H2 : Hid (HB w2 B l r) := H1.out.of_block (b2.block B (by rw [sz1.out]; omega))
  have C2 : Hid (HB w2 w.heap.size l r) := C1.out.of_block (b2.block _ (by rw [sz1.out]; omega))
  have T2 : Hid (Tab w2) := T1.out.keep b2
  have Z2 : Hid (Below w.heap.size w w2) := Z1.out.trans (b2.mono (by rw [sz1.out]; omega))
  have WR : Hid (∀ _ : Unit, _) := fun _ => wr_ok cl w.heap.size l r w2 T2.out C2.out (by rw [hsz.out]; omega)
  clear b2 H1 C1 T1 Z1 EN c72
  go_wp2_with (go_at_call 302; refine (WR.out ()).mono ?_; rintro e w3 ⟨rfl, r', h3, s3⟩; refine Hid.out ?_)
  refine Lib.hid ?_
  have H3 : Hid (HB w3 B l r) := H2.out.of_block (s3.block B (Nat.lt_of_lt_of_le hBw Z2.out.size) (by omega))
  have Z3 : Hid (Below w.heap.size w w3) := Z2.out.trans (s3.below Z2.out.size (fun k hk => by omega))
  have X3 : Hid (At .u32 w3 w.heap.size 0 (blks (pad l) ((pad l).length / 64)).list) := by
    have := h3.s
    rw [hnb.out, hpad.out] at this
    exact this
  have hok := blks_ok (pad l) ((pad l).length / 64)
  have BO : Hid (∀ w, _) := fun w => bytesOf_ok (blks (pad l) ((pad l).length / 64)).list w rfl (st_w32 hok)
  rw [← hdig.out, ← hD.out] at BO
  have hll : (blks (pad l) ((pad l).length / 64)).list.length = 8 := rfl
  clear h3 s3 H2 C2 T2 Z2 WR hok hdig hpad
  generalize (blks (pad l) ((pad l).length / 64)).list = L at *
  have i45 : Hid ((Tryz.prog.info? 363).map (·.size) = some 8) := by unfold Hid; kernel_rfl
  go_wp2_with (first
    | (refine X3.out.wload (t := 363) Tryz.underlying363 (by rw [hll]; exact i45.out) rfl rfl rfl ?_)
    | (go_at_call 325; refine (BO.out _).mono ?_; rintro e w4 ⟨rfl, b4⟩))
  go_ret
  exact ⟨rfl, H3.out.of_block (b4.block B (Nat.lt_of_lt_of_le hBw Z3.out.size)), Z3.out.trans (b4.mono Z3.out.size)⟩
/-- The same, as the laws ask for it. -/
theorem write_ok {F : Nat → Prop} {v : Value} {l : List Nat} (s : ByteArray) (w : World) (tab : Tab w) (h : HashIs F w v l) (hF : ∀ k, F k → k < w.heap.size) (hs : l.length + s.size < 549755813888) :
    Calls Tryz.prog 302 #[v, .string s] w fun e w' => ∃ F' : Nat → Prop, e = .returned (.tuple #[]) ∧ HashIs F' w' v (l ++ nb s) ∧ (∀ k, F' k → (F k ∨ w.heap.size ≤ k) ∧ k < w'.heap.size) ∧ Still F w w' := by
  obtain ⟨B, r, rfl, hB, h⟩ := h.ex
  refine (wr_ok s B l r w tab h (by omega)).mono ?_
  rintro e w' ⟨rfl, r', h', st⟩
  refine ⟨F, rfl, ⟨B, r', rfl, hB, h'⟩, fun k hk => ⟨.inl hk, Nat.lt_of_lt_of_le (hF k hk) st.size⟩, st.os, st.tape, st.output, st.size, fun k hk hf => st.block k hk fun e => hf ((hB k).2 e)⟩
theorem hsum_ok {F : Nat → Prop} {v : Value} {l : List Nat} (w : World) (tab : Tab w) (h : HashIs F w v l) (hF : ∀ k, F k → k < w.heap.size) (hs : l.length < 549755813888) :
    Calls Tryz.prog 303 #[v] w fun e w' => ∃ F' : Nat → Prop, e = .returned (.string (bstr (dig l))) ∧ HashIs F' w' v l ∧ (∀ k, F' k → (F k ∨ w.heap.size ≤ k) ∧ k < w'.heap.size) ∧ Still F w w' := by
  obtain ⟨B, r, rfl, hB, h⟩ := h.ex
  refine (hs_ok B l r w tab h hs).mono ?_
  rintro e w' ⟨rfl, h', b⟩
  exact ⟨F, rfl, ⟨B, r, rfl, hB, h'⟩, fun k hk => ⟨.inl hk, Nat.lt_of_lt_of_le (hF k hk) b.size⟩, Still.of F b⟩
end Go.Proofs.YtbicfhilehllnaaGreatDoor
