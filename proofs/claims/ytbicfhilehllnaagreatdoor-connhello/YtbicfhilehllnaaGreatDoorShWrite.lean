/-
  What the program's own Write answers: the bytes stand behind those that are in. Texts below 2^39 bytes in all; the table of cubes lies where the program's text lays it. No other condition.
-/
import Derived.Test.YtbicfhilehllnaaGreatDoorShPut
import Derived.Deep.LoopGhost
namespace Go.Proofs.YtbicfhilehllnaaGreatDoor
set_option maxRecDepth 100000
open Go.RowKit Go.Sort

/-- In a region that draws: an array loaded, a call of mix, an array stored. -/
theorem At.oload {k : IntKind} {w : World} {B o : Nat} {l : List Nat} (h : At k w B o l) {t e : TypeId} {n : Nat} (hu : Tryz.prog.underlying t = some (.array n e)) (hi : (Tryz.prog.info? t).map (·.size) = some l.length)
    {op : Oper} {d : Nat} {a : Act} {K : Act → World → Prop} {Q : Exit → Act → World → Prop} {x : Operand} (ho : op.op = .load t x) (hd : op.dst = some d) (hx : a.eval x = .pointer (some ⟨B, o, none⟩))
    (hK : K (a.put (some d) (.agg (nv k l).toArray)) w) : op.wp Tryz.prog a w K Q :=
  wp_load_mid t x ho B o hx (nv k l) _ h.r hu rfl (by rw [nv_length]; exact hi) (by rw [hd]; exact hK)
theorem At.ostore {k : IntKind} {w : World} {B o : Nat} {l : List Nat} (h : At k w B o l) (m : List Nat) (hm : m.length = l.length) {t : TypeId} (hi : (Tryz.prog.info? t).map (·.size) = some l.length)
    {op : Oper} {a : Act} {K : Act → World → Prop} {Q : Exit → Act → World → Prop} {x y : Operand} (ho : op.op = .store t x y) (hd : op.dst = none) (hx : a.eval x = .pointer (some ⟨B, o, none⟩)) (hy : a.eval y = .agg (nv k m).toArray)
    (hK : K a (w.setCells B o (nv k m))) : op.wp Tryz.prog a w K Q :=
  wp_store_mid t x y ho B o (nv k m).toArray hx hy (by simpa [nv_length, hm] using h.t) (by simpa [nv_length, hm] using hi) (nv_all k m) (by rw [hd]; simpa [Act.put] using hK)
theorem mix_wp (o : Oper) {x y v : Value} {R : World → Prop} (ho : o.op = .call { callee := .value (.func 323), args := #[.tmp 41, .tmp 45], argTypes := #[363, 328] }) (hd : o.dst = some 46) (a : Act) (w : World) (K : Act → World → Prop) (Q : Exit → Act → World → Prop)
    (hx : a.eval (.tmp 41) = x) (hy : a.eval (.tmp 45) = y) (C : Calls Tryz.prog 323 #[x, y] w fun e w' => e = .returned v ∧ R w') (hK : ∀ w', R w' → K (a.put (some 46) v) w') : o.wp Tryz.prog a w K Q := by
  unfold Oper.wp
  have hr : (execOp a.eval o).run Tryz.prog w = .ok (.enter 323 #[x, y]) w := by
    unfold execOp
    rw [ho]
    simp only [go_sem] at hx hy ⊢
    simp [go_sem, hx, hy]
  rw [hr]
  exact C.mono fun e w' ⟨he, hw⟩ => by subst he; rw [hd]; exact hK w' hw
theorem Still.refl (F : Nat → Prop) (w : World) : Still F w w := ⟨rfl, rfl, rfl, Nat.le_refl _, fun _ _ _ => rfl⟩
theorem nb_cut (t : ByteArray) (n : Nat) : nb (t.extract n t.size) = (nb t).drop n := by
  have h := nb_extract (nb t) n t.size (nb_lt t)
  rw [bstr_nb] at h
  rw [h, List.take_of_length_le (by rw [List.length_drop, nb_length]; omega)]
theorem no_bytes (a : ByteArray) (h : a.size = 0) : a.toList.isEmpty = true := by
  rw [ByteArray.toList_eq]
  have : a.data.toList.length = a.size := by simp
  rw [h] at this
  simp [List.eq_nil_of_length_eq_zero this]
theorem some_bytes (a : ByteArray) (h : 0 < a.size) : a.toList.isEmpty = false := by
  rw [ByteArray.toList_eq]
  cases e : a.data.toList with
  | nil => have : a.data.toList.length = a.size := by simp
           rw [e] at this; simp at this; omega
  | cons x l => rfl
theorem still_cells {F : Nat → Prop} {w w' : World} (h : Still F w w') (B o : Nat) (vs : List Value) (hF : F B) : Still F w (w'.setCells B o vs) :=
  have e : (w'.setCells B o vs).os = w'.os ∧ (w'.setCells B o vs).tape = w'.tape ∧ (w'.setCells B o vs).output = w'.output := by
    have : ∀ (vs : List Value) (o : Nat) (w' : World), (w'.setCells B o vs).os = w'.os ∧ (w'.setCells B o vs).tape = w'.tape ∧ (w'.setCells B o vs).output = w'.output := by
      intro vs
      induction vs with
      | nil => intro o w'; exact ⟨rfl, rfl, rfl⟩
      | cons v r ih => intro o w'; exact ih (o + 1) (w'.setCell ⟨B, o, none⟩ v)
    exact this vs o w'
  ⟨e.1.trans h.os, e.2.1.trans h.tape, e.2.2.trans h.output, by rw [size_cells]; exact h.size, fun k hk hf => by
    rw [heap_cells_other B vs o w' k (fun e => hf (e ▸ hF))]
    exact h.block k hk hf⟩
theorem still_cell {F : Nat → Prop} {w w' : World} (h : Still F w w') (B o : Nat) (v : Value) (hF : F B) : Still F w (w'.setCell ⟨B, o, none⟩ v) := still_cells h B o [v] hF
theorem still_below {F : Nat → Prop} {w w' w'' : World} (h : Still F w w') (b : Below w'.heap.size w' w'') : Still F w w'' :=
  ⟨b.os.trans h.os, b.tape.trans h.tape, b.output.trans h.output, Nat.le_trans h.size b.size, fun k hk hf => (b.block k (Nat.lt_of_lt_of_le hk h.size)).trans (h.block k hk hf)⟩
theorem tab_cells {w : World} (h : Tab w) (B o : Nat) (vs : List Value) (hB : B ≠ 2) : Tab (w.setCells B o vs) :=
  ⟨by rw [size_cells]; exact h.pos, fun j hj => (World.cell?_of_block (w := w) (a := ⟨2, j, none⟩) (heap_cells_other B vs o w _ (Ne.symm hB))).trans (h.c j hj)⟩
set_option maxHeartbeats 8000000 in
set_option maxRecDepth 100000 in
theorem wr_ok (s : ByteArray) (B : Nat) (l r : List Nat) (w : World) (tab : Tab w) (h : HB w B l r) (hs : l.length + s.size < 1099511627776) :
    Calls Tryz.prog 302 #[.pointer (some ⟨B, 0, none⟩), .string s] w fun e w' => e = .returned (.tuple #[]) ∧ ∃ r', HB w' B (l ++ nb s) r' ∧ Still (· = B) w w' := by
  have hBc := h.apart tab
  have hlen := nb_length s
  go_enter Tryz.func302, Tryz.ntmps302
  go_wp2
  go_loopg [1] s.size (fun g sv wr => ∃ (t : ByteArray) (m r : List Nat), sv = .string t ∧ t.size = g ∧ Hid (m ++ nb t = l ++ nb s) ∧ Hid (HB wr B m r) ∧ Hid (Still (· = B) w wr) ∧ Hid (Tab wr))
  case atStart => exact ⟨s, l, r, rfl, rfl, rfl, h, Still.refl _ _, tab⟩
  case round =>
    obtain ⟨t, m, r, rfl, hg, hmt, H, S, T⟩ := hrel
    subst hg
    have hml : m.length + t.size = l.length + s.size := by
      have := congrArg List.length hmt.out
      simpa [nb_length] using this
    by_cases ht : t.size = 0
    · have q1 := no_bytes t ht
      have hm : m = l ++ nb s := by
        have e := hmt.out
        have : nb t = [] := List.eq_nil_of_length_eq_zero (by rw [nb_length, ht])
        rwa [this, List.append_nil] at e
      go_wp2
      exact ⟨rfl, .tuple #[], by simp [results], rfl, r, hm ▸ H.out, S.out⟩
    · have q1 := some_bytes t (by omega)
      obtain ⟨u, hu⟩ : ∃ u, u = m.length % 64 := ⟨_, rfl⟩
      obtain ⟨n, hn⟩ : ∃ n, n = min t.size (64 - u) := ⟨_, rfl⟩
      have hub : u < 64 := by omega
      have hnb : 0 < n ∧ n ≤ t.size ∧ u + n ≤ 64 := by omega
      have c72 := H.out.c.cell 0 Nat.one_pos
      have f72 := H.out.c.free 0 Nat.one_pos
      have hmod : (m.length : Int) % 64 = (u : Int) := by omega
      have hsl := fun w' => slice_low B 8 64 u w' 328 5 Tryz.underlying328 Tryz.sizeOf5 hub (8 + u) (64 - u) rfl rfl
      have hth : Hid (wr.there B (8 + u) n) := fun j hj => by
        have := H.out.b.t (u + j) (by rw [H.out.len]; omega)
        rwa [← Nat.add_assoc] at this
      have hcl : ((nb t).take n).length = n := by rw [List.length_take, nb_length]; omega
      have c72' : (wr.setCells B (8 + u) (nv .u8 ((nb t).take n))).cell? ⟨B, 72, none⟩ = some (.int .u64 (m.length : Int)) :=
        (H.out.c.apart B (8 + u) (nv .u8 ((nb t).take n)) (.inr (.inr (by rw [nv_length, hcl]; omega)))).cell 0 Nat.one_pos
      have f72' : (wr.setCells B (8 + u) (nv .u8 ((nb t).take n))).frozen? ⟨B, 72, none⟩ = false :=
        (H.out.c.apart B (8 + u) (nv .u8 ((nb t).take n)) (.inr (.inr (by rw [nv_length, hcl]; omega)))).free 0 Nat.one_pos
      have c72'' : wr.cell? ⟨B, 72, none⟩ = some (.int .u64 (m.length : Int)) := c72
      have hsum : Hid (((m.length : Int) + n) = ((m.length + n : Nat) : Int)) := by unfold Hid; omega
      clear c72 f72
      replace hu : Hid _ := hu
      replace hn : Hid _ := hn
      replace hcl : Hid _ := hcl
      obtain ⟨c, hc⟩ : ∃ c, c = (nb t).take n := ⟨_, rfl⟩
      have hc256 : ∀ x ∈ c, x < 256 := fun x hx => nb_lt t x (List.mem_of_mem_take (hc ▸ hx))
      have hcut : Hid (nb (t.extract n t.size) = (nb t).drop n) := nb_cut t n
      have hcs : Hid ((t.extract n t.size).size = t.size - n) := by unfold Hid; rw [ByteArray.size_extract]; omega
      have hE : Hid ((m ++ c) ++ nb (t.extract n t.size) = l ++ nb s) := by
        unfold Hid
        rw [hcut.out, hc, List.append_assoc, List.take_append_drop]
        exact hmt.out
      rw [← hc] at hcl c72' f72'
      have hK : Hid (∀ (ops : Array Oper) (rest : List Oper) (op : Oper) (a : Act) (Q : Exit → Act → World → Prop) (d x : Operand), op.guard = none → op.op = Op.call { callee := Callee.builtin Builtin.copy, args := #[d, x], argTypes := #[129, 9] } → a.eval d = .slice (some ⟨B, 8 + u, none⟩) (64 - u) (64 - u) → a.eval x = .string t → wpList Tryz.prog ops Q rest (a.put op.dst (.int .i64 (n : Int))) (wr.setCells B (8 + u) (nv .u8 c)) → wpList Tryz.prog ops Q (op :: rest) a wr) :=
        fun ops rest op a Q d x h1 h2 h3 h4 h5 => wpl_copy 129 9 5 B (8 + u) (64 - u) (64 - u) t n hn.out Tryz.underlying129 Tryz.sizeOf5 hth.out h1 h2 h3 h4 (hc ▸ h5)
      have S1 : Hid (Still (· = B) w ((wr.setCells B (8 + u) (nv .u8 c)).setCell ⟨B, 72, none⟩ (.int .u64 ((m.length : Int) + n)))) := still_cell (still_cells S.out B _ _ rfl) B 72 _ rfl
      have T1 : Hid (Tab ((wr.setCells B (8 + u) (nv .u8 c)).setCell ⟨B, 72, none⟩ (.int .u64 ((m.length : Int) + n)))) := tab_cells (tab_cells T.out B _ _ hBc) B 72 [_] hBc
      clear hc hth hcut hmt S T
      by_cases hfull : u + n = 64
      · have q2 : ((u : Int) + n == 64) = true := by simp; omega
        obtain ⟨a1, a2, a3⟩ := hb_put H.out n u hu.out hcl.out (by omega)
        rw [← hsum.out] at a1 a2 a3
        have A1 := Lib.hid a1
        have A2 := Lib.hid a2
        have A3 := Lib.hid a3
        clear a1 a2 a3
        go_wp2_with (refine hK.out _ _ _ _ _ _ _ rfl rfl rfl rfl ?_)
        obtain ⟨w2, hw2⟩ : ∃ w2, w2 = ((wr.setCells B (8 + u) (nv .u8 c)).setCell ⟨B, 72, none⟩ (.int .u64 ((m.length : Int) + n))) := ⟨_, rfl⟩
        rw [← hw2] at A1 A2 A3 S1 T1
        rw [← hw2]
        clear hw2 c72' f72' c72'' hmod hsl hK
        obtain ⟨r', hr'⟩ : ∃ r', r' = r.take u ++ c ++ r.drop (u + n) := ⟨_, rfl⟩
        rw [← hr'] at A2
        have hrl : Hid (r'.length = 64) := by unfold Hid; rw [hr']; exact (take_blk hu.out H.out.len hcl.out (by omega) H.out.eq).2
        have hr256 : ∀ x ∈ r', x < 256 := by
          rw [hr']
          intro x hx
          rcases List.mem_append.1 hx with hx | hx
          · rcases List.mem_append.1 hx with hx | hx
            · exact H.out.lt x (List.mem_of_mem_take hx)
            · exact hc256 x hx
          · exact H.out.lt x (List.mem_of_mem_drop hx)
        have MX : Hid (Calls Tryz.prog 323 #[.agg (nv .u32 (blks m (m.length / 64)).list).toArray, .agg (nv .u8 r').toArray] w2.drew fun e w' => e = .returned (.agg (nv .u32 (blk (blks m (m.length / 64)) r').list).toArray) ∧ Below w2.drew.heap.size w2.drew w') :=
          mix_ok (blks m (m.length / 64)) r' w2.drew (T1.out.keep (dr _ _)) (blks_ok m _) hrl.out hr256
        obtain ⟨EE, hEE⟩ : ∃ EE, EE = (blk (blks m (m.length / 64)) r').list := ⟨_, rfl⟩
        rw [← hEE] at MX
        have hE8 : Hid (EE.length = 8) := by unfold Hid; rw [hEE]; rfl
        have hEl : Hid (EE.length = (blks m (m.length / 64)).list.length) := hE8
        have hBw : Hid (B < w2.heap.size) := A1.out.lt (by show 0 < 8; decide)
        replace hr' : Hid _ := hr'
        replace hEE : Hid _ := hEE
        refine wp_region_any (by kernel_rfl) ?_
        change wpAny _ .any _ _ 13 (Array.replicate 13 false) _ w2.drew
        refine take_slot (i := 0) (d := 37) (v := .pointer (some ⟨B, 0, none⟩)) rfl rfl (by kernel_rfl) (by kernel_rfl) (by kernel_rfl) (fun _ _ _ h => h) rfl (fun w => by go_simp) ?_
        refine take_slot (i := 1) (d := 38) (v := .pointer (some ⟨B, 0, none⟩)) rfl rfl (by kernel_rfl) (by kernel_rfl) (by kernel_rfl) (fun _ _ _ h => h) rfl (fun w => by go_simp) ?_
        refine take_slot (i := 2) (d := 39) (v := .pointer (some ⟨B, 0, none⟩)) rfl rfl (by kernel_rfl) (by kernel_rfl) (by kernel_rfl) (fun _ _ _ h => h) rfl (fun w => by go_simp) ?_
        refine take_slot (i := 3) (d := 40) (v := .pointer (some ⟨B, 0, none⟩)) rfl rfl (by kernel_rfl) (by kernel_rfl) (by kernel_rfl) (fun _ _ _ h => h) rfl (fun w => by go_simp) ?_
        refine take_slot (i := 5) (d := 42) (v := .pointer (some ⟨B, 0, none⟩)) rfl rfl (by kernel_rfl) (by kernel_rfl) (by kernel_rfl) (fun _ _ _ h => h) rfl (fun w => by go_simp) ?_
        refine take_slot (i := 6) (d := 43) (v := .pointer (some ⟨B, 0, none⟩)) rfl rfl (by kernel_rfl) (by kernel_rfl) (by kernel_rfl) (fun _ _ _ h => h) rfl (fun w => by go_simp) ?_
        refine take_slot (i := 7) (d := 44) (v := .pointer (some ⟨B, 8, none⟩)) rfl rfl (by kernel_rfl) (by kernel_rfl) (by kernel_rfl) (fun _ _ _ h => h) rfl (fun w => by go_simp) ?_
        simp only [Act.put, List.setIfInBounds_toArray, List.set_cons_succ, List.set_cons_zero]
        refine wpAny_all (rs := [4, 8]) (by kernel_rfl) (by simp) (fun i hi => ?_)
        rcases (show i = 4 ∨ i = 8 by simpa using hi) with rfl | rfl
        · refine wpOp_step rfl (fun K' hK => ?_)
          clear hi
          refine A1.out.drew.oload (t := 363) Tryz.underlying363 (by kernel_rfl) rfl (d := 41) rfl rfl (hK _ _ ?_)
          clear hK K'
          simp only [Act.put, List.setIfInBounds_toArray, List.set_cons_succ, List.set_cons_zero]
          refine wpAny_all (rs := [8]) (by kernel_rfl) (by simp) (fun i hi => ?_)
          obtain rfl : i = 8 := by simpa using hi
          refine wpOp_step rfl (fun K' hK => ?_)
          clear hi
          refine A2.out.drew.oload (t := 328) Tryz.underlying328 (by rw [hrl.out]; kernel_rfl) rfl (d := 45) rfl rfl (hK _ _ ?_)
          clear hK K'
          simp only [Act.put, List.setIfInBounds_toArray, List.set_cons_succ, List.set_cons_zero]
          refine wpAny_all (rs := [9]) (by kernel_rfl) (by simp) (fun i hi => ?_)
          obtain rfl : i = 9 := by simpa using hi
          refine wpOp_step rfl (fun K' hK => ?_)
          clear hi
          refine mix_wp _ rfl rfl _ _ _ _ rfl rfl MX.out (fun w3 b3 => hK _ _ ?_)
          clear hK K'
          simp only [Act.put, List.setIfInBounds_toArray, List.set_cons_succ, List.set_cons_zero]
          replace b3 : Below w2.heap.size w2 w3 := (dr w2 w2.heap.size).trans b3
          have B1 : Hid (At .u32 w3 B 0 (blks m (m.length / 64)).list) := A1.out.keep hBw.out b3
          have B2 : Hid (At .u8 w3 B 8 r') := A2.out.keep hBw.out b3
          have B3 : Hid (At .u64 w3 B 72 [m.length + n]) := A3.out.keep hBw.out b3
          have S3 : Hid (Still (· = B) w w3) := still_below S1.out b3
          have T3 : Hid (Tab w3) := T1.out.keep b3
          clear b3 MX A1 A2 A3 S1 T1
          refine wpAny_all (rs := [10]) (by kernel_rfl) (by simp) (fun i hi => ?_)
          obtain rfl : i = 10 := by simpa using hi
          refine wpOp_step rfl (fun K' hK => ?_)
          clear hi
          go_simp
          refine hK _ _ ?_
          clear hK K'
          refine wpAny_all (rs := [11]) (by kernel_rfl) (by simp) (fun i hi => ?_)
          obtain rfl : i = 11 := by simpa using hi
          refine wpOp_step rfl (fun K' hK => ?_)
          clear hi
          go_simp
          refine hK _ _ ?_
          clear hK K'
          refine wpAny_all (rs := [12]) (by kernel_rfl) (by simp) (fun i hi => ?_)
          obtain rfl : i = 12 := by simpa using hi
          refine wpOp_step rfl (fun K' hK => ?_)
          clear hi
          refine B1.out.ostore EE hEl.out (t := 363) (by kernel_rfl) rfl rfl rfl rfl (hK _ _ ?_)
          clear hK K'
          refine wpAny_done (by kernel_rfl) ?_ 0
          have C1 : At .u32 (w3.setCells B 0 (nv .u32 EE)) B 0 EE := B1.out.store EE hEl.out
          have C2 : At .u8 (w3.setCells B 0 (nv .u32 EE)) B 8 r' := B2.out.apart B 0 _ (.inr (.inr (by rw [nv_length, hE8.out]; omega)))
          have C3 : At .u64 (w3.setCells B 0 (nv .u32 EE)) B 72 [m.length + n] := B3.out.apart B 0 _ (.inr (.inr (by rw [nv_length, hE8.out]; omega)))
          have S4 : Hid (Still (· = B) w (w3.setCells B 0 (nv .u32 EE))) := still_cells S3.out B 0 _ rfl
          have T4 : Hid (Tab (w3.setCells B 0 (nv .u32 EE))) := tab_cells T3.out B 0 _ hBc
          have P : Hid (HB (w3.setCells B 0 (nv .u32 EE)) B (m ++ c) r') := by
            have D1 : At .u32 (w3.setCells B 0 (nv .u32 EE)) B 0 (blk (blks m (m.length / 64)) (r.take u ++ c ++ r.drop (u + n))).list := by rw [← hr'.out, ← hEE.out]; exact C1
            have D2 : At .u8 (w3.setCells B 0 (nv .u32 EE)) B 8 (r.take u ++ c ++ r.drop (u + n)) := by rw [← hr'.out]; exact C2
            have := hb_full H.out n u hu.out hcl.out hfull hc256 D1 D2 C3
            rw [← hr'.out] at this
            exact this
          clear C1 C2 C3 B1 B2 B3 S3 T3
          go_wp2
          go_roundg (t.size - n)
          case measure => omega
          case rel => exact ⟨t.extract n t.size, m ++ c, _, rfl, hcs.out, hE, P, S4, T4⟩
        · refine wpOp_step rfl (fun K' hK => ?_)
          clear hi
          refine A2.out.drew.oload (t := 328) Tryz.underlying328 (by rw [hrl.out]; kernel_rfl) rfl (d := 45) rfl rfl (hK _ _ ?_)
          clear hK K'
          simp only [Act.put, List.setIfInBounds_toArray, List.set_cons_succ, List.set_cons_zero]
          refine wpAny_all (rs := [4]) (by kernel_rfl) (by simp) (fun i hi => ?_)
          obtain rfl : i = 4 := by simpa using hi
          refine wpOp_step rfl (fun K' hK => ?_)
          clear hi
          refine A1.out.drew.oload (t := 363) Tryz.underlying363 (by kernel_rfl) rfl (d := 41) rfl rfl (hK _ _ ?_)
          clear hK K'
          simp only [Act.put, List.setIfInBounds_toArray, List.set_cons_succ, List.set_cons_zero]
          refine wpAny_all (rs := [9]) (by kernel_rfl) (by simp) (fun i hi => ?_)
          obtain rfl : i = 9 := by simpa using hi
          refine wpOp_step rfl (fun K' hK => ?_)
          clear hi
          refine mix_wp _ rfl rfl _ _ _ _ rfl rfl MX.out (fun w3 b3 => hK _ _ ?_)
          clear hK K'
          simp only [Act.put, List.setIfInBounds_toArray, List.set_cons_succ, List.set_cons_zero]
          replace b3 : Below w2.heap.size w2 w3 := (dr w2 w2.heap.size).trans b3
          have B1 : Hid (At .u32 w3 B 0 (blks m (m.length / 64)).list) := A1.out.keep hBw.out b3
          have B2 : Hid (At .u8 w3 B 8 r') := A2.out.keep hBw.out b3
          have B3 : Hid (At .u64 w3 B 72 [m.length + n]) := A3.out.keep hBw.out b3
          have S3 : Hid (Still (· = B) w w3) := still_below S1.out b3
          have T3 : Hid (Tab w3) := T1.out.keep b3
          clear b3 MX A1 A2 A3 S1 T1
          refine wpAny_all (rs := [10]) (by kernel_rfl) (by simp) (fun i hi => ?_)
          obtain rfl : i = 10 := by simpa using hi
          refine wpOp_step rfl (fun K' hK => ?_)
          clear hi
          go_simp
          refine hK _ _ ?_
          clear hK K'
          refine wpAny_all (rs := [11]) (by kernel_rfl) (by simp) (fun i hi => ?_)
          obtain rfl : i = 11 := by simpa using hi
          refine wpOp_step rfl (fun K' hK => ?_)
          clear hi
          go_simp
          refine hK _ _ ?_
          clear hK K'
          refine wpAny_all (rs := [12]) (by kernel_rfl) (by simp) (fun i hi => ?_)
          obtain rfl : i = 12 := by simpa using hi
          refine wpOp_step rfl (fun K' hK => ?_)
          clear hi
          refine B1.out.ostore EE hEl.out (t := 363) (by kernel_rfl) rfl rfl rfl rfl (hK _ _ ?_)
          clear hK K'
          refine wpAny_done (by kernel_rfl) ?_ 0
          have C1 : At .u32 (w3.setCells B 0 (nv .u32 EE)) B 0 EE := B1.out.store EE hEl.out
          have C2 : At .u8 (w3.setCells B 0 (nv .u32 EE)) B 8 r' := B2.out.apart B 0 _ (.inr (.inr (by rw [nv_length, hE8.out]; omega)))
          have C3 : At .u64 (w3.setCells B 0 (nv .u32 EE)) B 72 [m.length + n] := B3.out.apart B 0 _ (.inr (.inr (by rw [nv_length, hE8.out]; omega)))
          have S4 : Hid (Still (· = B) w (w3.setCells B 0 (nv .u32 EE))) := still_cells S3.out B 0 _ rfl
          have T4 : Hid (Tab (w3.setCells B 0 (nv .u32 EE))) := tab_cells T3.out B 0 _ hBc
          have P : Hid (HB (w3.setCells B 0 (nv .u32 EE)) B (m ++ c) r') := by
            have D1 : At .u32 (w3.setCells B 0 (nv .u32 EE)) B 0 (blk (blks m (m.length / 64)) (r.take u ++ c ++ r.drop (u + n))).list := by rw [← hr'.out, ← hEE.out]; exact C1
            have D2 : At .u8 (w3.setCells B 0 (nv .u32 EE)) B 8 (r.take u ++ c ++ r.drop (u + n)) := by rw [← hr'.out]; exact C2
            have := hb_full H.out n u hu.out hcl.out hfull hc256 D1 D2 C3
            rw [← hr'.out] at this
            exact this
          clear C1 C2 C3 B1 B2 B3 S3 T3
          go_wp2
          go_roundg (t.size - n)
          case measure => omega
          case rel => exact ⟨t.extract n t.size, m ++ c, _, rfl, hcs.out, hE, P, S4, T4⟩
      · have q2 : ((u : Int) + n == 64) = false := by simp; omega
        have P := hb_part H.out n u hu.out hcl.out (by omega) hc256
        rw [← hsum.out] at P
        replace P : Hid _ := P
        go_wp2_with (refine hK.out _ _ _ _ _ _ _ rfl rfl rfl rfl ?_)
        go_roundg (t.size - n)
        case measure => omega
        case rel => exact ⟨t.extract n t.size, m ++ c, _, rfl, hcs.out, hE, P, S1, T1⟩
end Go.Proofs.YtbicfhilehllnaaGreatDoor
