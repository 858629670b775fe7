/-
  What the program's own Sum, Hmac and Derive answer: the digest, the code and the key that the chapter says. Texts below 2^39 bytes; the tables lie where the program's text lays them. No other condition.
-/
import Derived.Test.YtbicfhilehllnaaGreatDoorShFin
import Derived.Test.YtbicfhilehllnaaGreatDoorShDer
import Derived.Test.YtbicfhilehllnaaGreatDoorVaText
namespace Go.Proofs.YtbicfhilehllnaaGreatDoor
set_option maxRecDepth 100000
open Go.RowKit Go.Sort

theorem new_b (w : World) (t : Tab w) : Calls Tryz.prog 301 #[] w fun e w' => ∃ B r, e = .returned (.pointer (some ⟨B, 0, none⟩)) ∧ HB w' B [] r ∧ w.heap.size ≤ B ∧ Below w.heap.size w w' := by
  refine (new_ok w t).mono ?_
  rintro e w' ⟨a, F, rfl, h, hF, b⟩
  obtain ⟨B, r, ev, hB, hb⟩ := h.ex
  exact ⟨B, r, by rw [ev], hb, (hF B ((hB B).2 rfl)).1, b⟩
set_option maxHeartbeats 1000000 in
theorem sum_ok (s : ByteArray) (w : World) (tab : Tab w) (hs : s.size < 549755813888) :
    Calls Tryz.prog 300 #[.string s] w fun e w' => e = .returned (.string (bstr (dig (nb s)))) ∧ Below w.heap.size w w' := by
  obtain ⟨D, hD⟩ : ∃ D, D = bstr (dig (nb s)) := ⟨_, rfl⟩
  rw [← hD]
  replace hD : Hid _ := hD
  have NW : Hid (∀ w, Tab w → _) := new_b
  have hl := nb_length s
  replace hl : Hid _ := hl
  go_enter Tryz.func300, Tryz.ntmps300
  go_wp2_with fail
  refine (NW.out _ tab).mono ?_
  rintro e w1 ⟨B, r, rfl, h1, hB, b1⟩
  have W1 : Hid (∀ _ : Unit, _) := fun _ => wr_ok s B [] r w1 (tab.keep b1) h1 (by simp only [List.length_nil]; omega)
  have Z1 : Hid (Below w.heap.size w w1) := b1
  clear h1 b1 NW
  go_wp2_with fail
  refine (W1.out ()).mono ?_
  rintro e w2 ⟨rfl, r2, h2, s2⟩
  rw [List.nil_append] at h2
  have Z2 : Hid (Below w.heap.size w w2) := Z1.out.trans (s2.below Z1.out.size (fun k hk => by omega))
  have S2 : Hid (∀ _ : Unit, _) := fun _ => hs_ok B (nb s) r2 w2 (tab.keep Z2.out) h2 (by rw [hl.out]; exact hs)
  rw [← hD.out] at S2
  clear h2 s2 W1 Z1
  go_wp2_with fail
  refine (S2.out ()).mono ?_
  rintro e w3 ⟨rfl, _, b3⟩
  have Z3 : Hid (Below w.heap.size w w3) := Z2.out.trans (b3.mono Z2.out.size)
  clear b3 S2 Z2
  go_wp2_with fail
  go_ret
  exact ⟨rfl, Z3.out⟩
/-- A key, or its digest, with bytes 0 up to 64. -/
def k64 (key : List Nat) : List Nat := kk key ++ List.replicate (64 - (kk key).length) 0
theorem kk_le (key : List Nat) : (kk key).length ≤ 64 := by
  unfold kk
  split
  · rw [dig_length]; decide
  · omega
theorem k64_length (key : List Nat) : (k64 key).length = 64 := by have := kk_le key; unfold k64; rw [List.length_append, List.length_replicate]; omega
theorem k64_lt {key : List Nat} (h : ∀ x ∈ key, x < 256) : ∀ x ∈ k64 key, x < 256 := by
  intro x hx
  rcases List.mem_append.1 hx with hx | hx
  · unfold kk at hx
    split at hx
    · exact dig_lt _ x hx
    · exact h x hx
  · rw [List.eq_of_mem_replicate hx]; decide
/-- Each byte turned by the same one. -/
def tn (l : List Nat) (b : Nat) : List Nat := l.map fun x => x ^^^ b
theorem tn_k64 (key : List Nat) (b : Nat) : tn (k64 key) b = tby (kk key) b 64 := by
  have hl := kk_le key
  unfold tn tby
  refine List.ext_getElem (by rw [List.length_map, k64_length, List.length_map, List.length_range]) fun i h1 h2 => ?_
  rw [List.length_map, k64_length] at h1
  simp only [List.getElem_map, List.getElem_range]
  congr 1
  unfold k64
  by_cases q : i < (kk key).length
  · rw [List.getElem_append_left q]
    simp [List.getD, List.getElem?_eq_getElem q]
  · rw [List.getElem_append_right (by omega), List.getElem_replicate]
    simp [List.getD, List.getElem?_eq_none (by omega : (kk key).length ≤ i)]
theorem tn_lt {l : List Nat} (h : ∀ x ∈ l, x < 256) (b : Nat) (hb : b < 256) : ∀ x ∈ tn l b, x < 256 := by
  intro x hx
  obtain ⟨y, hy, rfl⟩ := List.mem_map.1 hx
  exact Nat.xor_lt_two_pow (n := 8) (h y hy) hb
/-- The first k turned. -/
def tk (l : List Nat) (b k : Nat) : List Nat := tn (l.take k) b ++ l.drop k
theorem tk_length (l : List Nat) (b k : Nat) : (tk l b k).length = l.length := by
  unfold tk tn
  rw [List.length_append, List.length_map, List.length_take, List.length_drop]
  omega
theorem tk_zero (l : List Nat) (b : Nat) : tk l b 0 = l := by simp [tk, tn]
theorem tk_all (l : List Nat) (b : Nat) : tk l b l.length = tn l b := by simp [tk]
theorem tk_get (l : List Nat) (b k : Nat) (h : k < l.length) : (tk l b k).getD k 0 = l.getD k 0 := by
  unfold tk tn
  have e : ((l.take k).map fun x => x ^^^ b).length = k := by rw [List.length_map, List.length_take]; omega
  simp only [List.getD]
  rw [List.getElem?_append_right (by omega), e, Nat.sub_self, List.getElem?_drop, Nat.add_zero]
theorem tk_succ (l : List Nat) (b k : Nat) (h : k < l.length) : (tk l b k).set k (l.getD k 0 ^^^ b) = tk l b (k + 1) := by
  unfold tk tn
  have e : ((l.take k).map fun x => x ^^^ b).length = k := by rw [List.length_map, List.length_take]; omega
  rw [List.set_append_right _ _ (by omega), e, Nat.sub_self, List.take_succ_eq_append_getElem h, List.map_append, List.append_assoc]
  rw [List.drop_eq_getElem_cons h, List.set_cons_zero]
  simp [List.getD, List.getElem?_eq_getElem h]
set_option maxHeartbeats 4000000 in
set_option maxRecDepth 100000 in
theorem behind_ok (K : List Nat) (b : Nat) (s : ByteArray) (w : World) (tab : Tab w) (hK : K.length = 64) (hlt : ∀ x ∈ K, x < 256) (hb : b < 256) (hs : s.size < 1099511627000) (hs2 : s.size + 64 < 549755813888) :
    Calls Tryz.prog 264 #[.agg (nv .u8 K).toArray, .int .u8 (b : Int), .string s] w fun e w' => e = .returned (.string (bstr (dig (tn K b ++ nb s)))) ∧ Below w.heap.size w w' := by
  obtain ⟨D, hD⟩ : ∃ D, D = bstr (dig (tn K b ++ nb s)) := ⟨_, rfl⟩
  rw [← hD]
  replace hD : Hid _ := hD
  have NW : Hid (∀ w, Tab w → _) := new_b
  have hl := nb_length s
  replace hl : Hid _ := hl
  have htl : Hid ((tn K b).length = 64) := by unfold Hid tn; rw [List.length_map, hK]
  go_enter Tryz.func264, Tryz.ntmps264
  go_wp2
  go_loopw [9] (fun i wr => ∃ k : Nat, k ≤ 64 ∧ i = .int .i64 k ∧ Hid (At .u8 wr w.heap.size 0 (tk K b k)) ∧ Hid (Below w.heap.size w wr)) (fun i _ => 64 - (intOf i).toNat)
  case atStart => exact ⟨0, Nat.zero_le _, rfl, by rw [tk_zero]; exact At.new .u8 w K _, (Below.refl _ _).alloc (Nat.le_refl _) _⟩
  case round =>
    obtain ⟨k, hk, rfl, X, bel⟩ := hrel
    by_cases h64 : k < 64
    · have g1 : decide ((k : Int) < 64) = true := decide_eq_true (by omega)
      have hkl : k < (tk K b k).length := by rw [tk_length, hK]; exact h64
      have c0 := X.out.cell0 k hkl
      have f0 := X.out.free0 k hkl
      have hy := tk_get K b k (by omega)
      have hx := xor8 (K.getD k 0) b (byte_lt hlt k) hb
      rw [hy] at c0
      have X2 : Hid (At .u8 (wr.setCell ⟨w.heap.size, k, none⟩ (.int .u8 ((K.getD k 0 ^^^ b : Nat) : Int))) w.heap.size 0 (tk K b (k + 1))) := by
        have := X.out.put k hkl (K.getD k 0 ^^^ b)
        rw [tk_succ K b k (by omega), Nat.zero_add] at this
        exact this
      have Z2 : Hid (Below w.heap.size w (wr.setCell ⟨w.heap.size, k, none⟩ (.int .u8 ((K.getD k 0 ^^^ b : Nat) : Int)))) := bel.out.setCell (p := ⟨w.heap.size, k, none⟩) (Nat.le_refl _) _
      have ia := fun w' => at_arr w.heap.size 0 64 k w' 328 5 Tryz.underlying328 Tryz.sizeOf5 h64 (k : Int) rfl k (by omega)
      clear X bel hkl hy
      generalize K.getD k 0 ^^^ b = y at *
      generalize K.getD k 0 = x at *
      go_wp2
      go_roundw
      case rel => exact ⟨k + 1, by omega, by go_num, X2, Z2⟩
      case measure => simp [intOf]; omega
    · have ek : (k : Int) = 64 := by omega
      rw [ek]
      clear ek
      obtain rfl : k = 64 := by omega
      have Y : Hid (At .u8 wr w.heap.size 0 (tn K b)) := by
        have := X.out
        rw [← hK, tk_all] at this
        exact this
      have hsl := fun w' => slice_all w.heap.size 0 64 w' 328 5 Tryz.underlying328 Tryz.sizeOf5
      have T0 : Hid (Tab wr) := tab.keep bel.out
      have htn : Hid (nb (bstr (tn K b)) = tn K b) := nb_bstr (tn_lt hlt b hb)
      clear X
      go_wp2_with fail
      refine (NW.out _ T0.out).mono ?_
      rintro e w1 ⟨B, r, rfl, h1, hB, b1⟩
      have hBl : w.heap.size < B := Nat.lt_of_lt_of_le (Y.out.lt (by rw [htl.out]; decide)) hB
      have Y1 := Y.out.keep (Y.out.lt (by rw [htl.out]; decide)) b1
      have hcv := Y1.str 64 64 htl.out.symm
      have Z1 : Hid (Below w.heap.size w w1) := bel.out.trans (b1.mono bel.out.size)
      have W1 : Hid (∀ _ : Unit, _) := fun _ => wr_ok (bstr (tn K b)) B [] r w1 (tab.keep Z1.out) h1 (by rw [bstr_size, htl.out]; decide)
      rw [htn.out, List.nil_append] at W1
      clear h1 b1 NW Y Y1 T0 bel
      go_wp2_with fail
      refine (W1.out ()).mono ?_
      rintro e w2 ⟨rfl, r2, h2, s2⟩
      have Z2 : Hid (Below w.heap.size w w2) := Z1.out.trans (s2.below Z1.out.size (fun k hk => by omega))
      have W2 : Hid (∀ _ : Unit, _) := fun _ => wr_ok s B (tn K b) r2 w2 (tab.keep Z2.out) h2 (by rw [htl.out]; omega)
      clear h2 s2 W1 Z1 hcv hsl
      go_wp2_with fail
      refine (W2.out ()).mono ?_
      rintro e w3 ⟨rfl, r3, h3, s3⟩
      have Z3 : Hid (Below w.heap.size w w3) := Z2.out.trans (s3.below Z2.out.size (fun k hk => by omega))
      have S3 : Hid (∀ _ : Unit, _) := fun _ => hs_ok B (tn K b ++ nb s) r3 w3 (tab.keep Z3.out) h3 (by rw [List.length_append, htl.out, hl.out]; omega)
      rw [← hD.out] at S3
      clear h3 s3 W2 Z2
      go_wp2_with fail
      refine (S3.out ()).mono ?_
      rintro e w4 ⟨rfl, _, b4⟩
      have Z4 : Hid (Below w.heap.size w w4) := Z3.out.trans (b4.mono Z3.out.size)
      clear b4 S3 Z3
      go_wp2_with fail
      go_ret
      exact ⟨rfl, Z4.out⟩
/-- A key's bytes copied into sixty-four bytes 0. -/
theorem at_copy {w : World} {B : Nat} (h : At .u8 w B 0 (List.replicate 64 0)) (l : List Nat) (hl : l.length ≤ 64) : At .u8 (w.setCells B 0 (nv .u8 l)) B 0 (l ++ List.replicate (64 - l.length) 0) := by
  have e : List.replicate 64 0 = List.replicate l.length 0 ++ List.replicate (64 - l.length) 0 := by rw [List.replicate_append_replicate]; congr 1; omega
  rw [e] at h
  have h1 := h.left.store l (by rw [List.length_replicate])
  have h2 := h.right.apart B 0 (nv .u8 l) (.inr (.inr (by rw [nv_length, List.length_replicate]; omega)))
  rw [List.length_replicate] at h2
  exact h1.join h2
theorem kk_short (key : List Nat) (h : key.length ≤ 64) : kk key = key := if_neg (by omega)
theorem kk_long (key : List Nat) (h : 64 < key.length) : kk key = dig key := if_pos h
set_option maxHeartbeats 4000000 in
set_option maxRecDepth 100000 in
theorem keyBlock_ok (key : ByteArray) (w : World) (tab : Tab w) (hs : key.size < 549755813888) :
    Calls Tryz.prog 263 #[.string key] w fun e w' => e = .returned (.agg (nv .u8 (k64 (nb key))).toArray) ∧ Below w.heap.size w w' := by
  obtain ⟨EE, hEE⟩ : ∃ EE, EE = k64 (nb key) := ⟨_, rfl⟩
  rw [← hEE]
  have hEl : Hid (EE.length = 64) := by unfold Hid; rw [hEE, k64_length]
  replace hEE : Hid _ := hEE
  have i41 : Hid ((Tryz.prog.info? 328).map (·.size) = some 64) := by unfold Hid; kernel_rfl
  have SU : Hid (∀ w, Tab w → _) := fun w t => sum_ok key w t hs
  have R0 : Hid (At .u8 (w.alloc (.cells (nv .u8 (List.replicate 64 0)).toArray 328)) w.heap.size 0 (List.replicate 64 0)) := At.new .u8 w _ _
  have Z0 : Hid (Below w.heap.size w (w.alloc (.cells (nv .u8 (List.replicate 64 0)).toArray 328))) := (Below.refl _ _).alloc (Nat.le_refl _) _
  by_cases hk : 64 < key.size
  · have g1 : decide ((64 : Int) < (key.size : Int)) = true := decide_eq_true (by omega)
    obtain ⟨K, hKK⟩ : ∃ K, K = bstr (dig (nb key)) := ⟨_, rfl⟩
    have hKs : K.size = 32 := by rw [hKK, bstr_size, dig_length]
    have hnk : kk (nb key) = nb K := by rw [kk_long _ (by rw [nb_length]; exact hk), hKK, nb_bstr (dig_lt _)]
    rw [← hKK] at SU
    clear hKK
    replace hnk : Hid _ := hnk
    go_enter Tryz.func263, Tryz.ntmps263
    go_wp2_with (go_at_call 300; refine (SU.out _ (tab.keep Z0.out)).mono ?_; rintro e w1 ⟨rfl, b1⟩; refine Hid.out ?_)
    refine Lib.hid ?_
    have RR : Hid (At .u8 w1 w.heap.size 0 (List.replicate 64 0)) := R0.out.keep (R0.out.lt (by decide)) b1
    have ZZ : Hid (Below w.heap.size w w1) := Z0.out.trans (b1.mono Z0.out.size)
    clear b1 R0 Z0 SU
    have R0 := RR
    have Z0 := ZZ
    clear RR ZZ
    have hN : Hid (w1.heap.size = w1.heap.size) := rfl
    have X0 : Hid (At .u8 (w1.alloc (.cells (nv .u8 (List.replicate 64 0)).toArray 328)) (w1.heap.size) 0 (List.replicate 64 0)) := by
      have := At.new .u8 w1 (List.replicate 64 0) 328
      rw [hN.out] at this
      exact this
    have hn : K.size = min K.size 64 := by omega
    have hth : Hid ((w1.alloc (.cells (nv .u8 (List.replicate 64 0)).toArray 328)).there (w1.heap.size) 0 K.size) := fun j hj => X0.out.t j (by rw [List.length_replicate]; omega)
    have hsl := fun w' => slice_all (w1.heap.size) 0 64 w' 328 5 Tryz.underlying328 Tryz.sizeOf5
    have htk : (nb K).take K.size = nb K := List.take_of_length_le (by rw [nb_length]; omega)
    have hCP : Hid (∀ (ops : Array Oper) (rest : List Oper) (op : Oper) (a : Act) (Q : Exit → Act → World → Prop) (d x : Operand), op.guard = none → op.op = Op.call { callee := Callee.builtin Builtin.copy, args := #[d, x], argTypes := #[129, 9] } → a.eval d = .slice (some ⟨w1.heap.size, 0, none⟩) 64 64 → a.eval x = .string K → wpList Tryz.prog ops Q rest (a.put op.dst (.int .i64 (K.size : Int))) ((w1.alloc (.cells (nv .u8 (List.replicate 64 0)).toArray 328)).setCells (w1.heap.size) 0 (nv .u8 (nb K))) → wpList Tryz.prog ops Q (op :: rest) a (w1.alloc (.cells (nv .u8 (List.replicate 64 0)).toArray 328))) :=
      fun ops rest op a Q d x h1 h2 h3 h4 h5 => wpl_copy 129 9 5 (w1.heap.size) 0 64 64 K K.size hn Tryz.underlying129 Tryz.sizeOf5 hth.out h1 h2 h3 h4 (by rw [htk]; exact h5)
    have hlk : (nb K).length ≤ 64 := by rw [nb_length]; omega
    have X1 : Hid (At .u8 ((w1.alloc (.cells (nv .u8 (List.replicate 64 0)).toArray 328)).setCells (w1.heap.size) 0 (nv .u8 (nb K))) (w1.heap.size) 0 EE) := by
      have := at_copy X0.out (nb K) hlk
      rw [hEE.out]
      unfold k64
      rw [hnk.out]
      exact this
    have bb : Below w1.heap.size w1 ((w1.alloc (.cells (nv .u8 (List.replicate 64 0)).toArray 328)).setCells (w1.heap.size) 0 (nv .u8 (nb K))) := below_cells ((Below.refl _ _).alloc (Nat.le_refl _) _) (by rw [hN.out]; exact Nat.le_refl _) _ _
    have R1 : Hid (At .u8 ((w1.alloc (.cells (nv .u8 (List.replicate 64 0)).toArray 328)).setCells (w1.heap.size) 0 (nv .u8 (nb K))) w.heap.size 0 (List.replicate 64 0)) := R0.out.keep (R0.out.lt (by decide)) bb
    have Z1 : Hid (Below w.heap.size w ((w1.alloc (.cells (nv .u8 (List.replicate 64 0)).toArray 328)).setCells (w1.heap.size) 0 (nv .u8 (nb K)))) := Z0.out.trans (bb.mono Z0.out.size)
    clear X0 hn hth htk hlk bb R0 Z0
    go_wp2_with (first
      | (refine hCP.out _ _ _ _ _ _ _ rfl rfl rfl rfl ?_)
      | (refine X1.out.wload (t := 328) Tryz.underlying328 (by rw [hEl.out]; exact i41.out) rfl rfl rfl ?_)
      | (refine R1.out.wstore EE (by rw [hEl.out, List.length_replicate]) (t := 328) (by rw [List.length_replicate]; exact i41.out) rfl rfl rfl rfl rfl ?_))
    have RA := R1.out.store EE (by rw [hEl.out, List.length_replicate])
    refine RA.ret (ty := 328) Tryz.underlying328 (by rw [hEl.out]; exact i41.out) rfl rfl rfl ⟨rfl, ?_⟩
    exact below_cells Z1.out (Nat.le_refl _) _ _
  · have g1 : decide ((64 : Int) < (key.size : Int)) = false := decide_eq_false (by omega)
    have hnk : Hid (kk (nb key) = nb key) := kk_short _ (by rw [nb_length]; omega)
    clear SU
    have hN : Hid ((w.alloc (.cells (nv .u8 (List.replicate 64 0)).toArray 328)).heap.size = w.heap.size + 1) := World.size_alloc ..
    have X0 : Hid (At .u8 ((w.alloc (.cells (nv .u8 (List.replicate 64 0)).toArray 328)).alloc (.cells (nv .u8 (List.replicate 64 0)).toArray 328)) (w.heap.size + 1) 0 (List.replicate 64 0)) := by
      have := At.new .u8 (w.alloc (.cells (nv .u8 (List.replicate 64 0)).toArray 328)) (List.replicate 64 0) 328
      rw [hN.out] at this
      exact this
    have hn : key.size = min key.size 64 := by omega
    have hth : Hid (((w.alloc (.cells (nv .u8 (List.replicate 64 0)).toArray 328)).alloc (.cells (nv .u8 (List.replicate 64 0)).toArray 328)).there (w.heap.size + 1) 0 key.size) := fun j hj => X0.out.t j (by rw [List.length_replicate]; omega)
    have hsl := fun w' => slice_all (w.heap.size + 1) 0 64 w' 328 5 Tryz.underlying328 Tryz.sizeOf5
    have htk : (nb key).take key.size = nb key := List.take_of_length_le (by rw [nb_length]; omega)
    have hCP : Hid (∀ (ops : Array Oper) (rest : List Oper) (op : Oper) (a : Act) (Q : Exit → Act → World → Prop) (d x : Operand), op.guard = none → op.op = Op.call { callee := Callee.builtin Builtin.copy, args := #[d, x], argTypes := #[129, 9] } → a.eval d = .slice (some ⟨w.heap.size + 1, 0, none⟩) 64 64 → a.eval x = .string key → wpList Tryz.prog ops Q rest (a.put op.dst (.int .i64 (key.size : Int))) (((w.alloc (.cells (nv .u8 (List.replicate 64 0)).toArray 328)).alloc (.cells (nv .u8 (List.replicate 64 0)).toArray 328)).setCells (w.heap.size + 1) 0 (nv .u8 (nb key))) → wpList Tryz.prog ops Q (op :: rest) a ((w.alloc (.cells (nv .u8 (List.replicate 64 0)).toArray 328)).alloc (.cells (nv .u8 (List.replicate 64 0)).toArray 328))) :=
      fun ops rest op a Q d x h1 h2 h3 h4 h5 => wpl_copy 129 9 5 (w.heap.size + 1) 0 64 64 key key.size hn Tryz.underlying129 Tryz.sizeOf5 hth.out h1 h2 h3 h4 (by rw [htk]; exact h5)
    have hlk : (nb key).length ≤ 64 := by rw [nb_length]; omega
    have X1 : Hid (At .u8 (((w.alloc (.cells (nv .u8 (List.replicate 64 0)).toArray 328)).alloc (.cells (nv .u8 (List.replicate 64 0)).toArray 328)).setCells (w.heap.size + 1) 0 (nv .u8 (nb key))) (w.heap.size + 1) 0 EE) := by
      have := at_copy X0.out (nb key) hlk
      rw [hEE.out]
      unfold k64
      rw [hnk.out]
      exact this
    have bb : Below (w.alloc (.cells (nv .u8 (List.replicate 64 0)).toArray 328)).heap.size (w.alloc (.cells (nv .u8 (List.replicate 64 0)).toArray 328)) (((w.alloc (.cells (nv .u8 (List.replicate 64 0)).toArray 328)).alloc (.cells (nv .u8 (List.replicate 64 0)).toArray 328)).setCells (w.heap.size + 1) 0 (nv .u8 (nb key))) := below_cells ((Below.refl _ _).alloc (Nat.le_refl _) _) (by rw [hN.out]; exact Nat.le_refl _) _ _
    have R1 : Hid (At .u8 (((w.alloc (.cells (nv .u8 (List.replicate 64 0)).toArray 328)).alloc (.cells (nv .u8 (List.replicate 64 0)).toArray 328)).setCells (w.heap.size + 1) 0 (nv .u8 (nb key))) w.heap.size 0 (List.replicate 64 0)) := R0.out.keep (R0.out.lt (by decide)) bb
    have Z1 : Hid (Below w.heap.size w (((w.alloc (.cells (nv .u8 (List.replicate 64 0)).toArray 328)).alloc (.cells (nv .u8 (List.replicate 64 0)).toArray 328)).setCells (w.heap.size + 1) 0 (nv .u8 (nb key)))) := Z0.out.trans (bb.mono Z0.out.size)
    clear X0 hn hth htk hlk bb R0 Z0
    go_enter Tryz.func263, Tryz.ntmps263
    go_wp2_with (first
      | (refine hCP.out _ _ _ _ _ _ _ rfl rfl rfl rfl ?_)
      | (refine X1.out.wload (t := 328) Tryz.underlying328 (by rw [hEl.out]; exact i41.out) rfl rfl rfl ?_)
      | (refine R1.out.wstore EE (by rw [hEl.out, List.length_replicate]) (t := 328) (by rw [List.length_replicate]; exact i41.out) rfl rfl rfl rfl rfl ?_))
    have RA := R1.out.store EE (by rw [hEl.out, List.length_replicate])
    refine RA.ret (ty := 328) Tryz.underlying328 (by rw [hEl.out]; exact i41.out) rfl rfl rfl ⟨rfl, ?_⟩
    exact below_cells Z1.out (Nat.le_refl _) _ _
set_option maxHeartbeats 4000000 in
set_option maxRecDepth 100000 in
theorem hmac_ok (key s : ByteArray) (w : World) (tab : Tab w) (hk : key.size < 549755813888) (hs : s.size < 549755813000) :
    Calls Tryz.prog 207 #[.string key, .string s] w fun e w' => e = .returned (.string (bstr (hm (nb key) (nb s)))) ∧ Below w.heap.size w w' := by
  obtain ⟨D, hD⟩ : ∃ D, D = bstr (hm (nb key) (nb s)) := ⟨_, rfl⟩
  rw [← hD]
  have KB : Hid (∀ w, Tab w → _) := fun w t => keyBlock_ok key w t hk
  have hKl : Hid ((k64 (nb key)).length = 64) := k64_length _
  have h256 := k64_lt (nb_lt key)
  have hin : Hid (nb (bstr (dig (tn (k64 (nb key)) 54 ++ nb s))) = dig (tn (k64 (nb key)) 54 ++ nb s)) := nb_bstr (dig_lt _)
  have hsz : Hid ((bstr (dig (tn (k64 (nb key)) 54 ++ nb s))).size = 32) := by unfold Hid; rw [bstr_size, dig_length]
  have B1 : Hid (∀ w, Tab w → _) := fun w t => behind_ok (k64 (nb key)) 54 s w t hKl.out h256 (by decide) (by omega) (by omega)
  have B2 : Hid (∀ w, Tab w → _) := fun w t => behind_ok (k64 (nb key)) 92 (bstr (dig (tn (k64 (nb key)) 54 ++ nb s))) w t hKl.out h256 (by decide) (by rw [hsz.out]; decide) (by rw [hsz.out]; decide)
  have hfin : bstr (dig (tn (k64 (nb key)) 92 ++ nb (bstr (dig (tn (k64 (nb key)) 54 ++ nb s))))) = D := by
    rw [hD, hin.out, tn_k64, tn_k64]
    rfl
  rw [hfin] at B2
  clear hfin hin hsz hD
  generalize bstr (dig (tn (k64 (nb key)) 54 ++ nb s)) = I at *
  generalize k64 (nb key) = K at *
  have i41 : Hid ((Tryz.prog.info? 328).map (·.size) = some 64) := by unfold Hid; kernel_rfl
  go_enter Tryz.func207, Tryz.ntmps207
  go_wp2_with (go_at_call 263; refine (KB.out _ tab).mono ?_; rintro e w1 ⟨rfl, b1⟩; refine Hid.out ?_)
  refine Lib.hid ?_
  have X1 : Hid (At .u8 (w1.alloc (.cells (nv .u8 (List.replicate 64 0)).toArray 328)) w1.heap.size 0 (List.replicate 64 0)) := At.new .u8 w1 _ _
  have Z1 : Hid (Below w.heap.size w w1) := b1
  have bb : Below w1.heap.size w1 ((w1.alloc (.cells (nv .u8 (List.replicate 64 0)).toArray 328)).setCells w1.heap.size 0 (nv .u8 K)) := below_cells ((Below.refl _ _).alloc (Nat.le_refl _) _) (Nat.le_refl _) _ _
  have X2 : Hid (At .u8 ((w1.alloc (.cells (nv .u8 (List.replicate 64 0)).toArray 328)).setCells w1.heap.size 0 (nv .u8 K)) w1.heap.size 0 K) := X1.out.store K (by rw [hKl.out, List.length_replicate])
  have Z2 : Hid (Below w.heap.size w ((w1.alloc (.cells (nv .u8 (List.replicate 64 0)).toArray 328)).setCells w1.heap.size 0 (nv .u8 K))) := Z1.out.trans (bb.mono Z1.out.size)
  clear b1 bb KB
  go_wp2_with (first
    | (refine X1.out.wstore K (by rw [hKl.out, List.length_replicate]) (t := 328) (by rw [List.length_replicate]; exact i41.out) rfl rfl rfl rfl rfl (Hid.out ?_)))
  refine Lib.hid ?_
  obtain ⟨w2, hw2⟩ : ∃ w2, w2 = ((w1.alloc (.cells (nv .u8 (List.replicate 64 0)).toArray 328)).setCells w1.heap.size 0 (nv .u8 K)) := ⟨_, rfl⟩
  rw [← hw2] at X2 Z2
  rw [← hw2]
  clear hw2 X1 Z1
  have T2 : Hid (Tab w2) := tab.keep Z2.out
  generalize w1.heap.size = C at *
  go_wp2_with (first
    | (refine X2.out.wload (t := 328) Tryz.underlying328 (by rw [hKl.out]; exact i41.out) rfl rfl rfl ?_)
    | (go_at_call 264; refine (B1.out _ T2.out).mono ?_; rintro e w3 ⟨rfl, b3⟩; refine Hid.out ?_))
  refine Lib.hid ?_
  have X3 : Hid (At .u8 w3 C 0 K) := X2.out.keep (X2.out.lt (by rw [hKl.out]; decide)) b3
  have Z3 : Hid (Below w.heap.size w w3) := Z2.out.trans (b3.mono Z2.out.size)
  have T3 : Hid (Tab w3) := tab.keep Z3.out
  clear b3 X2 Z2 T2 B1
  go_wp2_with (first
    | (refine X3.out.wload (t := 328) Tryz.underlying328 (by rw [hKl.out]; exact i41.out) rfl rfl rfl ?_)
    | (go_at_call 264; refine (B2.out _ T3.out).mono ?_; rintro e w4 ⟨rfl, b4⟩; refine Hid.out ?_))
  refine Lib.hid ?_
  have Z4 : Hid (Below w.heap.size w w4) := Z3.out.trans (b4.mono Z3.out.size)
  clear b4 X3 Z3 T3 B2
  go_wp2_with fail
  go_ret
  exact ⟨rfl, Z4.out⟩
set_option maxHeartbeats 1000000 in
theorem derive_ok (key label context : ByteArray) (w : World) (tab : Tab w) (vt : VTab w) (h1 : key.size < 549755813000) (h2 : label.size < 137438953472) (h3 : context.size < 137438953472) :
    Calls Tryz.prog 146 #[.string key, .string label, .string context] w fun e w' => e = .returned (.string (der key label context)) ∧ Below w.heap.size w w' := by
  have A : Hid (∀ w, VTab w → _) := fun w t => vtext_ok label w t (by omega)
  have B : Hid (∀ w, VTab w → _) := fun w t => vtext_ok context w t (by omega)
  have za := vtx_size label (by omega)
  have zb := vtx_size context (by omega)
  have H : Hid (∀ w, Tab w → _) := fun w t => hmac_ok key (vtx label ++ vtx context) w t (by omega) (by rw [ByteArray.size_append]; omega)
  unfold der
  generalize bstr (hm (nb key) (nb (vtx label ++ vtx context))) = R at *
  generalize vtx label = X at *
  generalize vtx context = Y at *
  go_enter Tryz.func146, Tryz.ntmps146
  go_wp2_with fail
  refine (A.out _ vt).mono ?_
  rintro e w1 ⟨rfl, b1⟩
  have Z1 : Hid (Below w.heap.size w w1) := b1
  clear b1 A
  go_wp2_with fail
  refine (B.out _ (vt.below Z1.out)).mono ?_
  rintro e w2 ⟨rfl, b2⟩
  have Z2 : Hid (Below w.heap.size w w2) := Z1.out.trans (b2.mono Z1.out.size)
  clear b2 B Z1
  go_wp2_with fail
  refine (H.out _ (tab.keep Z2.out)).mono ?_
  rintro e w3 ⟨rfl, b3⟩
  have Z3 : Hid (Below w.heap.size w w3) := Z2.out.trans (b3.mono Z2.out.size)
  clear b3 H Z2
  go_wp2_with fail
  go_ret
  exact ⟨rfl, Z3.out⟩
end Go.Proofs.YtbicfhilehllnaaGreatDoor
