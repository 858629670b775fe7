/-
  The law SealBytes returns true for every secret, number, data, what goes on, place and byte: of data that goes on the hidden bytes of its beginning are the same, each byte hides its own place alone, and 16 bytes more come. No condition but the form's own reach.
-/
import Derived.Test.YteajkegokaggcaaDoorSeWorks
import Derived.Test.YteajkegokaggcaaDoorSeTurn
import Derived.BigQuiet
import Derived.Test.YteajkegokaggcaaDoorSeTab
import Derived.Test.YteajkegokaggcaaDoorShOpen
import Derived.LaidLaws
namespace Go.Proofs.YteajkegokaggcaaDoor.sealBytes
set_option maxRecDepth 100000
open Go.ChangeShapes Go.WideShapes Go.ChangeAt Go.RowKit Go.Sort
open Go.ChangeMaps (open_string shut_string)

theorem some_bytes6 (a : ByteArray) (h : 0 < a.size) : a.toList.isEmpty = false := by
  rw [ByteArray.toList_eq]
  cases e : a.data.toList with
  | nil => have : a.data.toList.length = a.size := by simp
           rw [e] at this; simp at this; omega
  | cons x l => rfl

theorem w64 (n : Int) (h : 0 ≤ n ∧ n < 9223372036854775808) : wrap64 n = n := by unfold wrap64; omega
theorem place (a : Int) (c : Int) (hc : 0 < c) (hc2 : c < 4611686018427387904) : ∃ x : Nat, wrap64 ((IntKind.u64.wrap a).tmod c) = x ∧ (x : Int) < c := by
  have h : 0 ≤ IntKind.u64.wrap a := by rw [IntKind.wrap_u64]; omega
  rw [Int.tmod_eq_emod_of_nonneg h]
  have h1 := Int.emod_nonneg (IntKind.u64.wrap a) (by omega : c ≠ 0)
  have h2 := Int.emod_lt_of_pos (IntKind.u64.wrap a) hc
  refine ⟨(IntKind.u64.wrap a % c).toNat, ?_, by omega⟩
  rw [w64 _ (by omega)]
  omega
theorem nb_sld (secret : ByteArray) (n : Int) (head d : ByteArray) : nb (sld secret n head d) = hide secret n (nb d) ++ tagl secret n head (hide secret n (nb d)) := by
  rw [sld_bstr, nb_bstr fun x hx => (List.mem_append.1 hx).elim (hide_lt _ _ (nb_lt d) x) (tagl_lt _ _ _ _ x)]
theorem sld_front (secret : ByteArray) (n : Int) (head d : ByteArray) (k : Nat) (hk : k ≤ d.size) : (sld secret n head d).extract 0 k = bstr ((hide secret n (nb d)).take k) := by
  rw [← bstr_nb ((sld secret n head d).extract 0 k)]
  have e := nb_extract (nb (sld secret n head d)) 0 k (nb_lt _)
  rw [bstr_nb] at e
  rw [e, List.drop_zero, Nat.sub_zero, nb_sld, List.take_append_of_le_length (by rw [hide_length, nb_length]; exact hk)]
theorem sld_get (secret : ByteArray) (n : Int) (head d : ByteArray) (j : Nat) (hj : j < d.size) (h : j < (sld secret n head d).size) : (((sld secret n head d)[j].toNat : Nat) : Int) = (((hide secret n (nb d)).getD j 0 : Nat) : Int) := by
  rw [nb_get _ _ h, nb_sld]
  have hj' : j < (hide secret n (nb d)).length := by rw [hide_length, nb_length]; exact hj
  simp [List.getD, List.getElem?_append_left hj']
theorem same_front (secret : ByteArray) (n : Int) (head d m : ByteArray) : (sld secret n head (d ++ m)).extract 0 d.size = bstr (hide secret n (nb d)) := by
  rw [sld_front _ _ _ _ _ (by rw [ByteArray.size_append]; omega), nb_append, ← nb_length d, hide_app]
theorem own_front (secret : ByteArray) (n : Int) (head d : ByteArray) : (sld secret n head d).extract 0 d.size = bstr (hide secret n (nb d)) := by
  rw [sld_front _ _ _ _ _ (Nat.le_refl _), List.take_of_length_le (by rw [hide_length, nb_length]; exact Nat.le_refl _)]

set_option maxHeartbeats 8000000 in
set_option maxRecDepth 100000 in
theorem walk_in (secret : ByteArray) (n : Int) (data more : ByteArray) (at_ : Int) (y : Nat) (w : World) (t : STab w) (h1 : secret.size ≤ 300) (h2 : data.size ≤ 300) (h3 : more.size ≤ 300) (hy : y < 256) (N : Nat) (hN : Hid (N = data.size)) (hN0 : 0 < N)
    (k : Nat) (ek : wrap64 ((IntKind.u64.wrap at_).tmod (N : Int)) = k) (hk : k < N) :
    Calls Tryd.prog 6 #[.string secret, .int .i64 n, .string data, .string more, .int .i64 at_, .int .u8 (y : Int)] w fun e w' => e = .returned (.bool true) ∧ Below w.heap.size w w' := by
  have WO : Hid (∀ w, STab w → _) := works_ok
  have zN : data.size = N := hN.out.symm
  have q1 : decide ((300 : Int) < (secret.size : Int)) = false := decide_eq_false (by omega)
  have q2 : decide ((300 : Int) < (N : Int)) = false := decide_eq_false (by omega)
  have q3 : decide ((300 : Int) < (more.size : Int)) = false := decide_eq_false (by omega)
  have q4 : ((N : Int) == 0) = false := by simp; omega
  have hun : IntKind.u64.wrap (N : Int) = N := by simp [IntKind.wrap, IntKind.bits, IntKind.signed]; omega
  have hun0 : ¬ (N : Int) = 0 := by omega
  have hDM : (data ++ more).size = N + more.size := by rw [ByteArray.size_append, zN]
  have NW : Hid (∀ w', Below w.heap.size w w' → _) := fun w' b => sinv_new secret w w' b t
  have SA : Hid (∀ w' v, SInv w w' v secret 0 0 → _) := fun w' v h => sinv_seal t n ⟨#[]⟩ data h (by omega) (by decide) (by omega) (by decide) (by decide)
  have SB : Hid (∀ w' v, SInv w w' v secret 1 0 → _) := fun w' v h => sinv_seal t n ⟨#[]⟩ (data ++ more) h (by omega) (by decide) (by omega) (by decide) (by decide)
  have SD : Hid (∀ w' v, SInv w w' v secret 2 0 → _) := fun w' v h => sinv_seal t n ⟨#[]⟩ (trn data k y) h (by omega) (by decide) (by rw [trn_size]; omega) (by decide) (by decide)
  have eA := own_front secret n ⟨#[]⟩ data
  have eB := same_front secret n ⟨#[]⟩ data more
  have sA := sld_size secret n ⟨#[]⟩ data
  have sB := sld_size secret n ⟨#[]⟩ (data ++ more)
  have sD := sld_size secret n ⟨#[]⟩ (trn data k y)
  rw [trn_size, zN] at sD
  rw [zN] at eA eB sA
  rw [hDM] at sB
  have gA : Hid (∀ j, j < N → ∀ h : j < (sld secret n ⟨#[]⟩ data).size, (((sld secret n ⟨#[]⟩ data)[j].toNat : Nat) : Int) = (((hide secret n (nb data)).getD j 0 : Nat) : Int)) := fun j hj h => sld_get _ _ _ _ _ (by omega) h
  have gD : Hid (∀ j, j < N → ∀ h : j < (sld secret n ⟨#[]⟩ (trn data k y)).size, (((sld secret n ⟨#[]⟩ (trn data k y))[j].toNat : Nat) : Int) = (((if j = k then (hide secret n (nb data)).getD j 0 ^^^ y else (hide secret n (nb data)).getD j 0) : Nat) : Int)) := fun j hj h => by
    rw [sld_get _ _ _ _ _ (by rw [trn_size]; omega) h]
    unfold trn
    rw [nb_bstr (trn_lt data k y hy), hide_turn _ _ _ _ _ _ (by rw [nb_length]; omega) (by rw [nb_length]; omega)]
  have hx256 : Hid (∀ j, (hide secret n (nb data)).getD j 0 < 256) := fun j => get_lt (hide_lt _ _ (nb_lt data)) j
  have hT : Hid (trn data k y = bstr ((nb data).set k ((nb data).getD k 0 ^^^ y))) := rfl
  generalize hide secret n (nb data) = HH at *
  generalize bstr HH = PP at *
  generalize sld secret n ⟨#[]⟩ data = A at *
  generalize sld secret n ⟨#[]⟩ (data ++ more) = BB at *
  generalize sld secret n ⟨#[]⟩ (trn data k y) = DD at *
  have cv := fun w => tb_conv w data
  rw [zN] at cv
  have hem := some_bytes6 data (by omega)
  go_enter Tryd.func6, Tryd.ntmps6
  go_wp2_with fail
  refine (WO.out _ t).mono ?_
  rintro e w1 ⟨rfl, b1⟩
  have Z1 := Lib.hid b1
  clear b1 WO
  go_wp2_with fail
  refine (NW.out _ Z1.out).mono ?_
  rintro e w2 ⟨p, rfl, n2⟩
  have N2 := Lib.hid n2
  clear NW n2 Z1
  go_wp2_with fail
  refine (SA.out _ _ N2.out).mono ?_
  rintro e w3 ⟨rfl, n3⟩
  have N3 := Lib.hid n3
  clear SA n3 N2
  go_wp2_with fail
  refine (SB.out _ _ N3.out).mono ?_
  rintro e w4 ⟨rfl, n4⟩
  have N4 := Lib.hid n4
  clear SB n4 N3
  go_wp2_with fail
  go_quiet (fail)
  have N5 := Lib.hid (N4.out.keep t (w' := w4.drewN nq) ⟨rfl, rfl, rfl, Nat.le_refl _, fun _ _ => rfl⟩)
  clear N4
  generalize w4.drewN nq = w5 at *
  have A3 : At .u8 (Lib.bytesWorld w5 5 data) w5.heap.size 0 (nb data) := tb_at w5 data
  have hkl : k < (nb data).length := by rw [nb_length, zN]; exact hk
  have c0 := A3.cell0 k hkl
  have f0 := A3.free0 k hkl
  have hxx := xor8 ((nb data).getD k 0) y (get_lt (nb_lt data) k) hy
  obtain ⟨L, hL⟩ : ∃ L, L = (nb data).set k ((nb data).getD k 0 ^^^ y) := ⟨_, rfl⟩
  have A4 : At .u8 ((Lib.bytesWorld w5 5 data).setCell ⟨w5.heap.size, k, none⟩ (.int .u8 (((nb data).getD k 0 ^^^ y : Nat) : Int))) w5.heap.size 0 L := by
    have := A3.put k hkl ((nb data).getD k 0 ^^^ y)
    rw [Nat.zero_add, ← hL] at this
    exact this
  have b4 : Below w5.heap.size w5 ((Lib.bytesWorld w5 5 data).setCell ⟨w5.heap.size, k, none⟩ (.int .u8 (((nb data).getD k 0 ^^^ y : Nat) : Int))) := (tb_below w5 data).setCell (p := ⟨w5.heap.size, k, none⟩) (Nat.le_refl _) _
  have hLl : Hid (L.length = N) := by unfold Hid; rw [hL, List.length_set, nb_length, zN]
  have hT2 : Hid (trn data k y = bstr L) := by unfold Hid; rw [hT.out, hL]
  have cW := A4.str N (grownCap w5 N 0 5) hLl.out.symm
  rw [← hT2.out] at cW
  clear A3 hkl hL hT hT2 A4
  generalize trn data k y = TD at *
  generalize (nb data).getD k 0 ^^^ y = z at *
  generalize (nb data).getD k 0 = x at *
  replace b4 : Hid _ := b4
  have N6 := Lib.hid (N5.out.keep t b4.out)
  clear N5
  go_wp2_with fail
  refine (SD.out _ _ N6.out).mono ?_
  rintro e w7 ⟨rfl, n7⟩
  have Z7 := Lib.hid n7.below
  clear SD n7 N6 b4 cW c0 f0 hxx cv
  go_wp2_with fail
  go_loopg [19] N (fun g iv wr => ∃ j : Nat, j + g = N ∧ iv = .int .i64 j ∧ Hid (Below w.heap.size w wr))
  case atStart => exact ⟨0, by omega, rfl, Z7⟩
  case round =>
    clear Z7
    obtain ⟨j, hj, rfl, Z7⟩ := hrel
    by_cases hlt : j < N
    · have g1 : decide ((j : Int) < (N : Int)) = true := decide_eq_true (by omega)
      have hxj := hx256.out j
      have ixA := fun w => idx_at A j ((HH.getD j 0 : Nat) : Int) w (by omega) (gA.out j hlt (by omega)) (j : Int) rfl
      have gDj := gD.out j hlt (by omega)
      by_cases hjk : j = k
      · have g2 : ((j : Int) == (k : Int)) = true := by simp; omega
        rw [if_pos hjk] at gDj
        have ixD := fun w => idx_at DD j ((HH.getD j 0 ^^^ y : Nat) : Int) w (by omega) gDj (j : Int) rfl
        have hxx := xor8 (HH.getD j 0) y hxj hy
        clear gDj
        replace hjk : Hid _ := hjk
        have g3 : ((j : Int) != (k : Int)) = false := by have := hjk.out; simp; omega
        generalize HH.getD j 0 ^^^ y = z at *
        generalize HH.getD j 0 = x at *
        go_wp2_with fail
        go_quiet (fail)
        have Z8 : Hid (Below w.heap.size w (wr.drewN nq)) := Z7.out.trans ⟨rfl, rfl, rfl, Nat.le_refl _, fun _ _ => rfl⟩
        go_wp2_with fail
        go_roundg (N - (j + 1))
        case measure => omega
        case rel => exact ⟨j + 1, by omega, by go_num, Z8⟩
      · have g2 : ((j : Int) == (k : Int)) = false := by simp; omega
        have g3 : ((j : Int) != (k : Int)) = true := by simp; omega
        rw [if_neg hjk] at gDj
        have ixD := fun w => idx_at DD j ((HH.getD j 0 : Nat) : Int) w (by omega) gDj (j : Int) rfl
        clear gDj
        replace hjk : Hid _ := hjk
        generalize HH.getD j 0 = x at *
        go_wp2_with fail
        go_quiet (fail)
        have Z8 : Hid (Below w.heap.size w (wr.drewN nq)) := Z7.out.trans ⟨rfl, rfl, rfl, Nat.le_refl _, fun _ _ => rfl⟩
        go_wp2_with fail
        go_roundg (N - (j + 1))
        case measure => omega
        case rel => exact ⟨j + 1, by omega, by go_num, Z8⟩
    · have g1 : decide ((j : Int) < (N : Int)) = false := decide_eq_false (by omega)
      go_wp2_with fail
      go_ret
      exact ⟨rfl, Z7.out⟩

set_option maxHeartbeats 4000000 in
set_option maxRecDepth 100000 in
theorem walk_zero (secret : ByteArray) (n : Int) (data more : ByteArray) (at_ : Int) (y : Nat) (w : World) (t : STab w) (h1 : secret.size ≤ 300) (h3 : more.size ≤ 300) (N : Nat) (zN : data.size = N) (hN0 : Hid (N = 0)) :
    Calls Tryd.prog 6 #[.string secret, .int .i64 n, .string data, .string more, .int .i64 at_, .int .u8 (y : Int)] w fun e w' => e = .returned (.bool true) ∧ Below w.heap.size w w' := by
  have WO : Hid (∀ w, STab w → _) := works_ok
  have n0 := hN0.out
  have q1 : decide ((300 : Int) < (secret.size : Int)) = false := decide_eq_false (by omega)
  have q2 : decide ((300 : Int) < (N : Int)) = false := decide_eq_false (by omega)
  have q3 : decide ((300 : Int) < (more.size : Int)) = false := decide_eq_false (by omega)
  have q4 : ((N : Int) == 0) = true := by simp; omega
  have hDM : (data ++ more).size = N + more.size := by rw [ByteArray.size_append, zN]
  have NW : Hid (∀ w', Below w.heap.size w w' → _) := fun w' b => sinv_new secret w w' b t
  have SA : Hid (∀ w' v, SInv w w' v secret 0 0 → _) := fun w' v h => sinv_seal t n ⟨#[]⟩ data h (by omega) (by decide) (by omega) (by decide) (by decide)
  have SB : Hid (∀ w' v, SInv w w' v secret 1 0 → _) := fun w' v h => sinv_seal t n ⟨#[]⟩ (data ++ more) h (by omega) (by decide) (by omega) (by decide) (by decide)
  have eA := own_front secret n ⟨#[]⟩ data
  have eB := same_front secret n ⟨#[]⟩ data more
  have sA := sld_size secret n ⟨#[]⟩ data
  have sB := sld_size secret n ⟨#[]⟩ (data ++ more)
  rw [zN] at eA eB sA
  rw [hDM] at sB
  have hNb : N ≤ 300 := by omega
  clear n0
  generalize bstr (hide secret n (nb data)) = PP at *
  generalize sld secret n ⟨#[]⟩ data = A at *
  generalize sld secret n ⟨#[]⟩ (data ++ more) = BB at *
  go_enter Tryd.func6, Tryd.ntmps6
  go_wp2_with fail
  refine (WO.out _ t).mono ?_
  rintro e w1 ⟨rfl, b1⟩
  have Z1 := Lib.hid b1
  clear b1 WO
  go_wp2_with fail
  refine (NW.out _ Z1.out).mono ?_
  rintro e w2 ⟨p, rfl, n2⟩
  have N2 := Lib.hid n2
  clear NW n2 Z1
  go_wp2_with fail
  refine (SA.out _ _ N2.out).mono ?_
  rintro e w3 ⟨rfl, n3⟩
  have N3 := Lib.hid n3
  clear SA n3 N2
  go_wp2_with fail
  refine (SB.out _ _ N3.out).mono ?_
  rintro e w4 ⟨rfl, n4⟩
  have Z4 := Lib.hid n4.below
  clear SB n4 N3
  go_wp2_with fail
  go_quiet (fail)
  have Z5 : Hid (Below w.heap.size w (w4.drewN nq)) := Z4.out.trans ⟨rfl, rfl, rfl, Nat.le_refl _, fun _ _ => rfl⟩
  go_wp2_with fail
  go_ret
  exact ⟨rfl, Z5.out⟩

set_option maxHeartbeats 4000000 in
set_option maxRecDepth 100000 in
theorem walk_out (secret : ByteArray) (n : Int) (data more : ByteArray) (at_ : Int) (y : Nat) (w : World) (t : STab w) (h : 300 < secret.size ∨ 300 < data.size ∨ 300 < more.size) :
    Calls Tryd.prog 6 #[.string secret, .int .i64 n, .string data, .string more, .int .i64 at_, .int .u8 (y : Int)] w fun e w' => e = .returned (.bool true) ∧ Below w.heap.size w w' := by
  have WO : Hid (∀ w, STab w → _) := works_ok
  have Q : decide ((300 : Int) < (secret.size : Int)) = true ∨ (decide ((300 : Int) < (secret.size : Int)) = false ∧ decide ((300 : Int) < (data.size : Int)) = true) ∨ (decide ((300 : Int) < (secret.size : Int)) = false ∧ decide ((300 : Int) < (data.size : Int)) = false ∧ decide ((300 : Int) < (more.size : Int)) = true) := by
    simp only [decide_eq_true_eq, decide_eq_false_iff_not]
    omega
  clear h
  rcases Q with q | ⟨q, q2⟩ | ⟨q, q2, q3⟩
  · go_enter Tryd.func6, Tryd.ntmps6
    go_wp2_with fail
    refine (WO.out _ t).mono ?_
    rintro e w1 ⟨rfl, b1⟩
    have Z1 := Lib.hid b1
    clear b1 WO
    go_wp2_with fail
    go_ret
    exact ⟨rfl, Z1.out⟩
  · go_enter Tryd.func6, Tryd.ntmps6
    go_wp2_with fail
    refine (WO.out _ t).mono ?_
    rintro e w1 ⟨rfl, b1⟩
    have Z1 := Lib.hid b1
    clear b1 WO
    go_wp2_with fail
    go_ret
    exact ⟨rfl, Z1.out⟩
  · go_enter Tryd.func6, Tryd.ntmps6
    go_wp2_with fail
    refine (WO.out _ t).mono ?_
    rintro e w1 ⟨rfl, b1⟩
    have Z1 := Lib.hid b1
    clear b1 WO
    go_wp2_with fail
    go_ret
    exact ⟨rfl, Z1.out⟩
theorem walk (secret : ByteArray) (n : Int) (data more : ByteArray) (at_ yv : Int) (w : World) (t : STab w) (h0 : 0 ≤ yv) (h1 : yv ≤ 255) :
    Calls Tryd.prog 6 #[.string secret, .int .i64 n, .string data, .string more, .int .i64 at_, .int .u8 yv] w fun e w' => e = .returned (.bool true) ∧ Below w.heap.size w w' := by
  obtain ⟨y, rfl⟩ := Int.eq_ofNat_of_zero_le h0
  by_cases h : 300 < secret.size ∨ 300 < data.size ∨ 300 < more.size
  · exact walk_out secret n data more at_ y w t h
  · by_cases hz : data.size = 0
    · exact walk_zero secret n data more at_ y w t (by omega) (by omega) _ rfl hz
    · obtain ⟨k, ek, hk⟩ := place at_ (data.size : Int) (by omega) (by omega)
      exact walk_in secret n data more at_ y w t (by omega) (by omega) (by omega) (by omega) _ rfl (by omega) k ek (by omega)

set_option maxRecDepth 100000 in
theorem contract (H : Type) (enc : TypeId × Value → H) (W : World) (base : Nat) (args : Array Value) (ds gs : List (DataW H)) (before : List MemPlace)
    (hval : ∀ (j : Nat) t v, Tryd.f6.params[j]? = some t → args[j]? = some v → Value.okWide Tryd.prog W .any base t v)
    (hW : DataW.Whole enc Tryd.prog Tryd.f6.params.toList Rows.sealBytesSpec.vars false W args.toList ds gs before) (hT : STab W) :
    Calls Tryd.prog 6 args W fun e W' => ∃ v, e = .returned v ∧ Rows.sealBytesSpec.post enc Tryd.prog Tryd.f6 false true false false W args v W' := by
  have hW' := hW
  obtain ⟨p, q, hA0, hV, rfl, hfz, hnd⟩ := hW
  have hA : DataW.TrodAll enc Tryd.prog W 0 (fun _ => true) true Tryd.f6.params.toList args.toList ds p := hA0
  rw [Tryd.params6] at hA hval
  obtain ⟨v0, vs0, d0, ds0, p0, q0, hargs, rfl, rfl, h0, r0⟩ := trodAll_cons hA
  obtain ⟨v1, vs1, d1, ds1, p1, q1, rfl, rfl, rfl, h1, r1⟩ := trodAll_cons r0
  obtain ⟨v2, vs2, d2, ds2, p2, q2, rfl, rfl, rfl, h2, r2⟩ := trodAll_cons r1
  obtain ⟨v3, vs3, d3, ds3, p3, q3, rfl, rfl, rfl, h3, r3⟩ := trodAll_cons r2
  obtain ⟨v4, vs4, d4, ds4, p4, q4, rfl, rfl, rfl, h4, r4⟩ := trodAll_cons r3
  obtain ⟨v5, vs5, d5, ds5, p5, q5, rfl, rfl, rfl, h5, r5⟩ := trodAll_cons r4
  obtain ⟨rfl, rfl, rfl⟩ := trodAll_nil r5
  obtain rfl : args = #[v0, v1, v2, v3, v4, v5] := by cases args; simp_all
  obtain ⟨rfl, rfl⟩ := trodVars_none hV
  obtain ⟨a0, rfl, rfl, rfl, w0⟩ := open_string Tryd.underlying9 (hval 0 9 v0 rfl rfl) h0
  obtain ⟨a1, rfl, rfl, rfl, w1⟩ := open_int Tryd.underlying2 (hval 1 2 v1 rfl rfl) h1
  have b1 := bounds_i64 w1
  obtain ⟨a2, rfl, rfl, rfl, w2⟩ := open_string Tryd.underlying9 (hval 2 9 v2 rfl rfl) h2
  obtain ⟨a3, rfl, rfl, rfl, w3⟩ := open_string Tryd.underlying9 (hval 3 9 v3 rfl rfl) h3
  obtain ⟨a4, rfl, rfl, rfl, w4⟩ := open_int Tryd.underlying3 (hval 4 3 v4 rfl rfl) h4
  have b4 := bounds_i64 w4
  obtain ⟨a5, rfl, rfl, rfl, w5⟩ := open_int Tryd.underlying5 (hval 5 5 v5 rfl rfl) h5
  have b5 := bounds_u8 w5
  clear hA0
  simp only [List.append_nil] at hW'
  refine (walk a0 a1 a2 a3 a4 a5 W hT b5.1 b5.2).mono fun e W' ⟨he, bel⟩ => ?_
  subst he
  exact ⟨_, rfl, _, _, _, [], _, [], hW', trodAll_mk1 (shut_bool Tryd.underlying4 _), (trodAll_cons_mk (shut_string Tryd.underlying9 w0) (trodAll_cons_mk (shut_int Tryd.underlying2 w1) (trodAll_cons_mk (shut_string Tryd.underlying9 w2) (trodAll_cons_mk (shut_string Tryd.underlying9 w3) (trodAll_cons_mk (shut_int Tryd.underlying3 w4) (trodAll_cons_mk (shut_int Tryd.underlying5 w5) trodAll_mk0)))))), rfl, bel.frame _, fun h => by cases h⟩

set_option maxRecDepth 100000 in
theorem lifted (os : Os) (started : os.Started) (H : Type) (enc : TypeId × Value → H) :
    ReturnsInHanded {} Tryd.checked os 6 .any (fun w args => (Rows.sealBytesSpec.pre enc Tryd.prog Tryd.f6 Rows.sealBytesRow.domain false w args ∧ laidMetH Tryd.prog Rows.sealBytesRow.laid w) ∧ sizedMet enc Tryd.prog Tryd.f6 (OpenSpec.ofChange Rows.sealBytesSpec) false w args)
      (Rows.sealBytesSpec.post enc Tryd.prog Tryd.f6 false true false false) := by
  refine returnsInHanded_of_change_and (C := Tryd.checked) (X := fun w _ => laidMetH Tryd.prog Rows.sealBytesRow.laid w) (fun _ _ _ hh h => h.of_heap hh) own started (by kernel_rfl) Tryd.func6
    (ChangeSpec.witness_shaped (enc := enc) (C := Tryd.checked) (os := os) (X := fun w _ => laidMetH Tryd.prog Rows.sealBytesRow.laid w) false (World.laidAll Tryd.prog os Rows.sealBytesRow.laid) #[.string ByteArray.empty, .int .i64 0, .string ByteArray.empty, .string ByteArray.empty, .int .i64 0, .int .u8 0] 8 (World.laidAll_os _ _ _)
      (World.shaped_of_ZipB (by kernel_rfl) (by kernel_rfl)) (by kernel_rfl) (by kernel_rfl) (by kernel_rfl)
      (by rw [MakeChecks.laidMetH_plain _ _ _ (by kernel_rfl)]; exact laidMet_laidAll _ (by kernel_rfl) (by kernel_rfl))) ?_
  intro W base args ds gs before hval hW _ _ hL _
  have hL' : laidMet Tryd.prog Rows.sealBytesRow.laid W := by
    rw [MakeChecks.laidMetH_plain _ _ _ (by kernel_rfl)] at hL
    exact hL
  exact contract H enc W base args ds gs before hval hW (stabOf rfl hL')

theorem said : Rows.SealBytesSaid :=
  OpenClaim.holds_of_wide 6 Tryd.f6 rfl rfl rfl rfl rfl rfl rfl ⟨rfl, rfl, rfl, rfl, rfl⟩ rfl rfl rfl rfl rfl (by kernel_rfl) Tryd.func6 (by kernel_rfl)
    (of_decide_eq_true (by kernel_rfl)) (by unfold Func.isWrapper; first | (rw [if_pos (by decide +kernel)]; kernel_rfl) | (rw [if_neg (by decide +kernel)]; exact ⟨rfl, rfl⟩))
    (fun os started H enc _ => lifted os started H enc)

theorem plain (f : FuncId) (fn : Func) (hf : Tryd.pinned.checked.prog.funcNamed Rows.sealBytesRow.func = some f) (hfn : Tryd.pinned.checked.prog.funcs[f]? = some fn) :
    (Tryd.pinned.checked.prog.looks [] = Tryd.pinned.checked.prog.looks []) ∧ ∀ (j : Nat) t, fn.params[j]? = some t → Tryd.pinned.checked.prog.wantsStandIn t = false := by
  obtain rfl : f = 6 := Option.some.inj ((show Tryd.prog.funcNamed Rows.sealBytesRow.func = some 6 by kernel_rfl).symm.trans hf) |>.symm
  obtain rfl : fn = Tryd.f6 := (Option.some.inj (Tryd.func6.symm.trans hfn)).symm
  refine ⟨rfl, fun j t ht => ?_⟩
  rw [Tryd.params6] at ht
  have hm : t ∈ [9, 2, 9, 9, 3, 5] := by simpa using Array.mem_of_getElem? ht
  have hall : ([9, 2, 9, 9, 3, 5].all fun u => !Tryd.prog.wantsStandIn u) = true := by kernel_rfl
  exact (show Tryd.prog.wantsStandIn t = false by simpa using List.all_eq_true.1 hall t hm)
theorem card : Rows.SealBytesCardSaid :=
  Claim7.holds_tied_plain_at .later [] _ _ _ _ said (fun _ h => by cases h) (by kernel_rfl) (fun _ h => by cases h) sealBytes_row_tie rfl ⟨rfl, rfl⟩ (by kernel_rfl) rfl (fun f fn hf hfn => ⟨by kernel_rfl, (plain f fn hf hfn).2⟩) (by kernel_rfl)
end Go.Proofs.YteajkegokaggcaaDoor.sealBytes
namespace Go.Proofs.YteajkegokaggcaaDoor
theorem sealBytes_card : Rows.SealBytesCardSaid := sealBytes.card
end Go.Proofs.YteajkegokaggcaaDoor
