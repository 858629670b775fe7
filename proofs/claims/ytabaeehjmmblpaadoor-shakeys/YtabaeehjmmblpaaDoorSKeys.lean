/-
  The law ShaKeys returns true for every key, number and texts: a key of more than 64 bytes is as its digest, one with bytes 0 behind as without them, and the key that is made is what the chapter says. No condition but the form's own reach.
-/
import Derived.Test.YtabaeehjmmblpaaDoorShWorks
import Derived.Test.YtabaeehjmmblpaaDoorShTab
import Derived.Test.YtabaeehjmmblpaaDoorShOpen
import Derived.LaidLaws
namespace Go.Proofs.YtabaeehjmmblpaaDoor.shaKeys
open Go.ChangeShapes Go.WideShapes Go.ChangeAt Go.RowKit
open Go.ChangeMaps (open_string shut_string)

theorem w64 (n : Int) (h : 0 ≤ n ∧ n < 9223372036854775808) : wrap64 n = n := by unfold wrap64; omega
theorem place (a : Int) (c : Int) (hc : 0 < c) (hc2 : c < 4611686018427387904) : ∃ x : Nat, wrap64 ((IntKind.u64.wrap a).tmod c) = x ∧ (x : Int) < c := by
  have h : 0 ≤ IntKind.u64.wrap a := by rw [IntKind.wrap_u64]; omega
  rw [Int.tmod_eq_emod_of_nonneg h]
  have h1 := Int.emod_nonneg (IntKind.u64.wrap a) (by omega : c ≠ 0)
  have h2 := Int.emod_lt_of_pos (IntKind.u64.wrap a) hc
  refine ⟨(IntKind.u64.wrap a % c).toNat, ?_, by omega⟩
  rw [w64 _ (by omega)]
  omega
theorem der_size (key label context : ByteArray) : (der key label context).size = 32 := by unfold der; rw [bstr_size, hm_length]
/-- A key with bytes 0 behind. -/
def zs (key : ByteArray) (m : Nat) : ByteArray := bstr (nb key ++ List.replicate m 0)
theorem zs_zero (key : ByteArray) : zs key 0 = key := by unfold zs; rw [List.replicate_zero, List.append_nil, bstr_nb]
theorem zs_size (key : ByteArray) (m : Nat) : (zs key m).size = key.size + m := by unfold zs; rw [bstr_size]; simp [nb_length]
theorem zs_succ (key : ByteArray) (m : Nat) : zs key m ++ ByteArray.mk #[0] = zs key (m + 1) := by
  have e : ByteArray.mk #[0] = bstr [0] := by decide +kernel
  unfold zs
  rw [e, bstr_append, List.append_assoc]
  congr 2
  exact List.replicate_succ'.symm
theorem zs_hmac (key s : ByteArray) (m : Nat) (w : World) (t : DTab w) (h : key.size + m ≤ 64) (hs : s.size < 549755813000) :
    Calls Tryd.prog 9 #[.string (zs key m), .string s] w fun e w' => e = .returned (.string (bstr (hm (nb key) (nb s)))) ∧ Below w.heap.size w w' := by
  have H := hmac_ok (zs key m) s w t.c (by rw [zs_size]; omega) hs
  have e : nb (zs key m) = nb key ++ List.replicate m 0 := nb_bstr fun x hx => by
    rcases List.mem_append.1 hx with hx | hx
    · exact nb_lt key x hx
    · rw [List.eq_of_mem_replicate hx]; decide
  rw [e, hm_zeros _ _ _ (by rw [nb_length]; omega)] at H
  exact H

set_option maxHeartbeats 2000000 in
theorem long_f (key : ByteArray) (n : Int) (s a b : ByteArray) (w : World) (t : DTab w) (h0 : key.size ≤ 1000) (h2 : s.size ≤ 1000) (h3 : a.size ≤ 500) (h4 : b.size ≤ 500) (hl : 64 < key.size) :
    Calls Tryd.prog 5 #[.string key, .int .i64 n, .string s, .string a, .string b] w fun e w' => e = .returned (.bool true) ∧ Below w.heap.size w w' := by
  have t0 := t
  have Z0 : Hid (Below w.heap.size w w) := Below.refl _ _
  clear t
  have k0 : decide ((1000 : Int) < (key.size : Int)) = false := decide_eq_false (by omega)
  have k2 : decide ((1000 : Int) < (s.size : Int)) = false := decide_eq_false (by omega)
  have k3 : decide ((500 : Int) < (a.size : Int)) = false := decide_eq_false (by omega)
  have k4 : decide ((500 : Int) < (b.size : Int)) = false := decide_eq_false (by omega)
  have WO : Hid (∀ w, DTab w → _) := fun w t => works_ok w t.c
  have HK : Hid (∀ w, DTab w → _) := fun w t => hmac_ok key s w t.c (by omega) (by omega)
  have DE : Hid (∀ w, DTab w → _) := fun w t => derive_ok key a b w t.c t.v (by omega) (by omega) (by omega)
  have RD : Hid (∀ w, _) := fun w => rderive_ok key a b w (by omega) (by omega) (by omega)
  have DL : Hid (∀ w, DTab w → _) := fun w t => derive_ok key (a ++ b) ⟨#[]⟩ w t.c t.v (by omega) (by rw [ByteArray.size_append]; omega) (by decide)
  have zl := der_size key (a ++ b) ⟨#[]⟩
  generalize der key (a ++ b) ⟨#[]⟩ = V2 at *
  generalize der key a b = V1 at *
  have g : decide ((64 : Int) < (key.size : Int)) = true := decide_eq_true (by omega)
  have SU : Hid (∀ w, DTab w → _) := fun w t => sum_ok key w t.c (by omega)
  have HD : Hid (∀ w, DTab w → _) := fun w t => hmac_ok (bstr (dig (nb key))) s w t.c (by rw [bstr_size, dig_length]; decide) (by omega)
  rw [nb_bstr (dig_lt _), ← hm_long _ _ (by rw [nb_length]; omega)] at HD
  generalize bstr (dig (nb key)) = X at *
  generalize bstr (hm (nb key) (nb s)) = Y at *
  go_enter Tryd.func5, Tryd.ntmps5
  go_wp2_with fail
  refine (WO.out _ t0).mono ?_
  rintro e w1 ⟨rfl, b1⟩
  have t1 := t0.keep b1
  have Z1 : Hid (Below w.heap.size w w1) := Z0.out.trans (b1.mono Z0.out.size)
  clear b1 WO Z0 t0
  go_wp2_with fail
  refine (HK.out _ t1).mono ?_
  rintro e w2 ⟨rfl, b2⟩
  have t2 := t1.keep b2
  have Z2 : Hid (Below w.heap.size w w2) := Z1.out.trans (b2.mono Z1.out.size)
  clear b2 HK Z1 t1
  go_wp2_with fail
  refine (SU.out _ t2).mono ?_
  rintro e w3 ⟨rfl, b3⟩
  have t3 := t2.keep b3
  have Z3 : Hid (Below w.heap.size w w3) := Z2.out.trans (b3.mono Z2.out.size)
  clear b3 SU Z2 t2
  go_wp2_with fail
  refine (HD.out _ t3).mono ?_
  rintro e w4 ⟨rfl, b4⟩
  have t4 := t3.keep b4
  have Z4 : Hid (Below w.heap.size w w4) := Z3.out.trans (b4.mono Z3.out.size)
  clear b4 HD Z3 t3
  go_wp2_with fail
  · go_ret
    exact ⟨rfl, Z4.out⟩
  refine (DE.out _ t4).mono ?_
  rintro e w5 ⟨rfl, b5⟩
  have t5 := t4.keep b5
  have Z5 : Hid (Below w.heap.size w w5) := Z4.out.trans (b5.mono Z4.out.size)
  clear b5 DE Z4 t4
  go_wp2_with fail
  refine (RD.out _).mono ?_
  rintro e w6 ⟨rfl, b6⟩
  have t6 := t5.keep b6
  have Z6 : Hid (Below w.heap.size w w6) := Z5.out.trans (b6.mono Z5.out.size)
  clear b6 RD Z5 t5
  go_wp2_with fail
  refine (DL.out _ t6).mono ?_
  rintro e w7 ⟨rfl, b7⟩
  have t7 := t6.keep b7
  have Z7 : Hid (Below w.heap.size w w7) := Z6.out.trans (b7.mono Z6.out.size)
  clear b7 DL Z6 t6
  go_wp2_with fail
  go_ret
  exact ⟨rfl, Z7.out⟩

set_option maxHeartbeats 2000000 in
theorem short_f (key : ByteArray) (n : Int) (s a b : ByteArray) (w : World) (t : DTab w) (h0 : key.size ≤ 64) (h2 : s.size ≤ 1000) (h3 : a.size ≤ 500) (h4 : b.size ≤ 500) (k : Nat) (ek : wrap64 ((IntKind.u64.wrap n).tmod 65) = k) :
    Calls Tryd.prog 5 #[.string key, .int .i64 n, .string s, .string a, .string b] w fun e w' => e = .returned (.bool true) ∧ Below w.heap.size w w' := by
  have t0 := t
  have Z0 : Hid (Below w.heap.size w w) := Below.refl _ _
  clear t
  have k0 : decide ((1000 : Int) < (key.size : Int)) = false := decide_eq_false (by omega)
  have k2 : decide ((1000 : Int) < (s.size : Int)) = false := decide_eq_false (by omega)
  have k3 : decide ((500 : Int) < (a.size : Int)) = false := decide_eq_false (by omega)
  have k4 : decide ((500 : Int) < (b.size : Int)) = false := decide_eq_false (by omega)
  have WO : Hid (∀ w, DTab w → _) := fun w t => works_ok w t.c
  have HK : Hid (∀ w, DTab w → _) := fun w t => hmac_ok key s w t.c (by omega) (by omega)
  have DE : Hid (∀ w, DTab w → _) := fun w t => derive_ok key a b w t.c t.v (by omega) (by omega) (by omega)
  have RD : Hid (∀ w, _) := fun w => rderive_ok key a b w (by omega) (by omega) (by omega)
  have DL : Hid (∀ w, DTab w → _) := fun w t => derive_ok key (a ++ b) ⟨#[]⟩ w t.c t.v (by omega) (by rw [ByteArray.size_append]; omega) (by decide)
  have zl := der_size key (a ++ b) ⟨#[]⟩
  generalize der key (a ++ b) ⟨#[]⟩ = V2 at *
  generalize der key a b = V1 at *
  have g : decide ((64 : Int) < (key.size : Int)) = false := decide_eq_false (by omega)
  have HZ : ∀ m, key.size + m ≤ 64 → Hid (∀ w, DTab w → Calls Tryd.prog 9 #[.string (zs key m), .string s] w fun e w' => e = .returned (.string (bstr (hm (nb key) (nb s)))) ∧ Below w.heap.size w w') := fun m hm w t => zs_hmac key s m w t hm (by omega)
  generalize bstr (hm (nb key) (nb s)) = Y at *
  have zz0 := zs_zero key
  have z1 : (ByteArray.mk #[0]).size = 1 := rfl
  go_enter Tryd.func5, Tryd.ntmps5
  go_wp2_with fail
  refine (WO.out _ t0).mono ?_
  rintro e w1 ⟨rfl, b1⟩
  have t1 := t0.keep b1
  have Z1 : Hid (Below w.heap.size w w1) := Z0.out.trans (b1.mono Z0.out.size)
  clear b1 WO Z0 t0
  go_wp2_with fail
  go_loopg [11, 12] k (fun g tv iv wr => ∃ m : Nat, m + g = k ∧ key.size + m ≤ 64 ∧ tv = .string (zs key m) ∧ iv = .int .i64 m ∧ w1 = wr)
  case atStart => exact ⟨0, by omega, by omega, by rw [zs_zero], rfl, rfl⟩
  case round =>
    obtain ⟨m, hm, hm2, rfl, rfl, rfl⟩ := hrel
    have HM := HZ m hm2
    have zm := zs_size key m
    have zn := zs_succ key m
    clear HZ
    by_cases c1 : m < k ∧ key.size + m < 64
    · have q1 : decide ((m : Int) < (k : Int)) = true := decide_eq_true (by omega)
      have q2 : decide (((key.size : Int) + m) < 64) = true := decide_eq_true (by omega)
      generalize zs key m = T at *
      go_wp2_with fail
      go_roundg (k - (m + 1))
      case measure => omega
      case rel => exact ⟨m + 1, by omega, by omega, rfl, by go_num, rfl⟩
    · have Q : (decide (m < k) = false) ∨ (decide (m < k) = true ∧ decide (((key.size : Int) + m) < 64) = false ∧ decide (key.size + m < 64) = false) := by
        by_cases hmk : m < k
        · exact .inr ⟨decide_eq_true hmk, decide_eq_false (by omega), decide_eq_false (by omega)⟩
        · exact .inl (decide_eq_false hmk)
      clear zn
      generalize zs key m = T at *
      rcases Q with q1 | ⟨q1, q2, q3⟩
      · go_wp2_with fail
        refine (HM.out _ t1).mono ?_
        rintro e w2 ⟨rfl, b2⟩
        have t2 := t1.keep b2
        have Z2 : Hid (Below w.heap.size w w2) := Z1.out.trans (b2.mono Z1.out.size)
        clear b2 HM Z1 t1
        go_wp2_with fail
        refine (HK.out _ t2).mono ?_
        rintro e w3 ⟨rfl, b3⟩
        have t3 := t2.keep b3
        have Z3 : Hid (Below w.heap.size w w3) := Z2.out.trans (b3.mono Z2.out.size)
        clear b3 HK Z2 t2
        go_wp2_with fail
        · go_ret
          exact ⟨rfl, Z3.out⟩
        refine (DE.out _ t3).mono ?_
        rintro e w4 ⟨rfl, b4⟩
        have t4 := t3.keep b4
        have Z4 : Hid (Below w.heap.size w w4) := Z3.out.trans (b4.mono Z3.out.size)
        clear b4 DE Z3 t3
        go_wp2_with fail
        refine (RD.out _).mono ?_
        rintro e w5 ⟨rfl, b5⟩
        have t5 := t4.keep b5
        have Z5 : Hid (Below w.heap.size w w5) := Z4.out.trans (b5.mono Z4.out.size)
        clear b5 RD Z4 t4
        go_wp2_with fail
        refine (DL.out _ t5).mono ?_
        rintro e w6 ⟨rfl, b6⟩
        have t6 := t5.keep b6
        have Z6 : Hid (Below w.heap.size w w6) := Z5.out.trans (b6.mono Z5.out.size)
        clear b6 DL Z5 t5
        go_wp2_with fail
        go_ret
        exact ⟨rfl, Z6.out⟩
      · go_wp2_with fail
        refine (HM.out _ t1).mono ?_
        rintro e w2 ⟨rfl, b2⟩
        have t2 := t1.keep b2
        have Z2 : Hid (Below w.heap.size w w2) := Z1.out.trans (b2.mono Z1.out.size)
        clear b2 HM Z1 t1
        go_wp2_with fail
        refine (HK.out _ t2).mono ?_
        rintro e w3 ⟨rfl, b3⟩
        have t3 := t2.keep b3
        have Z3 : Hid (Below w.heap.size w w3) := Z2.out.trans (b3.mono Z2.out.size)
        clear b3 HK Z2 t2
        go_wp2_with fail
        · go_ret
          exact ⟨rfl, Z3.out⟩
        refine (DE.out _ t3).mono ?_
        rintro e w4 ⟨rfl, b4⟩
        have t4 := t3.keep b4
        have Z4 : Hid (Below w.heap.size w w4) := Z3.out.trans (b4.mono Z3.out.size)
        clear b4 DE Z3 t3
        go_wp2_with fail
        refine (RD.out _).mono ?_
        rintro e w5 ⟨rfl, b5⟩
        have t5 := t4.keep b5
        have Z5 : Hid (Below w.heap.size w w5) := Z4.out.trans (b5.mono Z4.out.size)
        clear b5 RD Z4 t4
        go_wp2_with fail
        refine (DL.out _ t5).mono ?_
        rintro e w6 ⟨rfl, b6⟩
        have t6 := t5.keep b6
        have Z6 : Hid (Below w.heap.size w w6) := Z5.out.trans (b6.mono Z5.out.size)
        clear b6 DL Z5 t5
        go_wp2_with fail
        go_ret
        exact ⟨rfl, Z6.out⟩

set_option maxHeartbeats 1000000 in
theorem walk_out (key : ByteArray) (n : Int) (s a b : ByteArray) (w : World) (t : DTab w) (h : 1000 < key.size ∨ 1000 < s.size ∨ 500 < a.size ∨ 500 < b.size) :
    Calls Tryd.prog 5 #[.string key, .int .i64 n, .string s, .string a, .string b] w fun e w' => e = .returned (.bool true) ∧ Below w.heap.size w w' := by
  have WO : Hid (∀ w, DTab w → _) := fun w t => works_ok w t.c
  have Q : decide ((1000 : Int) < (key.size : Int)) = true ∨ (decide ((1000 : Int) < (key.size : Int)) = false ∧ decide ((1000 : Int) < (s.size : Int)) = true) ∨ (decide ((1000 : Int) < (key.size : Int)) = false ∧ decide ((1000 : Int) < (s.size : Int)) = false ∧ decide ((500 : Int) < (a.size : Int)) = true) ∨ (decide ((1000 : Int) < (key.size : Int)) = false ∧ decide ((1000 : Int) < (s.size : Int)) = false ∧ decide ((500 : Int) < (a.size : Int)) = false ∧ decide ((500 : Int) < (b.size : Int)) = true) := by
    simp only [decide_eq_true_eq, decide_eq_false_iff_not]
    omega
  rcases Q with q | ⟨q, q2⟩ | ⟨q, q2, q3⟩ | ⟨q, q2, q3, q4⟩
  · go_enter Tryd.func5, Tryd.ntmps5
    go_wp2_with fail
    refine (WO.out _ t).mono ?_
    rintro e w1 ⟨rfl, b1⟩
    clear t WO
    go_wp2_with fail
    go_ret
    exact ⟨rfl, b1⟩
  · go_enter Tryd.func5, Tryd.ntmps5
    go_wp2_with fail
    refine (WO.out _ t).mono ?_
    rintro e w1 ⟨rfl, b1⟩
    clear t WO
    go_wp2_with fail
    go_ret
    exact ⟨rfl, b1⟩
  · go_enter Tryd.func5, Tryd.ntmps5
    go_wp2_with fail
    refine (WO.out _ t).mono ?_
    rintro e w1 ⟨rfl, b1⟩
    clear t WO
    go_wp2_with fail
    go_ret
    exact ⟨rfl, b1⟩
  · go_enter Tryd.func5, Tryd.ntmps5
    go_wp2_with fail
    refine (WO.out _ t).mono ?_
    rintro e w1 ⟨rfl, b1⟩
    clear t WO
    go_wp2_with fail
    go_ret
    exact ⟨rfl, b1⟩
theorem walk (key : ByteArray) (n : Int) (s a b : ByteArray) (w : World) (t : DTab w) :
    Calls Tryd.prog 5 #[.string key, .int .i64 n, .string s, .string a, .string b] w fun e w' => e = .returned (.bool true) ∧ Below w.heap.size w w' := by
  by_cases h : 1000 < key.size ∨ 1000 < s.size ∨ 500 < a.size ∨ 500 < b.size
  · exact walk_out key n s a b w t h
  · obtain ⟨k, ek, _⟩ := place n 65 (by decide) (by decide)
    by_cases hl : 64 < key.size
    · exact long_f key n s a b w t (by omega) (by omega) (by omega) (by omega) hl
    · exact short_f key n s a b w t (by omega) (by omega) (by omega) (by omega) k ek

set_option maxRecDepth 100000 in
theorem contract (H : Type) (enc : TypeId × Value → H) (W : World) (base : Nat) (args : Array Value) (ds gs : List (DataW H)) (before : List MemPlace)
    (hval : ∀ (j : Nat) t v, Tryd.f5.params[j]? = some t → args[j]? = some v → Value.okWide Tryd.prog W .any base t v)
    (hW : DataW.Whole enc Tryd.prog Tryd.f5.params.toList Rows.shaKeysSpec.vars false W args.toList ds gs before) (hT : DTab W) :
    Calls Tryd.prog 5 args W fun e W' => ∃ v, e = .returned v ∧ Rows.shaKeysSpec.post enc Tryd.prog Tryd.f5 false true false false W args v W' := by
  have hW' := hW
  obtain ⟨p, q, hA0, hV, rfl, hfz, hnd⟩ := hW
  have hA : DataW.TrodAll enc Tryd.prog W 0 (fun _ => true) true Tryd.f5.params.toList args.toList ds p := hA0
  rw [Tryd.params5] at hA hval
  obtain ⟨v0, vs0, d0, ds0, p0, q0, hargs, rfl, rfl, h0, r0⟩ := trodAll_cons hA
  obtain ⟨v1, vs1, d1, ds1, p1, q1, rfl, rfl, rfl, h1, r1⟩ := trodAll_cons r0
  obtain ⟨v2, vs2, d2, ds2, p2, q2, rfl, rfl, rfl, h2, r2⟩ := trodAll_cons r1
  obtain ⟨v3, vs3, d3, ds3, p3, q3, rfl, rfl, rfl, h3, r3⟩ := trodAll_cons r2
  obtain ⟨v4, vs4, d4, ds4, p4, q4, rfl, rfl, rfl, h4, r4⟩ := trodAll_cons r3
  obtain ⟨rfl, rfl, rfl⟩ := trodAll_nil r4
  obtain rfl : args = #[v0, v1, v2, v3, v4] := by cases args; simp_all
  obtain ⟨rfl, rfl⟩ := trodVars_none hV
  obtain ⟨a0, rfl, rfl, rfl, w0⟩ := open_string Tryd.underlying9 (hval 0 9 v0 rfl rfl) h0
  obtain ⟨a1, rfl, rfl, rfl, w1⟩ := open_int Tryd.underlying3 (hval 1 3 v1 rfl rfl) h1
  have b1 := bounds_i64 w1
  obtain ⟨a2, rfl, rfl, rfl, w2⟩ := open_string Tryd.underlying9 (hval 2 9 v2 rfl rfl) h2
  obtain ⟨a3, rfl, rfl, rfl, w3⟩ := open_string Tryd.underlying9 (hval 3 9 v3 rfl rfl) h3
  obtain ⟨a4, rfl, rfl, rfl, w4⟩ := open_string Tryd.underlying9 (hval 4 9 v4 rfl rfl) h4
  clear hA0
  simp only [List.append_nil] at hW'
  refine (walk a0 a1 a2 a3 a4 W hT).mono fun e W' ⟨he, bel⟩ => ?_
  subst he
  exact ⟨_, rfl, _, _, _, [], _, [], hW', trodAll_mk1 (shut_bool Tryd.underlying4 _), (trodAll_cons_mk (shut_string Tryd.underlying9 w0) (trodAll_cons_mk (shut_int Tryd.underlying3 w1) (trodAll_cons_mk (shut_string Tryd.underlying9 w2) (trodAll_cons_mk (shut_string Tryd.underlying9 w3) (trodAll_cons_mk (shut_string Tryd.underlying9 w4) trodAll_mk0))))), rfl, bel.frame _, fun h => by cases h⟩

set_option maxRecDepth 100000 in
theorem lifted (os : Os) (started : os.Started) (H : Type) (enc : TypeId × Value → H) :
    ReturnsInHanded {} Tryd.checked os 5 .any (fun w args => (Rows.shaKeysSpec.pre enc Tryd.prog Tryd.f5 Rows.shaKeysRow.domain false w args ∧ laidMetH Tryd.prog Rows.shaKeysRow.laid w) ∧ sizedMet enc Tryd.prog Tryd.f5 (OpenSpec.ofChange Rows.shaKeysSpec) false w args)
      (Rows.shaKeysSpec.post enc Tryd.prog Tryd.f5 false true false false) := by
  refine returnsInHanded_of_change_and (C := Tryd.checked) (X := fun w _ => laidMetH Tryd.prog Rows.shaKeysRow.laid w) (fun _ _ _ hh h => h.of_heap hh) own started (by kernel_rfl) Tryd.func5
    (ChangeSpec.witness_shaped (enc := enc) (C := Tryd.checked) (os := os) (X := fun w _ => laidMetH Tryd.prog Rows.shaKeysRow.laid w) false (World.laidAll Tryd.prog os Rows.shaKeysRow.laid) #[.string ByteArray.empty, .int .i64 0, .string ByteArray.empty, .string ByteArray.empty, .string ByteArray.empty] 8 (World.laidAll_os _ _ _)
      (World.shaped_of_ZipB (by kernel_rfl) (by kernel_rfl)) (by kernel_rfl) (by kernel_rfl) (by kernel_rfl)
      (by rw [MakeChecks.laidMetH_plain _ _ _ (by kernel_rfl)]; exact laidMet_laidAll _ (by kernel_rfl) (by kernel_rfl))) ?_
  intro W base args ds gs before hval hW _ _ hL _
  have hL' : laidMet Tryd.prog Rows.shaKeysRow.laid W := by
    rw [MakeChecks.laidMetH_plain _ _ _ (by kernel_rfl)] at hL
    exact hL
  exact contract H enc W base args ds gs before hval hW (tabOf2 rfl hL')

theorem said : Rows.ShaKeysSaid :=
  OpenClaim.holds_of_wide 5 Tryd.f5 rfl rfl rfl rfl rfl rfl rfl ⟨rfl, rfl, rfl, rfl, rfl⟩ rfl rfl rfl rfl rfl (by kernel_rfl) Tryd.func5 (by kernel_rfl)
    (of_decide_eq_true (by kernel_rfl)) (by unfold Func.isWrapper; first | (rw [if_pos (by decide +kernel)]; kernel_rfl) | (rw [if_neg (by decide +kernel)]; exact ⟨rfl, rfl⟩))
    (fun os started H enc _ => lifted os started H enc)

theorem plain (f : FuncId) (fn : Func) (hf : Tryd.pinned.checked.prog.funcNamed Rows.shaKeysRow.func = some f) (hfn : Tryd.pinned.checked.prog.funcs[f]? = some fn) :
    (Tryd.pinned.checked.prog.looks [] = Tryd.pinned.checked.prog.looks []) ∧ ∀ (j : Nat) t, fn.params[j]? = some t → Tryd.pinned.checked.prog.wantsStandIn t = false := by
  obtain rfl : f = 5 := Option.some.inj ((show Tryd.prog.funcNamed Rows.shaKeysRow.func = some 5 by kernel_rfl).symm.trans hf) |>.symm
  obtain rfl : fn = Tryd.f5 := (Option.some.inj (Tryd.func5.symm.trans hfn)).symm
  refine ⟨rfl, fun j t ht => ?_⟩
  rw [Tryd.params5] at ht
  have hm : t ∈ [9, 3, 9, 9, 9] := by simpa using Array.mem_of_getElem? ht
  have hall : ([9, 3, 9, 9, 9].all fun u => !Tryd.prog.wantsStandIn u) = true := by kernel_rfl
  exact (show Tryd.prog.wantsStandIn t = false by simpa using List.all_eq_true.1 hall t hm)
theorem card : Rows.ShaKeysCardSaid :=
  Claim7.holds_tied_plain_at .later [] _ _ _ _ said (fun _ h => by cases h) (by kernel_rfl) (fun _ h => by cases h) shaKeys_row_tie rfl ⟨rfl, rfl⟩ (by kernel_rfl) rfl (fun f fn hf hfn => ⟨by kernel_rfl, (plain f fn hf hfn).2⟩) (by kernel_rfl)
end Go.Proofs.YtabaeehjmmblpaaDoor.shaKeys
namespace Go.Proofs.YtabaeehjmmblpaaDoor
theorem shaKeys_card : Rows.ShaKeysCardSaid := shaKeys.card
end Go.Proofs.YtabaeehjmmblpaaDoor
