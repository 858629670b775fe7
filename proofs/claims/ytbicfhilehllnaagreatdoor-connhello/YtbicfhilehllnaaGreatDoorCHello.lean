/-
  The law ConnHello returns true for every key, name, nonces and bytes: connections are dialled and accepted, hellos written and read as the chapter says. No condition but the form's own reach.
-/
import Derived.Test.YtbicfhilehllnaaGreatDoorCnB
import Derived.Test.YtbicfhilehllnaaGreatDoorCnC
import Derived.Test.YtbicfhilehllnaaGreatDoorSeTab
import Derived.Test.YtbicfhilehllnaaGreatDoorShOpen
import Derived.LaidLaws
import Derived.Test.YtbicfhilehllnaaGreatDoorCHelloC
namespace Go.Proofs.YtbicfhilehllnaaGreatDoor.connHello
set_option maxRecDepth 100000
open Go.ChangeShapes Go.WideShapes Go.ChangeAt Go.RowKit
open Go.ChangeMaps (open_string shut_string)
open Go.ChangeMaps (open_string shut_string)

set_option maxHeartbeats 4000000 in
theorem walk_no (key name nonce other p : ByteArray) (w : World) (t : STab w) (h1 : key.size ≤ 300) (h2 : p.size ≤ 2000) (h3 : ¬ (name.size = 8 ∧ nonce.size = 16)) :
    Calls Tryz.prog 4 #[.string key, .string name, .string nonce, .string other, .string p] w fun e w' => e = .returned (.bool true) ∧ Below w.heap.size w w' := by
  have q1 : decide ((300 : Int) < (key.size : Int)) = false := decide_eq_false (by omega)
  have q2 : decide ((2000 : Int) < (p.size : Int)) = false := decide_eq_false (by omega)
  have HE : Hid (∀ w', Below w.heap.size w w' → _) := fun w' b => cn.hello_ok key p w w' b t (by omega) (by omega)
  have RH : Hid (∀ w, _) := fun w => cn.rhello_ok key p w (by omega) (by omega)
  generalize cn.helN key p = X1 at *
  generalize cn.helV key p = X2 at *
  generalize cn.helE key p = X3 at *
  have DI : Hid (∀ w, _) := fun w => cn.dial_no key name nonce w h3
  have RD : Hid (∀ w, _) := fun w => cn.rdial_no key name nonce w h3
  have AC : Hid (∀ w, _) := fun w => cn.accept_no key name nonce other w (fun c => h3 ⟨c.1, c.2.1⟩)
  have RA : Hid (∀ w, _) := fun w => cn.raccept_no key name nonce other w (fun c => h3 ⟨c.1, c.2.1⟩)
  clear h3
  go_enter Tryz.func4, Tryz.ntmps4
  go_wp2_with fail
  refine (HE.out _ (Below.refl _ _)).mono ?_
  rintro e w1 ⟨rfl, b1⟩
  have Z1 : Hid (Below w.heap.size w w1) := b1
  clear b1 HE
  go_wp2_with fail
  refine (RH.out _).mono ?_
  rintro e w2 ⟨rfl, b2⟩
  have Z2 : Hid (Below w.heap.size w w2) := Z1.out.trans (b2.mono Z1.out.size)
  clear b2 RH Z1
  go_wp2_with fail
  refine (DI.out _).mono ?_
  rintro e w3 ⟨rfl, rfl⟩
  clear DI
  go_wp2_with fail
  refine (RD.out _).mono ?_
  rintro e w4 ⟨rfl, rfl⟩
  clear RD
  go_wp2_with fail
  refine (AC.out _).mono ?_
  rintro e w5 ⟨rfl, rfl⟩
  clear AC
  go_wp2_with fail
  refine (RA.out _).mono ?_
  rintro e w6 ⟨rfl, rfl⟩
  clear RA
  go_wp2_with fail
  go_ret
  exact ⟨rfl, Z2.out⟩
set_option maxHeartbeats 4000000 in
theorem walk_one (key name nonce other p : ByteArray) (w : World) (t : STab w) (h1 : key.size ≤ 300) (h2 : p.size ≤ 2000) (h3 : name.size = 8) (h4 : nonce.size = 16) (h5 : ¬ other.size = 16) :
    Calls Tryz.prog 4 #[.string key, .string name, .string nonce, .string other, .string p] w fun e w' => e = .returned (.bool true) ∧ Below w.heap.size w w' := by
  have q1 : decide ((300 : Int) < (key.size : Int)) = false := decide_eq_false (by omega)
  have q2 : decide ((2000 : Int) < (p.size : Int)) = false := decide_eq_false (by omega)
  have HE : Hid (∀ w', Below w.heap.size w w' → _) := fun w' b => cn.hello_ok key p w w' b t (by omega) (by omega)
  have RH : Hid (∀ w, _) := fun w => cn.rhello_ok key p w (by omega) (by omega)
  generalize cn.helN key p = X1 at *
  generalize cn.helV key p = X2 at *
  generalize cn.helE key p = X3 at *
  have DI : Hid (∀ w, STab w → _) := fun w t => cn.dial_ok key name nonce w t (by omega) h3 h4
  have RD : Hid (∀ w, _) := fun w => cn.rdial_ok key name nonce w h3 h4
  obtain ⟨hp1, hp2, hp3⟩ := cn.hel_pk key name nonce h3 h4
  have zp := cn.pk_size (cn.kHello key) 1 name 0 nonce
  have HP : Hid (∀ w', Below w.heap.size w w' → _) := fun w' b => cn.hello_ok key (cn.pk (cn.kHello key) 1 name 0 nonce) w w' b t (by omega) (by omega)
  rw [hp1, hp2, hp3] at HP
  have SE : Hid (∀ (B : Nat) (w1 : World) (se ca le sn st : Value), ob.Lies w1 B (cn.cells false name 1 0 key nonce (cn.pk (cn.kHello key) 1 name 0 nonce) false 0 false false false (.pointer none) (.pointer none) 0 se ca le sn st (.slice none 0 0) (.slice none 0 0)) → _) := fun B w1 se ca le sn st l => cn.send1_ok B false name 0 key nonce (cn.pk (cn.kHello key) 1 name 0 nonce) 0 false false false (.pointer none) (.pointer none) 0 se ca le sn st (.slice none 0 0) (.slice none 0 0) 0 128 w1 l (by decide) (by decide)
  have RS : Hid (∀ (R : Nat) (w1 : World) (se ca le s sn : Value), Below w.heap.size w w1 → w.heap.size ≤ R → ob.Lies w1 R (cn.rcells key name false nonce ⟨#[]⟩ 1 false 0 false se ca le s sn) → _) := fun R w1 se ca le s sn b hR l => cn.rsend1_ok R key name false nonce ⟨#[]⟩ 0 false se ca le s sn 0 128 w w1 b hR l (by omega) h3 h4 (by decide) (by decide)
  generalize cn.pk (cn.kHello key) 1 name 0 nonce = P at *
  clear hp1 hp2 hp3 zp
  have AC : Hid (∀ w, _) := fun w => cn.accept_no key name nonce other w (fun c => h5 c.2.2)
  have RA : Hid (∀ w, _) := fun w => cn.raccept_no key name nonce other w (fun c => h5 c.2.2)
  clear h3 h4 h5
  go_enter Tryz.func4, Tryz.ntmps4
  go_wp2_with fail
  refine (HE.out _ (Below.refl _ _)).mono ?_
  rintro e w1 ⟨rfl, b1⟩
  have Z1 : Hid (Below w.heap.size w w1) := b1
  clear b1 HE
  go_wp2_with fail
  refine (RH.out _).mono ?_
  rintro e w2 ⟨rfl, b2⟩
  have Z2 : Hid (Below w.heap.size w w2) := Z1.out.trans (b2.mono Z1.out.size)
  clear b2 RH Z1
  go_wp2_with fail
  refine (DI.out _ (t.keep Z2.out)).mono ?_
  rintro e w3 ⟨B, se, ca, le, sn, st, rfl, l3, hB, b3⟩
  have Z3 : Hid (Below w.heap.size w w3) := Z2.out.trans (b3.mono Z2.out.size)
  have L3 := Lib.hid l3
  have GB : Hid (w.heap.size ≤ B) := Nat.le_trans Z2.out.size hB
  have hlB := l3.lt (by simp [cn.cells])
  clear b3 DI Z2 l3 hB
  go_wp2_with fail
  refine (RD.out _).mono ?_
  rintro e w4 ⟨R, se', ca', le', s', sn', rfl, l4, hR, b4⟩
  have Z4 : Hid (Below w.heap.size w w4) := Z3.out.trans (b4.mono Z3.out.size)
  have L4 := Lib.hid (L3.out.keep (by simp [cn.cells]) b4)
  have R4 := Lib.hid l4
  have GR : Hid (w.heap.size ≤ R) := Nat.le_trans Z3.out.size hR
  have NE : Hid (R ≠ B) := by unfold Hid; omega
  clear b4 RD Z3 L3 l4 hR hlB
  go_wp2_with fail
  refine (AC.out _).mono ?_
  rintro e w5 ⟨rfl, rfl⟩
  clear AC
  go_wp2_with fail
  refine (RA.out _).mono ?_
  rintro e w6 ⟨rfl, rfl⟩
  clear RA
  have L6 := L4
  have R6 := R4
  have Z6 := Z4
  clear L4 R4 Z4
  go_wp2_with fail
  refine (SE.out B _ se ca le sn st L6.out).mono ?_
  rintro e w7 ⟨rfl, k7⟩
  have Z7 : Hid (Below w.heap.size w w7) := Z6.out.trans (k7.below Z6.out.size (fun k hk => by rw [hk]; exact GB.out))
  have R7 := Lib.hid (R6.out.of_block (k7.block R (R6.out.lt (by simp [cn.rcells])) NE.out))
  clear SE L6 R6 Z6 k7
  go_wp2_with fail
  refine (RS.out R _ se' ca' le' s' sn' Z7.out GR.out R7.out).mono ?_
  rintro e w8 ⟨rfl, b8⟩
  have Z8 : Hid (Below w.heap.size w w8) := b8
  clear RS R7 Z7 b8
  go_wp2_with fail
  refine (HP.out _ Z8.out).mono ?_
  rintro e w9 ⟨rfl, b9⟩
  have Z9 : Hid (Below w.heap.size w w9) := b9
  clear HP Z8 b9
  go_wp2_with fail
  go_ret
  exact ⟨rfl, Z9.out⟩
set_option maxHeartbeats 4000000 in
theorem walk_both (key name nonce other p : ByteArray) (w : World) (t : STab w) (h1 : key.size ≤ 300) (h2 : p.size ≤ 2000) (h3 : name.size = 8) (h4 : nonce.size = 16) (h5 : other.size = 16) :
    Calls Tryz.prog 4 #[.string key, .string name, .string nonce, .string other, .string p] w fun e w' => e = .returned (.bool true) ∧ Below w.heap.size w w' := by
  have q1 : decide ((300 : Int) < (key.size : Int)) = false := decide_eq_false (by omega)
  have q2 : decide ((2000 : Int) < (p.size : Int)) = false := decide_eq_false (by omega)
  have HE : Hid (∀ w', Below w.heap.size w w' → _) := fun w' b => cn.hello_ok key p w w' b t (by omega) (by omega)
  have RH : Hid (∀ w, _) := fun w => cn.rhello_ok key p w (by omega) (by omega)
  generalize cn.helN key p = X1 at *
  generalize cn.helV key p = X2 at *
  generalize cn.helE key p = X3 at *
  have DI : Hid (∀ w, STab w → _) := fun w t => cn.dial_ok key name nonce w t (by omega) h3 h4
  have RD : Hid (∀ w, _) := fun w => cn.rdial_ok key name nonce w h3 h4
  obtain ⟨hp1, hp2, hp3⟩ := cn.hel_pk key name nonce h3 h4
  have zp := cn.pk_size (cn.kHello key) 1 name 0 nonce
  have HP : Hid (∀ w', Below w.heap.size w w' → _) := fun w' b => cn.hello_ok key (cn.pk (cn.kHello key) 1 name 0 nonce) w w' b t (by omega) (by omega)
  rw [hp1, hp2, hp3] at HP
  have SE : Hid (∀ (B : Nat) (w1 : World) (se ca le sn st : Value), ob.Lies w1 B (cn.cells false name 1 0 key nonce (cn.pk (cn.kHello key) 1 name 0 nonce) false 0 false false false (.pointer none) (.pointer none) 0 se ca le sn st (.slice none 0 0) (.slice none 0 0)) → _) := fun B w1 se ca le sn st l => cn.send1_ok B false name 0 key nonce (cn.pk (cn.kHello key) 1 name 0 nonce) 0 false false false (.pointer none) (.pointer none) 0 se ca le sn st (.slice none 0 0) (.slice none 0 0) 0 128 w1 l (by decide) (by decide)
  have RS : Hid (∀ (R : Nat) (w1 : World) (se ca le s sn : Value), Below w.heap.size w w1 → w.heap.size ≤ R → ob.Lies w1 R (cn.rcells key name false nonce ⟨#[]⟩ 1 false 0 false se ca le s sn) → _) := fun R w1 se ca le s sn b hR l => cn.rsend1_ok R key name false nonce ⟨#[]⟩ 0 false se ca le s sn 0 128 w w1 b hR l (by omega) h3 h4 (by decide) (by decide)
  generalize cn.pk (cn.kHello key) 1 name 0 nonce = P at *
  clear hp1 hp2 hp3 zp
  have AC : Hid (∀ w, STab w → _) := fun w t => cn.accept_ok key name nonce other w t (by omega) h3 h4 h5
  have RA : Hid (∀ w, _) := fun w => cn.raccept_ok key name nonce other w h3 h4 h5
  clear h3 h4 h5
  go_enter Tryz.func4, Tryz.ntmps4
  go_wp2_with fail
  refine (HE.out _ (Below.refl _ _)).mono ?_
  rintro e w1 ⟨rfl, b1⟩
  have Z1 : Hid (Below w.heap.size w w1) := b1
  clear b1 HE
  go_wp2_with fail
  refine (RH.out _).mono ?_
  rintro e w2 ⟨rfl, b2⟩
  have Z2 : Hid (Below w.heap.size w w2) := Z1.out.trans (b2.mono Z1.out.size)
  clear b2 RH Z1
  go_wp2_with fail
  refine (DI.out _ (t.keep Z2.out)).mono ?_
  rintro e w3 ⟨B, se, ca, le, sn, st, rfl, l3, hB, b3⟩
  have Z3 : Hid (Below w.heap.size w w3) := Z2.out.trans (b3.mono Z2.out.size)
  have L3 := Lib.hid l3
  have GB : Hid (w.heap.size ≤ B) := Nat.le_trans Z2.out.size hB
  have hlB := l3.lt (by simp [cn.cells])
  clear b3 DI Z2 l3 hB
  go_wp2_with fail
  refine (RD.out _).mono ?_
  rintro e w4 ⟨R, se', ca', le', s', sn', rfl, l4, hR, b4⟩
  have Z4 : Hid (Below w.heap.size w w4) := Z3.out.trans (b4.mono Z3.out.size)
  have L4 := Lib.hid (L3.out.keep (by simp [cn.cells]) b4)
  have R4 := Lib.hid l4
  have GR : Hid (w.heap.size ≤ R) := Nat.le_trans Z3.out.size hR
  have NE : Hid (R ≠ B) := by unfold Hid; omega
  clear b4 RD Z3 L3 l4 hR hlB
  go_wp2_with fail
  refine (AC.out _ (t.keep Z4.out)).mono ?_
  rintro e w5 ⟨B5, rfl, b5⟩
  have Z5 : Hid (Below w.heap.size w w5) := Z4.out.trans (b5.mono Z4.out.size)
  have L5 := Lib.hid (L4.out.keep (by simp [cn.cells]) b5)
  have R5 := Lib.hid (R4.out.keep (by simp [cn.rcells]) b5)
  clear AC b5 Z4 L4 R4
  go_wp2_with fail
  refine (RA.out _).mono ?_
  rintro e w6 ⟨B6, rfl, b6⟩
  have Z6 : Hid (Below w.heap.size w w6) := Z5.out.trans (b6.mono Z5.out.size)
  have L6 := Lib.hid (L5.out.keep (by simp [cn.cells]) b6)
  have R6 := Lib.hid (R5.out.keep (by simp [cn.rcells]) b6)
  clear RA b6 Z5 L5 R5
  go_wp2_with fail
  refine (SE.out B _ se ca le sn st L6.out).mono ?_
  rintro e w7 ⟨rfl, k7⟩
  have Z7 : Hid (Below w.heap.size w w7) := Z6.out.trans (k7.below Z6.out.size (fun k hk => by rw [hk]; exact GB.out))
  have R7 := Lib.hid (R6.out.of_block (k7.block R (R6.out.lt (by simp [cn.rcells])) NE.out))
  clear SE L6 R6 Z6 k7
  go_wp2_with fail
  refine (RS.out R _ se' ca' le' s' sn' Z7.out GR.out R7.out).mono ?_
  rintro e w8 ⟨rfl, b8⟩
  have Z8 : Hid (Below w.heap.size w w8) := b8
  clear RS R7 Z7 b8
  go_wp2_with fail
  refine (HP.out _ Z8.out).mono ?_
  rintro e w9 ⟨rfl, b9⟩
  have Z9 : Hid (Below w.heap.size w w9) := b9
  clear HP Z8 b9
  go_wp2_with fail
  go_ret
  exact ⟨rfl, Z9.out⟩
set_option maxHeartbeats 2000000 in
theorem walk (key name nonce other p : ByteArray) (w : World) (t : STab w) :
    Calls Tryz.prog 4 #[.string key, .string name, .string nonce, .string other, .string p] w fun e w' => e = .returned (.bool true) ∧ Below w.heap.size w w' := by
  by_cases h1 : key.size ≤ 300
  · by_cases h2 : p.size ≤ 2000
    · by_cases h3 : name.size = 8 ∧ nonce.size = 16
      · by_cases h5 : other.size = 16
        · exact walk_both key name nonce other p w t h1 h2 h3.1 h3.2 h5
        · exact walk_one key name nonce other p w t h1 h2 h3.1 h3.2 h5
      · exact walk_no key name nonce other p w t h1 h2 h3
    · have q1 : decide ((300 : Int) < (key.size : Int)) = false := decide_eq_false (by omega)
      have q2 : decide ((2000 : Int) < (p.size : Int)) = true := decide_eq_true (by omega)
      go_enter Tryz.func4, Tryz.ntmps4
      go_wp2_with fail
      go_ret
      exact ⟨rfl, Below.refl _ _⟩
  · have q1 : decide ((300 : Int) < (key.size : Int)) = true := decide_eq_true (by omega)
    go_enter Tryz.func4, Tryz.ntmps4
    go_wp2_with fail
    go_ret
    exact ⟨rfl, Below.refl _ _⟩

set_option maxRecDepth 100000 in
theorem contract (H : Type) (enc : TypeId × Value → H) (W : World) (base : Nat) (args : Array Value) (ds gs : List (DataW H)) (before : List MemPlace)
    (hval : ∀ (j : Nat) t v, Tryz.f4.params[j]? = some t → args[j]? = some v → Value.okWide Tryz.prog W .any base t v)
    (hW : DataW.Whole enc Tryz.prog Tryz.f4.params.toList Rows.connHelloSpec.vars false W args.toList ds gs before) (hT : STab W) :
    Calls Tryz.prog 4 args W fun e W' => ∃ v, e = .returned v ∧ Rows.connHelloSpec.post enc Tryz.prog Tryz.f4 false true false false W args v W' := by
  have hW' := hW
  obtain ⟨p, q, hA0, hV, rfl, hfz, hnd⟩ := hW
  have hA : DataW.TrodAll enc Tryz.prog W 0 (fun _ => true) true Tryz.f4.params.toList args.toList ds p := hA0
  rw [Tryz.params4] at hA hval
  obtain ⟨v0, vs0, d0, ds0, p0, q0, hargs, rfl, rfl, h0, r0⟩ := trodAll_cons hA
  obtain ⟨v1, vs1, d1, ds1, p1, q1, rfl, rfl, rfl, h1, r1⟩ := trodAll_cons r0
  obtain ⟨v2, vs2, d2, ds2, p2, q2, rfl, rfl, rfl, h2, r2⟩ := trodAll_cons r1
  obtain ⟨v3, vs3, d3, ds3, p3, q3, rfl, rfl, rfl, h3, r3⟩ := trodAll_cons r2
  obtain ⟨v4, vs4, d4, ds4, p4, q4, rfl, rfl, rfl, h4, r4⟩ := trodAll_cons r3
  obtain ⟨rfl, rfl, rfl⟩ := trodAll_nil r4
  obtain rfl : args = #[v0, v1, v2, v3, v4] := by cases args; simp_all
  obtain ⟨rfl, rfl⟩ := trodVars_none hV
  obtain ⟨a0, rfl, rfl, rfl, w0⟩ := open_string Tryz.underlying9 (hval 0 9 v0 rfl rfl) h0
  obtain ⟨a1, rfl, rfl, rfl, w1⟩ := open_string Tryz.underlying9 (hval 1 9 v1 rfl rfl) h1
  obtain ⟨a2, rfl, rfl, rfl, w2⟩ := open_string Tryz.underlying9 (hval 2 9 v2 rfl rfl) h2
  obtain ⟨a3, rfl, rfl, rfl, w3⟩ := open_string Tryz.underlying9 (hval 3 9 v3 rfl rfl) h3
  obtain ⟨a4, rfl, rfl, rfl, w4⟩ := open_string Tryz.underlying9 (hval 4 9 v4 rfl rfl) h4
  clear hA0
  simp only [List.append_nil] at hW'
  refine (walk a0 a1 a2 a3 a4 W hT).mono fun e W' ⟨he, bel⟩ => ?_
  subst he
  exact ⟨_, rfl, _, _, _, [], _, [], hW', trodAll_mk1 (shut_bool Tryz.underlying4 _), (trodAll_cons_mk (shut_string Tryz.underlying9 w0) (trodAll_cons_mk (shut_string Tryz.underlying9 w1) (trodAll_cons_mk (shut_string Tryz.underlying9 w2) (trodAll_cons_mk (shut_string Tryz.underlying9 w3) (trodAll_cons_mk (shut_string Tryz.underlying9 w4) trodAll_mk0))))), rfl, bel.frame _, fun h => by cases h⟩

set_option maxRecDepth 100000 in
theorem lifted (os : Os) (started : os.Started) (H : Type) (enc : TypeId × Value → H) :
    ReturnsInHanded {} Tryz.checked os 4 .any (fun w args => (Rows.connHelloSpec.pre enc Tryz.prog Tryz.f4 Rows.connHelloRow.domain false w args ∧ laidMetH Tryz.prog Rows.connHelloRow.laid w) ∧ sizedMet enc Tryz.prog Tryz.f4 (OpenSpec.ofChange Rows.connHelloSpec) false w args)
      (Rows.connHelloSpec.post enc Tryz.prog Tryz.f4 false true false false) := by
  refine returnsInHanded_of_change_and (C := Tryz.checked) (X := fun w _ => laidMetH Tryz.prog Rows.connHelloRow.laid w) (fun _ _ _ hh h => h.of_heap hh) own started (by kernel_rfl) Tryz.func4
    (ChangeSpec.witness_shaped (enc := enc) (C := Tryz.checked) (os := os) (X := fun w _ => laidMetH Tryz.prog Rows.connHelloRow.laid w) false (World.laidAll Tryz.prog os Rows.connHelloRow.laid) #[.string ByteArray.empty, .string ByteArray.empty, .string ByteArray.empty, .string ByteArray.empty, .string ByteArray.empty] 8 (World.laidAll_os _ _ _)
      (World.shaped_of_ZipB (by kernel_rfl) (by kernel_rfl)) (by kernel_rfl) (by kernel_rfl) (by kernel_rfl)
      (by rw [MakeChecks.laidMetH_plain _ _ _ (by kernel_rfl)]; exact laidMet_laidAll _ (by kernel_rfl) (by kernel_rfl))) ?_
  intro W base args ds gs before hval hW _ _ hL _
  have hL' : laidMet Tryz.prog Rows.connHelloRow.laid W := by
    rw [MakeChecks.laidMetH_plain _ _ _ (by kernel_rfl)] at hL
    exact hL
  exact contract H enc W base args ds gs before hval hW (stabOf rfl hL')

theorem said : Rows.ConnHelloSaid :=
  OpenClaim.holds_of_wide 4 Tryz.f4 rfl rfl rfl rfl rfl rfl rfl ⟨rfl, rfl, rfl, rfl, rfl⟩ rfl rfl rfl rfl rfl (by as_aux_lemma => kernel_rfl) Tryz.func4 closed
    (of_decide_eq_true (by as_aux_lemma => kernel_rfl)) (by unfold Func.isWrapper; first | (rw [if_pos (by decide +kernel)]; kernel_rfl) | (rw [if_neg (by decide +kernel)]; exact ⟨rfl, rfl⟩))
    (fun os started H enc _ => lifted os started H enc)

theorem plain (f : FuncId) (fn : Func) (hf : Tryz.pinned.checked.prog.funcNamed Rows.connHelloRow.func = some f) (hfn : Tryz.pinned.checked.prog.funcs[f]? = some fn) :
    (Tryz.pinned.checked.prog.looks [] = Tryz.pinned.checked.prog.looks []) ∧ ∀ (j : Nat) t, fn.params[j]? = some t → Tryz.pinned.checked.prog.wantsStandIn t = false := by
  obtain rfl : f = 4 := Option.some.inj ((show Tryz.prog.funcNamed Rows.connHelloRow.func = some 4 by kernel_rfl).symm.trans hf) |>.symm
  obtain rfl : fn = Tryz.f4 := (Option.some.inj (Tryz.func4.symm.trans hfn)).symm
  refine ⟨rfl, fun j t ht => ?_⟩
  rw [Tryz.params4] at ht
  have hm : t ∈ [9, 9, 9, 9, 9] := by simpa using Array.mem_of_getElem? ht
  have hall : ([9, 9, 9, 9, 9].all fun u => !Tryz.prog.wantsStandIn u) = true := by kernel_rfl
  exact (show Tryz.prog.wantsStandIn t = false by simpa using List.all_eq_true.1 hall t hm)
theorem card : Rows.ConnHelloCardSaid :=
  Claim7.holds_tied_plain_at .later [] _ _ _ _ said (fun _ h => by cases h) (by kernel_rfl) (fun _ h => by cases h) connHello_row_tie rfl ⟨rfl, rfl⟩ (by kernel_rfl) rfl (fun f fn hf hfn => ⟨by kernel_rfl, (plain f fn hf hfn).2⟩) (by kernel_rfl)
end Go.Proofs.YtbicfhilehllnaaGreatDoor.connHello
namespace Go.Proofs.YtbicfhilehllnaaGreatDoor
theorem connHello_card : Rows.ConnHelloCardSaid := connHello.card
end Go.Proofs.YtbicfhilehllnaaGreatDoor
