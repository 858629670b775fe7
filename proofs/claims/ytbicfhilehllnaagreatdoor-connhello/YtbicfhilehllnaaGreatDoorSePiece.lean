/-
  What the program's own streamPiece and tagOf answer: a piece of the stream of a number, and the tag, as the chapter says. Texts below 2^37 bytes; the tables lie where the program's text lays them. No other condition.
-/
import Derived.Test.YtbicfhilehllnaaGreatDoorSeBig
import Derived.Test.YtbicfhilehllnaaGreatDoorSeHide
import Derived.Test.YtbicfhilehllnaaGreatDoorShOwn
namespace Go.Proofs.YtbicfhilehllnaaGreatDoor
set_option maxRecDepth 100000
open Go.RowKit Go.Sort

theorem uu_wrap (n : Int) : IntKind.u64.wrap n = ((uu n : Nat) : Int) := by rw [uu_int]; simp [IntKind.wrap, IntKind.bits, IntKind.signed]
set_option maxHeartbeats 2000000 in
theorem piece_ok (key : ByteArray) (n : Int) (i : Nat) (w : World) (tab : Tab w) (hk : key.size < 137438953472) (hi : i < 4294967296) :
    Calls Tryz.prog 216 #[.string key, .int .i64 n, .int .i64 (i : Int)] w fun e w' => e = .returned (.string (bstr (strm key n i))) ∧ Below w.heap.size w w' := by
  have B8 : Hid (∀ w, _) := fun w => big_ok (uu n) 8 w (uu_lt n) (by decide) (by decide)
  have B4 : Hid (∀ w, _) := fun w => big_ok i 4 w (by omega) (by decide) (by decide)
  have hw := uu_wrap n
  have hwi : IntKind.u64.wrap (i : Int) = (i : Int) := by simp [IntKind.wrap, IntKind.bits, IntKind.signed]; omega
  have ze : (bstr (e8 n)).size = 8 := by rw [bstr_size, e8_length]
  have z4 : (bstr (be i 4)).size = 4 := by rw [bstr_size, be_length]
  have H : Hid (∀ w, Tab w → Calls Tryz.prog 207 #[.string key, .string (bstr (e8 n) ++ bstr (be i 4))] w fun e w' => e = .returned (.string (bstr (strm key n i))) ∧ Below w.heap.size w w') := fun w t => by
    have := hmac_ok key (bstr (e8 n) ++ bstr (be i 4)) w t (by omega) (by rw [ByteArray.size_append, ze, z4]; decide)
    rw [nb_append, nb_bstr (e8_lt n), nb_bstr (be_lt _ _)] at this
    exact this
  have eE : be (uu n) 8 = e8 n := rfl
  rw [eE] at B8
  clear eE
  generalize uu n = m at *
  generalize bstr (strm key n i) = R at *
  generalize bstr (e8 n) = X at *
  generalize bstr (be i 4) = Y at *
  have T0 : Hid (Tab w) := tab
  clear tab
  go_enter Tryz.func216, Tryz.ntmps216
  go_wp2_with fail
  refine (B8.out _).mono ?_
  rintro e w1 ⟨rfl, b1⟩
  have Z1 : Hid (Below w.heap.size w w1) := b1
  clear b1 B8
  go_wp2_with fail
  refine (B4.out _).mono ?_
  rintro e w2 ⟨rfl, b2⟩
  have Z2 : Hid (Below w.heap.size w w2) := Z1.out.trans (b2.mono Z1.out.size)
  clear b2 B4 Z1
  go_wp2_with fail
  refine (H.out _ (T0.out.keep Z2.out)).mono ?_
  rintro e w3 ⟨rfl, b3⟩
  have Z3 : Hid (Below w.heap.size w w3) := Z2.out.trans (b3.mono Z2.out.size)
  clear b3 H Z2
  go_wp2_with fail
  go_ret
  exact ⟨rfl, Z3.out⟩
set_option maxHeartbeats 2000000 in
theorem ptag_ok (secret : ByteArray) (n : Int) (head h : ByteArray) (w : World) (tab : Tab w) (vt : VTab w) (h2 : head.size < 137438953472) (h3 : h.size < 137438953472) :
    Calls Tryz.prog 156 #[.string (tkey secret), .int .i64 n, .string head, .string h] w fun e w' => e = .returned (.string (bstr (tagl secret n head (nb h)))) ∧ Below w.heap.size w w' := by
  have B8 : Hid (∀ w, _) := fun w => big_ok (uu n) 8 w (uu_lt n) (by decide) (by decide)
  have hw := uu_wrap n
  have T : Hid (∀ w, VTab w → _) := fun w t => vtext_ok head w t (by omega)
  have zt := vtx_size head (by omega)
  have ze : (bstr (e8 n)).size = 8 := by rw [bstr_size, e8_length]
  have zk : (tkey secret).size = 32 := der_len _ _ _
  have H : Hid (∀ w, Tab w → _) := fun w t => hmac_ok (tkey secret) (bstr (e8 n) ++ vtx head ++ h) w t (by rw [zk]; decide) (by rw [ByteArray.size_append, ByteArray.size_append, ze]; omega)
  have hx : Hid ((bstr (hm (nb (tkey secret)) (nb (bstr (e8 n) ++ vtx head ++ h)))).extract 0 16 = bstr (tagl secret n head (nb h))) := by
    unfold Hid
    rw [bstr_take _ _ (hm_lt _ _), nb_append, nb_append, nb_bstr (e8_lt n)]
    rfl
  have zs : (bstr (hm (nb (tkey secret)) (nb (bstr (e8 n) ++ vtx head ++ h)))).size = 32 := by rw [bstr_size, hm_length]
  have eE : be (uu n) 8 = e8 n := rfl
  rw [eE] at B8
  clear eE
  generalize uu n = m at *
  generalize bstr (tagl secret n head (nb h)) = R at *
  generalize bstr (hm (nb (tkey secret)) (nb (bstr (e8 n) ++ vtx head ++ h))) = C at *
  generalize tkey secret = K at *
  generalize bstr (e8 n) = X at *
  generalize vtx head = Y at *
  have T0 : Hid (Tab w) := tab
  have V0 : Hid (VTab w) := vt
  clear tab vt
  go_enter Tryz.func156, Tryz.ntmps156
  go_wp2_with fail
  refine (B8.out _).mono ?_
  rintro e w1 ⟨rfl, b1⟩
  have Z1 : Hid (Below w.heap.size w w1) := b1
  clear b1 B8
  go_wp2_with fail
  refine (T.out _ (V0.out.below Z1.out)).mono ?_
  rintro e w2 ⟨rfl, b2⟩
  have Z2 : Hid (Below w.heap.size w w2) := Z1.out.trans (b2.mono Z1.out.size)
  clear b2 T Z1
  go_wp2_with fail
  refine (H.out _ (T0.out.keep Z2.out)).mono ?_
  rintro e w3 ⟨rfl, b3⟩
  have Z3 : Hid (Below w.heap.size w w3) := Z2.out.trans (b3.mono Z2.out.size)
  clear b3 H Z2
  go_wp2_with fail
  go_ret
  exact ⟨by rw [← hx.out]; rfl, Z3.out⟩
end Go.Proofs.YtbicfhilehllnaaGreatDoor
