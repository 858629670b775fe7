/-
  What the document's own Tag answers: the first sixteen bytes of the code that the chapter says. Texts below 2^37 bytes; no other condition.
-/
import Derived.Test.YtbicfhilehllnaaGreatDoorSeEight
import Derived.Test.YtbicfhilehllnaaGreatDoorShDer
namespace Go.Proofs.YtbicfhilehllnaaGreatDoor
set_option maxRecDepth 100000
open Go.RowKit Go.Sort

/-- The two parts of a secret. -/
def ckey (secret : ByteArray) : ByteArray := der secret ⟨#[99, 105, 112, 104, 101, 114]⟩ ⟨#[]⟩
def tkey (secret : ByteArray) : ByteArray := der secret ⟨#[116, 97, 103]⟩ ⟨#[]⟩
theorem der_len (key label context : ByteArray) : (der key label context).size = 32 := by unfold der; rw [bstr_size, hm_length]
/-- The tag of a number, a head and hidden bytes. -/
def tagl (secret : ByteArray) (n : Int) (head : ByteArray) (h : List Nat) : List Nat := (hm (nb (tkey secret)) (e8 n ++ nb (vtx head) ++ h)).take 16
theorem tagl_length (secret : ByteArray) (n : Int) (head : ByteArray) (h : List Nat) : (tagl secret n head h).length = 16 := by unfold tagl; rw [List.length_take, hm_length]; decide
theorem tagl_lt (secret : ByteArray) (n : Int) (head : ByteArray) (h : List Nat) : ∀ x ∈ tagl secret n head h, x < 256 := fun x hx => dig_lt _ x (List.mem_of_mem_take hx)
theorem hm_lt (key l : List Nat) : ∀ x ∈ hm key l, x < 256 := dig_lt _
theorem bstr_take (l : List Nat) (n : Nat) (h : ∀ x ∈ l, x < 256) : (bstr l).extract 0 n = bstr (l.take n) := by
  have e := nb_extract l 0 n h
  rw [List.drop_zero, Nat.sub_zero] at e
  rw [← bstr_nb ((bstr l).extract 0 n), e]
set_option maxHeartbeats 1000000 in
theorem rtag_ok (secret : ByteArray) (n : Int) (head h : ByteArray) (w : World) (h1 : secret.size < 549755813888) (h2 : head.size < 137438953472) (h3 : h.size < 137438953472) :
    Calls Tryz.prog 186 #[.string secret, .int .i64 n, .string head, .string h] w fun e w' => e = .returned (.string (bstr (tagl secret n head (nb h)))) ∧ Below w.heap.size w w' := by
  have D : Hid (∀ w, _) := fun w => rderive_ok secret ⟨#[116, 97, 103]⟩ ⟨#[]⟩ w h1 (by decide) (by decide)
  have E : Hid (∀ w, _) := fun w => reight_ok n w
  have T : Hid (∀ w, _) := fun w => rvtext_ok head w (by omega)
  have zt := vtx_size head (by omega)
  have ze : (bstr (e8 n)).size = 8 := by rw [bstr_size, e8_length]
  have zk : (der secret ⟨#[116, 97, 103]⟩ ⟨#[]⟩).size = 32 := der_len _ _ _
  have H : Hid (∀ w, _) := fun w => rhmac_ok (der secret ⟨#[116, 97, 103]⟩ ⟨#[]⟩) (bstr (e8 n) ++ vtx head ++ h) w (by rw [zk]; decide) (by rw [ByteArray.size_append, ByteArray.size_append, ze]; omega)
  have hx : Hid ((bstr (hm (nb (der secret ⟨#[116, 97, 103]⟩ ⟨#[]⟩)) (nb (bstr (e8 n) ++ vtx head ++ h)))).extract 0 16 = bstr (tagl secret n head (nb h))) := by
    unfold Hid
    rw [bstr_take _ _ (hm_lt _ _), nb_append, nb_append, nb_bstr (e8_lt n)]
    rfl
  have zs : (bstr (hm (nb (der secret ⟨#[116, 97, 103]⟩ ⟨#[]⟩)) (nb (bstr (e8 n) ++ vtx head ++ h)))).size = 32 := by rw [bstr_size, hm_length]
  generalize bstr (tagl secret n head (nb h)) = R at *
  generalize bstr (hm (nb (der secret ⟨#[116, 97, 103]⟩ ⟨#[]⟩)) (nb (bstr (e8 n) ++ vtx head ++ h))) = C at *
  generalize der secret ⟨#[116, 97, 103]⟩ ⟨#[]⟩ = K at *
  generalize bstr (e8 n) = X at *
  generalize vtx head = Y at *
  go_enter Tryz.func186, Tryz.ntmps186
  go_wp2_with fail
  refine (D.out _).mono ?_
  rintro e w1 ⟨rfl, b1⟩
  have Z1 : Hid (Below w.heap.size w w1) := b1
  clear b1 D
  go_wp2_with fail
  refine (E.out _).mono ?_
  rintro e w2 ⟨rfl, b2⟩
  have Z2 : Hid (Below w.heap.size w w2) := Z1.out.trans (b2.mono Z1.out.size)
  clear b2 E Z1
  go_wp2_with fail
  refine (T.out _).mono ?_
  rintro e w3 ⟨rfl, b3⟩
  have Z3 : Hid (Below w.heap.size w w3) := Z2.out.trans (b3.mono Z2.out.size)
  clear b3 T Z2
  go_wp2_with fail
  refine (H.out _).mono ?_
  rintro e w4 ⟨rfl, b4⟩
  have Z4 : Hid (Below w.heap.size w w4) := Z3.out.trans (b4.mono Z3.out.size)
  clear b4 H Z3
  go_wp2_with fail
  go_ret
  exact ⟨by rw [← hx.out]; rfl, Z4.out⟩
end Go.Proofs.YtbicfhilehllnaaGreatDoor
