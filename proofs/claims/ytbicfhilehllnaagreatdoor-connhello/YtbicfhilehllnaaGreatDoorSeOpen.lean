/-
  What the document's own Seal and Open answer: hidden bytes and their tag; the data, or why not. Texts below 2^36 bytes; no other condition.
-/
import Derived.Test.YtbicfhilehllnaaGreatDoorSeHide
import Derived.Lib.QuietBelow
import Derived.Lib.Hide
import Derived.BigQuiet
namespace Go.Proofs.YtbicfhilehllnaaGreatDoor
set_option maxRecDepth 100000
open Go.RowKit Go.Sort

theorem hide_length (secret : ByteArray) (n : Int) (d : List Nat) : (hide secret n d).length = d.length := hdn_length _ _ _ _
theorem hide_lt (secret : ByteArray) (n : Int) {d : List Nat} (h : ∀ x ∈ d, x < 256) : ∀ x ∈ hide secret n d, x < 256 := hdn_lt _ _ h _
/-- What is sealed. -/
def sld (secret : ByteArray) (n : Int) (head data : ByteArray) : ByteArray := bstr (hide secret n (nb data)) ++ bstr (tagl secret n head (hide secret n (nb data)))
theorem sld_size (secret : ByteArray) (n : Int) (head data : ByteArray) : (sld secret n head data).size = data.size + 16 := by
  unfold sld
  rw [ByteArray.size_append, bstr_size, bstr_size, hide_length, tagl_length, nb_length]
set_option maxHeartbeats 1000000 in
theorem rseal_ok (secret : ByteArray) (n : Int) (head data : ByteArray) (w : World) (h1 : secret.size < 549755813888) (h2 : head.size < 137438953472) (h3 : data.size < 137438953472) :
    Calls Tryz.prog 120 #[.string secret, .int .i64 n, .string head, .string data] w fun e w' => e = .returned (.string (sld secret n head data)) ∧ Below w.heap.size w w' := by
  have zh : (bstr (hide secret n (nb data))).size = data.size := by rw [bstr_size, hide_length, nb_length]
  have H : Hid (∀ w, _) := fun w => rhide_ok secret n data w h1 h3
  have T : Hid (∀ w, _) := fun w => rtag_ok secret n head (bstr (hide secret n (nb data))) w h1 h2 (by rw [zh]; exact h3)
  rw [nb_bstr (hide_lt secret n (nb_lt data))] at T
  have zt : (bstr (tagl secret n head (hide secret n (nb data)))).size = 16 := by rw [bstr_size, tagl_length]
  unfold sld
  generalize bstr (tagl secret n head (hide secret n (nb data))) = Y at *
  generalize bstr (hide secret n (nb data)) = X at *
  go_enter Tryz.func120, Tryz.ntmps120
  go_wp2_with fail
  refine (H.out _).mono ?_
  rintro e w1 ⟨rfl, b1⟩
  have Z1 : Hid (Below w.heap.size w w1) := b1
  clear b1 H
  go_wp2_with fail
  refine (T.out _).mono ?_
  rintro e w2 ⟨rfl, b2⟩
  have Z2 : Hid (Below w.heap.size w w2) := Z1.out.trans (b2.mono Z1.out.size)
  clear b2 T Z1
  go_wp2_with fail
  go_ret
  exact ⟨rfl, Z2.out⟩
/-- What is read of sealed bytes: the hidden ones, and what stands behind them. -/
def hdd (s : ByteArray) : ByteArray := s.extract 0 (s.size - 16)
def tgd (s : ByteArray) : ByteArray := s.extract (s.size - 16) s.size
/-- Are the last sixteen the tag of the others? -/
def good (secret : ByteArray) (n : Int) (head s : ByteArray) : Bool := (bstr (tagl secret n head (nb (hdd s)))).toList == (tgd s).toList
/-- What Open answers: the data, or nothing, and which error. -/
def opv (secret : ByteArray) (n : Int) (head s : ByteArray) : ByteArray := if s.size < 16 then ⟨#[]⟩ else if good secret n head s then bstr (hide secret n (nb (hdd s))) else ⟨#[]⟩
def ope (secret : ByteArray) (n : Int) (head s : ByteArray) : Int := if s.size < 16 then 1 else if good secret n head s then 0 else 10
set_option maxHeartbeats 4000000 in
theorem ropen_ok (secret : ByteArray) (n : Int) (head s : ByteArray) (w : World) (h1 : secret.size < 549755813888) (h2 : head.size < 137438953472) (h3 : s.size < 137438953472) :
    Calls Tryz.prog 133 #[.string secret, .int .i64 n, .string head, .string s] w fun e w' => e = .returned (.tuple #[.string (opv secret n head s), .int .i64 (ope secret n head s)]) ∧ Below w.heap.size w w' := by
  by_cases hs : s.size < 16
  · have e1 : opv secret n head s = ⟨#[]⟩ := if_pos hs
    have e2 : ope secret n head s = 1 := if_pos hs
    rw [e1, e2]
    have g1 : decide ((s.size : Int) - 16 < 0) = true := decide_eq_true (by omega)
    go_enter Tryz.func133, Tryz.ntmps133
    go_wp2
    go_ret2
    exact ⟨rfl, Below.refl _ _⟩
  · have g1 : decide ((s.size : Int) - 16 < 0) = false := decide_eq_false (by omega)
    obtain ⟨m, hm⟩ : ∃ m, m = s.size - 16 := ⟨_, rfl⟩
    have hmi : (s.size : Int) - 16 = (m : Int) := by omega
    have hml : m ≤ s.size := by omega
    have zh : (hdd s).size < 137438953472 := by unfold hdd; rw [ByteArray.size_extract]; omega
    have T : Hid (∀ w, _) := fun w => rtag_ok secret n head (hdd s) w h1 h2 zh
    have H : Hid (∀ w, _) := fun w => rhide_ok secret n (hdd s) w h1 zh
    have e1 : opv secret n head s = if good secret n head s then bstr (hide secret n (nb (hdd s))) else ⟨#[]⟩ := if_neg hs
    have e2 : ope secret n head s = if good secret n head s then 0 else 10 := if_neg hs
    rw [e1, e2]
    have hg : ((bstr (tagl secret n head (nb (hdd s)))).toList == (tgd s).toList) = good secret n head s := rfl
    have hh : s.extract 0 m = hdd s := by rw [hm]; rfl
    have ht : s.extract m s.size = tgd s := by rw [hm]; rfl
    clear e1 e2
    generalize bstr (hide secret n (nb (hdd s))) = X at *
    generalize bstr (tagl secret n head (nb (hdd s))) = Y at *
    generalize good secret n head s = G at *
    generalize hdd s = P at *
    generalize tgd s = Q at *
    have hq : (m : Int) ≤ s.size := by omega
    replace hm : Hid _ := hm
    go_enter Tryz.func133, Tryz.ntmps133
    go_wp2_with fail
    refine wp_region_quiet_below (by kernel_rfl) (by kernel_rfl) ?_
    repeat (go_big_quiet_step (first | (go_at_call 186; exact Calls.regrown_of (T.out _))))
    refine wpQuiet_nil ?_
    intro _ hw'
    obtain ⟨⟨dq, osq⟩, hw''⟩ := hw'
    subst hw''
    have bq := below_regrown w dq osq
    have Z1 : Hid (Below w.heap.size w (grow (redrawn w dq) osq)) := bq
    clear bq T
    simp only
    generalize grow (redrawn w dq) osq = w1 at *
    cases G with
    | false =>
      go_wp2
      go_ret2
      exact ⟨rfl, Z1.out⟩
    | true =>
      go_wp2_with fail
      refine (H.out _).mono ?_
      rintro e w2 ⟨rfl, b2⟩
      have Z2 : Hid (Below w.heap.size w w2) := Z1.out.trans (b2.mono Z1.out.size)
      clear b2 H Z1
      go_wp2_with fail
      go_ret2
      exact ⟨rfl, Z2.out⟩
end Go.Proofs.YtbicfhilehllnaaGreatDoor
