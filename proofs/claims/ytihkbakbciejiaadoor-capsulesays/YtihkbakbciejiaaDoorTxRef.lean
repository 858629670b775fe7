/-
  What the document's own Put, Text and Take answer, over bytes. Texts below 2^62 bytes; no other condition.
-/
import Derived.Test.YtihkbakbciejiaaDoorObStr
import Derived.Test.YtihkbakbciejiaaDoorVaRefPut
import Derived.Test.YtihkbakbciejiaaDoorVaRefGet
namespace Go.Proofs.YtihkbakbciejiaaDoor
set_option maxRecDepth 100000
open Go.RowKit Go.Sort

theorem rputI_ok (n : Int) (w : World) (h : 0 ≤ n ∧ n ≤ 4611686018427387903) :
    Calls Tryd.prog 35 #[.int .i64 n] w fun e w' => e = .returned (.string (strL (putI n))) ∧ Below w.heap.size w w' := by
  rcases cl_or_no n with ⟨m, k, hc⟩ | hn
  · have e := link_put hc
    refine (rput_yes n m k w hc).mono ?_
    rintro e' w' ⟨rfl, b⟩
    rw [← e, strL_toL]
    exact ⟨rfl, b⟩
  · unfold No at hn
    omega
set_option maxHeartbeats 1000000 in
theorem rtxtL_ok (d : ByteArray) (w : World) (h : d.size ≤ 4611686018427387903) :
    Calls Tryd.prog 36 #[.string d] w fun e w' => e = .returned (.string (strL (putL d.size ++ toL d))) ∧ Below w.heap.size w w' := by
  have P : Hid (∀ w, Calls Tryd.prog 35 #[.int .i64 (d.size : Int)] w fun e w' => e = .returned (.string (strL (putI d.size))) ∧ Below w.heap.size w w') := fun w => rputI_ok d.size w ⟨by omega, by omega⟩
  have z : (strL (putI d.size)).size ≤ 8 := by rw [strL_size]; exact put_len _
  have e : strL (putI d.size) ++ d = strL (putL d.size ++ toL d) := by
    rw [← strL_append, strL_toL]
    rfl
  rw [← e]
  clear e
  generalize strL (putI d.size) = X at *
  go_enter Tryd.func36, Tryd.ntmps36
  go_wp2_with (go_at_call 35; refine (P.out _).mono ?_; rintro e w1 ⟨rfl, b1⟩)
  go_ret
  exact ⟨rfl, b1⟩
end Go.Proofs.YtihkbakbciejiaaDoor
