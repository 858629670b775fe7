/-
  What the program's own Put, Text and Take of varint answer, over bytes. Texts below 2^62 bytes; the table of sizes lies as the row's list gives it.
-/
import Derived.Test.YtihkbakbciejiaaDoorObStr
import Derived.Test.YtihkbakbciejiaaDoorVaPut
import Derived.Test.YtihkbakbciejiaaDoorVaTake
import Derived.Test.YtihkbakbciejiaaDoorShBytes
namespace Go.Proofs.YtihkbakbciejiaaDoor
set_option maxRecDepth 100000
open Go.RowKit Go.Sort

theorem pputI_ok (n : Int) (w : World) (t : VTab w) (h : 0 ≤ n ∧ n ≤ 4611686018427387903) :
    Calls Tryd.prog 32 #[.int .i64 n] w fun e w' => e = .returned (.string (strL (putI n))) ∧ Below w.heap.size w w' := by
  rcases cl_or_no n with ⟨m, k, hc⟩ | hn
  · have e := link_put hc
    refine (put_yes n m k w t hc).mono ?_
    rintro e' w' ⟨rfl, b⟩
    rw [← e, strL_toL]
    exact ⟨rfl, b⟩
  · unfold No at hn
    omega
set_option maxHeartbeats 1000000 in
theorem ptxtL_ok (d : ByteArray) (w : World) (t : VTab w) (h : d.size ≤ 4611686018427387903) :
    Calls Tryd.prog 33 #[.string d] w fun e w' => e = .returned (.string (strL (putL d.size ++ toL d))) ∧ Below w.heap.size w w' := by
  have P : Hid (∀ w, VTab w → Calls Tryd.prog 32 #[.int .i64 (d.size : Int)] w fun e w' => e = .returned (.string (strL (putI d.size))) ∧ Below w.heap.size w w') := fun w t => pputI_ok d.size w t ⟨by omega, by omega⟩
  have z : (strL (putI d.size)).size ≤ 8 := by rw [strL_size]; exact put_len _
  have e : strL (putI d.size) ++ d = strL (putL d.size ++ toL d) := by
    rw [← strL_append, strL_toL]
    rfl
  rw [← e]
  clear e
  generalize strL (putI d.size) = X at *
  go_enter Tryd.func33, Tryd.ntmps33
  go_wp2_with (go_at_call 32; refine (P.out _ t).mono ?_; rintro e w1 ⟨rfl, b1⟩)
  go_ret
  exact ⟨rfl, b1⟩
/-- A text with its count, taken from the front. -/
theorem ptakeL_ok (s : ByteArray) (w : World) (t : VTab w) (hs : s.size ≤ 9223372036854775807) :
    Calls Tryd.prog 66 #[.string s] w fun e w' => w = w' ∧
      ((∃ (t : L) (n : Nat), rText (toL s) = .ok (t, (toL s).drop n) ∧ 1 ≤ n ∧ n ≤ s.size ∧ e = .returned (.tuple #[.string (strL t), .int .i64 (n : Int), .int .i64 0])) ∨ (rText (toL s) = .error 1 ∧ e = .returned (.tuple #[.string ⟨#[]⟩, .int .i64 0, .int .i64 1]))) := by
  rcases cut_or_has s with q | ⟨k, q⟩
  · refine (take_cut s w t hs q).mono ?_
    rintro e w' ⟨rfl, rfl⟩
    exact ⟨rfl, .inr ⟨by unfold rText Rd.bind rNum; rw [link_cut q], rfl⟩⟩
  · have hq := q
    obtain ⟨_, hkl, m, hk, _⟩ := hq
    have hb := (gva_bd (byt s) (byt_bd s) hk).1
    have hn : rNum (toL s) = .ok ((gva (byt s) k).toNat, (toL s).drop k) := by unfold rNum; rw [link_has q]
    have hlen : ((toL s).drop k).length = s.size - k := by rw [List.length_drop, toL_len]
    have hk1 : 1 ≤ k := by rcases hk with ⟨-, rfl⟩ | ⟨-, rfl⟩ | ⟨-, rfl⟩ | ⟨-, rfl⟩ <;> omega
    obtain ⟨c, hc⟩ : ∃ c : Nat, gva (byt s) k = c := ⟨(gva (byt s) k).toNat, by omega⟩
    rw [hc, Int.toNat_natCast] at hn
    by_cases hl : k + c ≤ s.size
    · refine (take_ok s w t hs k c q hc hl).mono ?_
      rintro e w' ⟨rfl, rfl⟩
      refine ⟨rfl, .inl ⟨toL (s.extract k (k + c)), k + c, ?_, by omega, hl, by rw [strL_toL]; simp⟩⟩
      unfold rText
      rw [bind_ok hn]
      unfold rTake
      rw [if_neg (by omega), toL_cut, List.drop_drop, List.drop_take]
      congr 3
      omega
    · refine (take_short s w t hs k q (by omega)).mono ?_
      rintro e w' ⟨rfl, rfl⟩
      refine ⟨rfl, .inr ⟨?_, rfl⟩⟩
      unfold rText
      rw [bind_ok hn]
      unfold rTake
      rw [if_pos (by omega)]
end Go.Proofs.YtihkbakbciejiaaDoor
