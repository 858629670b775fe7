/-
  What the program's Get and Take answer, for every string, in every world that holds the table of sizes. No condition but that.
-/
import Derived.Test.YtihkbakbciejiaaDoorVaPut
import Derived.Test.YtihkbakbciejiaaDoorVaNum
namespace Go.Proofs.YtihkbakbciejiaaDoor
set_option maxRecDepth 100000
open Go.RowKit



theorem ret_num {a b : Int} {k e : Int} (h : a = b) : Ending.returned (.tuple #[.int .i64 a, .int .i64 k, .int .i64 e]) = .returned (.tuple #[.int .i64 b, .int .i64 k, .int .i64 e]) := by rw [h]

set_option maxHeartbeats 1000000 in
theorem get_empty (s : ByteArray) (w : World) (h : s.size = 0) :
    Calls Tryd.prog 65 #[.string s] w fun e w' => e = .returned (.tuple #[.int .i64 0, .int .i64 0, .int .i64 1]) ∧ w = w' := by
  go_enter Tryd.func65, Tryd.ntmps65
  go_wp2
  go_ret3
  exact ⟨rfl, rfl⟩
set_option maxHeartbeats 1000000 in
theorem get_short (s : ByteArray) (w : World) (t : VTab w) (m k : Nat) (hk : Mk m k) (hs : s.size ≤ 9223372036854775807) (hp : 0 < s.size) (hl : s.size < k) (hm : byt s 0 / 64 = m) :
    Calls Tryd.prog 65 #[.string s] w fun e w' => e = .returned (.tuple #[.int .i64 0, .int .i64 0, .int .i64 1]) ∧ w = w' := by
  obtain ⟨_, h0, h1, h2, h3⟩ := t
  rw [← byt_eq s 0 hp] at hm
  have hm' : s[0].toNat / 64 = m := by omega
  clear hm
  rcases hk with ⟨rfl, rfl⟩ | ⟨rfl, rfl⟩ | ⟨rfl, rfl⟩ | ⟨rfl, rfl⟩
  · omega
  all_goals
    go_enter Tryd.func65, Tryd.ntmps65
    go_wp2
    go_ret3
    exact ⟨rfl, rfl⟩
set_option maxHeartbeats 1000000 in
theorem get_ok (s : ByteArray) (w : World) (t : VTab w) (m k : Nat) (hk : Mk m k) (hs : s.size ≤ 9223372036854775807) (hp : 0 < s.size) (hl : k ≤ s.size) (hm : byt s 0 / 64 = m) :
    Calls Tryd.prog 65 #[.string s] w fun e w' => e = .returned (.tuple #[.int .i64 (gva (byt s) k), .int .i64 k, .int .i64 0]) ∧ w = w' := by
  obtain ⟨_, h0, h1, h2, h3⟩ := t
  rw [← byt_eq s 0 hp] at hm
  have hm' : s[0].toNat / 64 = m := by omega
  clear hm
  rcases hk with ⟨rfl, rfl⟩ | ⟨rfl, rfl⟩ | ⟨rfl, rfl⟩ | ⟨rfl, rfl⟩
  · go_enter Tryd.func65, Tryd.ntmps65
    go_wp2
    go_rounds 1
    go_ret3
    exact ⟨ret_num (by rw [byt_eq s 0]; rfl), rfl⟩
  · go_enter Tryd.func65, Tryd.ntmps65
    go_wp2
    go_rounds 2
    go_ret3
    exact ⟨ret_num (by rw [byt_eq s 0, byt_eq s 1]; exact chain2 _ (byt_bd s)), rfl⟩
  · go_enter Tryd.func65, Tryd.ntmps65
    go_wp2
    go_rounds 4
    go_ret3
    exact ⟨ret_num (by rw [byt_eq s 0, byt_eq s 1, byt_eq s 2, byt_eq s 3]; exact chain4 _ (byt_bd s)), rfl⟩
  · go_enter Tryd.func65, Tryd.ntmps65
    go_wp2
    go_rounds 8
    go_ret3
    exact ⟨ret_num (by rw [byt_eq s 0, byt_eq s 1, byt_eq s 2, byt_eq s 3, byt_eq s 4, byt_eq s 5, byt_eq s 6, byt_eq s 7]; exact chain8 _ (byt_bd s)), rfl⟩
end Go.Proofs.YtihkbakbciejiaaDoor
