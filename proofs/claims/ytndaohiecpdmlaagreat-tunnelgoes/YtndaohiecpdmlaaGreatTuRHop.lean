/-
  What the document's own Hop answers of any bytes. No condition but what the form allows.
-/
import Derived.Test.YtndaohiecpdmlaaGreatTuHop
import Derived.Test.YtndaohiecpdmlaaGreatIpRefHop
namespace Go.Proofs.YtndaohiecpdmlaaGreat
set_option maxRecDepth 100000
open Go.RowKit

theorem rhop_ok (s : ByteArray) (w : World) (hs : s.size ≤ 9223372036854775807) : Calls Tryz.prog 16 #[.string s] w fun e w' => e = .returned (.tuple #[.string (hopS s), .int .i64 (hopE s)]) ∧ Below w.heap.size w w' := by
  by_cases h : errOf s = 0
  · by_cases ht : ttlP s < 2
    · have e := hopE_low h ht
      rw [hopE_some (by rw [e]; decide), e]
      exact rhop_stop s w _ _ _ _ _ _ _ _ ht fun w => rparse_hd s w hs h
    · have e := hopE_go h ht
      rw [(hopE_zero e).2.2.2, e]
      have g := good_err s h
      exact rhop_go s (hopP s) w _ _ _ _ _ _ _ _ (by unfold ttlP at ht; omega) (by have := ttl_bd s; unfold ttlP at this; omega) (fun w => rparse_hd s w hs h) fun w => rbuild_ok _ _ _ _ _ _ _ _ w (hop_hok (by omega)) (dat_small g) (num4_bd s 12).1 (num4_bd s 12).2 (num4_bd s 16).1 (num4_bd s 16).2
  · have e := hopE_err h
    rw [hopE_some (by rw [e]; exact h), e]
    exact rhop_err s w _ (by simpa using h) fun w => rparse_none s w hs h
end Go.Proofs.YtndaohiecpdmlaaGreat
