/-
  Plain facts on datagrams: what is read of one that was written, what its check sum is, and what a byte that is turned does to it. No condition but those that are named.
-/
import Derived.Test.YtaloccmfpehhcaaUdpParse
namespace Go.Proofs.Ytaloccmfpehhcaa
open Go.RowKit

theorem strNums_append (a b : List Int) : strOfNums a ++ strOfNums b = strOfNums (a ++ b) := by
  unfold strOfNums
  rw [ByteArray.mk_append_mk, List.map_append]
/-- Numbers of sixteen bits, added up. -/
def wsum : List Int → Int
  | [] => 0
  | n :: l => n % 65536 + wsum l
theorem tt_ws : ∀ l : List Int, tt (byt (strOfNums (ws l))) (strOfNums (ws l)).size = wsum l
  | [] => rfl
  | n :: l => by
    have e : strOfNums (ws (n :: l)) = strOfNums [n / 256 % 256, n % 256] ++ strOfNums (ws l) := by rw [strNums_append]; rfl
    have z : (strOfNums [n / 256 % 256, n % 256]).size = 2 := strOfNums_size _
    rw [e, tt_append _ _ (by rw [z]), tt_ws l, z]
    have b : ∀ y ∈ [n / 256 % 256, n % 256], 0 ≤ y ∧ y < 256 := by
      intro y hy
      simp only [List.mem_cons, List.not_mem_nil, or_false] at hy
      rcases hy with rfl | rfl <;> omega
    have q0 := byt_nums _ b 0
    have q1 := byt_nums _ b 1
    simp only [tt, q0, q1, wsum]
    simp
    omega
/-- All that is summed of a datagram. -/
def tot (src dst fr to : Int) (data : ByteArray) : Int := wsum (ten src dst fr to (8 + data.size)) + tt (byt data) data.size
theorem cks_tot (src dst fr to : Int) (data : ByteArray) : 0 < tot src dst fr to data ∧ cks src dst fr to data = 65535 - tot src dst fr to data % 65535 := by
  have hp : 0 < tot src dst fr to data := by
    have := (tt_le _ (byt_bd data) data.size).1
    unfold tot
    simp only [wsum, ten]
    omega
  refine ⟨hp, ?_⟩
  have hc : ck (strOfNums (ws (ten src dst fr to (8 + data.size))) ++ data) = 65535 - fold (tot src dst fr to data) := by
    unfold ck tot
    rw [tt_append _ _ (by rw [ten_size]), tt_ws]
  unfold cks
  rw [hc, fold_pos _ hp]
  generalize tot src dst fr to data = t at *
  split <;> omega
theorem cks_swap (src dst fr to : Int) (data : ByteArray) : cks dst src fr to data = cks src dst fr to data := by
  rw [(cks_tot _ _ _ _ _).2, (cks_tot _ _ _ _ _).2]
  have : tot dst src fr to data = tot src dst fr to data := by
    unfold tot
    simp only [wsum, ten]
    omega
  rw [this]
theorem gram_byt (src dst fr to : Int) (data : ByteArray) (i : Nat) (h : i < 8) : byt (gram src dst fr to data) i = (ws [fr, to, 8 + data.size, cks src dst fr to data]).getD i 0 := by
  have z : (strOfNums (ws [fr, to, 8 + data.size, cks src dst fr to data])).size = 8 := strOfNums_size _
  unfold gram
  rw [byt_left _ _ _ (by omega), byt_nums _ (ws_bd _)]
theorem gram_w2 (src dst fr to : Int) (data : ByteArray) (hf : 0 ≤ fr ∧ fr ≤ 65535) (ht : 0 ≤ to ∧ to ≤ 65535) (hz : data.size ≤ 65507) :
    w2 (gram src dst fr to data) 0 = fr ∧ w2 (gram src dst fr to data) 2 = to ∧ w2 (gram src dst fr to data) 4 = 8 + data.size ∧ w2 (gram src dst fr to data) 6 = cks src dst fr to data := by
  have hc := cks_bd src dst fr to data
  have g := gram_byt src dst fr to data
  unfold w2
  rw [g 0 (by decide), g (0 + 1) (by decide), g 2 (by decide), g (2 + 1) (by decide), g 4 (by decide), g (4 + 1) (by decide), g 6 (by decide), g (6 + 1) (by decide)]
  generalize cks src dst fr to data = c at *
  simp only [ws]
  refine ⟨?_, ?_, ?_, ?_⟩
  · show fr / 256 % 256 * 256 + fr % 256 = fr; omega
  · show to / 256 % 256 * 256 + to % 256 = to; omega
  · show (8 + (data.size : Int)) / 256 % 256 * 256 + (8 + (data.size : Int)) % 256 = 8 + data.size; omega
  · show c / 256 % 256 * 256 + c % 256 = c; omega
theorem gram_data (src dst fr to : Int) (data : ByteArray) : (gram src dst fr to data).extract 8 (gram src dst fr to data).size = data := by
  have z : (strOfNums (ws [fr, to, 8 + data.size, cks src dst fr to data])).size = 8 := strOfNums_size _
  unfold gram
  generalize strOfNums (ws [fr, to, 8 + data.size, cks src dst fr to data]) = T at *
  apply ByteArray.ext
  apply Array.ext'
  have h' : T.data.toList.length = 8 := by simpa using z
  have d : List.drop 8 T.data.toList = [] := List.drop_eq_nil_of_le (by omega)
  rw [ByteArray.data_extract, ByteArray.size_append, z]
  simp only [ByteArray.data_append, Array.toList_extract, Array.toList_append, List.extract_eq_take_drop, List.drop_append, d, h', Nat.sub_self, List.drop_zero, List.nil_append]
  exact List.take_of_length_le (by simp)
theorem gram_err (src dst fr to : Int) (data : ByteArray) (hf : 0 ≤ fr ∧ fr ≤ 65535) (ht : 0 ≤ to ∧ to ≤ 65535) (hz : data.size ≤ 65507) : uerr src dst (gram src dst fr to data) = 0 := by
  obtain ⟨e0, e2, e4, e6⟩ := gram_w2 src dst fr to data hf ht hz
  unfold uerr
  rw [e0, e2, e4, e6, gram_data, gram_size, if_neg (by omega), if_neg (by omega), if_neg (by omega), if_neg (by omega), if_neg (by simp)]
theorem gram_val (src dst fr to : Int) (data : ByteArray) (hf : 0 ≤ fr ∧ fr ≤ 65535) (ht : 0 ≤ to ∧ to ≤ 65535) (hz : data.size ≤ 65507) :
    uval src dst (gram src dst fr to data) = .tuple #[.int .i64 fr, .int .i64 to, .string data, .int .i64 0] := by
  obtain ⟨e0, e2, e4, e6⟩ := gram_w2 src dst fr to data hf ht hz
  unfold uval
  rw [gram_err src dst fr to data hf ht hz, if_pos rfl, e0, e2, gram_data]
/-- One place that is turned. -/
theorem tt_turn (f g : Nat → Int) (k : Nat) (ho : ∀ i, i ≠ k → g i = f i) : ∀ m, tt g m = tt f m + (if k < m then (if k % 2 = 0 then 256 * (g k - f k) else g k - f k) else 0)
  | 0 => by simp [tt]
  | m + 1 => by
    have ih := tt_turn f g k ho m
    show tt g m + (if m % 2 = 0 then 256 * g m else g m) = tt f m + (if m % 2 = 0 then 256 * f m else f m) + _
    by_cases e : m = k
    · subst e
      rw [ih, if_neg (Nat.lt_irrefl _), if_pos (Nat.lt_succ_self _)]
      split <;> omega
    · rw [ih, ho m e]
      by_cases l : k < m
      · rw [if_pos l, if_pos (show k < m + 1 by omega)]; exact Int.add_right_comm _ _ _
      · rw [if_neg l, if_neg (show ¬ k < m + 1 by omega), Int.add_zero, Int.add_zero]
theorem tt_head (s : ByteArray) (h : 8 ≤ s.size) : tt (byt s) s.size = w2 s 0 + w2 s 2 + w2 s 4 + w2 s 6 + tt (byt (s.extract 8 s.size)) (s.extract 8 s.size).size := by
  have z : (s.extract 8 s.size).size = s.size - 8 := by rw [ByteArray.size_extract]; omega
  have e := tt_add (byt s) 8 (by decide) (s.size - 8)
  rw [show 8 + (s.size - 8) = s.size by omega] at e
  rw [e, z, tt_congr (byt (s.extract 8 s.size)) (fun i => byt s (8 + i)) (s.size - 8) (fun i hi => byt_extract s 8 s.size i (by omega))]
  simp [tt, w2]
  omega
set_option maxHeartbeats 1000000 in
theorem turn_err (src dst : Int) (s t : ByteArray) (k : Nat) (h8 : 8 ≤ s.size) (hm : s.size ≤ 65535) (e : uerr src dst s = 0) (hz : t.size = s.size) (hk : k < s.size) (h4 : k ≠ 4) (h5 : k ≠ 5) (hv : byt t k ≠ byt s k) (ho : ∀ i, i ≠ k → byt t i = byt s i) : uerr src dst t = 9 := by
  have x4 : w2 t 4 = w2 s 4 := by unfold w2; rw [ho 4 (Ne.symm h4), ho (4 + 1) (Ne.symm h5)]
  unfold uerr at e ⊢
  rw [x4, hz]
  rw [if_neg (by omega)] at e ⊢
  by_cases a1 : (s.size : Int) < w2 s 4
  · rw [if_pos a1] at e; omega
  rw [if_neg a1] at e ⊢
  by_cases a2 : w2 s 4 < 8
  · rw [if_pos a2] at e; omega
  rw [if_neg a2] at e ⊢
  by_cases a3 : (s.size : Int) > w2 s 4
  · rw [if_pos a3] at e; omega
  rw [if_neg a3] at e ⊢
  by_cases a4 : w2 s 6 = cks src dst (w2 s 0) (w2 s 2) (s.extract 8 s.size)
  · refine if_pos fun a5 => ?_
    have zs : (s.extract 8 s.size).size = s.size - 8 := by rw [ByteArray.size_extract]; omega
    have zt : (t.extract 8 s.size).size = s.size - 8 := by rw [ByteArray.size_extract]; omega
    have hs := tt_head s h8
    have ht := tt_head t (by omega)
    rw [hz] at ht
    have hd := tt_turn (byt s) (byt t) k ho s.size
    rw [if_pos hk, ht, hs] at hd
    have cs := cks_tot src dst (w2 s 0) (w2 s 2) (s.extract 8 s.size)
    have ct := cks_tot src dst (w2 t 0) (w2 t 2) (t.extract 8 s.size)
    have us : tot src dst (w2 s 0) (w2 s 2) (s.extract 8 s.size) = wsum (ten src dst (w2 s 0) (w2 s 2) (8 + (s.extract 8 s.size).size)) + tt (byt (s.extract 8 s.size)) (s.extract 8 s.size).size := rfl
    have ut : tot src dst (w2 t 0) (w2 t 2) (t.extract 8 s.size) = wsum (ten src dst (w2 t 0) (w2 t 2) (8 + (t.extract 8 s.size).size)) + tt (byt (t.extract 8 s.size)) (t.extract 8 s.size).size := rfl
    simp only [wsum, ten] at us ut
    rw [← a4] at cs
    rw [← a5] at ct
    rw [zs] at us hd
    rw [zt] at ut hd
    have b0 := w2_bd s 0; have b2 := w2_bd s 2; have b0' := w2_bd t 0; have b2' := w2_bd t 2
    have bk := byt_bd s k; have bk' := byt_bd t k
    have h67 : (k = 6 ∨ k = 7) ∨ w2 t 6 = w2 s 6 := by
      by_cases q : k = 6 ∨ k = 7
      · exact .inl q
      · refine .inr ?_
        unfold w2
        rw [ho 6 (by omega), ho (6 + 1) (by omega)]
    have hx : k = 6 → w2 t 6 = w2 s 6 + 256 * (byt t k - byt s k) := fun q => by
      unfold w2
      rw [ho (6 + 1) (by omega), q]
      omega
    have hy : k = 7 → w2 t 6 = w2 s 6 + (byt t k - byt s k) := fun q => by
      unfold w2
      rw [ho 6 (by omega), q]
      omega
    rw [x4] at hd
    generalize tot src dst (w2 s 0) (w2 s 2) (s.extract 8 s.size) = Fs at *
    generalize tot src dst (w2 t 0) (w2 t 2) (t.extract 8 s.size) = Ft at *
    generalize tt (byt (s.extract 8 s.size)) (s.size - 8) = Ds at *
    generalize tt (byt (t.extract 8 s.size)) (s.size - 8) = Dt at *
    generalize w2 s 0 = p0 at *
    generalize w2 s 2 = p2 at *
    generalize w2 s 6 = p6 at *
    generalize w2 t 0 = q0 at *
    generalize w2 t 2 = q2 at *
    generalize w2 t 6 = q6 at *
    generalize byt t k = v at *
    generalize byt s k = u at *
    clear x4 e a1 a2 a3 a4 a5 ho hs ht zs zt
    have hF : Ft = Fs + (q0 + q2 + Dt) - (p0 + p2 + Ds) := by omega
    clear us ut b0 b2 b0' b2'
    obtain ⟨ps, cs⟩ := cs
    obtain ⟨pt, ct⟩ := ct
    rcases h67 with (rfl | rfl) | h67
    · simp at hd hx; omega
    · simp at hd hy; omega
    · split at hd <;> omega
  · rw [if_pos a4] at e; omega
end Go.Proofs.Ytaloccmfpehhcaa
