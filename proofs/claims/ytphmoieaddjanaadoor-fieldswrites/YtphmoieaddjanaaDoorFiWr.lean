/-
  What the document's own Write answers of fields in memory. No condition.
-/
import Derived.Test.YtphmoieaddjanaaDoorFiLine
namespace Go.Proofs.YtphmoieaddjanaaDoor
set_option maxRecDepth 100000
open Go.RowKit Go.Sort

theorem line_len {f : Fd} (h : rtE f = 0) : (lineL f).length ≤ 600 := by
  obtain ⟨h1, h2⟩ := rt_len h
  have p1 := put_len f.1.length
  have p2 := put_len f.2.length
  unfold lineL txt
  split
  · simp
  · split
    · simp only [List.length_cons, List.length_append]; omega
    · simp only [List.length_cons, List.length_append]; omega
theorem write_take (l : List Fd) (k : Nat) (h : k < l.length) : writeL (l.take (k + 1)) = writeL (l.take k) ++ lineL (l.getD k nF) := by
  rw [List.take_succ_eq_append_getElem h, write_app]
  have e : l.getD k nF = l[k] := by simp [List.getD, List.getElem?_eq_getElem h]
  rw [e]
  simp [writeL]
theorem fstE_all : ∀ (l : List Fd), fstE l = 0 → ∀ k, k < l.length → rtE (l.getD k nF) = 0
  | [], _, k, h => by simp at h
  | f :: l, h, k, hk => by
    unfold fstE at h
    by_cases q : rtE f = 0
    · rw [if_pos q] at h
      cases k with
      | zero => simpa using q
      | succ k => simpa using fstE_all l h k (by simpa using hk)
    · rw [if_neg q] at h
      exact absurd h q
def wrV (l : List Fd) : Value := .tuple #[.string (if chkS l = 0 then strL (writeL l) else ⟨#[]⟩), .int .i64 (chkS l)]
set_option maxHeartbeats 4000000 in
theorem rwrite14_ok (l : List Fd) (v : Value) (w : World) (h : FdsAt w v l) (hl : l.length ≤ maxLen) : Calls Tryd.prog 9 #[v] w fun e w' => e = .returned (wrV l) ∧ Below w.heap.size w w' := by
  have CK := Lib.hid (rcheck_ok l v w h hl)
  obtain ⟨E, hE⟩ : ∃ E, E = wrV l := ⟨_, rfl⟩
  rw [← hE]
  unfold wrV at hE
  replace hE := Lib.hid hE
  by_cases q : chkS l = 0
  · have H := Lib.hid h
    obtain ⟨a, c, rfl⟩ := h.slice
    clear h hl
    have hf : fstE l = 0 ∧ l.length ≤ 16 := by
      unfold chkS at q
      split at q
      · cases q
      · exact ⟨q, by omega⟩
    have hr := Lib.hid (fstE_all l hf.1)
    have h16 := hf.2
    have wt := Lib.hid (write_take l)
    have LN : Hid (∀ f w, rtE f = 0 → _) := fun f w (hf : rtE f = 0) => rline_ok f w (rt_len hf).1 (rt_len hf).2
    rw [q] at CK
    rw [q, if_pos rfl] at hE
    replace q := Lib.hid q
    obtain ⟨n, hn⟩ : ∃ n, n = l.length := ⟨_, rfl⟩
    rw [← hn] at CK hr h16 wt ⊢
    replace hn := Lib.hid hn
    clear hf
    go_enter Tryd.func9, Tryd.ntmps9
    go_wp2_with fail
    refine CK.out.mono ?_
    rintro e w1 ⟨rfl, b1⟩
    have B1 := Lib.hid b1
    clear b1 CK
    go_wp2_with fail
    go_loopg [5, 6] n (fun g' sv iv wr => ∃ (k : Nat) (t : ByteArray), Hid (k + g' = n) ∧ Hid (t = strL (writeL (l.take k)) ∧ t.size ≤ 600 * k) ∧ iv = .int .i64 k ∧ sv = .string t ∧ Hid (Below w.heap.size w wr))
    case atStart => exact ⟨0, ⟨#[]⟩, Lib.hid (by omega), ⟨by simp [writeL, strL], Nat.zero_le _⟩, rfl, rfl, B1⟩
    case round =>
      clear B1
      obtain ⟨k, t, hk, ht, rfl, rfl, bl⟩ := hrel
      have hk0 := hk.out
      obtain ⟨ht1, ht2⟩ := ht.out
      by_cases hlt : k < n
      · have g1 : decide ((k : Int) < (n : Int)) = true := decide_eq_true (by omega)
        have g1' : decide (k < n) = true := decide_eq_true hlt
        obtain ⟨g, o, rfl, c1, c2⟩ := (H.out.keep bl.out).at (k := k) (by rw [← hn.out]; exact hlt)
        have ia := fun w' => at_fds g o n c k w' hlt (k : Int) rfl (o + 2 * k) rfl
        have hrk := hr.out k hlt
        have LK := Lib.hid (LN.out (l.getD k nF) wr hrk)
        have lk := line_len hrk
        have wk := wt.out k hlt
        unfold fbV at LK
        have T2 : Hid (t ++ strL (lineL (l.getD k nF)) = strL (writeL (l.take (k + 1))) ∧ (t ++ strL (lineL (l.getD k nF))).size ≤ 600 * (k + 1)) := by
          refine ⟨by rw [wk, ← strL_append, ← ht1], ?_⟩
          rw [ByteArray.size_append, strL_size]
          omega
        have zs : (strL (lineL (l.getD k nF))).size ≤ 600 := by rw [strL_size]; exact lk
        generalize lineL (l.getD k nF) = x at *
        generalize l.getD k nF = f at *
        obtain ⟨f1, f2⟩ := f
        simp only at c1 c2 LK
        generalize strL x = X at *
        have hms : Hid (n - (k + 1) < gk) := by unfold Hid; omega
        have hk1 : Hid (k + 1 + (n - (k + 1)) = n) := by unfold Hid; omega
        have ht3 : t.size ≤ 9600 := by omega
        clear ht ht1 ht2 wk lk hrk hk hk0
        go_wp2_with fail
        refine LK.out.mono ?_
        rintro e w2 ⟨rfl, b2⟩
        have B2 := Lib.hid (bl.out.trans (b2.mono bl.out.size))
        clear b2 LK
        go_wp2_with fail
        go_roundg (n - (k + 1))
        case measure => exact hms.out
        case rel => exact ⟨k + 1, t ++ X, hk1, T2, by go_num, rfl, B2⟩
      · have g1 : decide ((k : Int) < (n : Int)) = false := decide_eq_false (by omega)
        have g1' : decide (k < n) = false := decide_eq_false hlt
        have E0 : Hid (E = .tuple #[.string t, .int .i64 0]) := by
          unfold Hid
          rw [hE.out, ht1, List.take_of_length_le (by rw [← hn.out]; omega)]
        clear ht ht1 ht2 hk hk0 hE
        go_wp2_with fail
        go_ret2
        exact ⟨by rw [E0.out]; rfl, bl.out⟩
  · rw [if_neg q] at hE
    have z : (chkS l != 0) = true := bne_iff_ne.2 q
    obtain ⟨a, c, rfl⟩ := h.slice
    clear h hl q
    generalize chkS l = x at *
    go_enter Tryd.func9, Tryd.ntmps9
    go_wp2_with fail
    refine CK.out.mono ?_
    rintro e w1 ⟨rfl, b1⟩
    have B1 := Lib.hid b1
    clear b1 CK
    go_wp2_with fail
    go_ret2
    exact ⟨by rw [hE.out]; rfl, B1.out⟩
end Go.Proofs.YtphmoieaddjanaaDoor
