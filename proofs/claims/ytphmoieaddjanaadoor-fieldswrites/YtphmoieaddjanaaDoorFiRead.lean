/-
  What the document's own Read answers of bytes. Texts below 2^62 bytes; no other condition.
-/
import Derived.Test.YtphmoieaddjanaaDoorFiFirst
import Derived.Test.YtphmoieaddjanaaDoorObRun
import Derived.Maps.AppendAt
namespace Go.Proofs.YtphmoieaddjanaaDoor
set_option maxRecDepth 100000
open Go.RowKit Go.Sort

theorem info_fd : ∃ i, Tryd.prog.info? 34 = some i ∧ i.zero = some (.agg #[.string ⟨#[]⟩, .string ⟨#[]⟩]) ∧ i.size = 2 ∧ i.bytes = 32 := by
  have h : (Tryd.prog.info? 34).map (fun i => (i.zero, i.size, i.bytes)) = some (some (.agg #[.string ⟨#[]⟩, .string ⟨#[]⟩]), 2, 32) := by kernel_rfl
  obtain ⟨i, hi, e⟩ := Option.map_eq_some_iff.1 h
  injection e with e1 e2
  injection e2 with e2 e3
  exact ⟨i, hi, e1, e2, e3⟩
/-- Fields in a row of one's own. -/
def OwnF (w : World) (base : Nat) (v : Value) (d : List Fd) : Prop := w.ownsRow base 34 2 v d.length (fCells d)
theorem fCells_len (l : List Fd) : (fCells l).length = 2 * l.length := by
  induction l with
  | nil => rfl
  | cons f l ih =>
    show (fCells l).length + 1 + 1 = _
    rw [ih, List.length_cons]
    omega
theorem fCells_snoc (d : List Fd) (f : Fd) : fCells (d ++ [f]) = fCells d ++ [.string (strL f.1), .string (strL f.2)] := by simp [fCells, List.flatMap_append]
theorem OwnF.nil (w : World) (base : Nat) : OwnF w base (.slice none 0 0) [] := World.ownsRow_nil _ _ _ _
theorem OwnF.form {w : World} {base : Nat} {v : Value} {d : List Fd} (h : OwnF w base v d) : ∃ a c, v = .slice a d.length c := by
  rcases h.2 with ⟨rfl, h0⟩ | ⟨g, cap, cur, rfl, _⟩
  · exact ⟨none, 0, by rw [h0]⟩
  · exact ⟨_, _, rfl⟩
theorem OwnF.fds {w : World} {base : Nat} {v : Value} {d : List Fd} (h : OwnF w base v d) : FdsAt w v d := by
  rcases h.2 with ⟨rfl, h0⟩ | ⟨g, cap, cur, rfl, hr⟩
  · have e : d = [] := List.eq_nil_of_length_eq_zero h0
    subst e
    exact ⟨none, 0, rfl, .inl rfl⟩
  · refine ⟨_, cap, rfl, .inr ⟨g, 0, rfl, fun k hk => ?_⟩⟩
    have h1 := World.ownsRow.cellAt h (2 * k) (by omega)
    have h2 := World.ownsRow.cellAt h (2 * k + 1) (by omega)
    rw [(fCells_get d k hk).1] at h1
    rw [(fCells_get d k hk).2] at h2
    rw [Nat.zero_add]
    exact ⟨h1, h2⟩
theorem OwnF.lt {w : World} {base : Nat} {v : Value} {d : List Fd} (h : OwnF w base v d) : ∀ k, v.ownBlock = some k → base ≤ k ∧ k < w.heap.size := fun k hk => World.ownsRow.lt h k hk
theorem OwnF.of {w w' : World} {base : Nat} {v : Value} {d : List Fd} (h : OwnF w base v d) (b : ∀ k, v.ownBlock = some k → w'.heap[k]? = w.heap[k]?) : OwnF w' base v d := by
  refine ⟨h.1, ?_⟩
  rcases h.2 with h | ⟨g, cap, cur, h1, h2, h3, h4⟩
  · exact .inl h
  · exact .inr ⟨g, cap, cur, h1, h2, (b g (by rw [h1]; rfl)).trans h3, h4⟩
theorem OwnF.keep {w w' : World} {base : Nat} {v : Value} {d : List Fd} (h : OwnF w base v d) (b : Below w.heap.size w w') : OwnF w' base v d := h.of fun k hk => b.block k (h.lt k hk).2
/-- append of one field. -/
theorem OwnF.app {w : World} {base : Nat} {v : Value} {d : List Fd} (h : OwnF w base v d) (hb : base ≤ w.heap.size) (g : Nat) (f : Fd) (h0 : w.cell? ⟨g, 0, none⟩ = some (.string (strL f.1))) (h1 : w.cell? ⟨g, 1, none⟩ = some (.string (strL f.2))) (hd : d.length ≤ 1000) (ty : TypeId) :
    ∃ v' w', (∀ z, (builtin .append #[22, 22] ty z #[v, .slice (some ⟨g, 0, none⟩) 1 1]).run Tryd.prog w = .ok (.value v') w') ∧ OwnF w' base v' (d ++ [f]) ∧ w.grownBy w' v.ownBlock := by
  obtain ⟨i, hi, hz, h2, h3⟩ := info_fd
  obtain ⟨v', w', hr, q1, q2, -, -⟩ := run_append_own_at (P := Tryd.prog) w base 22 ty 34 i _ 2 32 Tryd.underlying22 hi hz h2 h3 rfl (by decide) v d.length (fCells d) h ⟨g, 0, none⟩ 1 1 [.string (strL f.1), .string (strL f.2)] rfl (fun j u hj => by
    match j, hj with
    | 0, hj => simp at hj; subst hj; simpa [Addr.add] using h0
    | 1, hj => simp at hj; subst hj; simpa [Addr.add] using h1
    | j + 2, hj => simp at hj) (fun u hu => by simp at hu; rcases hu with rfl | rfl <;> rfl) (by unfold maxLen; omega) (by omega) hb
  refine ⟨v', w', fun z => by simp only [builtin, Sem.run_bind, Sem.run_pure, hr, Result.andThen_ok], ?_, q2⟩
  unfold OwnF
  rw [fCells_snoc, List.length_append]
  exact q1
def rdE (r : Except Int (List Fd)) : Int := match r with
  | .ok _ => 0
  | .error e => e
def rdL (r : Except Int (List Fd)) : List Fd := match r with
  | .ok l => l
  | .error _ => []
/-- Where a reader stands: what is still to be read behind what was read. -/
def RdS (s0 : L) (k : Nat) (d : List Fd) (s : L) : Prop := s.length < k ∧ d.length ≤ 16 ∧ readS s0 = match readN k d.length s with
  | .ok r => .ok (d ++ r)
  | .error e => .error e
theorem RdS.start (s : L) : RdS s (s.length + 1) [] s := by
  refine ⟨by omega, by decide, ?_⟩
  show readN (s.length + 1) 0 s = match readN (s.length + 1) 0 s with
    | .ok r => .ok ([] ++ r)
    | .error e => .error e
  cases readN (s.length + 1) 0 s <;> rfl
theorem RdS.stop {s0 : L} {k : Nat} {d : List Fd} (h : RdS s0 k d []) : readS s0 = .ok d := by
  obtain ⟨h1, -, h3⟩ := h
  obtain ⟨k, rfl⟩ : ∃ j, k = j + 1 := ⟨k - 1, by simp at h1; omega⟩
  rw [h3]
  unfold readN
  rw [if_pos rfl]
  simp
theorem readN_succ (k n : Nat) (s : L) : readN (k + 1) n s = if s = [] then .ok [] else match rLine s with
    | .error e => .error e
    | .ok (f, r) => if n = 16 then .error 8 else if rtE f = 0 then (match readN k (n + 1) r with
      | .ok l => .ok (f :: l)
      | .error e => .error e) else .error (rtE f) := rfl
theorem RdS.step {s0 s r : L} {k : Nat} {d : List Fd} {f : Fd} (h : RdS s0 k d s) (hs : s ≠ []) (e : rLine s = .ok (f, r)) (hl : r.length < s.length) (h16 : d.length ≠ 16) (hf : rtE f = 0) : RdS s0 (k - 1) (d ++ [f]) r := by
  obtain ⟨h1, h2, h3⟩ := h
  obtain ⟨k, rfl⟩ : ∃ j, k = j + 1 := ⟨k - 1, by omega⟩
  refine ⟨by omega, by rw [List.length_append]; simp; omega, ?_⟩
  rw [h3, readN_succ, if_neg hs, e]
  simp only
  rw [if_neg h16, if_pos hf, show (d ++ [f]).length = d.length + 1 by simp, Nat.add_sub_cancel]
  cases readN k (d.length + 1) r <;> simp
theorem RdS.err {s0 s : L} {k : Nat} {d : List Fd} {x : Int} (h : RdS s0 k d s) (hs : s ≠ []) (e : rLine s = .error x) : readS s0 = .error x := by
  obtain ⟨h1, h2, h3⟩ := h
  obtain ⟨k, rfl⟩ : ∃ j, k = j + 1 := ⟨k - 1, by omega⟩
  rw [h3]
  unfold readN
  rw [if_neg hs, e]
theorem RdS.full {s0 s r : L} {k : Nat} {d : List Fd} {f : Fd} (h : RdS s0 k d s) (hs : s ≠ []) (e : rLine s = .ok (f, r)) (h16 : d.length = 16) : readS s0 = .error 8 := by
  obtain ⟨h1, h2, h3⟩ := h
  obtain ⟨k, rfl⟩ : ∃ j, k = j + 1 := ⟨k - 1, by omega⟩
  rw [h3]
  unfold readN
  rw [if_neg hs, e]
  simp only
  rw [if_pos h16]
theorem RdS.bad {s0 s r : L} {k : Nat} {d : List Fd} {f : Fd} (h : RdS s0 k d s) (hs : s ≠ []) (e : rLine s = .ok (f, r)) (h16 : d.length ≠ 16) (hf : rtE f ≠ 0) : readS s0 = .error (rtE f) := by
  obtain ⟨h1, h2, h3⟩ := h
  obtain ⟨k, rfl⟩ : ∃ j, k = j + 1 := ⟨k - 1, by omega⟩
  rw [h3]
  unfold readN
  rw [if_neg hs, e]
  simp only
  rw [if_neg h16, if_neg hf]
/-- What Read answers. -/
def RdA (s : ByteArray) (w' : World) (e : Ending) : Prop := ∃ v, e = .returned (.tuple #[v, .int .i64 (rdE (readS (toL s)))]) ∧ FdsAt w' v (rdL (readS (toL s)))
theorem RdA.no {s : ByteArray} {w' : World} {x : Int} (h : readS (toL s) = .error x) : RdA s w' (.returned (.tuple #[.slice none 0 0, .int .i64 x])) := ⟨.slice none 0 0, by rw [h]; rfl, by rw [h]; exact FdsAt.nil _⟩
theorem RdA.yes {s : ByteArray} {w' : World} {v : Value} {d : List Fd} (h : readS (toL s) = .ok d) (hd : FdsAt w' v d) : RdA s w' (.returned (.tuple #[v, .int .i64 0])) := ⟨v, by rw [h]; rfl, by rw [h]; exact hd⟩
theorem emp_toL (s : ByteArray) : s.toList.isEmpty = (toL s).isEmpty := by
  rw [ByteArray.toList_eq]
  rfl
set_option maxHeartbeats 16000000 in
theorem rread14_ok (s : ByteArray) (w : World) (hs : s.size ≤ 4611686018427387903) : Calls Tryd.prog 16 #[.string s] w fun e w' => RdA s w' e ∧ Below w.heap.size w w' := by
  have R0 := Lib.hid (RdS.start (toL s))
  have FZ : Hid (∀ (s' : ByteArray) w, s'.size ≤ s.size → 0 < s'.size → _) := fun s' w (h1 : s'.size ≤ s.size) (h2 : 0 < s'.size) => rfirst_ok s' w (by omega) h2
  have RT : Hid (∀ f w, _) := fun f w => rright_ok f w
  go_enter Tryd.func16, Tryd.ntmps16
  go_wp2_with fail
  go_loopg [0, 4] s.size (fun g' sv lv wr => ∃ (s' : ByteArray) (d : List Fd) (k : Nat), Hid (g' = s'.size ∧ s'.size ≤ s.size) ∧ sv = .string s' ∧ Hid (RdS (toL s) k d (toL s')) ∧ Hid (OwnF wr w.heap.size lv d) ∧ Hid (Below w.heap.size w wr))
  case atStart => exact ⟨s, [], _, ⟨rfl, Nat.le_refl _⟩, rfl, R0, OwnF.nil _ _, Below.refl _ _⟩
  case round =>
    clear R0
    obtain ⟨s', d, k, hg, rfl, RS, OW, bl⟩ := hrel
    obtain ⟨hg1, hg2⟩ := hg.out
    obtain ⟨a, c, rfl⟩ := OW.out.form
    have hd16 := RS.out.2.1
    have hl := toL_len s'
    rcases Nat.eq_zero_or_pos s'.size with h0 | h0
    · have z0 : s'.toList.isEmpty = true := by rw [emp_toL, List.isEmpty_iff_length_eq_zero]; omega
      have et : toL s' = [] := List.eq_nil_of_length_eq_zero (by omega)
      rw [et] at RS
      have ANS : Hid (RdA s wr (.returned (.tuple #[.slice a d.length c, .int .i64 0]))) := RdA.yes RS.out.stop OW.out.fds
      clear RS OW hg hg1 hl et FZ RT
      go_wp2_with fail
      go_ret2
      exact ⟨ANS.out, bl.out⟩
    · have z0 : s'.toList.isEmpty = false := by
        rw [emp_toL]
        cases e : toL s' with
        | nil => rw [e] at hl; simp at hl; omega
        | cons => rfl
      have hne : toL s' ≠ [] := fun c => by rw [c] at hl; simp at hl; omega
      have FF := Lib.hid (FZ.out s' wr hg2 h0)
      replace hne := Lib.hid hne
      go_wp2_with fail
      refine FF.out.mono ?_
      rintro e w1 ⟨hR, b1⟩
      have OW1 := Lib.hid (OW.out.keep b1)
      have B1 := Lib.hid (bl.out.trans (b1.mono bl.out.size))
      clear FF b1 OW bl
      rcases hR with ⟨f, n, e1, n1, n2, rfl⟩ | ⟨x, f, n, e1, hx, rfl⟩
      · obtain ⟨f1, f2⟩ := f
        unfold fbV
        simp only
        have hlen : ((toL s').drop n).length < (toL s').length := by rw [List.length_drop]; omega
        obtain ⟨w2, hw2⟩ : ∃ w2, w2 = w1.alloc (.cells #[.string (strL f1), .string (strL f2)] 34) := ⟨_, rfl⟩
        have b2 : Below w1.heap.size w1 w2 := by rw [hw2]; exact (Below.refl _ _).alloc (Nat.le_refl _) _
        have l2 : Lies w2 w1.heap.size [.string (strL f1), .string (strL f2)] := by rw [hw2]; exact Lies.new w1 _ _
        by_cases q16 : d.length = 16
        · have z16 : ((d.length : Int) == 16) = true := by rw [beq_iff_eq]; omega
          have ANS : Hid (∀ w', RdA s w' (.returned (.tuple #[.slice none 0 0, .int .i64 8]))) := fun w' => RdA.no (RS.out.full hne.out e1 q16)
          have B2 := Lib.hid (B1.out.trans (b2.mono B1.out.size))
          clear RS OW1 FZ RT e1 l2 hg hg1 hl q16 b2
          go_wp2_with fail
          rw [← hw2]
          go_ret2
          exact ⟨ANS.out _, B2.out⟩
        · have z16 : ((d.length : Int) == 16) = false := by rw [beq_eq_false_iff_ne]; omega
          have R1 := Lib.hid (RT.out (f1, f2) w2)
          unfold fbV at R1
          simp only at R1
          have B2 := Lib.hid (B1.out.trans (b2.mono B1.out.size))
          have OW2 := Lib.hid (OW1.out.keep b2)
          have c0 := l2.cell 0 (v := .string (strL f1)) rfl
          have c1 := l2.cell 1 (v := .string (strL f2)) rfl
          replace l2 := Lib.hid l2
          by_cases qf : rtE (f1, f2) = 0
          · have RS2 := Lib.hid (RS.out.step hne.out e1 hlen q16 qf)
            rw [qf] at R1
            obtain ⟨K, hK⟩ : ∃ K, K = w1.heap.size := ⟨_, rfl⟩
            rw [← hK] at c0 c1 l2
            have hms : Hid ((s'.extract n s'.size).size < gk) := by unfold Hid; rw [ByteArray.size_extract]; omega
            have hg3 : Hid ((s'.extract n s'.size).size ≤ s.size) := by unfold Hid; rw [ByteArray.size_extract]; omega
            have hsn : (n : Int) ≤ (s'.size : Int) := by omega
            rw [← toL_extract] at RS2
            replace qf := Lib.hid qf
            replace q16 := Lib.hid q16
            replace e1 := Lib.hid e1
            clear RS OW1 hg hg1 hl hlen b2 FZ RT hne
            go_wp2_with fail
            rw [← hw2, ← hK]
            clear hw2
            replace hK := Lib.hid hK
            refine R1.out.mono ?_
            rintro e w3 ⟨rfl, b3⟩
            have L3 := l2.out.keep (by simp) b3
            have OW3 := OW2.out.keep b3
            have B3 := B2.out.trans (b3.mono B2.out.size)
            have d0 := L3.cell 0 (v := .string (strL f1)) rfl
            have d1 := L3.cell 1 (v := .string (strL f2)) rfl
            have b4 : Below w3.heap.size w3 (w3.alloc (.cells #[.string (strL f1), .string (strL f2)] 34)) := (Below.refl _ _).alloc (Nat.le_refl _) _
            have l4 : Lies (w3.alloc (.cells #[.string (strL f1), .string (strL f2)] 34)) w3.heap.size [.string (strL f1), .string (strL f2)] := Lies.new w3 _ _
            obtain ⟨v5, w5, hap, ow5, gr5⟩ := (OW3.keep b4).app (Nat.le_trans B3.size b4.size) w3.heap.size (f1, f2) (l4.cell 0 (v := .string (strL f1)) rfl) (l4.cell 1 (v := .string (strL f2)) rfl) (by omega) 22
            have B5 : Hid (Below w.heap.size w w5) := (B3.trans (b4.mono B3.size)).grown gr5 (Nat.le_trans B3.size b4.size) (fun k hk => (OW3.lt k hk).1)
            replace hap := Lib.hid hap
            have OW5 := Lib.hid ow5
            clear R1 l2 L3 OW2 OW3 B2 B3 b3 b4 l4 ow5 gr5 c0 c1 B1
            go_wp2_with (refine obB2L _ rfl .append _ _ 22 22 rfl (.slice a d.length c) (.slice (some ⟨w3.heap.size, 0, none⟩) 1 1) rfl rfl hap.out ?_)
            go_roundg (s'.extract n s'.size).size
            case measure => exact hms.out
            case rel => exact ⟨s'.extract n s'.size, d ++ [(f1, f2)], k - 1, ⟨rfl, hg3.out⟩, rfl, RS2, OW5, B5⟩
          · have z1 : (rtE (f1, f2) != 0) = true := bne_iff_ne.2 qf
            have ANS : Hid (∀ w', RdA s w' (.returned (.tuple #[.slice none 0 0, .int .i64 (rtE (f1, f2))]))) := fun w' => RdA.no (RS.out.bad hne.out e1 q16 qf)
            generalize rtE (f1, f2) = x at *
            obtain ⟨K, hK⟩ : ∃ K, K = w1.heap.size := ⟨_, rfl⟩
            rw [← hK] at c0 c1
            replace q16 := Lib.hid q16
            clear RS OW1 OW2 hg hg1 hl hlen b2 FZ RT hne e1 l2 qf
            go_wp2_with fail
            rw [← hw2, ← hK]
            clear hw2
            replace hK := Lib.hid hK
            refine R1.out.mono ?_
            rintro e w3 ⟨rfl, b3⟩
            have B3 := Lib.hid (B2.out.trans (b3.mono B2.out.size))
            clear R1 b3 B2 c0 c1
            go_wp2_with fail
            go_ret2
            exact ⟨ANS.out _, B3.out⟩
      · have z1 : (x != 0) = true := bne_iff_ne.2 hx
        have z2 : (x == 0) = false := beq_eq_false_iff_ne.2 hx
        have ANS : Hid (∀ w', RdA s w' (.returned (.tuple #[.slice none 0 0, .int .i64 x]))) := fun w' => RdA.no (RS.out.err hne.out e1)
        obtain ⟨f1, f2⟩ := f
        unfold fbV
        simp only
        have B2 : Hid (Below w.heap.size w (w1.alloc (.cells #[.string (strL f1), .string (strL f2)] 34))) := B1.out.alloc B1.out.size _
        replace hx := Lib.hid hx
        clear RS OW1 FZ RT e1 hg hg1 hl B1
        go_wp2_with fail
        go_ret2
        exact ⟨ANS.out _, B2.out⟩
end Go.Proofs.YtphmoieaddjanaaDoor
