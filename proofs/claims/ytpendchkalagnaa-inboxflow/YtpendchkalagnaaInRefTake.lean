/-
  What the document's own Take of a stream does. No condition but what always holds of a stream.
-/
import Derived.Test.YtpendchkalagnaaInRefPut
import Derived.Maps.AppendAt
import Derived.Lib.ConvBytes
namespace Go.Proofs.Ytpendchkalagnaa
set_option maxRecDepth 100000
open Go.RowKit Go.Sort

def n8 (xs : List Int) : List Value := xs.map (Value.int .u8)
theorem n8_snoc (xs : List Int) (x : Int) : n8 (xs ++ [x]) = n8 xs ++ [.int .u8 x] := by simp [n8]
theorem info_u8 : ∃ i, Try.prog.info? 5 = some i ∧ i.zero = some (.int .u8 0) ∧ i.size = 1 ∧ i.bytes = 1 := by
  have h : (Try.prog.info? 5).map (fun i => (i.zero, i.size, i.bytes)) = some (some (.int .u8 0), 1, 1) := by kernel_rfl
  obtain ⟨i, hi, e⟩ := Option.map_eq_some_iff.1 h
  injection e with e1 e2
  injection e2 with e2 e3
  exact ⟨i, hi, e1, e2, e3⟩
theorem row_keep {w w' : World} {base size n : Nat} {t : TypeId} {v : Value} {xs : List Value} (h : w.ownsRow base t size v n xs) (k : ∀ b, v.ownBlock = some b → w'.heap[b]? = w.heap[b]?) : w'.ownsRow base t size v n xs := by
  refine ⟨h.1, ?_⟩
  rcases h.2 with q | ⟨g, cap, cur, e, q, r, s⟩
  · exact .inl q
  · refine .inr ⟨g, cap, cur, e, q, ?_, s⟩
    rw [k g (by rw [e]; rfl)]
    exact r
theorem own_slice {w : World} {base size n : Nat} {t : TypeId} {v : Value} {xs : List Value} (h : w.ownsRow base t size v n xs) : ∃ a c, v = .slice a n c := by
  rcases h.2 with ⟨rfl, rfl⟩ | ⟨g, cap, cur, rfl, _⟩
  · exact ⟨_, _, rfl⟩
  · exact ⟨_, _, rfl⟩
theorem conv_nil (w : World) : (convert 48 9 (.slice none 0 0)).run Try.prog w = .ok (.string (strOfNums [])) w := by kernel_rfl
theorem conv8 {w : World} {base : Nat} {v : Value} {xs : List Int} (h : w.ownsRow base 5 1 v xs.length (n8 xs)) : (convert 48 9 v).run Try.prog w = .ok (.string (strOfNums xs)) w := by
  rcases h.2 with ⟨rfl, h0⟩ | ⟨g, cap, cur, rfl, hr⟩
  · have e : xs = [] := List.eq_nil_of_length_eq_zero h0
    subst e
    exact conv_nil w
  · refine run_convert_bytes_arg (P := Try.prog) w 48 5 Try.underlying48 Try.underlying5 g 0 xs.length cap xs rfl (fun i hi => ?_) 9 Try.underlying9
    have := h.cellAt i (by omega)
    rw [Nat.zero_add, this]
    simp [n8, List.getD, List.getElem?_eq_getElem hi]
/-- While bytes are taken: k of them were. -/
structure TK (w wr : World) (R m : Nat) (d : Bx) (k : Nat) (ov : Value) : Prop where
  led : Lies wr R (bxc m { d with rd := d.rd + k })
  map : ∃ n S, n ≤ d.cnt ∧ MapY wr m n S ∧ ∀ x, d.rd ≤ x → S x = d.got x
  row : wr.ownsRow w.heap.size 5 1 ov k (n8 (runB d.got d.rd k))
  len : (runB d.got d.rd k).length = k
  kp : Kept (fun k => k = R) w wr
  ne : m ≠ R
  lt : R < w.heap.size ∧ m < w.heap.size
theorem TK.keep {w wr w' : World} {R m : Nat} {d : Bx} {k : Nat} {ov : Value} (h : TK w wr R m d k ov) (b : Below wr.heap.size wr w') : TK w w' R m d k ov := by
  obtain ⟨n, S, h1, h2, h3⟩ := h.map
  exact ⟨h.led.keep (by show 0 < 5; decide) b, ⟨n, S, h1, h2.of_block (b.block _ h2.lt), h3⟩, row_keep h.row fun k hk => b.block k (h.row.lt k hk).2, h.len, h.kp.add b, h.ne, h.lt⟩
theorem TK.fin {w wr : World} {R m : Nat} {d : Bx} {k : Nat} {ov : Value} (h : TK w wr R m d k ov) (n : Int) (e : takeL d n = runB d.got d.rd k) : RX wr R m (takeB d n) ∧ Kept (fun k => k = R) w wr ∧ (convert 48 9 ov).run Try.prog wr = .ok (.string (strOfNums (takeL d n))) wr := by
  have eb : takeB d n = { d with rd := d.rd + k } := by unfold takeB; rw [e, h.len]
  obtain ⟨n', S, h1, h2, h3⟩ := h.map
  rw [eb, e]
  refine ⟨⟨h.led, ⟨n', S, h1, h2, fun x hx => h3 x ?_⟩, h.ne⟩, h.kp, ?_⟩
  · have hx' : d.rd + (k : Int) ≤ x := hx
    omega
  · have r := h.row
    have l := h.len
    exact conv8 (base := w.heap.size) (by rw [l]; exact r)
set_option maxHeartbeats 4000000 in
theorem rtake_ok (R m : Nat) (d : Bx) (n : Int) (w : World) (h : RX w R m d) (hd : Bw d) :
    Calls Try.prog 14 #[ptr R, .int .i64 n] w fun e w' => e = .returned (.string (strOfNums (takeL d n))) ∧ RX w' R m (takeB d n) ∧ Kept (fun k => k = R) w w' := by
  obtain ⟨i0, hi0, hz0, hz1, hz2⟩ := info_u8
  have hrd := hd.k.rd.1
  have hrd2 := hd.rd
  have T0 : Hid (TK w w R m d 0 (.slice none 0 0)) := by
    obtain ⟨n', S, h1, h2, h3⟩ := h.map
    have e : ({ d with rd := d.rd + ((0 : Nat) : Int) } : Bx) = d := by simp
    refine ⟨by rw [e]; exact h.led, ⟨n', S, h1, h2, h3⟩, World.ownsRow_nil _ _ _ _, rfl, Kept.refl _ _, h.ne, h.lt⟩
  have hlim : ∀ k, (runB d.got d.rd k).length = k → (k : Int) ≤ 4096 := fun k e => by
    have hk := hd.k
    rcases Nat.eq_zero_or_pos k with q | q
    · omega
    · have g := runB_got d.got k d.rd (k - 1) (by omega)
      have h1 := hk.came (d.rd + ((k - 1 : Nat) : Int)) (by omega) (by rw [g]; simp)
      have h2 := hk.most
      omega
  replace hlim := Lib.hid hlim
  replace hd := Lib.hid hd
  clear h
  cases hr : d.rst with
  | true =>
    obtain ⟨F1, F2, F3⟩ := T0.out.fin n (by unfold takeL; rw [hr]; rfl)
    have c4 := T0.out.led.cell 4 (v := .bool d.rst) rfl
    rw [hr] at c4
    replace F1 := Lib.hid F1
    replace F2 := Lib.hid F2
    replace hr := Lib.hid hr
    clear T0 hlim
    by_cases q : 0 < n
    · have g1 : decide (0 < n) = true := decide_eq_true q
      go_enter Try.func14, Try.ntmps14
      go_wp2_with fail
      go_rounds 1
      go_ret
      exact ⟨rfl, F1.out, F2.out⟩
    · have g1 : decide (0 < n) = false := decide_eq_false q
      go_enter Try.func14, Try.ntmps14
      go_wp2_with fail
      go_rounds 1
      go_ret
      exact ⟨rfl, F1.out, F2.out⟩
  | false =>
    have eT : takeL d n = runB d.got d.rd n.toNat := by unfold takeL; rw [hr]; rfl
    replace hr := Lib.hid hr
    go_enter Try.func14, Try.ntmps14
    go_wp2_with fail
    go_loopg [5] 4097 (fun g' ov wr => ∃ k : Nat, k + g' = 4097 ∧ Hid (k ≤ n.toNat) ∧ Hid (TK w wr R m d k ov))
    case atStart => exact ⟨0, by omega, Nat.zero_le _, T0⟩
    case round =>
      clear T0
      obtain ⟨k, hk, hkn, T⟩ := hrel
      obtain ⟨ua, uc, rfl⟩ := own_slice T.out.row
      by_cases q : (k : Int) < n
      · have g1 : decide ((k : Int) < n) = true := decide_eq_true q
        have c0 := T.out.led.cell 0 (v := .map (some m)) rfl
        have c1 := T.out.led.cell 1 (v := .int .i64 (d.rd + k)) rfl
        have c4 := T.out.led.cell 4 (v := .bool d.rst) rfl
        rw [hr.out] at c4
        have TD : Hid (TK w wr.drew R m d k (.slice ua k uc)) := T.out.keep (drewB _ _)
        obtain ⟨n', S, s1, s2, s3⟩ := TD.out.map
        have hl := hlim.out k T.out.len
        have h64 : In64 (d.rd + k) := by unfold In64; omega
        have lk := s2.look h64
        rw [s3 _ (by omega)] at lk
        cases hg : d.got (d.rd + k) with
        | none =>
          rw [hg] at lk
          obtain ⟨F1, F2, F3⟩ := TD.out.fin n (by rw [eT]; exact runB_stop d.got d.rd k n.toNat T.out.len hg (by omega))
          replace F1 := Lib.hid F1
          replace F2 := Lib.hid F2
          replace hg := Lib.hid hg
          clear T TD s1 s2 s3 hkn
          replace eT := Lib.hid eT
          go_wp2_with fail
          go_region
          generalize wr.drew = w2 at *
          go_wp2_with fail
          go_ret
          exact ⟨rfl, F1.out, F2.out⟩
        | some c =>
          rw [hg] at lk
          have hc := hd.out.k.byte _ _ hg
          have hsn := runB_snoc d.got d.rd k T.out.len
          rw [hg] at hsn
          have hkn2 : Hid (k + 1 ≤ n.toNat) := by unfold Hid; omega
          replace hg := Lib.hid hg
          replace hsn := Lib.hid hsn
          clear T s1 s2 s3 hkn
          replace eT := Lib.hid eT
          go_wp2_with fail
          go_region
          clear lk
          generalize wr.drew = w2 at *
          clear c0 c1 c4
          have al : Below w2.heap.size w2 (w2.alloc (.cells #[.int .u8 c] 5)) := (Below.refl _ _).alloc (Nat.le_refl _) _
          have TA := TD.out.keep al
          have o4 : Hid ((w2.alloc (.cells #[.int .u8 c] 5)).ownsRow w.heap.size 5 1 (.slice ua k uc) k (n8 (runB d.got d.rd k))) := TA.row
          have hnews : Hid (∀ j u, [Value.int .u8 c][j]? = some u → (w2.alloc (.cells #[.int .u8 c] 5)).cell? ((⟨w2.heap.size, 0, none⟩ : Addr).add j) = some u) := fun j u hj => by
            rw [Addr.add_lit]
            exact (Lies.new w2 [.int .u8 c] 5).r j u hj
          have hWs : w.heap.size ≤ (w2.alloc (.cells #[.int .u8 c] 5)).heap.size := TA.kp.size
          have fin : Hid (∀ v' w5, w5.ownsRow w.heap.size 5 1 v' (k + 1) (n8 (runB d.got d.rd k) ++ [.int .u8 c]) → (w2.alloc (.cells #[.int .u8 c] 5)).grownBy w5 (Value.slice ua k uc).ownBlock → Lies w5 R (bxc m { d with rd := d.rd + k }) ∧ TK w (w5.setCell ⟨R, 1, none⟩ (.int .i64 (d.rd + k + 1))) R m d (k + 1) v') := fun v' w5 q1 q2 => by
            have far : ∀ b, b < w.heap.size → some b ≠ (Value.slice ua k uc).ownBlock := fun b hb e => by have := (TA.row.lt b e.symm).1; omega
            have hz := TA.kp.size
            obtain ⟨l1, l2⟩ := TA.lt
            have L5 : Lies w5 R (bxc m { d with rd := d.rd + k }) := TA.led.of_block (q2.block R (by omega) (far R l1))
            obtain ⟨n', S, s1, s2, s3⟩ := TA.map
            refine ⟨L5, ?_, ⟨n', S, s1, (s2.of_block (q2.block m s2.lt (far m l2))).of_block (Below.heap_setCell _ _ _ _ TA.ne), s3⟩, ?_, ?_, ?_, TA.ne, TA.lt⟩
            · have := L5.put 1 (by show 1 < 5; decide) (.int .i64 (d.rd + k + 1))
              have e : (d.rd + ((k + 1 : Nat) : Int)) = d.rd + k + 1 := by omega
              unfold bxc
              simp only [e]
              exact this
            · have e : runB d.got d.rd (k + 1) = runB d.got d.rd k ++ [c] := hsn.out
              rw [e, n8_snoc]
              exact row_keep q1 fun b hb => Below.heap_setCell _ _ _ _ (by have := (q1.lt b hb).1; intro e; simp only at e; omega)
            · have e : runB d.got d.rd (k + 1) = runB d.got d.rd k ++ [c] := hsn.out
              rw [e, List.length_append, TA.len]
              rfl
            · exact keptX _ R 1 _ (TA.kp.grown q2 (fun b hb hlt => absurd hb.symm (far b hlt)))
          clear al TA TD
          go_wp2_with (at_builtin; refine wpList_append_own_at _ rfl _ _ 48 rfl w.heap.size 5 i0 (.int .u8 0) 1 1 Try.underlying48 hi0 hz0 hz1 hz2 rfl (by decide) (.slice ua k uc) k (n8 (runB d.got d.rd k)) rfl o4.out ⟨w2.heap.size, 0, none⟩ 1 1 [.int .u8 c] rfl rfl hnews.out (fun u hu => by simp at hu; subst hu; rfl) (by unfold maxLen; omega) (by omega) hWs ?_; intro v' w5 q1 q2 q3 q4; obtain ⟨R1, R2⟩ := fin.out v' w5 q1 q2; clear q1 q2 q3 q4; clear fin o4 hnews hWs; have d1 := R1.cell 1 (v := .int .i64 (d.rd + k)) rfl; have f1 := R1.free 1 (by show 1 < 5; decide); clear R1; replace R2 : Hid _ := R2)
          go_roundg (4097 - (k + 1))
          case measure => omega
          case rel => exact ⟨k + 1, by omega, hkn2, R2⟩
      · have g1 : decide ((k : Int) < n) = false := decide_eq_false q
        have e : k = n.toNat := by have := hkn.out; omega
        obtain ⟨F1, F2, F3⟩ := T.out.fin n (by rw [eT, e])
        replace F1 := Lib.hid F1
        replace F2 := Lib.hid F2
        clear T hkn e
        replace eT := Lib.hid eT
        go_wp2_with fail
        go_ret
        exact ⟨rfl, F1.out, F2.out⟩
end Go.Proofs.Ytpendchkalagnaa
