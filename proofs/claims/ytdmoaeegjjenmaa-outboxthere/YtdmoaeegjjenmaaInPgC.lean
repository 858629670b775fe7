/-
  What the program's own Reset and Read of a stream do. No condition but what always holds of a stream.
-/
import Derived.Test.YtdmoaeegjjenmaaInPgB
namespace Go.Proofs.Ytdmoaeegjjenmaa.ib
set_option maxRecDepth 100000
open Go.RowKit Go.Sort

theorem takeL_gotP (d : Bx) (n : Int) : takeL d n = runB (gotP d) d.rd n.toNat := by
  unfold takeL
  cases hr : d.rst with
  | true =>
    have e : gotP d = fun _ => none := funext fun x => by unfold gotP; rw [hr]; rfl
    rw [e]
    cases n.toNat <;> rfl
  | false =>
    have e : gotP d = d.got := funext fun x => by unfold gotP; rw [hr]; rfl
    rw [e]
    rfl
/-- While bytes are taken: k of them were. -/
structure TP (w wr : World) (R m : Nat) (d : Bx) (k : Nat) (ov : Value) : Prop where
  led : Lies wr R (pxc m { d with rd := d.rd + k })
  map : ∃ n S, n ≤ d.cnt ∧ MapY wr m n S ∧ ∀ x, d.rd + k ≤ x → S x = gotP d x
  row : wr.ownsRow w.heap.size 5 1 ov k (n8 (runB (gotP d) d.rd k))
  len : (runB (gotP d) d.rd k).length = k
  kp : Kept (fun k => k = R ∨ k = m) w wr
  ne : m ≠ R
  lt : R < w.heap.size ∧ m < w.heap.size
theorem TP.keep {w wr w' : World} {R m : Nat} {d : Bx} {k : Nat} {ov : Value} (h : TP w wr R m d k ov) (b : Below wr.heap.size wr w') : TP w w' R m d k ov := by
  obtain ⟨n, S, h1, h2, h3⟩ := h.map
  exact ⟨h.led.keep (by show 0 < 5; decide) b, ⟨n, S, h1, h2.of_block (b.block _ h2.lt), h3⟩, row_keep h.row fun k hk => b.block k (h.row.lt k hk).2, h.len, h.kp.add b, h.ne, h.lt⟩
theorem TP.fin {w wr : World} {R m : Nat} {d : Bx} {k : Nat} {ov : Value} (h : TP w wr R m d k ov) (n : Int) (e : takeL d n = runB (gotP d) d.rd k) : PX wr R m (takeB d n) ∧ Kept (fun k => k = R ∨ k = m) w wr ∧ (convert 59 9 ov).run Try.prog wr = .ok (.string (strOfNums (takeL d n))) wr := by
  have eb : takeB d n = { d with rd := d.rd + k } := by unfold takeB; rw [e, h.len]
  obtain ⟨n', S, h1, h2, h3⟩ := h.map
  rw [eb, e]
  refine ⟨⟨h.led, ⟨n', S, h1, h2, fun x hx => h3 x hx⟩, h.ne⟩, h.kp, ?_⟩
  have r := h.row
  have l := h.len
  exact conv8 (base := w.heap.size) (by rw [l]; exact r)
/-- .. and the next one is taken out of the map, but not yet behind the others. -/
structure TQ (w wr : World) (R m : Nat) (d : Bx) (k : Nat) (ov : Value) : Prop where
  led : Lies wr R (pxc m { d with rd := d.rd + ((k + 1 : Nat) : Int) })
  map : ∃ n S, n ≤ d.cnt ∧ MapY wr m n S ∧ ∀ x, d.rd + ((k + 1 : Nat) : Int) ≤ x → S x = gotP d x
  row : wr.ownsRow w.heap.size 5 1 ov k (n8 (runB (gotP d) d.rd k))
  len : (runB (gotP d) d.rd k).length = k
  kp : Kept (fun k => k = R ∨ k = m) w wr
  ne : m ≠ R
  lt : R < w.heap.size ∧ m < w.heap.size
theorem TQ.keep {w wr w' : World} {R m : Nat} {d : Bx} {k : Nat} {ov : Value} (h : TQ w wr R m d k ov) (b : Below wr.heap.size wr w') : TQ w w' R m d k ov := by
  obtain ⟨n, S, h1, h2, h3⟩ := h.map
  exact ⟨h.led.keep (by show 0 < 5; decide) b, ⟨n, S, h1, h2.of_block (b.block _ h2.lt), h3⟩, row_keep h.row fun k hk => b.block k (h.row.lt k hk).2, h.len, h.kp.add b, h.ne, h.lt⟩
set_option maxHeartbeats 4000000 in
theorem pread_ok (R m : Nat) (d : Bx) (n : Int) (w : World) (h : PX w R m d) (hd : Bw d) :
    Calls Try.prog 25 #[ptr R, .int .i64 n] w fun e w' => e = .returned (.string (strOfNums (takeL d n))) ∧ PX w' R m (takeB d n) ∧ Kept (fun k => k = R ∨ k = m) w w' := by
  obtain ⟨i0, hi0, hz0, hz1, hz2⟩ := info_u8
  have hrd := hd.k.rd.1
  have hrd2 := hd.rd
  have T0 : Hid (TP w w R m d 0 (.slice none 0 0)) := by
    obtain ⟨n', S, h1, h2, h3⟩ := h.map
    have e : ({ d with rd := d.rd + ((0 : Nat) : Int) } : Bx) = d := by simp
    refine ⟨by rw [e]; exact h.led, ⟨n', S, h1, h2, fun x hx => h3 x (by simpa using hx)⟩, World.ownsRow_nil _ _ _ _, rfl, Kept.refl _ _, h.ne, h.lt⟩
  have hgot : ∀ x c, gotP d x = some c → d.got x = some c := fun x c => by
    unfold gotP
    cases d.rst <;> simp
  have hlim : ∀ k, (runB (gotP d) d.rd k).length = k → (k : Int) ≤ 4096 := fun k e => by
    have hk := hd.k
    rcases Nat.eq_zero_or_pos k with q | q
    · omega
    · have g := hgot _ _ (runB_got (gotP d) k d.rd (k - 1) (by omega))
      have h1 := hk.came (d.rd + ((k - 1 : Nat) : Int)) (by omega) (by rw [g]; simp)
      have h2 := hk.most
      omega
  have hbyte : ∀ x c, gotP d x = some c → 0 ≤ c ∧ c ≤ 255 := fun x c q => hd.k.byte x c (hgot x c q)
  replace hlim := Lib.hid hlim
  replace hbyte := Lib.hid hbyte
  have eT := Lib.hid (takeL_gotP d n)
  clear h hd hgot
  go_enter Try.func25, Try.ntmps25
  go_wp2_with fail
  go_loopg [5] 4097 (fun g' ov wr => ∃ k : Nat, Hid (k + g' = 4097) ∧ Hid (k ≤ n.toNat) ∧ Hid (TP w wr R m d k ov))
  case atStart => exact ⟨0, Lib.hid (by omega), Nat.zero_le _, T0⟩
  case round =>
    clear T0
    obtain ⟨k, hk, hkn, T⟩ := hrel
    obtain ⟨ua, uc, rfl⟩ := own_slice T.out.row
    by_cases q : (k : Int) < n
    · have g1 : decide ((k : Int) < n) = true := decide_eq_true q
      have c0 := T.out.led.cell 0 (v := .map (some m)) rfl
      have c1 := T.out.led.cell 2 (v := .int .i64 (d.rd + k)) rfl
      have TD : Hid (TP w wr.drew R m d k (.slice ua k uc)) := T.out.keep (drewB _ _)
      obtain ⟨n', S, s1, s2, s3⟩ := TD.out.map
      have hl := hlim.out k T.out.len
      have h64 : In64 (d.rd + k) := by unfold In64; omega
      have lk := s2.look h64
      rw [s3 _ (Int.le_refl _)] at lk
      cases hg : gotP d (d.rd + k) with
      | none =>
        rw [hg] at lk
        obtain ⟨F1, F2, F3⟩ := TD.out.fin n (by rw [eT.out]; exact runB_stop (gotP d) d.rd k n.toNat T.out.len hg (by omega))
        replace F1 := Lib.hid F1
        replace F2 := Lib.hid F2
        replace hg := Lib.hid hg
        clear T TD s1 s2 s3 hkn
        go_wp2_with fail
        go_region
        generalize wr.drew = w2 at *
        go_wp2_with fail
        go_ret
        exact ⟨rfl, F1.out, F2.out⟩
      | some c =>
        rw [hg] at lk
        have hc := hbyte.out _ _ hg
        have hsn := runB_snoc (gotP d) d.rd k T.out.len
        rw [hg] at hsn
        have hkn2 : Hid (k + 1 ≤ n.toNat) := by unfold Hid; omega
        have hms : Hid (4097 - (k + 1) < gk) := by have := hk.out; unfold Hid; omega
        have hk2 : Hid (k + 1 + (4097 - (k + 1)) = 4097) := by unfold Hid; omega
        replace hg := Lib.hid hg
        replace hsn := Lib.hid hsn
        clear T s1 s2 s3 hkn
        go_wp2_with fail
        go_region
        clear lk
        generalize wr.drew = w2 at *
        clear c0 c1
        have e0 := TD.out.led.cell 0 (v := .map (some m)) rfl
        have e1 := TD.out.led.cell 2 (v := .int .i64 (d.rd + k)) rfl
        obtain ⟨n', S, s1, s2, s3⟩ := TD.out.map
        have MD : MapY w2.drew m n' S := s2.of_block rfl
        obtain ⟨w5, hdel, M5, gr⟩ := MD.drop h64 0
        replace gr := turned_grown gr
        have T6 : Hid (Lies w5 R (pxc m { d with rd := d.rd + k }) ∧ TQ w (w5.setCell ⟨R, 2, none⟩ (.int .i64 (d.rd + k + 1))) R m d k (.slice ua k uc)) := by
          have X := TD.out.keep (drewB _ w2)
          have far : ∀ b, some b = (Value.slice ua k uc).ownBlock → b ≠ m := fun b hb e => by have := (X.row.lt b hb.symm).1; have := X.lt.2; omega
          have L5 : Lies w5 R (pxc m { d with rd := d.rd + k }) := X.led.of_block (gr.block R (X.led.lt (by show 0 < 5; decide)) (fun e => X.ne (Option.some.inj e).symm))
          refine ⟨L5, ?_, ⟨n', _, s1, M5.of_block (Below.heap_setCell _ _ _ _ X.ne), fun x hx => ?_⟩, ?_, X.len, ?_, X.ne, X.lt⟩
          · have := L5.put 2 (by show 2 < 5; decide) (.int .i64 (d.rd + k + 1))
            have e : (d.rd + ((k + 1 : Nat) : Int)) = d.rd + k + 1 := by omega
            unfold pxc
            simp only [e]
            exact this
          · rw [if_neg (by omega)]
            exact s3 x (by omega)
          · refine row_keep X.row fun b hb => (Below.heap_setCell _ _ _ _ ?_).trans (gr.block b (X.row.lt b hb).2 fun e => far b hb.symm (Option.some.inj e))
            have := (X.row.lt b hb).1; have := X.lt.1; intro e; simp only at e; omega
          · exact Kept.set (F := fun k => k = R ∨ k = m) (X.kp.grown gr (fun k hk _ => .inr (Option.some.inj hk).symm)) ⟨R, 2, none⟩ (.inl rfl) _
        clear TD s1 s2 s3 MD M5 gr
        go_wp2_with fail
        go_region
        clear hdel e0 e1
        obtain ⟨L5, T6⟩ := T6.out
        replace T6 := Lib.hid T6
        have d1 := L5.cell 2 (v := .int .i64 (d.rd + k)) rfl
        have f1 := L5.free 2 (by show 2 < 5; decide)
        clear L5
        obtain ⟨w6, hw6⟩ : ∃ w6, w6 = w5.setCell ⟨R, 2, none⟩ (.int .i64 (d.rd + k + 1)) := ⟨_, rfl⟩
        have al : Below w6.heap.size w6 (w6.alloc (.cells #[.int .u8 c] 5)) := (Below.refl _ _).alloc (Nat.le_refl _) _
        have TA := (show TQ w w6 R m d k (.slice ua k uc) from hw6 ▸ T6.out).keep al
        have o4 : Hid ((w6.alloc (.cells #[.int .u8 c] 5)).ownsRow w.heap.size 5 1 (.slice ua k uc) k (n8 (runB (gotP d) d.rd k))) := TA.row
        have hnews : Hid (∀ j u, [Value.int .u8 c][j]? = some u → (w6.alloc (.cells #[.int .u8 c] 5)).cell? ((⟨w5.heap.size, 0, none⟩ : Addr).add j) = some u) := fun j u hj => by
          have hz6 : w6.heap.size = w5.heap.size := by rw [hw6]; simp
          rw [Addr.add_lit, ← hz6]
          exact (Lies.new w6 [.int .u8 c] 5).r j u hj
        have hWs : Hid (w.heap.size ≤ (w6.alloc (.cells #[.int .u8 c] 5)).heap.size) := TA.kp.size
        have fin : Hid (∀ v' w9, w9.ownsRow w.heap.size 5 1 v' (k + 1) (n8 (runB (gotP d) d.rd k) ++ [.int .u8 c]) → (w6.alloc (.cells #[.int .u8 c] 5)).grownBy w9 (Value.slice ua k uc).ownBlock → TP w w9 R m d (k + 1) v') := fun v' w9 q1 q2 => by
          have far : ∀ b, b < w.heap.size → some b ≠ (Value.slice ua k uc).ownBlock := fun b hb e => by have := (TA.row.lt b e.symm).1; omega
          have hz := TA.kp.size
          obtain ⟨l1, l2⟩ := TA.lt
          obtain ⟨n', S, s1, s2, s3⟩ := TA.map
          have e : runB (gotP d) d.rd (k + 1) = runB (gotP d) d.rd k ++ [c] := hsn.out
          refine ⟨TA.led.of_block (q2.block R (by omega) (far R l1)), ⟨n', S, s1, s2.of_block (q2.block m s2.lt (far m l2)), s3⟩, ?_, ?_, ?_, TA.ne, TA.lt⟩
          · rw [e, n8_snoc]
            exact q1
          · rw [e, List.length_append, TA.len]
            rfl
          · exact TA.kp.grown q2 (fun b hb hlt => absurd hb.symm (far b hlt))
        clear al TA T6
        subst hw6
        go_wp2_with (at_builtin; refine wpList_append_own_at _ rfl _ _ 59 rfl w.heap.size 5 i0 (.int .u8 0) 1 1 Try.underlying59 hi0 hz0 hz1 hz2 rfl (by decide) (.slice ua k uc) k (n8 (runB (gotP d) d.rd k)) rfl o4.out ⟨w5.heap.size, 0, none⟩ 1 1 [.int .u8 c] rfl rfl hnews.out (fun u hu => by simp at hu; subst hu; rfl) (by unfold maxLen; omega) (by omega) hWs.out ?_; intro v' w9 q1 q2 q3 q4; have R2 := Lib.hid (fin.out v' w9 q1 q2); clear q1 q2 q3 q4; clear fin o4 hnews hWs d1 f1)
        go_roundg (4097 - (k + 1))
        case measure => exact hms.out
        case rel => exact ⟨k + 1, hk2, hkn2, R2⟩
    · have g1 : decide ((k : Int) < n) = false := decide_eq_false q
      have e : k = n.toNat := by have := hkn.out; omega
      obtain ⟨F1, F2, F3⟩ := T.out.fin n (by rw [eT.out, e])
      replace F1 := Lib.hid F1
      replace F2 := Lib.hid F2
      clear T hkn e
      go_wp2_with fail
      go_ret
      exact ⟨rfl, F1.out, F2.out⟩
end Go.Proofs.Ytdmoaeegjjenmaa.ib
