/-
  The law LedgerOnce returns true for every row of acts, by what is asked of the program's calls (Face). No other condition.
-/
import Derived.Test.YtfjampommgkfeaaLgOnceI
import Derived.Test.YtfjampommgkfeaaLgWorks
import Derived.Test.YtfjampommgkfeaaLgApp
import Derived.Deep.Cut
namespace Go.Proofs.Ytfjampommgkfeaa
set_option maxRecDepth 100000
open Go.RowKit Go.Sort
theorem at_acts (B o N cap i : Nat) (w : World) (h : i < N) (z : Int) (hz : z = i) (p : Nat) (hp : p = o + 5 * i) :
    (Instr.indexAt 22 (.slice (some ⟨B, o, none⟩) N cap) (.int .i64 z)).run Try.prog w = .ok (.pointer (some ⟨B, p, none⟩)) w := by
  subst hz hp
  have e : Try.prog.elem 22 = 29 := by kernel_rfl
  rw [run_indexAt_slice (P := Try.prog) w 22 ⟨B, o, none⟩ N cap .i64 i (by rw [e]; exact Try.underlying22), if_pos (by omega), e]
  have s : (sizeOf 29).run Try.prog w = .ok 5 w := Try.sizeOf29 w
  rw [s]
  simp [Addr.add_mid, Nat.mul_comm]
theorem Lies.stay {w w' : World} {g : Nat} {vs : List Value} (h : Lies w g vs) (s : Same (fun k => k = g) w w') : Lies w' g vs := h.of_block (s g rfl)
theorem row_empty (w : World) (t : TypeId) : (w.alloc (.cells #[] t)).ownsRow w.heap.size t 1 (.slice (some ⟨w.heap.size, 0, none⟩) 0 0) 0 [] :=
  ⟨rfl, .inr ⟨w.heap.size, 0, #[], rfl, Nat.le_refl _, heap_alloc_new w _, Nat.le_refl _, Nat.zero_le _, rfl, rfl⟩⟩
section
variable {LS : LSt} {X Y : Nat → Prop} {w0 w w' : World} {B m1 m2 : Nat} {F : Nat → Prop} {d : Ld} {S D : List Int}
theorem OI.freshX (fc : Face LS) (h : OI LS X w0 w B F d m1 S m2 D) (b : Below w.heap.size w w') (hY : ∀ k, Y k → w.heap.size ≤ k ∧ k < w'.heap.size) : OI LS Y w0 w' B F d m1 S m2 D := by
  have l1 := h.s1.lt
  have l2 := h.s2.lt
  have k := h.keep fc b
  exact ⟨k.p, k.s1, k.s2, k.ne, k.ge, k.nF, fun k q => ⟨fun r => by have := fc.lt h.p.s k r; have := (hY k q).1; omega, by have := (hY k q).1; omega, by have := (hY k q).1; omega, (hY k q).2⟩⟩
theorem tail5 (fc : Face LS) {v : Value} {zs : List Int} (h : OI LS X w0 w B F d m1 S m2 D) (b : Below w.heap.size w w') (ho : w'.ownsRow w.heap.size 2 1 v zs.length (n64 zs)) : OI LS (fun k => v.ownBlock = some k) w0 w' B F d m1 S m2 (D ++ zs.take 0) := by
  rw [List.take_zero, List.append_nil]
  exact h.freshX fc b fun k hk => ho.lt k hk
end
theorem On.drop {S D zs rest : List Int} (h : On S D (zs ++ rest)) (k : Nat) : On S (D ++ zs.take k) (zs.drop k ++ rest) := by
  refine ⟨?_, h.2⟩
  have e : D ++ zs.take k ++ (zs.drop k ++ rest) = D ++ (zs ++ rest) := by
    rw [List.append_assoc, ← List.append_assoc (zs.take k), List.take_append_drop]
  rw [e]
  exact h.1
theorem On.at {S D zs rest : List Int} (h : On S D (zs ++ rest)) (k : Nat) (hk : k < zs.length) : zs.getD k 0 ∈ S ∧ zs.getD k 0 ∉ D ++ zs.take k ∧ D ++ zs.take (k + 1) = D ++ zs.take k ++ [zs.getD k 0] := by
  have q := h.drop k
  have e : zs.drop k = zs.getD k 0 :: zs.drop (k + 1) := by
    rw [List.drop_eq_getElem_cons hk]
    simp [List.getD, List.getElem?_eq_getElem hk]
  rw [e] at q
  have m := On.mem q
  refine ⟨m.1, m.2, ?_⟩
  rw [List.take_succ_eq_append_getElem hk]
  simp [List.getD, List.getElem?_eq_getElem hk]
/-- The numbers that a ledger tells are an int64's. -/
theorem nos_in {d : Ld} (h : Lw d) {x : Int} (hx : x ∈ nosP d.l) : In64 x := by
  obtain ⟨p, hp, rfl⟩ := List.mem_map.1 hx
  have := h.k.nos p hp
  have := h.k.top
  unfold In64
  omega
theorem nil64 (w : World) (A : Nat → Prop) : N64 w A (.slice none 0 0) [] := ⟨none, 0, rfl, fun _ => rfl, .inl rfl⟩
theorem nils (w3 : World) {S D rest : List Int} (h : On S D rest) : ∃ xs ys : List Int, Hid (On S D (xs ++ ys ++ rest)) ∧ Hid (N64 w3 (fun _ => False) (.slice none 0 0) xs) ∧ Hid (N64 w3 (fun _ => False) (.slice none 0 0) ys) ∧ ∀ x ∈ xs ++ ys, In64 x :=
  ⟨[], [], h, nil64 _ _, nil64 _ _, fun x hx => by cases hx⟩
theorem nils1 (w3 : World) {S D ys rest : List Int} (h : On S D (ys ++ rest)) (hy : ∀ x ∈ ys, In64 x) : ∃ xs : List Int, Hid (On S D (xs ++ ys ++ rest)) ∧ Hid (N64 w3 (fun _ => False) (.slice none 0 0) xs) ∧ ∀ x ∈ xs ++ ys, In64 x :=
  ⟨[], h, nil64 _ _, hy⟩
theorem below_grown' {w a b : World} {v : Value} {n : Nat} {t : TypeId} {s : Nat} {xs : List Value} (h : Below w.heap.size w a) (ho : a.ownsRow w.heap.size t s v n xs) (g : a.grownBy b v.ownBlock) : Below w.heap.size w b :=
  h.grown g h.size fun k hk => (ho.lt k hk).1
set_option maxHeartbeats 16000000 in
theorem once_some {LS : LSt} (fc : Face LS) (f : Nat → LOp) (b off m cap M : Nat) (w : World) (hb : b < w.heap.size) (hm : m ≤ 9223372036854775807) (hM : (M = m ∧ m ≤ 150) ∨ (M = 150 ∧ 150 < m)) (hz : ∀ i, i < m → LOpB (f i))
    (hc : ∀ i, i < m → (∀ j, j < 5 → w.cell? ⟨b, off + 5 * i + j, none⟩ = (f i).cells[j]?) ∧ RgAt w (f i).rv (f i).rg) :
    Calls Try.prog 4 #[.slice (some ⟨b, off, none⟩) m cap] w fun e w' => e = .returned (.bool true) ∧ Below w.heap.size w w' := by
  have hMn : M ≤ m ∧ M ≤ 150 := by omega
  replace hc : Hid _ := hc
  replace hz : Hid _ := hz
  have WO : Hid (∀ _ : Unit, _) := fun _ => works_ok fc w
  have NP : Hid (∀ w', Below w.heap.size w w' → _) := fun w' b => pl_new fc w w' b
  go_enter Try.func4, Try.ntmps4
  go_wp2_with fail
  refine (WO.out ()).mono ?_
  rintro e w1 ⟨rfl, b1⟩
  have Z1 := Lib.hid b1
  clear b1 WO
  go_wp2_with fail
  refine (NP.out _ Z1.out).mono ?_
  rintro e w2 ⟨B, F0, rfl, n2, -⟩
  have N2 : Hid (OI LS (fun _ => False) w ((w2.alloc (.map #[] 0)).alloc (.map #[] 0)) B F0 ld0 w2.heap.size [] (w2.heap.size + 1) []) := by
    have := oi_new fc n2 (w' := w2.alloc (.map #[] 0)) rfl
    have hs : (w2.alloc (.map #[] 0)).heap.size = w2.heap.size + 1 := by simp
    rw [hs] at this
    exact this
  clear n2 NP Z1
  have hmm := @run_makeMap Try.prog
  go_upto_region 5 with fail
  clear hmm
  generalize (w2.alloc (.map #[] 0)).alloc (.map #[] 0) = w3 at *
  obtain ⟨m2, hm2⟩ : ∃ m2, m2 = w2.heap.size + 1 := ⟨_, rfl⟩
  rw [← hm2] at N2 ⊢
  clear hm2
  generalize w2.heap.size = m1 at *
  go_wp2_with fail
  go_loopg [6] M (fun g iv wr => ∃ (i : Nat) (F : Nat → Prop) (d : Ld) (S D : List Int), i + g = M ∧ iv = .int .i64 i ∧ Hid (S.length ≤ i) ∧ Hid (OnL d S D) ∧ Hid (OI LS (fun _ => False) w wr B F d m1 S m2 D))
  case atStart => exact ⟨0, F0, ld0, [], [], by omega, rfl, Nat.le_refl 0, OnL.new, N2⟩
  case round =>
    clear N2
    obtain ⟨i, F, d, S, D, hi, rfl, hsl, hon, N⟩ := hrel
    by_cases hlt : i < M
    · have q1 : decide (i < m) = true := decide_eq_true (by omega)
      have q2 : decide ((i : Int) < 150) = true := decide_eq_true (by omega)
      have q3 : decide (i < 150) = true := decide_eq_true (by omega)
      have ia := fun w' => at_acts b off m cap i w' (by omega) (i : Int) rfl (off + 5 * i) rfl
      have c0 := (N.out.p.bel.cell (p := ⟨b, off + 5 * i, none⟩) hb).trans ((hc.out i (by omega)).1 0 (by omega))
      have c1 := (N.out.p.bel.cell (p := ⟨b, off + 5 * i + 1, none⟩) hb).trans ((hc.out i (by omega)).1 1 (by omega))
      have c2 := (N.out.p.bel.cell (p := ⟨b, off + 5 * i + 2, none⟩) hb).trans ((hc.out i (by omega)).1 2 (by omega))
      have c3 := (N.out.p.bel.cell (p := ⟨b, off + 5 * i + 3, none⟩) hb).trans ((hc.out i (by omega)).1 3 (by omega))
      have c4 := (N.out.p.bel.cell (p := ⟨b, off + 5 * i + 4, none⟩) hb).trans ((hc.out i (by omega)).1 4 (by omega))
      simp [LOp.cells] at c0 c1 c2 c3 c4
      go_upto_region 9 with fail
      have B0 : Below wr.heap.size wr (wr.alloc (.cells #[.int .i64 (f i).kind, .int .i64 (f i).n, .int .i64 (f i).now, .int .i64 (f i).size, (f i).rv] 29)) := (Below.refl _ _).alloc (Nat.le_refl _) _
      have NX : Hid (OI LS (fun k => k = wr.heap.size) w (wr.alloc (.cells #[.int .i64 (f i).kind, .int .i64 (f i).n, .int .i64 (f i).now, .int .i64 (f i).size, (f i).rv] 29)) B F d m1 S m2 D) := N.out.fresh fc B0 _ ⟨Nat.le_refl _, by simp⟩
      have LX : Hid (Lies (wr.alloc (.cells #[.int .i64 (f i).kind, .int .i64 (f i).n, .int .i64 (f i).now, .int .i64 (f i).size, (f i).rv] 29)) wr.heap.size (f i).cells) := Lies.new wr _ _
      clear B0 N c0 c1 c2 c3 c4 ia q1 q2 q3
      generalize wr.alloc (.cells #[.int .i64 (f i).kind, .int .i64 (f i).n, .int .i64 (f i).now, .int .i64 (f i).size, (f i).rv] 29) = wa at *
      generalize wr.heap.size = g at *
      have hzi := Lib.hid (hz.out i (by omega))
      have hci := Lib.hid (hc.out i (by omega)).2
      clear hz hc
      generalize f i = op at *
      have dl : d.l.length ≤ i := by
        have h1 := hon.out.on.len
        have h2 := hsl.out
        rw [nos_len] at h1
        omega
      by_cases hk0 : op.kind = 0
      · have e0 : wa.cell? ⟨g, 0, none⟩ = some (.int .i64 0) := hk0 ▸ LX.out.cell 0 (v := .int .i64 op.kind) rfl
        have e1 := LX.out.cell 1 (v := .int .i64 op.n) rfl
        have e2 := LX.out.cell 2 (v := .int .i64 op.now) rfl
        have e3 := LX.out.cell 3 (v := .int .i64 op.size) rfl
        have AS : Hid (∀ _ : Unit, _) := fun _ => pl_sent fc op.n op.now op.size NX.out.p (by omega) hzi.out.n hzi.out.now hzi.out.size
        go_wp2_with fail
        refine (AS.out ()).mono ?_
        rintro e w2 ⟨rfl, F2, n2, hg2, hk2⟩
        obtain ⟨o2, s2⟩ := NX.out.step n2 hg2 hk2
        have L2 : Hid (Lies w2 g op.cells) := LX.out.stay s2
        have N2' := Lib.hid o2
        clear AS n2 hg2 hk2 o2 s2 NX LX e0 e1 e2 e3
        by_cases he : sentE d op.n op.size = 0
        · have gE : (sentE d op.n op.size == 0) = true := by rw [he]; rfl
          have e1 := L2.out.cell 1 (v := .int .i64 op.n) rfl
          obtain ⟨hon2, hnS⟩ := hon.out.sent op.n op.now op.size he
          have s1 : Hid (SetB w2 m1 S) := N2'.out.s1
          have hn64 := Lib.hid hzi.out.n
          have hsm : Hid (S.length < maxLen) := by have := hsl.out; unfold Hid maxLen; omega
          replace hnS : Hid _ := hnS
          go_upto_region 18 with (at_mapUpdate; refine s1.out.wput hsm.out rfl _ _ _ rfl (x := op.n) hn64.out hnS.out rfl rfl rfl ?_; intro w3 r1 r2)
          obtain ⟨n3, -⟩ := N2'.out.put1 fc r1 r2
          have N3 : Hid (OI LS (fun k => k = g) w w3 B F2 (sent d op.n op.now op.size) m1 (S ++ [op.n]) m2 D) := n3
          clear r1 r2 n3 s1 N2' e1 L2 gE hnS hsm
          have SL : Hid ((S ++ [op.n]).length ≤ i + 1) := by have := hsl.out; unfold Hid; simp; omega
          have TOP : Hid (∀ n ∈ S ++ [op.n], n ≤ (sent d op.n op.now op.size).top) := hon2.top
          have ON : On (S ++ [op.n]) D (nosP (sent d op.n op.now op.size).l) := hon2.on
          obtain ⟨xs, ys, ON, AV, BV, IN⟩ := nils w3 ON
          generalize sent d op.n op.now op.size = d2 at *
          generalize S ++ [op.n] = S2 at *
          clear hon hsl hon2 dl
          have hin : Hid (∀ x ∈ xs ++ ys, In64 x) := IN
          clear IN
          have hxl : xs.length + ys.length ≤ 1000 := by
            have h1 := ON.out.len
            have h2 := SL.out
            simp only [List.length_append] at h1
            omega
          have W3 : Below w3.heap.size w3 (w3.alloc (.cells #[] 2)) := (Below.refl _ _).alloc (Nat.le_refl _) _
          have O0 : Hid ((w3.alloc (.cells #[] 2)).ownsRow w3.heap.size 2 1 (.slice (some ⟨w3.heap.size, 0, none⟩) 0 0) ([] : List Int).length (n64 [])) := row_empty w3 2
          have A0 : Hid (N64 (w3.alloc (.cells #[] 2)) (fun _ => False) (.slice none 0 0) xs) := AV.out.keep W3
          have fin : Hid (∀ v' w4, w4.ownsRow w3.heap.size 2 1 v' ([] ++ xs).length (n64 ([] ++ xs)) → (w3.alloc (.cells #[] 2)).grownBy w4 (Value.slice (some ⟨w3.heap.size, 0, none⟩) 0 0).ownBlock → N64 w4 (fun _ => False) (.slice none 0 0) ys ∧ Below w3.heap.size w3 w4) := fun v' w4 q1 q2 => by
            have b := below_grown' W3 O0.out q2
            exact ⟨BV.out.keep b, b⟩
          have hz3 : w3.heap.size ≤ (w3.alloc (.cells #[] 2)).heap.size := W3.size
          clear W3 AV BV
          go_wp2_with (at_builtin; first | (refine wpList_app64 rfl _ _ rfl w3.heap.size (.slice (some ⟨w3.heap.size, 0, none⟩) 0 0) (.slice none 0 0) [] xs rfl O0.out rfl A0.out (by show 0 + _ < _; omega) hz3 ?_; intro v4 w4 o4 g4; have B4 := Lib.hid (fin.out v4 w4 o4 g4).1; have b4 := Lib.hid (fin.out v4 w4 o4 g4).2; have hz4 := b4.out.size; have O4 : Hid (w4.ownsRow w3.heap.size 2 1 v4 xs.length (n64 xs)) := o4; clear fin g4 A0 hz3 o4 O0) | (refine wpList_app64 rfl _ _ rfl w3.heap.size v4 (.slice none 0 0) xs ys rfl O4.out rfl B4.out (by omega) hz4 ?_; intro v5 w5 o5 g5; have N5 := Lib.hid (tail5 fc N3.out (below_grown' b4.out O4.out g5) o5); have O5 : Hid (w5.ownsRow w3.heap.size 2 1 v5 (xs ++ ys).length (n64 (xs ++ ys))) := o5; clear g5 B4 hz4 O4 b4 N3 o5; generalize xs ++ ys = zs at *; obtain ⟨za, zc, hv5⟩ := rown_len O5.out; subst hv5))
          have hzl : zs.length ≤ 2000 := by
            have h1 := ON.out.len
            have h2 := SL.out
            simp only [List.length_append] at h1
            omega
          go_loopg [10] zs.length (fun g' kv wq => ∃ k : Nat, k + g' = zs.length ∧ kv = .int .i64 k ∧ Hid (OI LS (fun k => (Value.slice za zs.length zc).ownBlock = some k) w wq B F2 d2 m1 S2 m2 (D ++ zs.take k)) ∧ Hid (Same (fun k => (Value.slice za zs.length zc).ownBlock = some k) w5 wq))
          case atStart => exact ⟨0, by omega, rfl, N5, fun _ _ => rfl⟩
          case round =>
            clear N5
            obtain ⟨k, hkz, rfl, NQ, SQ⟩ := hrel
            by_cases hlz : k < zs.length
            · have z1 : decide ((k : Int) < (zs.length : Int)) = true := decide_eq_true (by omega)
              obtain ⟨hxS, hxD, hxN⟩ := ON.out.at k hlz
              have hx64 := hin.out (zs.getD k 0) (by simp [List.getD, List.getElem?_eq_getElem hlz])
              have OQ := row_block (w' := wr) O5.out fun k hk => SQ.out k hk
              obtain ⟨qa, qc, hq, hcq⟩ := row_i64 OQ
              injection hq with hq1 _ hq2
              subst hq1 hq2
              rcases hcq with hcq | ⟨tg, po, rfl, hcq⟩
              · rw [hcq] at hlz; simp at hlz
              · have d0 := hcq k hlz
                have ib := fun w' => at_n64 tg po zs.length zc k w' hlz (k : Int) rfl (po + k) rfl
                have lk1 := NQ.out.s1.look hx64
                have lk2 := NQ.out.s2.look hx64
                rw [decide_eq_true hxS] at lk1
                rw [decide_eq_false hxD] at lk2
                have hdl2 : (D ++ zs.take k).length < maxLen := by
                  have h1 := (ON.out.drop k).len
                  have h2 := SL.out
                  unfold maxLen
                  omega
                have fin3 : Hid (∀ w', SetB w' m2 (D ++ zs.take k ++ [zs.getD k 0]) → wr.grownBy w' (some m2) → OI LS (fun k => (Value.slice (some ⟨tg, po, none⟩) zs.length zc).ownBlock = some k) w w' B F2 d2 m1 S2 m2 (D ++ zs.take (k + 1)) ∧ Same (fun k => (Value.slice (some ⟨tg, po, none⟩) zs.length zc).ownBlock = some k) w5 w') := fun w' r1 r2 => by
                  obtain ⟨r3, r4⟩ := NQ.out.put2 fc r1 r2
                  rw [hxN]
                  exact ⟨r3, fun k hk => (r4 k hk).trans (SQ.out k hk)⟩
                have s2 : Hid (SetB wr m2 (D ++ zs.take k)) := NQ.out.s2
                clear hcq OQ hxS hxN NQ SQ
                generalize zs.getD k 0 = x at *
                replace hxD : Hid _ := hxD
                replace hdl2 : Hid _ := hdl2
                replace hx64 : Hid _ := hx64
                go_wp2_with (at_mapUpdate; refine s2.out.wput hdl2.out rfl _ _ _ rfl (x := x) hx64.out hxD.out rfl rfl rfl ?_; intro w6 r1 r2)
                obtain ⟨N6, S6⟩ := fin3.out w6 r1 r2
                replace N6 : Hid _ := N6
                replace S6 : Hid _ := S6
                clear r1 r2 fin3 s2 lk1 lk2 d0
                go_wp2_with fail
                go_roundg (zs.length - (k + 1))
                case measure => omega
                case rel => exact ⟨k + 1, by omega, by go_num, N6, S6⟩
            · have z1 : decide ((k : Int) < (zs.length : Int)) = false := decide_eq_false (by omega)
              obtain rfl : k = zs.length := by omega
              rw [List.take_length] at NQ
              have ND := Lib.hid NQ.out.drop
              clear NQ SQ O5
              have FL : Hid (∀ _ : Unit, _) := fun _ => pl_flight fc ND.out.p
              go_wp2_with fail
              refine (FL.out ()).mono ?_
              rintro e w6 ⟨rfl, b6⟩
              have N6 := Lib.hid (ND.out.keep fc b6)
              clear b6 FL ND
              have ON2 := ON.out.drop zs.length
              rw [List.take_length, List.drop_length, List.nil_append] at ON2
              have ON3 : Hid (OnL d2 S2 (D ++ zs)) := ⟨ON2, TOP.out⟩
              have hcount := ON2.len
              rw [nos_len] at hcount
              have hS2 := SL.out
              have ln1 := fun ty => N6.out.s1.len ty
              have ln2 := fun ty => N6.out.s2.len ty
              have hsub : ((S2.length : Int) - ((D ++ zs).length : Int)) = (d2.l.length : Int) := by omega
              have hsubw : wrap64 ((S2.length : Int) - ((D ++ zs).length : Int)) = (d2.l.length : Int) := by rw [hsub]; unfold wrap64; omega
              have gl : ((d2.l.length : Int) != (d2.l.length : Int)) = false := by simp
              have WI : Hid (∀ _ : Unit, _) := fun _ => pl_window fc N6.out.p
              have gw : decide (d2.win < 2400) = false := decide_eq_false (by have := N6.out.p.ok.k.win.1; omega)
              clear ON2 hsub
              generalize (D ++ zs).length = n2 at *
              generalize d2.l.length = n3 at *
              go_wp2_with fail
              refine (WI.out ()).mono ?_
              rintro e w7 ⟨rfl, b7⟩
              have N7 := Lib.hid (N6.out.keep fc b7)
              clear b7 WI N6 ln1 ln2
              go_wp2_with fail
              go_roundg (M - (i + 1))
              case measure => omega
              case rel => exact ⟨i + 1, F2, d2, S2, D ++ zs, by omega, by go_num, SL, ON3, N7⟩
        · have gE : (sentE d op.n op.size == 0) = false := by simpa using he
          have ed : sent d op.n op.now op.size = d := by unfold sent; rw [if_neg he]
          rw [ed] at N2'
          clear ed L2 he
          generalize sentE d op.n op.size = se at *
          have N3 := N2'
          clear N2'
          obtain ⟨w3, hw3⟩ : ∃ w3, w3 = w2 := ⟨_, rfl⟩
          rw [← hw3] at N3 ⊢
          clear hw3
          have SL : Hid (S.length ≤ i + 1) := by have := hsl.out; unfold Hid; omega
          have TOP : Hid (∀ n ∈ S, n ≤ d.top) := hon.out.top
          have ON : On S D (nosP d.l) := hon.out.on
          obtain ⟨xs, ys, ON, AV, BV, IN⟩ := nils w3 ON
          obtain ⟨d2, hd2⟩ : ∃ d2, d2 = d := ⟨_, rfl⟩
          rw [← hd2] at N3 TOP ON
          obtain ⟨S2, hS2⟩ : ∃ S2, S2 = S := ⟨_, rfl⟩
          rw [← hS2] at N3 TOP ON SL
          clear hd2 hS2 hon hsl dl
          have hin : Hid (∀ x ∈ xs ++ ys, In64 x) := IN
          clear IN
          have hxl : xs.length + ys.length ≤ 1000 := by
            have h1 := ON.out.len
            have h2 := SL.out
            simp only [List.length_append] at h1
            omega
          have W3 : Below w3.heap.size w3 (w3.alloc (.cells #[] 2)) := (Below.refl _ _).alloc (Nat.le_refl _) _
          have O0 : Hid ((w3.alloc (.cells #[] 2)).ownsRow w3.heap.size 2 1 (.slice (some ⟨w3.heap.size, 0, none⟩) 0 0) ([] : List Int).length (n64 [])) := row_empty w3 2
          have A0 : Hid (N64 (w3.alloc (.cells #[] 2)) (fun _ => False) (.slice none 0 0) xs) := AV.out.keep W3
          have fin : Hid (∀ v' w4, w4.ownsRow w3.heap.size 2 1 v' ([] ++ xs).length (n64 ([] ++ xs)) → (w3.alloc (.cells #[] 2)).grownBy w4 (Value.slice (some ⟨w3.heap.size, 0, none⟩) 0 0).ownBlock → N64 w4 (fun _ => False) (.slice none 0 0) ys ∧ Below w3.heap.size w3 w4) := fun v' w4 q1 q2 => by
            have b := below_grown' W3 O0.out q2
            exact ⟨BV.out.keep b, b⟩
          have hz3 : w3.heap.size ≤ (w3.alloc (.cells #[] 2)).heap.size := W3.size
          clear W3 AV BV
          go_wp2_with (at_builtin; first | (refine wpList_app64 rfl _ _ rfl w3.heap.size (.slice (some ⟨w3.heap.size, 0, none⟩) 0 0) (.slice none 0 0) [] xs rfl O0.out rfl A0.out (by show 0 + _ < _; omega) hz3 ?_; intro v4 w4 o4 g4; have B4 := Lib.hid (fin.out v4 w4 o4 g4).1; have b4 := Lib.hid (fin.out v4 w4 o4 g4).2; have hz4 := b4.out.size; have O4 : Hid (w4.ownsRow w3.heap.size 2 1 v4 xs.length (n64 xs)) := o4; clear fin g4 A0 hz3 o4 O0) | (refine wpList_app64 rfl _ _ rfl w3.heap.size v4 (.slice none 0 0) xs ys rfl O4.out rfl B4.out (by omega) hz4 ?_; intro v5 w5 o5 g5; have N5 := Lib.hid (tail5 fc N3.out (below_grown' b4.out O4.out g5) o5); have O5 : Hid (w5.ownsRow w3.heap.size 2 1 v5 (xs ++ ys).length (n64 (xs ++ ys))) := o5; clear g5 B4 hz4 O4 b4 N3 o5; generalize xs ++ ys = zs at *; obtain ⟨za, zc, hv5⟩ := rown_len O5.out; subst hv5))
          have hzl : zs.length ≤ 2000 := by
            have h1 := ON.out.len
            have h2 := SL.out
            simp only [List.length_append] at h1
            omega
          go_loopg [10] zs.length (fun g' kv wq => ∃ k : Nat, k + g' = zs.length ∧ kv = .int .i64 k ∧ Hid (OI LS (fun k => (Value.slice za zs.length zc).ownBlock = some k) w wq B F2 d2 m1 S2 m2 (D ++ zs.take k)) ∧ Hid (Same (fun k => (Value.slice za zs.length zc).ownBlock = some k) w5 wq))
          case atStart => exact ⟨0, by omega, rfl, N5, fun _ _ => rfl⟩
          case round =>
            clear N5
            obtain ⟨k, hkz, rfl, NQ, SQ⟩ := hrel
            by_cases hlz : k < zs.length
            · have z1 : decide ((k : Int) < (zs.length : Int)) = true := decide_eq_true (by omega)
              obtain ⟨hxS, hxD, hxN⟩ := ON.out.at k hlz
              have hx64 := hin.out (zs.getD k 0) (by simp [List.getD, List.getElem?_eq_getElem hlz])
              have OQ := row_block (w' := wr) O5.out fun k hk => SQ.out k hk
              obtain ⟨qa, qc, hq, hcq⟩ := row_i64 OQ
              injection hq with hq1 _ hq2
              subst hq1 hq2
              rcases hcq with hcq | ⟨tg, po, rfl, hcq⟩
              · rw [hcq] at hlz; simp at hlz
              · have d0 := hcq k hlz
                have ib := fun w' => at_n64 tg po zs.length zc k w' hlz (k : Int) rfl (po + k) rfl
                have lk1 := NQ.out.s1.look hx64
                have lk2 := NQ.out.s2.look hx64
                rw [decide_eq_true hxS] at lk1
                rw [decide_eq_false hxD] at lk2
                have hdl2 : (D ++ zs.take k).length < maxLen := by
                  have h1 := (ON.out.drop k).len
                  have h2 := SL.out
                  unfold maxLen
                  omega
                have fin3 : Hid (∀ w', SetB w' m2 (D ++ zs.take k ++ [zs.getD k 0]) → wr.grownBy w' (some m2) → OI LS (fun k => (Value.slice (some ⟨tg, po, none⟩) zs.length zc).ownBlock = some k) w w' B F2 d2 m1 S2 m2 (D ++ zs.take (k + 1)) ∧ Same (fun k => (Value.slice (some ⟨tg, po, none⟩) zs.length zc).ownBlock = some k) w5 w') := fun w' r1 r2 => by
                  obtain ⟨r3, r4⟩ := NQ.out.put2 fc r1 r2
                  rw [hxN]
                  exact ⟨r3, fun k hk => (r4 k hk).trans (SQ.out k hk)⟩
                have s2 : Hid (SetB wr m2 (D ++ zs.take k)) := NQ.out.s2
                clear hcq OQ hxS hxN NQ SQ
                generalize zs.getD k 0 = x at *
                replace hxD : Hid _ := hxD
                replace hdl2 : Hid _ := hdl2
                replace hx64 : Hid _ := hx64
                go_wp2_with (at_mapUpdate; refine s2.out.wput hdl2.out rfl _ _ _ rfl (x := x) hx64.out hxD.out rfl rfl rfl ?_; intro w6 r1 r2)
                obtain ⟨N6, S6⟩ := fin3.out w6 r1 r2
                replace N6 : Hid _ := N6
                replace S6 : Hid _ := S6
                clear r1 r2 fin3 s2 lk1 lk2 d0
                go_wp2_with fail
                go_roundg (zs.length - (k + 1))
                case measure => omega
                case rel => exact ⟨k + 1, by omega, by go_num, N6, S6⟩
            · have z1 : decide ((k : Int) < (zs.length : Int)) = false := decide_eq_false (by omega)
              obtain rfl : k = zs.length := by omega
              rw [List.take_length] at NQ
              have ND := Lib.hid NQ.out.drop
              clear NQ SQ O5
              have FL : Hid (∀ _ : Unit, _) := fun _ => pl_flight fc ND.out.p
              go_wp2_with fail
              refine (FL.out ()).mono ?_
              rintro e w6 ⟨rfl, b6⟩
              have N6 := Lib.hid (ND.out.keep fc b6)
              clear b6 FL ND
              have ON2 := ON.out.drop zs.length
              rw [List.take_length, List.drop_length, List.nil_append] at ON2
              have ON3 : Hid (OnL d2 S2 (D ++ zs)) := ⟨ON2, TOP.out⟩
              have hcount := ON2.len
              rw [nos_len] at hcount
              have hS2 := SL.out
              have ln1 := fun ty => N6.out.s1.len ty
              have ln2 := fun ty => N6.out.s2.len ty
              have hsub : ((S2.length : Int) - ((D ++ zs).length : Int)) = (d2.l.length : Int) := by omega
              have hsubw : wrap64 ((S2.length : Int) - ((D ++ zs).length : Int)) = (d2.l.length : Int) := by rw [hsub]; unfold wrap64; omega
              have gl : ((d2.l.length : Int) != (d2.l.length : Int)) = false := by simp
              have WI : Hid (∀ _ : Unit, _) := fun _ => pl_window fc N6.out.p
              have gw : decide (d2.win < 2400) = false := decide_eq_false (by have := N6.out.p.ok.k.win.1; omega)
              clear ON2 hsub
              generalize (D ++ zs).length = n2 at *
              generalize d2.l.length = n3 at *
              go_wp2_with fail
              refine (WI.out ()).mono ?_
              rintro e w7 ⟨rfl, b7⟩
              have N7 := Lib.hid (N6.out.keep fc b7)
              clear b7 WI N6 ln1 ln2
              go_wp2_with fail
              go_roundg (M - (i + 1))
              case measure => omega
              case rel => exact ⟨i + 1, F2, d2, S2, D ++ zs, by omega, by go_num, SL, ON3, N7⟩
      · by_cases hk1 : op.kind = 1
        · have e0 : wa.cell? ⟨g, 0, none⟩ = some (.int .i64 1) := hk1 ▸ LX.out.cell 0 (v := .int .i64 op.kind) rfl
          have e4 := LX.out.cell 4 (v := op.rv) rfl
          have AK : Hid (∀ _ : Unit, _) := fun _ => pl_acked fc op.rg op.rv NX.out.p (hci.out.keep NX.out.p.bel) hzi.out.rgs hzi.out.rg (fun hn p c e q => by have h1 := rg_lt (e ▸ hci.out) hn; have h2 := NX.out.p.ge _ q; omega)
          go_wp2_with fail
          refine (AK.out ()).mono ?_
          rintro e w3 ⟨u, v, rfl, F2, hu, hv, n2, hg2, hk2⟩
          obtain ⟨o2, -⟩ := NX.out.step n2 hg2 hk2
          have N3 := Lib.hid o2
          have AV := Lib.hid hu
          have BV := Lib.hid hv
          have pm := acked_perm d op.rg
          have IN : ∀ x ∈ toldN d op.rg ++ lostN d op.rg, In64 x := fun x hx => nos_in NX.out.p.ok (pm.mem_iff.2 (List.mem_append_left _ hx))
          have SL : Hid (S.length ≤ i + 1) := by have := hsl.out; unfold Hid; omega
          have TOP : Hid (∀ n ∈ S, n ≤ (acked d op.rg).top) := by rw [acked_top]; exact hon.out.top
          have ON : Hid (On S D (toldN d op.rg ++ lostN d op.rg ++ nosP (acked d op.rg).l)) := hon.out.on.perm pm
          clear AK n2 hg2 hk2 o2 NX LX e0 e4 hu hv pm hon hsl dl
          generalize acked d op.rg = d2 at *
          generalize toldN d op.rg = xs at *
          generalize lostN d op.rg = ys at *
          generalize ackE d op.rg = ae at *
          obtain ⟨S2, hS2⟩ : ∃ S2, S2 = S := ⟨_, rfl⟩
          rw [← hS2] at N3 TOP ON SL
          clear hS2
          obtain ⟨AA, hAA⟩ : ∃ AA, AA = Free wa F2 := ⟨_, rfl⟩
          rw [← hAA] at AV BV
          clear hAA
          obtain ⟨ua, uc, hu0⟩ : ∃ ua uc, u = .slice ua xs.length uc := by obtain ⟨a, c, e, -⟩ := AV.out; exact ⟨a, c, e⟩
          obtain ⟨va, vc, hv0⟩ : ∃ va vc, v = .slice va ys.length vc := by obtain ⟨a, c, e, -⟩ := BV.out; exact ⟨a, c, e⟩
          subst hu0 hv0
          have hin : Hid (∀ x ∈ xs ++ ys, In64 x) := IN
          clear IN
          have hxl : xs.length + ys.length ≤ 1000 := by
            have h1 := ON.out.len
            have h2 := SL.out
            simp only [List.length_append] at h1
            omega
          have W3 : Below w3.heap.size w3 (w3.alloc (.cells #[] 2)) := (Below.refl _ _).alloc (Nat.le_refl _) _
          have O0 : Hid ((w3.alloc (.cells #[] 2)).ownsRow w3.heap.size 2 1 (.slice (some ⟨w3.heap.size, 0, none⟩) 0 0) ([] : List Int).length (n64 [])) := row_empty w3 2
          have A0 : Hid (N64 (w3.alloc (.cells #[] 2)) AA (.slice ua xs.length uc) xs) := AV.out.keep W3
          have fin : Hid (∀ v' w4, w4.ownsRow w3.heap.size 2 1 v' ([] ++ xs).length (n64 ([] ++ xs)) → (w3.alloc (.cells #[] 2)).grownBy w4 (Value.slice (some ⟨w3.heap.size, 0, none⟩) 0 0).ownBlock → N64 w4 AA (.slice va ys.length vc) ys ∧ Below w3.heap.size w3 w4) := fun v' w4 q1 q2 => by
            have b := below_grown' W3 O0.out q2
            exact ⟨BV.out.keep b, b⟩
          have hz3 : w3.heap.size ≤ (w3.alloc (.cells #[] 2)).heap.size := W3.size
          clear W3 AV BV
          go_wp2_with (at_builtin; first | (refine wpList_app64 rfl _ _ rfl w3.heap.size (.slice (some ⟨w3.heap.size, 0, none⟩) 0 0) (.slice ua xs.length uc) [] xs rfl O0.out rfl A0.out (by show 0 + _ < _; omega) hz3 ?_; intro v4 w4 o4 g4; have B4 := Lib.hid (fin.out v4 w4 o4 g4).1; have b4 := Lib.hid (fin.out v4 w4 o4 g4).2; have hz4 := b4.out.size; have O4 : Hid (w4.ownsRow w3.heap.size 2 1 v4 xs.length (n64 xs)) := o4; clear fin g4 A0 hz3 o4 O0) | (refine wpList_app64 rfl _ _ rfl w3.heap.size v4 (.slice va ys.length vc) xs ys rfl O4.out rfl B4.out (by omega) hz4 ?_; intro v5 w5 o5 g5; have N5 := Lib.hid (tail5 fc N3.out (below_grown' b4.out O4.out g5) o5); have O5 : Hid (w5.ownsRow w3.heap.size 2 1 v5 (xs ++ ys).length (n64 (xs ++ ys))) := o5; clear g5 B4 hz4 O4 b4 N3 o5; generalize xs ++ ys = zs at *; obtain ⟨za, zc, hv5⟩ := rown_len O5.out; subst hv5))
          have hzl : zs.length ≤ 2000 := by
            have h1 := ON.out.len
            have h2 := SL.out
            simp only [List.length_append] at h1
            omega
          go_loopg [10] zs.length (fun g' kv wq => ∃ k : Nat, k + g' = zs.length ∧ kv = .int .i64 k ∧ Hid (OI LS (fun k => (Value.slice za zs.length zc).ownBlock = some k) w wq B F2 d2 m1 S2 m2 (D ++ zs.take k)) ∧ Hid (Same (fun k => (Value.slice za zs.length zc).ownBlock = some k) w5 wq))
          case atStart => exact ⟨0, by omega, rfl, N5, fun _ _ => rfl⟩
          case round =>
            clear N5
            obtain ⟨k, hkz, rfl, NQ, SQ⟩ := hrel
            by_cases hlz : k < zs.length
            · have z1 : decide ((k : Int) < (zs.length : Int)) = true := decide_eq_true (by omega)
              obtain ⟨hxS, hxD, hxN⟩ := ON.out.at k hlz
              have hx64 := hin.out (zs.getD k 0) (by simp [List.getD, List.getElem?_eq_getElem hlz])
              have OQ := row_block (w' := wr) O5.out fun k hk => SQ.out k hk
              obtain ⟨qa, qc, hq, hcq⟩ := row_i64 OQ
              injection hq with hq1 _ hq2
              subst hq1 hq2
              rcases hcq with hcq | ⟨tg, po, rfl, hcq⟩
              · rw [hcq] at hlz; simp at hlz
              · have d0 := hcq k hlz
                have ib := fun w' => at_n64 tg po zs.length zc k w' hlz (k : Int) rfl (po + k) rfl
                have lk1 := NQ.out.s1.look hx64
                have lk2 := NQ.out.s2.look hx64
                rw [decide_eq_true hxS] at lk1
                rw [decide_eq_false hxD] at lk2
                have hdl2 : (D ++ zs.take k).length < maxLen := by
                  have h1 := (ON.out.drop k).len
                  have h2 := SL.out
                  unfold maxLen
                  omega
                have fin3 : Hid (∀ w', SetB w' m2 (D ++ zs.take k ++ [zs.getD k 0]) → wr.grownBy w' (some m2) → OI LS (fun k => (Value.slice (some ⟨tg, po, none⟩) zs.length zc).ownBlock = some k) w w' B F2 d2 m1 S2 m2 (D ++ zs.take (k + 1)) ∧ Same (fun k => (Value.slice (some ⟨tg, po, none⟩) zs.length zc).ownBlock = some k) w5 w') := fun w' r1 r2 => by
                  obtain ⟨r3, r4⟩ := NQ.out.put2 fc r1 r2
                  rw [hxN]
                  exact ⟨r3, fun k hk => (r4 k hk).trans (SQ.out k hk)⟩
                have s2 : Hid (SetB wr m2 (D ++ zs.take k)) := NQ.out.s2
                clear hcq OQ hxS hxN NQ SQ
                generalize zs.getD k 0 = x at *
                replace hxD : Hid _ := hxD
                replace hdl2 : Hid _ := hdl2
                replace hx64 : Hid _ := hx64
                go_wp2_with (at_mapUpdate; refine s2.out.wput hdl2.out rfl _ _ _ rfl (x := x) hx64.out hxD.out rfl rfl rfl ?_; intro w6 r1 r2)
                obtain ⟨N6, S6⟩ := fin3.out w6 r1 r2
                replace N6 : Hid _ := N6
                replace S6 : Hid _ := S6
                clear r1 r2 fin3 s2 lk1 lk2 d0
                go_wp2_with fail
                go_roundg (zs.length - (k + 1))
                case measure => omega
                case rel => exact ⟨k + 1, by omega, by go_num, N6, S6⟩
            · have z1 : decide ((k : Int) < (zs.length : Int)) = false := decide_eq_false (by omega)
              obtain rfl : k = zs.length := by omega
              rw [List.take_length] at NQ
              have ND := Lib.hid NQ.out.drop
              clear NQ SQ O5
              have FL : Hid (∀ _ : Unit, _) := fun _ => pl_flight fc ND.out.p
              go_wp2_with fail
              refine (FL.out ()).mono ?_
              rintro e w6 ⟨rfl, b6⟩
              have N6 := Lib.hid (ND.out.keep fc b6)
              clear b6 FL ND
              have ON2 := ON.out.drop zs.length
              rw [List.take_length, List.drop_length, List.nil_append] at ON2
              have ON3 : Hid (OnL d2 S2 (D ++ zs)) := ⟨ON2, TOP.out⟩
              have hcount := ON2.len
              rw [nos_len] at hcount
              have hS2 := SL.out
              have ln1 := fun ty => N6.out.s1.len ty
              have ln2 := fun ty => N6.out.s2.len ty
              have hsub : ((S2.length : Int) - ((D ++ zs).length : Int)) = (d2.l.length : Int) := by omega
              have hsubw : wrap64 ((S2.length : Int) - ((D ++ zs).length : Int)) = (d2.l.length : Int) := by rw [hsub]; unfold wrap64; omega
              have gl : ((d2.l.length : Int) != (d2.l.length : Int)) = false := by simp
              have WI : Hid (∀ _ : Unit, _) := fun _ => pl_window fc N6.out.p
              have gw : decide (d2.win < 2400) = false := decide_eq_false (by have := N6.out.p.ok.k.win.1; omega)
              clear ON2 hsub
              generalize (D ++ zs).length = n2 at *
              generalize d2.l.length = n3 at *
              go_wp2_with fail
              refine (WI.out ()).mono ?_
              rintro e w7 ⟨rfl, b7⟩
              have N7 := Lib.hid (N6.out.keep fc b7)
              clear b7 WI N6 ln1 ln2
              go_wp2_with fail
              go_roundg (M - (i + 1))
              case measure => omega
              case rel => exact ⟨i + 1, F2, d2, S2, D ++ zs, by omega, by go_num, SL, ON3, N7⟩
        · by_cases hk2 : op.kind = 2
          · have e0 : wa.cell? ⟨g, 0, none⟩ = some (.int .i64 2) := hk2 ▸ LX.out.cell 0 (v := .int .i64 op.kind) rfl
            have e2 := LX.out.cell 2 (v := .int .i64 op.now) rfl
            have AK : Hid (∀ _ : Unit, _) := fun _ => pl_expire fc op.now NX.out.p hzi.out.now
            go_wp2_with fail
            refine (AK.out ()).mono ?_
            rintro e w3 ⟨v, rfl, F2, hv, n2, hg2, hk2⟩
            obtain ⟨o2, -⟩ := NX.out.step n2 hg2 hk2
            have N3 := Lib.hid o2
            have BV := Lib.hid hv
            have pm := expire_perm d op.now
            have IN : ∀ x ∈ expL d op.now, In64 x := fun x hx => nos_in NX.out.p.ok (pm.mem_iff.2 (List.mem_append_left _ hx))
            have SL : Hid (S.length ≤ i + 1) := by have := hsl.out; unfold Hid; omega
            have TOP : Hid (∀ n ∈ S, n ≤ (expire d op.now).top) := by rw [expire_top]; exact hon.out.top
            have ON : On S D (expL d op.now ++ nosP (expire d op.now).l) := hon.out.on.perm pm
            obtain ⟨xs, ON, AV, IN⟩ := nils1 w3 ON IN
            clear AK n2 hg2 hk2 o2 NX LX e0 e2 hv pm hon hsl dl
            generalize expire d op.now = d2 at *
            generalize expL d op.now = ys at *
            obtain ⟨S2, hS2⟩ : ∃ S2, S2 = S := ⟨_, rfl⟩
            rw [← hS2] at N3 TOP ON SL
            clear hS2
            obtain ⟨AA, hAA⟩ : ∃ AA, AA = Free wa F2 := ⟨_, rfl⟩
            rw [← hAA] at BV
            clear hAA
            obtain ⟨va, vc, hv0⟩ : ∃ va vc, v = .slice va ys.length vc := by obtain ⟨a, c, e, -⟩ := BV.out; exact ⟨a, c, e⟩
            subst hv0
            have hin : Hid (∀ x ∈ xs ++ ys, In64 x) := IN
            clear IN
            have hxl : xs.length + ys.length ≤ 1000 := by
              have h1 := ON.out.len
              have h2 := SL.out
              simp only [List.length_append] at h1
              omega
            have W3 : Below w3.heap.size w3 (w3.alloc (.cells #[] 2)) := (Below.refl _ _).alloc (Nat.le_refl _) _
            have O0 : Hid ((w3.alloc (.cells #[] 2)).ownsRow w3.heap.size 2 1 (.slice (some ⟨w3.heap.size, 0, none⟩) 0 0) ([] : List Int).length (n64 [])) := row_empty w3 2
            have A0 : Hid (N64 (w3.alloc (.cells #[] 2)) (fun _ => False) (.slice none 0 0) xs) := AV.out.keep W3
            have fin : Hid (∀ v' w4, w4.ownsRow w3.heap.size 2 1 v' ([] ++ xs).length (n64 ([] ++ xs)) → (w3.alloc (.cells #[] 2)).grownBy w4 (Value.slice (some ⟨w3.heap.size, 0, none⟩) 0 0).ownBlock → N64 w4 AA (.slice va ys.length vc) ys ∧ Below w3.heap.size w3 w4) := fun v' w4 q1 q2 => by
              have b := below_grown' W3 O0.out q2
              exact ⟨BV.out.keep b, b⟩
            have hz3 : w3.heap.size ≤ (w3.alloc (.cells #[] 2)).heap.size := W3.size
            clear W3 AV BV
            go_wp2_with (at_builtin; first | (refine wpList_app64 rfl _ _ rfl w3.heap.size (.slice (some ⟨w3.heap.size, 0, none⟩) 0 0) (.slice none 0 0) [] xs rfl O0.out rfl A0.out (by show 0 + _ < _; omega) hz3 ?_; intro v4 w4 o4 g4; have B4 := Lib.hid (fin.out v4 w4 o4 g4).1; have b4 := Lib.hid (fin.out v4 w4 o4 g4).2; have hz4 := b4.out.size; have O4 : Hid (w4.ownsRow w3.heap.size 2 1 v4 xs.length (n64 xs)) := o4; clear fin g4 A0 hz3 o4 O0) | (refine wpList_app64 rfl _ _ rfl w3.heap.size v4 (.slice va ys.length vc) xs ys rfl O4.out rfl B4.out (by omega) hz4 ?_; intro v5 w5 o5 g5; have N5 := Lib.hid (tail5 fc N3.out (below_grown' b4.out O4.out g5) o5); have O5 : Hid (w5.ownsRow w3.heap.size 2 1 v5 (xs ++ ys).length (n64 (xs ++ ys))) := o5; clear g5 B4 hz4 O4 b4 N3 o5; generalize xs ++ ys = zs at *; obtain ⟨za, zc, hv5⟩ := rown_len O5.out; subst hv5))
            have hzl : zs.length ≤ 2000 := by
              have h1 := ON.out.len
              have h2 := SL.out
              simp only [List.length_append] at h1
              omega
            go_loopg [10] zs.length (fun g' kv wq => ∃ k : Nat, k + g' = zs.length ∧ kv = .int .i64 k ∧ Hid (OI LS (fun k => (Value.slice za zs.length zc).ownBlock = some k) w wq B F2 d2 m1 S2 m2 (D ++ zs.take k)) ∧ Hid (Same (fun k => (Value.slice za zs.length zc).ownBlock = some k) w5 wq))
            case atStart => exact ⟨0, by omega, rfl, N5, fun _ _ => rfl⟩
            case round =>
              clear N5
              obtain ⟨k, hkz, rfl, NQ, SQ⟩ := hrel
              by_cases hlz : k < zs.length
              · have z1 : decide ((k : Int) < (zs.length : Int)) = true := decide_eq_true (by omega)
                obtain ⟨hxS, hxD, hxN⟩ := ON.out.at k hlz
                have hx64 := hin.out (zs.getD k 0) (by simp [List.getD, List.getElem?_eq_getElem hlz])
                have OQ := row_block (w' := wr) O5.out fun k hk => SQ.out k hk
                obtain ⟨qa, qc, hq, hcq⟩ := row_i64 OQ
                injection hq with hq1 _ hq2
                subst hq1 hq2
                rcases hcq with hcq | ⟨tg, po, rfl, hcq⟩
                · rw [hcq] at hlz; simp at hlz
                · have d0 := hcq k hlz
                  have ib := fun w' => at_n64 tg po zs.length zc k w' hlz (k : Int) rfl (po + k) rfl
                  have lk1 := NQ.out.s1.look hx64
                  have lk2 := NQ.out.s2.look hx64
                  rw [decide_eq_true hxS] at lk1
                  rw [decide_eq_false hxD] at lk2
                  have hdl2 : (D ++ zs.take k).length < maxLen := by
                    have h1 := (ON.out.drop k).len
                    have h2 := SL.out
                    unfold maxLen
                    omega
                  have fin3 : Hid (∀ w', SetB w' m2 (D ++ zs.take k ++ [zs.getD k 0]) → wr.grownBy w' (some m2) → OI LS (fun k => (Value.slice (some ⟨tg, po, none⟩) zs.length zc).ownBlock = some k) w w' B F2 d2 m1 S2 m2 (D ++ zs.take (k + 1)) ∧ Same (fun k => (Value.slice (some ⟨tg, po, none⟩) zs.length zc).ownBlock = some k) w5 w') := fun w' r1 r2 => by
                    obtain ⟨r3, r4⟩ := NQ.out.put2 fc r1 r2
                    rw [hxN]
                    exact ⟨r3, fun k hk => (r4 k hk).trans (SQ.out k hk)⟩
                  have s2 : Hid (SetB wr m2 (D ++ zs.take k)) := NQ.out.s2
                  clear hcq OQ hxS hxN NQ SQ
                  generalize zs.getD k 0 = x at *
                  replace hxD : Hid _ := hxD
                  replace hdl2 : Hid _ := hdl2
                  replace hx64 : Hid _ := hx64
                  go_wp2_with (at_mapUpdate; refine s2.out.wput hdl2.out rfl _ _ _ rfl (x := x) hx64.out hxD.out rfl rfl rfl ?_; intro w6 r1 r2)
                  obtain ⟨N6, S6⟩ := fin3.out w6 r1 r2
                  replace N6 : Hid _ := N6
                  replace S6 : Hid _ := S6
                  clear r1 r2 fin3 s2 lk1 lk2 d0
                  go_wp2_with fail
                  go_roundg (zs.length - (k + 1))
                  case measure => omega
                  case rel => exact ⟨k + 1, by omega, by go_num, N6, S6⟩
              · have z1 : decide ((k : Int) < (zs.length : Int)) = false := decide_eq_false (by omega)
                obtain rfl : k = zs.length := by omega
                rw [List.take_length] at NQ
                have ND := Lib.hid NQ.out.drop
                clear NQ SQ O5
                have FL : Hid (∀ _ : Unit, _) := fun _ => pl_flight fc ND.out.p
                go_wp2_with fail
                refine (FL.out ()).mono ?_
                rintro e w6 ⟨rfl, b6⟩
                have N6 := Lib.hid (ND.out.keep fc b6)
                clear b6 FL ND
                have ON2 := ON.out.drop zs.length
                rw [List.take_length, List.drop_length, List.nil_append] at ON2
                have ON3 : Hid (OnL d2 S2 (D ++ zs)) := ⟨ON2, TOP.out⟩
                have hcount := ON2.len
                rw [nos_len] at hcount
                have hS2 := SL.out
                have ln1 := fun ty => N6.out.s1.len ty
                have ln2 := fun ty => N6.out.s2.len ty
                have hsub : ((S2.length : Int) - ((D ++ zs).length : Int)) = (d2.l.length : Int) := by omega
                have hsubw : wrap64 ((S2.length : Int) - ((D ++ zs).length : Int)) = (d2.l.length : Int) := by rw [hsub]; unfold wrap64; omega
                have gl : ((d2.l.length : Int) != (d2.l.length : Int)) = false := by simp
                have WI : Hid (∀ _ : Unit, _) := fun _ => pl_window fc N6.out.p
                have gw : decide (d2.win < 2400) = false := decide_eq_false (by have := N6.out.p.ok.k.win.1; omega)
                clear ON2 hsub
                generalize (D ++ zs).length = n2 at *
                generalize d2.l.length = n3 at *
                go_wp2_with fail
                refine (WI.out ()).mono ?_
                rintro e w7 ⟨rfl, b7⟩
                have N7 := Lib.hid (N6.out.keep fc b7)
                clear b7 WI N6 ln1 ln2
                go_wp2_with fail
                go_roundg (M - (i + 1))
                case measure => omega
                case rel => exact ⟨i + 1, F2, d2, S2, D ++ zs, by omega, by go_num, SL, ON3, N7⟩
          · have hne1 : (op.kind == 0) = false := by simpa using hk0
            have hne2 : (op.kind == 1) = false := by simpa using hk1
            have hne3 : (op.kind == 2) = false := by simpa using hk2
            have e0 := LX.out.cell 0 (v := .int .i64 op.kind) rfl
            have N3 := NX
            clear NX LX
            go_upto_region 18 with fail
            clear e0 hne1 hne2 hne3
            obtain ⟨w3, hw3⟩ : ∃ w3, w3 = wa := ⟨_, rfl⟩
            obtain ⟨F2, hF2⟩ : ∃ F2, F2 = F := ⟨_, rfl⟩
            rw [← hw3, ← hF2] at N3
            rw [← hw3]
            clear hw3 hF2
            have SL : Hid (S.length ≤ i + 1) := by have := hsl.out; unfold Hid; omega
            have TOP : Hid (∀ n ∈ S, n ≤ d.top) := hon.out.top
            have ON : On S D (nosP d.l) := hon.out.on
            obtain ⟨xs, ys, ON, AV, BV, IN⟩ := nils w3 ON
            obtain ⟨d2, hd2⟩ : ∃ d2, d2 = d := ⟨_, rfl⟩
            rw [← hd2] at N3 TOP ON
            obtain ⟨S2, hS2⟩ : ∃ S2, S2 = S := ⟨_, rfl⟩
            rw [← hS2] at N3 TOP ON SL
            clear hd2 hS2 hon hsl dl
            have hin : Hid (∀ x ∈ xs ++ ys, In64 x) := IN
            clear IN
            have hxl : xs.length + ys.length ≤ 1000 := by
              have h1 := ON.out.len
              have h2 := SL.out
              simp only [List.length_append] at h1
              omega
            have W3 : Below w3.heap.size w3 (w3.alloc (.cells #[] 2)) := (Below.refl _ _).alloc (Nat.le_refl _) _
            have O0 : Hid ((w3.alloc (.cells #[] 2)).ownsRow w3.heap.size 2 1 (.slice (some ⟨w3.heap.size, 0, none⟩) 0 0) ([] : List Int).length (n64 [])) := row_empty w3 2
            have A0 : Hid (N64 (w3.alloc (.cells #[] 2)) (fun _ => False) (.slice none 0 0) xs) := AV.out.keep W3
            have fin : Hid (∀ v' w4, w4.ownsRow w3.heap.size 2 1 v' ([] ++ xs).length (n64 ([] ++ xs)) → (w3.alloc (.cells #[] 2)).grownBy w4 (Value.slice (some ⟨w3.heap.size, 0, none⟩) 0 0).ownBlock → N64 w4 (fun _ => False) (.slice none 0 0) ys ∧ Below w3.heap.size w3 w4) := fun v' w4 q1 q2 => by
              have b := below_grown' W3 O0.out q2
              exact ⟨BV.out.keep b, b⟩
            have hz3 : w3.heap.size ≤ (w3.alloc (.cells #[] 2)).heap.size := W3.size
            clear W3 AV BV
            go_wp2_with (at_builtin; first | (refine wpList_app64 rfl _ _ rfl w3.heap.size (.slice (some ⟨w3.heap.size, 0, none⟩) 0 0) (.slice none 0 0) [] xs rfl O0.out rfl A0.out (by show 0 + _ < _; omega) hz3 ?_; intro v4 w4 o4 g4; have B4 := Lib.hid (fin.out v4 w4 o4 g4).1; have b4 := Lib.hid (fin.out v4 w4 o4 g4).2; have hz4 := b4.out.size; have O4 : Hid (w4.ownsRow w3.heap.size 2 1 v4 xs.length (n64 xs)) := o4; clear fin g4 A0 hz3 o4 O0) | (refine wpList_app64 rfl _ _ rfl w3.heap.size v4 (.slice none 0 0) xs ys rfl O4.out rfl B4.out (by omega) hz4 ?_; intro v5 w5 o5 g5; have N5 := Lib.hid (tail5 fc N3.out (below_grown' b4.out O4.out g5) o5); have O5 : Hid (w5.ownsRow w3.heap.size 2 1 v5 (xs ++ ys).length (n64 (xs ++ ys))) := o5; clear g5 B4 hz4 O4 b4 N3 o5; generalize xs ++ ys = zs at *; obtain ⟨za, zc, hv5⟩ := rown_len O5.out; subst hv5))
            have hzl : zs.length ≤ 2000 := by
              have h1 := ON.out.len
              have h2 := SL.out
              simp only [List.length_append] at h1
              omega
            go_loopg [10] zs.length (fun g' kv wq => ∃ k : Nat, k + g' = zs.length ∧ kv = .int .i64 k ∧ Hid (OI LS (fun k => (Value.slice za zs.length zc).ownBlock = some k) w wq B F2 d2 m1 S2 m2 (D ++ zs.take k)) ∧ Hid (Same (fun k => (Value.slice za zs.length zc).ownBlock = some k) w5 wq))
            case atStart => exact ⟨0, by omega, rfl, N5, fun _ _ => rfl⟩
            case round =>
              clear N5
              obtain ⟨k, hkz, rfl, NQ, SQ⟩ := hrel
              by_cases hlz : k < zs.length
              · have z1 : decide ((k : Int) < (zs.length : Int)) = true := decide_eq_true (by omega)
                obtain ⟨hxS, hxD, hxN⟩ := ON.out.at k hlz
                have hx64 := hin.out (zs.getD k 0) (by simp [List.getD, List.getElem?_eq_getElem hlz])
                have OQ := row_block (w' := wr) O5.out fun k hk => SQ.out k hk
                obtain ⟨qa, qc, hq, hcq⟩ := row_i64 OQ
                injection hq with hq1 _ hq2
                subst hq1 hq2
                rcases hcq with hcq | ⟨tg, po, rfl, hcq⟩
                · rw [hcq] at hlz; simp at hlz
                · have d0 := hcq k hlz
                  have ib := fun w' => at_n64 tg po zs.length zc k w' hlz (k : Int) rfl (po + k) rfl
                  have lk1 := NQ.out.s1.look hx64
                  have lk2 := NQ.out.s2.look hx64
                  rw [decide_eq_true hxS] at lk1
                  rw [decide_eq_false hxD] at lk2
                  have hdl2 : (D ++ zs.take k).length < maxLen := by
                    have h1 := (ON.out.drop k).len
                    have h2 := SL.out
                    unfold maxLen
                    omega
                  have fin3 : Hid (∀ w', SetB w' m2 (D ++ zs.take k ++ [zs.getD k 0]) → wr.grownBy w' (some m2) → OI LS (fun k => (Value.slice (some ⟨tg, po, none⟩) zs.length zc).ownBlock = some k) w w' B F2 d2 m1 S2 m2 (D ++ zs.take (k + 1)) ∧ Same (fun k => (Value.slice (some ⟨tg, po, none⟩) zs.length zc).ownBlock = some k) w5 w') := fun w' r1 r2 => by
                    obtain ⟨r3, r4⟩ := NQ.out.put2 fc r1 r2
                    rw [hxN]
                    exact ⟨r3, fun k hk => (r4 k hk).trans (SQ.out k hk)⟩
                  have s2 : Hid (SetB wr m2 (D ++ zs.take k)) := NQ.out.s2
                  clear hcq OQ hxS hxN NQ SQ
                  generalize zs.getD k 0 = x at *
                  replace hxD : Hid _ := hxD
                  replace hdl2 : Hid _ := hdl2
                  replace hx64 : Hid _ := hx64
                  go_wp2_with (at_mapUpdate; refine s2.out.wput hdl2.out rfl _ _ _ rfl (x := x) hx64.out hxD.out rfl rfl rfl ?_; intro w6 r1 r2)
                  obtain ⟨N6, S6⟩ := fin3.out w6 r1 r2
                  replace N6 : Hid _ := N6
                  replace S6 : Hid _ := S6
                  clear r1 r2 fin3 s2 lk1 lk2 d0
                  go_wp2_with fail
                  go_roundg (zs.length - (k + 1))
                  case measure => omega
                  case rel => exact ⟨k + 1, by omega, by go_num, N6, S6⟩
              · have z1 : decide ((k : Int) < (zs.length : Int)) = false := decide_eq_false (by omega)
                obtain rfl : k = zs.length := by omega
                rw [List.take_length] at NQ
                have ND := Lib.hid NQ.out.drop
                clear NQ SQ O5
                have FL : Hid (∀ _ : Unit, _) := fun _ => pl_flight fc ND.out.p
                go_wp2_with fail
                refine (FL.out ()).mono ?_
                rintro e w6 ⟨rfl, b6⟩
                have N6 := Lib.hid (ND.out.keep fc b6)
                clear b6 FL ND
                have ON2 := ON.out.drop zs.length
                rw [List.take_length, List.drop_length, List.nil_append] at ON2
                have ON3 : Hid (OnL d2 S2 (D ++ zs)) := ⟨ON2, TOP.out⟩
                have hcount := ON2.len
                rw [nos_len] at hcount
                have hS2 := SL.out
                have ln1 := fun ty => N6.out.s1.len ty
                have ln2 := fun ty => N6.out.s2.len ty
                have hsub : ((S2.length : Int) - ((D ++ zs).length : Int)) = (d2.l.length : Int) := by omega
                have hsubw : wrap64 ((S2.length : Int) - ((D ++ zs).length : Int)) = (d2.l.length : Int) := by rw [hsub]; unfold wrap64; omega
                have gl : ((d2.l.length : Int) != (d2.l.length : Int)) = false := by simp
                have WI : Hid (∀ _ : Unit, _) := fun _ => pl_window fc N6.out.p
                have gw : decide (d2.win < 2400) = false := decide_eq_false (by have := N6.out.p.ok.k.win.1; omega)
                clear ON2 hsub
                generalize (D ++ zs).length = n2 at *
                generalize d2.l.length = n3 at *
                go_wp2_with fail
                refine (WI.out ()).mono ?_
                rintro e w7 ⟨rfl, b7⟩
                have N7 := Lib.hid (N6.out.keep fc b7)
                clear b7 WI N6 ln1 ln2
                go_wp2_with fail
                go_roundg (M - (i + 1))
                case measure => omega
                case rel => exact ⟨i + 1, F2, d2, S2, D ++ zs, by omega, by go_num, SL, ON3, N7⟩
    · clear hc
      by_cases hin : i < m
      · have q1 : decide (i < m) = true := decide_eq_true hin
        have q2 : decide ((i : Int) < 150) = false := decide_eq_false (by omega)
        have q3 : decide (i < 150) = false := decide_eq_false (by omega)
        go_wp2_with fail
        go_ret
        exact ⟨rfl, N.out.p.bel⟩
      · have q1 : decide (i < m) = false := decide_eq_false hin
        go_wp2_with fail
        go_ret
        exact ⟨rfl, N.out.p.bel⟩
set_option maxHeartbeats 4000000 in
theorem once_none {LS : LSt} (fc : Face LS) (a : Option Addr) (m cap : Nat) (hm : m = 0) (w : World) :
    Calls Try.prog 4 #[.slice a m cap] w fun e w' => e = .returned (.bool true) ∧ Below w.heap.size w w' := by
  have WO : Hid (∀ _ : Unit, _) := fun _ => works_ok fc w
  have NP : Hid (∀ w', Below w.heap.size w w' → _) := fun w' b => pl_new fc w w' b
  go_enter Try.func4, Try.ntmps4
  go_wp2_with fail
  refine (WO.out ()).mono ?_
  rintro e w1 ⟨rfl, b1⟩
  have Z1 := Lib.hid b1
  clear b1 WO
  go_wp2_with fail
  refine (NP.out _ Z1.out).mono ?_
  rintro e w2 ⟨B, F0, rfl, n2, -⟩
  have N2 : Hid (OI LS (fun _ => False) w ((w2.alloc (.map #[] 0)).alloc (.map #[] 0)) B F0 ld0 w2.heap.size [] (w2.heap.size + 1) []) := by
    have := oi_new fc n2 (w' := w2.alloc (.map #[] 0)) rfl
    have hs : (w2.alloc (.map #[] 0)).heap.size = w2.heap.size + 1 := by simp
    rw [hs] at this
    exact this
  clear n2 NP Z1
  have hmm := @run_makeMap Try.prog
  go_upto_region 5 with fail
  clear hmm
  generalize (w2.alloc (.map #[] 0)).alloc (.map #[] 0) = w3 at *
  obtain ⟨m2, hm2⟩ : ∃ m2, m2 = w2.heap.size + 1 := ⟨_, rfl⟩
  rw [← hm2] at N2 ⊢
  clear hm2
  generalize w2.heap.size = m1 at *
  go_wp2_with fail
  go_loopg [6] 0 (fun g iv wr => ∃ (i : Nat) (F : Nat → Prop) (d : Ld) (S D : List Int), i + g = 0 ∧ iv = .int .i64 i ∧ Hid (S.length ≤ i) ∧ Hid (OnL d S D) ∧ Hid (OI LS (fun _ => False) w wr B F d m1 S m2 D))
  case atStart => exact ⟨0, F0, ld0, [], [], by omega, rfl, Nat.le_refl 0, OnL.new, N2⟩
  case round =>
    clear N2
    obtain ⟨i, F, d, S, D, hi, rfl, hsl, hon, N⟩ := hrel
    have q1 : decide (i < m) = false := decide_eq_false (by omega)
    go_wp2_with fail
    go_ret
    exact ⟨rfl, N.out.p.bel⟩
theorem once_walk {LS : LSt} (fc : Face LS) (a : Option Addr) (m cap : Nat) (f : Nat → LOp) (w : World) (hm : m ≤ maxLen) (hz : ∀ i, i < m → LOpB (f i)) (hs : LOps w a m f) :
    Calls Try.prog 4 #[.slice a m cap] w fun e w' => e = .returned (.bool true) ∧ Below w.heap.size w w' := by
  have hm' : m ≤ 9223372036854775807 := by unfold maxLen at hm; omega
  rcases hs with h0 | ⟨b, off, rfl, hb, hc⟩
  · exact once_none fc a m cap h0 w
  · by_cases h : m ≤ 150
    · exact once_some fc f b off m cap m w hb hm' (.inl ⟨rfl, h⟩) hz hc
    · exact once_some fc f b off m cap 150 w hb hm' (.inr ⟨rfl, by omega⟩) hz hc
end Go.Proofs.Ytfjampommgkfeaa
