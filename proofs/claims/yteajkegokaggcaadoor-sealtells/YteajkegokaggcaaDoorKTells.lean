/-
  The law SealTells returns true for every secret, number, head, data, place and byte: sealed bytes that are changed, or opened under another number, head or secret, are refused, where the tags are different ones. No condition but the form's own reach.
-/
import Derived.Test.YteajkegokaggcaaDoorSeWorks
import Derived.Test.YteajkegokaggcaaDoorSeTurn
import Derived.Test.YteajkegokaggcaaDoorSeDraw
import Derived.Lib.QuietBelow
import Derived.Test.YteajkegokaggcaaDoorSeTab
import Derived.Test.YteajkegokaggcaaDoorShOpen
import Derived.LaidLaws
namespace Go.Proofs.YteajkegokaggcaaDoor.sealTells
set_option maxRecDepth 100000
open Go.ChangeShapes Go.WideShapes Go.ChangeAt Go.RowKit Go.Sort
open Go.ChangeMaps (open_string shut_string)

theorem some_bytes6 (a : ByteArray) (h : 0 < a.size) : a.toList.isEmpty = false := by
  rw [ByteArray.toList_eq]
  cases e : a.data.toList with
  | nil => have : a.data.toList.length = a.size := by simp
           rw [e] at this; simp at this; omega
  | cons x l => rfl

theorem w64 (n : Int) (h : 0 ≤ n ∧ n < 9223372036854775808) : wrap64 n = n := by unfold wrap64; omega
theorem place (a : Int) (c : Int) (hc : 0 < c) (hc2 : c < 4611686018427387904) : ∃ x : Nat, wrap64 ((IntKind.u64.wrap a).tmod c) = x ∧ (x : Int) < c := by
  have h : 0 ≤ IntKind.u64.wrap a := by rw [IntKind.wrap_u64]; omega
  rw [Int.tmod_eq_emod_of_nonneg h]
  have h1 := Int.emod_nonneg (IntKind.u64.wrap a) (by omega : c ≠ 0)
  have h2 := Int.emod_lt_of_pos (IntKind.u64.wrap a) hc
  refine ⟨(IntKind.u64.wrap a % c).toNat, ?_, by omega⟩
  rw [w64 _ (by omega)]
  omega
set_option maxHeartbeats 8000000 in
set_option maxRecDepth 100000 in
theorem walk_in (secret : ByteArray) (n : Int) (head data : ByteArray) (at_ : Int) (y : Nat) (w : World) (t : STab w) (h1 : secret.size ≤ 500) (h2 : head.size ≤ 500) (h3 : data.size ≤ 500) (hy : y < 256) (hy0 : y ≠ 0)
    (X : ByteArray) (hX : Hid (X = sld secret n head data)) (N : Nat) (hN : Hid (N = X.size)) (k : Nat) (ek : wrap64 ((IntKind.u64.wrap at_).tmod (N : Int)) = k) (hk : k < N) :
    Calls Tryd.prog 4 #[.string secret, .int .i64 n, .string head, .string data, .int .i64 at_, .int .u8 (y : Int)] w fun e w' => e = .returned (.bool true) ∧ Below w.heap.size w w' := by
  have WO : Hid (∀ w, STab w → _) := works_ok
  have zX : X.size = data.size + 16 := by rw [hX.out, sld_size]
  have zN : N = data.size + 16 := by rw [hN.out, zX]
  have q1 : decide ((500 : Int) < (secret.size : Int)) = false := decide_eq_false (by omega)
  have q2 : decide ((500 : Int) < (head.size : Int)) = false := decide_eq_false (by omega)
  have q3 : decide ((500 : Int) < (data.size : Int)) = false := decide_eq_false (by omega)
  have q4 : ((y : Int) == 0) = false := by simpa using hy0
  have q5 : decide ((N : Int) < 16) = false := decide_eq_false (by omega)
  have hun : IntKind.u64.wrap (N : Int) = N := by simp [IntKind.wrap, IntKind.bits, IntKind.signed]; omega
  have hun0 : ¬ (N : Int) = 0 := by omega
  have zXN : X.size = N := hN.out.symm
  have hem := some_bytes6 X (by omega)
  obtain ⟨m, hm⟩ : ∃ m, m = N - 16 := ⟨_, rfl⟩
  have hmi : (N : Int) - 16 = (m : Int) := by omega
  have hml : m ≤ N := by omega
  have NW : Hid (∀ w', Below w.heap.size w w' → _) := fun w' b => sinv_new secret w w' b t
  have SE : Hid (∀ w' v, SInv w w' v secret 0 0 → _) := fun w' v h => sinv_seal t n head data h (by omega) (by omega) (by omega) (by decide) (by decide)
  rw [← hX.out] at SE
  obtain ⟨n2, hn2⟩ : ∃ n2, bits .xor .i64 n (y : Int) = n2 := ⟨_, rfl⟩
  obtain ⟨H2, hH2⟩ : ∃ H2, head ++ ByteArray.mk #[120] = H2 := ⟨_, rfl⟩
  obtain ⟨S2, hS2⟩ : ∃ S2, secret ++ ByteArray.mk #[120] = S2 := ⟨_, rfl⟩
  have zx : (ByteArray.mk #[120]).size = 1 := rfl
  have zH2 : H2.size ≤ 501 := by rw [← hH2, ByteArray.size_append, zx]; omega
  have zS2 : S2.size ≤ 501 := by rw [← hS2, ByteArray.size_append, zx]; omega
  have hPX : X.extract 0 m = hdd X := by unfold hdd; rw [zXN, hm]
  have hQX : X.extract m N = tgd X := by unfold tgd; rw [zXN, hm]
  have zP : (hdd X).size < 68719476736 := by unfold hdd; rw [ByteArray.size_extract]; omega
  have hg2 : ((bstr (tagl secret n2 head (nb (hdd X)))).toList == (tgd X).toList) = good secret n2 head X := rfl
  have hg3 : ((bstr (tagl secret n H2 (nb (hdd X)))).toList == (tgd X).toList) = good secret n H2 X := rfl
  have hg4 : ((bstr (tagl S2 n head (nb (hdd X)))).toList == (tgd X).toList) = good S2 n head X := rfl
  have T2 : Hid (∀ w, _) := fun w => rtag_ok secret n2 head (hdd X) w (by omega) (by omega) (by omega)
  have T3 : Hid (∀ w, _) := fun w => rtag_ok secret n H2 (hdd X) w (by omega) (by omega) (by omega)
  have T4 : Hid (∀ w, _) := fun w => rtag_ok S2 n head (hdd X) w (by omega) (by omega) (by omega)
  have O2 : Hid (∀ w' v, good secret n2 head X = false → SInv w w' v secret 1 0 → Calls Tryd.prog 10 #[v, .int .i64 n2, .string head, .string X] w' fun e w'' => e = .returned (.tuple #[.string ⟨#[]⟩, .int .i64 10]) ∧ SInv w w'' v secret 1 0) := fun w' v hg h => by
    have := sinv_open t n2 head X h (by omega) (by omega) (by omega) (by decide) (by decide)
    rw [(refused secret n2 head X (by omega) hg).1, (refused secret n2 head X (by omega) hg).2] at this
    exact this
  have O3 : Hid (∀ w' v, good secret n H2 X = false → SInv w w' v secret 1 0 → Calls Tryd.prog 10 #[v, .int .i64 n, .string H2, .string X] w' fun e w'' => e = .returned (.tuple #[.string ⟨#[]⟩, .int .i64 10]) ∧ SInv w w'' v secret 1 0) := fun w' v hg h => by
    have := sinv_open t n H2 X h (by omega) (by omega) (by omega) (by decide) (by decide)
    rw [(refused secret n H2 X (by omega) hg).1, (refused secret n H2 X (by omega) hg).2] at this
    exact this
  have O4 : Hid (∀ w' v, good S2 n head X = false → SInv w w' v S2 0 0 → Calls Tryd.prog 10 #[v, .int .i64 n, .string head, .string X] w' fun e w'' => e = .returned (.tuple #[.string ⟨#[]⟩, .int .i64 10]) ∧ SInv w w'' v S2 0 0) := fun w' v hg h => by
    have := sinv_open t n head X h (by omega) (by omega) (by omega) (by decide) (by decide)
    rw [(refused S2 n head X (by omega) hg).1, (refused S2 n head X (by omega) hg).2] at this
    exact this
  have O1 : Hid (∀ w' v (c : ByteArray), c.size = N → good secret n head c = false → SInv w w' v secret 1 0 → Calls Tryd.prog 10 #[v, .int .i64 n, .string head, .string c] w' fun e w'' => e = .returned (.tuple #[.string ⟨#[]⟩, .int .i64 10]) ∧ SInv w w'' v secret 1 0) := fun w' v c hc hg h => by
    have := sinv_open t n head c h (by omega) (by omega) (by omega) (by decide) (by decide)
    rw [(refused secret n head c (by omega) hg).1, (refused secret n head c (by omega) hg).2] at this
    exact this
  have T1 : Hid (∀ w (c : ByteArray), c.size ≤ N → _) := fun w c hc => rtag_ok secret n head c w (by omega) (by omega) (by omega)
  have NX : Hid (∀ w', Below w.heap.size w w' → _) := fun w' b => sinv_new S2 w w' b t
  generalize bstr (tagl secret n2 head (nb (hdd X))) = Y2 at *
  generalize bstr (tagl secret n H2 (nb (hdd X))) = Y3 at *
  generalize bstr (tagl S2 n head (nb (hdd X))) = Y4 at *
  generalize good secret n2 head X = G2 at *
  generalize good secret n H2 X = G3 at *
  generalize good S2 n head X = G4 at *
  generalize hdd X = PX at *
  generalize tgd X = QX at *
  have huy : IntKind.i64.wrap (y : Int) = y := by simp [IntKind.wrap, IntKind.bits, IntKind.signed]; omega
  replace zX : Hid _ := zX
  replace zN : Hid _ := zN
  replace hm : Hid _ := hm
  have cv := fun w => tb_conv w X
  rw [zXN] at cv
  go_enter Tryd.func4, Tryd.ntmps4
  go_wp2_with fail
  refine (WO.out _ t).mono ?_
  rintro e w1 ⟨rfl, b1⟩
  have Z1 := Lib.hid b1
  clear b1 WO
  go_wp2_with fail
  refine (NW.out _ Z1.out).mono ?_
  rintro e w2 ⟨p, rfl, n2⟩
  have N2 := Lib.hid n2
  clear NW n2 Z1
  go_wp2_with fail
  refine (SE.out _ _ N2.out).mono ?_
  rintro e w3 ⟨rfl, n3⟩
  have N3 := Lib.hid n3
  clear SE n3 N2
  have A3 : At .u8 (Lib.bytesWorld w3 5 X) w3.heap.size 0 (nb X) := tb_at w3 X
  have hkl : k < (nb X).length := by rw [nb_length, zXN]; exact hk
  have c0 := A3.cell0 k hkl
  have f0 := A3.free0 k hkl
  have hxx := xor8 ((nb X).getD k 0) y (get_lt (nb_lt X) k) hy
  obtain ⟨L, hL⟩ : ∃ L, L = (nb X).set k ((nb X).getD k 0 ^^^ y) := ⟨_, rfl⟩
  have A4 : At .u8 ((Lib.bytesWorld w3 5 X).setCell ⟨w3.heap.size, k, none⟩ (.int .u8 (((nb X).getD k 0 ^^^ y : Nat) : Int))) w3.heap.size 0 L := by
    have := A3.put k hkl ((nb X).getD k 0 ^^^ y)
    rw [Nat.zero_add, ← hL] at this
    exact this
  have b4 : Below w3.heap.size w3 ((Lib.bytesWorld w3 5 X).setCell ⟨w3.heap.size, k, none⟩ (.int .u8 (((nb X).getD k 0 ^^^ y : Nat) : Int))) := (tb_below w3 X).setCell (p := ⟨w3.heap.size, k, none⟩) (Nat.le_refl _) _
  have hLl : Hid (L.length = N) := by unfold Hid; rw [hL, List.length_set, nb_length, zXN]
  have hT : Hid (trn X k y = bstr L) := by unfold Hid trn; rw [hL]
  have hLt : Hid (∀ x ∈ L, x < 256) := by unfold Hid; rw [hL]; exact trn_lt X k y hy
  have hcap := tb_cap w3 X
  rw [zXN] at hcap
  clear A3 hkl hL
  generalize (nb X).getD k 0 ^^^ y = z at *
  generalize (nb X).getD k 0 = x at *
  replace A4 : Hid _ := A4
  replace b4 : Hid _ := b4
  go_wp2_with fail
  obtain ⟨w4, hw4⟩ : ∃ w4, w4 = ((Lib.bytesWorld w3 5 X).setCell ⟨w3.heap.size, k, none⟩ (.int .u8 (z : Int))) := ⟨_, rfl⟩
  rw [← hw4] at A4 b4
  rw [← hw4]
  have N4 := Lib.hid (N3.out.keep t b4.out)
  clear hw4 b4 N3 c0 f0 hxx cv
  have hB4 : Hid (w3.heap.size < w4.heap.size) := A4.out.lt (by rw [hLl.out]; omega)
  generalize w3.heap.size = B at *
  generalize grownCap w3 N 0 5 = cap at *
  have hcm : ¬ cap = m := by have := hm.out; omega
  have hmc : (m : Int) ≤ cap := by omega
  have hmN : (m : Int) ≤ N := by omega
  have hmb : (m : Int) < 1000 := by have := zN.out; omega
  have sF := fun w => sl_front B N cap m w (by omega) (by omega)
  have sB := fun w => sl_back B N cap m w (by omega) (by have := hm.out; omega)
  have cF := fun d os => (A4.out.keep hB4.out (below_regrown w4 d os)).front m cap (by rw [hLl.out]; exact hml)
  have cB := fun d os => (A4.out.keep hB4.out (below_regrown w4 d os)).back m (N - m) (cap - m) (by rw [hLl.out]; exact hml) (by rw [hLl.out])
  have hz1 : (bstr (L.take m)).size ≤ N := by rw [bstr_size, List.length_take, hLl.out]; omega
  have hzL : (bstr L).size = N := by rw [bstr_size, hLl.out]
  have hg1 : ((bstr (tagl secret n head (nb (bstr (L.take m))))).toList == (bstr (L.drop m)).toList) = good secret n head (bstr L) := by
    unfold good hdd tgd
    rw [hzL, ← hm.out, ← bstr_nb ((bstr L).extract 0 m), nb_extract L _ _ hLt.out, ← bstr_nb ((bstr L).extract m N), nb_extract L _ _ hLt.out, List.drop_zero, Nat.sub_zero, List.take_of_length_le (l := L.drop m) (by rw [List.length_drop, hLl.out]; exact Nat.le_refl _)]
  have TT := Lib.hid (fun w => T1.out w (bstr (L.take m)) hz1)
  have OO := Lib.hid (fun w' v => O1.out w' v (bstr L) hzL)
  have cW := Lib.hid (fun (w' : World) (b : Below w4.heap.size w4 w') => (A4.out.keep hB4.out b).str N cap hLl.out.symm)
  clear T1 O1 hz1 A4 hT hLt
  replace hzL : Hid _ := hzL
  generalize bstr (tagl secret n head (nb (bstr (L.take m)))) = Y1 at *
  generalize good secret n head (bstr L) = G1 at *
  generalize bstr (L.take m) = P1 at *
  generalize bstr (L.drop m) = Q1 at *
  generalize bstr L = XL at *
  refine wp_region_quiet_below (by kernel_rfl) (by kernel_rfl) ?_
  repeat (go_big_quiet_step (first | (go_at_call 15; exact Calls.regrown_of (TT.out _))))
  refine wpQuiet_nil ?_
  intro _ hw'
  obtain ⟨⟨dq, osq⟩, hw''⟩ := hw'
  subst hw''
  have b5 : Hid (Below w4.heap.size w4 (grow (redrawn w4 dq) osq)) := below_regrown w4 dq osq
  clear TT cF cB
  simp only
  generalize grow (redrawn w4 dq) osq = w5 at *
  have N5 := Lib.hid (N4.out.keep t b5.out)
  clear N4
  cases G1 with
  | true =>
    clear OO cW b5 sF sB
    go_wp2_with fail
    refine (T2.out _).mono ?_
    rintro e a2 ⟨rfl, ba2⟩
    have A2 := Lib.hid (N5.out.keep t ba2)
    clear ba2 N5 T2
    cases G2 with
    | true =>
      go_wp2_with fail
      refine (T3.out _).mono ?_
      rintro e a3 ⟨rfl, ba3⟩
      have A3 := Lib.hid (A2.out.keep t ba3)
      clear ba3 A2 T3
      cases G3 with
      | true =>
        go_wp2_with fail
        refine (T4.out _).mono ?_
        rintro e a4 ⟨rfl, ba4⟩
        have A4 := Lib.hid (A3.out.keep t ba4)
        clear ba4 A3 T4
        cases G4 with
        | true =>
          go_wp2_with fail
          go_ret
          exact ⟨rfl, A4.out.below⟩
        | false =>
          go_wp2_with fail
          refine (NX.out _ A4.out.below).mono ?_
          rintro e c4 ⟨pn, rfl, nn⟩
          have NN := Lib.hid nn
          clear nn A4 NX
          go_wp2_with fail
          refine (O4.out _ _ (by simp) NN.out).mono ?_
          rintro e c5 ⟨rfl, n5⟩
          have Z := Lib.hid n5.below
          clear n5 NN O4
          go_wp2_with fail
          go_ret
          exact ⟨rfl, Z.out⟩
      | false =>
        go_wp2_with fail
        refine (O3.out _ _ (by simp) A3.out).mono ?_
        rintro e c3 ⟨rfl, nc3⟩
        have C3 := Lib.hid nc3
        clear nc3 A3 O3
        go_wp2_with fail
        refine (T4.out _).mono ?_
        rintro e a4 ⟨rfl, ba4⟩
        have A4 := Lib.hid (C3.out.keep t ba4)
        clear ba4 C3 T4
        cases G4 with
        | true =>
          go_wp2_with fail
          go_ret
          exact ⟨rfl, A4.out.below⟩
        | false =>
          go_wp2_with fail
          refine (NX.out _ A4.out.below).mono ?_
          rintro e c4 ⟨pn, rfl, nn⟩
          have NN := Lib.hid nn
          clear nn A4 NX
          go_wp2_with fail
          refine (O4.out _ _ (by simp) NN.out).mono ?_
          rintro e c5 ⟨rfl, n5⟩
          have Z := Lib.hid n5.below
          clear n5 NN O4
          go_wp2_with fail
          go_ret
          exact ⟨rfl, Z.out⟩
    | false =>
      go_wp2_with fail
      refine (O2.out _ _ (by simp) A2.out).mono ?_
      rintro e c2 ⟨rfl, nc2⟩
      have C2 := Lib.hid nc2
      clear nc2 A2 O2
      go_wp2_with fail
      refine (T3.out _).mono ?_
      rintro e a3 ⟨rfl, ba3⟩
      have A3 := Lib.hid (C2.out.keep t ba3)
      clear ba3 C2 T3
      cases G3 with
      | true =>
        go_wp2_with fail
        refine (T4.out _).mono ?_
        rintro e a4 ⟨rfl, ba4⟩
        have A4 := Lib.hid (A3.out.keep t ba4)
        clear ba4 A3 T4
        cases G4 with
        | true =>
          go_wp2_with fail
          go_ret
          exact ⟨rfl, A4.out.below⟩
        | false =>
          go_wp2_with fail
          refine (NX.out _ A4.out.below).mono ?_
          rintro e c4 ⟨pn, rfl, nn⟩
          have NN := Lib.hid nn
          clear nn A4 NX
          go_wp2_with fail
          refine (O4.out _ _ (by simp) NN.out).mono ?_
          rintro e c5 ⟨rfl, n5⟩
          have Z := Lib.hid n5.below
          clear n5 NN O4
          go_wp2_with fail
          go_ret
          exact ⟨rfl, Z.out⟩
      | false =>
        go_wp2_with fail
        refine (O3.out _ _ (by simp) A3.out).mono ?_
        rintro e c3 ⟨rfl, nc3⟩
        have C3 := Lib.hid nc3
        clear nc3 A3 O3
        go_wp2_with fail
        refine (T4.out _).mono ?_
        rintro e a4 ⟨rfl, ba4⟩
        have A4 := Lib.hid (C3.out.keep t ba4)
        clear ba4 C3 T4
        cases G4 with
        | true =>
          go_wp2_with fail
          go_ret
          exact ⟨rfl, A4.out.below⟩
        | false =>
          go_wp2_with fail
          refine (NX.out _ A4.out.below).mono ?_
          rintro e c4 ⟨pn, rfl, nn⟩
          have NN := Lib.hid nn
          clear nn A4 NX
          go_wp2_with fail
          refine (O4.out _ _ (by simp) NN.out).mono ?_
          rintro e c5 ⟨rfl, n5⟩
          have Z := Lib.hid n5.below
          clear n5 NN O4
          go_wp2_with fail
          go_ret
          exact ⟨rfl, Z.out⟩
  | false =>
    have cw := cW.out _ b5.out
    go_wp2_with fail
    refine (OO.out _ _ (by simp) N5.out).mono ?_
    rintro e w6 ⟨rfl, n6⟩
    have N6 := Lib.hid n6
    clear n6 N5 OO cw cW b5 sF sB
    go_wp2_with fail
    refine (T2.out _).mono ?_
    rintro e a2 ⟨rfl, ba2⟩
    have A2 := Lib.hid (N6.out.keep t ba2)
    clear ba2 N6 T2
    cases G2 with
    | true =>
      go_wp2_with fail
      refine (T3.out _).mono ?_
      rintro e a3 ⟨rfl, ba3⟩
      have A3 := Lib.hid (A2.out.keep t ba3)
      clear ba3 A2 T3
      cases G3 with
      | true =>
        go_wp2_with fail
        refine (T4.out _).mono ?_
        rintro e a4 ⟨rfl, ba4⟩
        have A4 := Lib.hid (A3.out.keep t ba4)
        clear ba4 A3 T4
        cases G4 with
        | true =>
          go_wp2_with fail
          go_ret
          exact ⟨rfl, A4.out.below⟩
        | false =>
          go_wp2_with fail
          refine (NX.out _ A4.out.below).mono ?_
          rintro e c4 ⟨pn, rfl, nn⟩
          have NN := Lib.hid nn
          clear nn A4 NX
          go_wp2_with fail
          refine (O4.out _ _ (by simp) NN.out).mono ?_
          rintro e c5 ⟨rfl, n5⟩
          have Z := Lib.hid n5.below
          clear n5 NN O4
          go_wp2_with fail
          go_ret
          exact ⟨rfl, Z.out⟩
      | false =>
        go_wp2_with fail
        refine (O3.out _ _ (by simp) A3.out).mono ?_
        rintro e c3 ⟨rfl, nc3⟩
        have C3 := Lib.hid nc3
        clear nc3 A3 O3
        go_wp2_with fail
        refine (T4.out _).mono ?_
        rintro e a4 ⟨rfl, ba4⟩
        have A4 := Lib.hid (C3.out.keep t ba4)
        clear ba4 C3 T4
        cases G4 with
        | true =>
          go_wp2_with fail
          go_ret
          exact ⟨rfl, A4.out.below⟩
        | false =>
          go_wp2_with fail
          refine (NX.out _ A4.out.below).mono ?_
          rintro e c4 ⟨pn, rfl, nn⟩
          have NN := Lib.hid nn
          clear nn A4 NX
          go_wp2_with fail
          refine (O4.out _ _ (by simp) NN.out).mono ?_
          rintro e c5 ⟨rfl, n5⟩
          have Z := Lib.hid n5.below
          clear n5 NN O4
          go_wp2_with fail
          go_ret
          exact ⟨rfl, Z.out⟩
    | false =>
      go_wp2_with fail
      refine (O2.out _ _ (by simp) A2.out).mono ?_
      rintro e c2 ⟨rfl, nc2⟩
      have C2 := Lib.hid nc2
      clear nc2 A2 O2
      go_wp2_with fail
      refine (T3.out _).mono ?_
      rintro e a3 ⟨rfl, ba3⟩
      have A3 := Lib.hid (C2.out.keep t ba3)
      clear ba3 C2 T3
      cases G3 with
      | true =>
        go_wp2_with fail
        refine (T4.out _).mono ?_
        rintro e a4 ⟨rfl, ba4⟩
        have A4 := Lib.hid (A3.out.keep t ba4)
        clear ba4 A3 T4
        cases G4 with
        | true =>
          go_wp2_with fail
          go_ret
          exact ⟨rfl, A4.out.below⟩
        | false =>
          go_wp2_with fail
          refine (NX.out _ A4.out.below).mono ?_
          rintro e c4 ⟨pn, rfl, nn⟩
          have NN := Lib.hid nn
          clear nn A4 NX
          go_wp2_with fail
          refine (O4.out _ _ (by simp) NN.out).mono ?_
          rintro e c5 ⟨rfl, n5⟩
          have Z := Lib.hid n5.below
          clear n5 NN O4
          go_wp2_with fail
          go_ret
          exact ⟨rfl, Z.out⟩
      | false =>
        go_wp2_with fail
        refine (O3.out _ _ (by simp) A3.out).mono ?_
        rintro e c3 ⟨rfl, nc3⟩
        have C3 := Lib.hid nc3
        clear nc3 A3 O3
        go_wp2_with fail
        refine (T4.out _).mono ?_
        rintro e a4 ⟨rfl, ba4⟩
        have A4 := Lib.hid (C3.out.keep t ba4)
        clear ba4 C3 T4
        cases G4 with
        | true =>
          go_wp2_with fail
          go_ret
          exact ⟨rfl, A4.out.below⟩
        | false =>
          go_wp2_with fail
          refine (NX.out _ A4.out.below).mono ?_
          rintro e c4 ⟨pn, rfl, nn⟩
          have NN := Lib.hid nn
          clear nn A4 NX
          go_wp2_with fail
          refine (O4.out _ _ (by simp) NN.out).mono ?_
          rintro e c5 ⟨rfl, n5⟩
          have Z := Lib.hid n5.below
          clear n5 NN O4
          go_wp2_with fail
          go_ret
          exact ⟨rfl, Z.out⟩

set_option maxHeartbeats 4000000 in
set_option maxRecDepth 100000 in
theorem walk_out (secret : ByteArray) (n : Int) (head data : ByteArray) (at_ : Int) (y : Nat) (w : World) (t : STab w) (h : 500 < secret.size ∨ 500 < head.size ∨ 500 < data.size ∨ y = 0) :
    Calls Tryd.prog 4 #[.string secret, .int .i64 n, .string head, .string data, .int .i64 at_, .int .u8 (y : Int)] w fun e w' => e = .returned (.bool true) ∧ Below w.heap.size w w' := by
  have WO : Hid (∀ w, STab w → _) := works_ok
  have Q : decide ((500 : Int) < (secret.size : Int)) = true ∨ (decide ((500 : Int) < (secret.size : Int)) = false ∧ decide ((500 : Int) < (head.size : Int)) = true) ∨ (decide ((500 : Int) < (secret.size : Int)) = false ∧ decide ((500 : Int) < (head.size : Int)) = false ∧ decide ((500 : Int) < (data.size : Int)) = true) ∨ (decide ((500 : Int) < (secret.size : Int)) = false ∧ decide ((500 : Int) < (head.size : Int)) = false ∧ decide ((500 : Int) < (data.size : Int)) = false ∧ ((y : Int) == 0) = true) := by
    simp only [decide_eq_true_eq, decide_eq_false_iff_not, beq_iff_eq]
    omega
  clear h
  rcases Q with q | ⟨q, q2⟩ | ⟨q, q2, q3⟩ | ⟨q, q2, q3, q4⟩
  · go_enter Tryd.func4, Tryd.ntmps4
    go_wp2_with fail
    refine (WO.out _ t).mono ?_
    rintro e w1 ⟨rfl, b1⟩
    have Z1 := Lib.hid b1
    clear b1 WO
    go_wp2_with fail
    go_ret
    exact ⟨rfl, Z1.out⟩
  · go_enter Tryd.func4, Tryd.ntmps4
    go_wp2_with fail
    refine (WO.out _ t).mono ?_
    rintro e w1 ⟨rfl, b1⟩
    have Z1 := Lib.hid b1
    clear b1 WO
    go_wp2_with fail
    go_ret
    exact ⟨rfl, Z1.out⟩
  · go_enter Tryd.func4, Tryd.ntmps4
    go_wp2_with fail
    refine (WO.out _ t).mono ?_
    rintro e w1 ⟨rfl, b1⟩
    have Z1 := Lib.hid b1
    clear b1 WO
    go_wp2_with fail
    go_ret
    exact ⟨rfl, Z1.out⟩
  · go_enter Tryd.func4, Tryd.ntmps4
    go_wp2_with fail
    refine (WO.out _ t).mono ?_
    rintro e w1 ⟨rfl, b1⟩
    have Z1 := Lib.hid b1
    clear b1 WO
    go_wp2_with fail
    go_ret
    exact ⟨rfl, Z1.out⟩
theorem walk (secret : ByteArray) (n : Int) (head data : ByteArray) (at_ yv : Int) (w : World) (t : STab w) (h0 : 0 ≤ yv) (h1 : yv ≤ 255) :
    Calls Tryd.prog 4 #[.string secret, .int .i64 n, .string head, .string data, .int .i64 at_, .int .u8 yv] w fun e w' => e = .returned (.bool true) ∧ Below w.heap.size w w' := by
  obtain ⟨y, rfl⟩ := Int.eq_ofNat_of_zero_le h0
  by_cases h : 500 < secret.size ∨ 500 < head.size ∨ 500 < data.size ∨ y = 0
  · exact walk_out secret n head data at_ y w t h
  · have hz := sld_size secret n head data
    obtain ⟨k, ek, hk⟩ := place at_ ((sld secret n head data).size : Int) (by omega) (by omega)
    exact walk_in secret n head data at_ y w t (by omega) (by omega) (by omega) (by omega) (by omega) _ rfl _ rfl k ek (by omega)

set_option maxRecDepth 100000 in
theorem contract (H : Type) (enc : TypeId × Value → H) (W : World) (base : Nat) (args : Array Value) (ds gs : List (DataW H)) (before : List MemPlace)
    (hval : ∀ (j : Nat) t v, Tryd.f4.params[j]? = some t → args[j]? = some v → Value.okWide Tryd.prog W .any base t v)
    (hW : DataW.Whole enc Tryd.prog Tryd.f4.params.toList Rows.sealTellsSpec.vars false W args.toList ds gs before) (hT : STab W) :
    Calls Tryd.prog 4 args W fun e W' => ∃ v, e = .returned v ∧ Rows.sealTellsSpec.post enc Tryd.prog Tryd.f4 false true false false W args v W' := by
  have hW' := hW
  obtain ⟨p, q, hA0, hV, rfl, hfz, hnd⟩ := hW
  have hA : DataW.TrodAll enc Tryd.prog W 0 (fun _ => true) true Tryd.f4.params.toList args.toList ds p := hA0
  rw [Tryd.params4] at hA hval
  obtain ⟨v0, vs0, d0, ds0, p0, q0, hargs, rfl, rfl, h0, r0⟩ := trodAll_cons hA
  obtain ⟨v1, vs1, d1, ds1, p1, q1, rfl, rfl, rfl, h1, r1⟩ := trodAll_cons r0
  obtain ⟨v2, vs2, d2, ds2, p2, q2, rfl, rfl, rfl, h2, r2⟩ := trodAll_cons r1
  obtain ⟨v3, vs3, d3, ds3, p3, q3, rfl, rfl, rfl, h3, r3⟩ := trodAll_cons r2
  obtain ⟨v4, vs4, d4, ds4, p4, q4, rfl, rfl, rfl, h4, r4⟩ := trodAll_cons r3
  obtain ⟨v5, vs5, d5, ds5, p5, q5, rfl, rfl, rfl, h5, r5⟩ := trodAll_cons r4
  obtain ⟨rfl, rfl, rfl⟩ := trodAll_nil r5
  obtain rfl : args = #[v0, v1, v2, v3, v4, v5] := by cases args; simp_all
  obtain ⟨rfl, rfl⟩ := trodVars_none hV
  obtain ⟨a0, rfl, rfl, rfl, w0⟩ := open_string Tryd.underlying9 (hval 0 9 v0 rfl rfl) h0
  obtain ⟨a1, rfl, rfl, rfl, w1⟩ := open_int Tryd.underlying2 (hval 1 2 v1 rfl rfl) h1
  have b1 := bounds_i64 w1
  obtain ⟨a2, rfl, rfl, rfl, w2⟩ := open_string Tryd.underlying9 (hval 2 9 v2 rfl rfl) h2
  obtain ⟨a3, rfl, rfl, rfl, w3⟩ := open_string Tryd.underlying9 (hval 3 9 v3 rfl rfl) h3
  obtain ⟨a4, rfl, rfl, rfl, w4⟩ := open_int Tryd.underlying3 (hval 4 3 v4 rfl rfl) h4
  have b4 := bounds_i64 w4
  obtain ⟨a5, rfl, rfl, rfl, w5⟩ := open_int Tryd.underlying5 (hval 5 5 v5 rfl rfl) h5
  have b5 := bounds_u8 w5
  clear hA0
  simp only [List.append_nil] at hW'
  refine (walk a0 a1 a2 a3 a4 a5 W hT b5.1 b5.2).mono fun e W' ⟨he, bel⟩ => ?_
  subst he
  exact ⟨_, rfl, _, _, _, [], _, [], hW', trodAll_mk1 (shut_bool Tryd.underlying4 _), (trodAll_cons_mk (shut_string Tryd.underlying9 w0) (trodAll_cons_mk (shut_int Tryd.underlying2 w1) (trodAll_cons_mk (shut_string Tryd.underlying9 w2) (trodAll_cons_mk (shut_string Tryd.underlying9 w3) (trodAll_cons_mk (shut_int Tryd.underlying3 w4) (trodAll_cons_mk (shut_int Tryd.underlying5 w5) trodAll_mk0)))))), rfl, bel.frame _, fun h => by cases h⟩

set_option maxRecDepth 100000 in
theorem lifted (os : Os) (started : os.Started) (H : Type) (enc : TypeId × Value → H) :
    ReturnsInHanded {} Tryd.checked os 4 .any (fun w args => (Rows.sealTellsSpec.pre enc Tryd.prog Tryd.f4 Rows.sealTellsRow.domain false w args ∧ laidMetH Tryd.prog Rows.sealTellsRow.laid w) ∧ sizedMet enc Tryd.prog Tryd.f4 (OpenSpec.ofChange Rows.sealTellsSpec) false w args)
      (Rows.sealTellsSpec.post enc Tryd.prog Tryd.f4 false true false false) := by
  refine returnsInHanded_of_change_and (C := Tryd.checked) (X := fun w _ => laidMetH Tryd.prog Rows.sealTellsRow.laid w) (fun _ _ _ hh h => h.of_heap hh) own started (by kernel_rfl) Tryd.func4
    (ChangeSpec.witness_shaped (enc := enc) (C := Tryd.checked) (os := os) (X := fun w _ => laidMetH Tryd.prog Rows.sealTellsRow.laid w) false (World.laidAll Tryd.prog os Rows.sealTellsRow.laid) #[.string ByteArray.empty, .int .i64 0, .string ByteArray.empty, .string ByteArray.empty, .int .i64 0, .int .u8 0] 8 (World.laidAll_os _ _ _)
      (World.shaped_of_ZipB (by kernel_rfl) (by kernel_rfl)) (by kernel_rfl) (by kernel_rfl) (by kernel_rfl)
      (by rw [MakeChecks.laidMetH_plain _ _ _ (by kernel_rfl)]; exact laidMet_laidAll _ (by kernel_rfl) (by kernel_rfl))) ?_
  intro W base args ds gs before hval hW _ _ hL _
  have hL' : laidMet Tryd.prog Rows.sealTellsRow.laid W := by
    rw [MakeChecks.laidMetH_plain _ _ _ (by kernel_rfl)] at hL
    exact hL
  exact contract H enc W base args ds gs before hval hW (stabOf rfl hL')

theorem said : Rows.SealTellsSaid :=
  OpenClaim.holds_of_wide 4 Tryd.f4 rfl rfl rfl rfl rfl rfl rfl ⟨rfl, rfl, rfl, rfl, rfl⟩ rfl rfl rfl rfl rfl (by kernel_rfl) Tryd.func4 (by kernel_rfl)
    (of_decide_eq_true (by kernel_rfl)) (by unfold Func.isWrapper; first | (rw [if_pos (by decide +kernel)]; kernel_rfl) | (rw [if_neg (by decide +kernel)]; exact ⟨rfl, rfl⟩))
    (fun os started H enc _ => lifted os started H enc)

theorem plain (f : FuncId) (fn : Func) (hf : Tryd.pinned.checked.prog.funcNamed Rows.sealTellsRow.func = some f) (hfn : Tryd.pinned.checked.prog.funcs[f]? = some fn) :
    (Tryd.pinned.checked.prog.looks [] = Tryd.pinned.checked.prog.looks []) ∧ ∀ (j : Nat) t, fn.params[j]? = some t → Tryd.pinned.checked.prog.wantsStandIn t = false := by
  obtain rfl : f = 4 := Option.some.inj ((show Tryd.prog.funcNamed Rows.sealTellsRow.func = some 4 by kernel_rfl).symm.trans hf) |>.symm
  obtain rfl : fn = Tryd.f4 := (Option.some.inj (Tryd.func4.symm.trans hfn)).symm
  refine ⟨rfl, fun j t ht => ?_⟩
  rw [Tryd.params4] at ht
  have hm : t ∈ [9, 2, 9, 9, 3, 5] := by simpa using Array.mem_of_getElem? ht
  have hall : ([9, 2, 9, 9, 3, 5].all fun u => !Tryd.prog.wantsStandIn u) = true := by kernel_rfl
  exact (show Tryd.prog.wantsStandIn t = false by simpa using List.all_eq_true.1 hall t hm)
theorem card : Rows.SealTellsCardSaid :=
  Claim7.holds_tied_plain_at .later [] _ _ _ _ said (fun _ h => by cases h) (by kernel_rfl) (fun _ h => by cases h) sealTells_row_tie rfl ⟨rfl, rfl⟩ (by kernel_rfl) rfl (fun f fn hf hfn => ⟨by kernel_rfl, (plain f fn hf hfn).2⟩) (by kernel_rfl)
end Go.Proofs.YteajkegokaggcaaDoor.sealTells
namespace Go.Proofs.YteajkegokaggcaaDoor
theorem sealTells_card : Rows.SealTellsCardSaid := sealTells.card
end Go.Proofs.YteajkegokaggcaaDoor
