/-
  The law FairAlone returns true for every quantum and every row of texts: one who is alone gets all, in order. No condition.
-/
import Derived.Test.YtiamlldooihkdaaFaFp
import Derived.Test.YtiamlldooihkdaaFaTells
import Derived.Test.YtiamlldooihkdaaFaOpen
import Derived.BigQuiet
import Derived.Test.YtiamlldooihkdaaFaOpen
import Derived.LaidLaws
namespace Go.Proofs.Ytiamlldooihkdaa.fairAlone
set_option maxRecDepth 100000
open Go.ChangeShapes Go.WideShapes Go.ChangeAt Go.RowKit
open Go.ChangeMaps (open_string shut_string)

/-- What is kept: one alone, whose list is m. -/
structure Al (W w : World) (B : Nat) (f : FaQ) (m : List ByteArray) (n : Nat) : Prop where
  w : FW W w B f
  ls : ∀ x, lsE f.r x = if x = 7 then m else []
  cnt : cntE f.r = m.length
  lim : f.lim = 100
  pz : f.pz = n
theorem Al.push {W w : World} {B : Nat} {f : FaQ} {m : List ByteArray} {n : Nat} (h : Al W w B f m n) (s : ByteArray) (hs : s.size ≤ 500) (hm : m.length < 100) (hn : n < 1000) :
    Calls Try.prog 10 #[ptr B, .int .i64 7, .string s] w fun e w' => e = .returned (.int .i64 0) ∧ ∃ f', Al W w' B f' (m ++ [s]) (n + 1) := by
  have he : pushE f 7 s = 0 := by
    rw [push_e h.w.ok, h.ls, if_pos rfl, h.lim, if_neg (by omega), if_neg (by omega)]
  have hp := push_yes h.w.ok he
  refine (h.w.push 7 s (by unfold In64; decide) (by rw [h.pz]; omega) (by omega)).mono ?_
  rintro e w' ⟨rfl, h'⟩
  refine ⟨by rw [he], _, h', fun x => ?_, by rw [hp.2.1, h.cnt]; simp, hp.2.2.1.trans h.lim, by rw [hp.2.2.2.2, h.pz]⟩
  rw [hp.1, h.ls, h.ls, if_pos rfl]
  split <;> rfl
theorem Al.next {W w : World} {B : Nat} {f : FaQ} {s : ByteArray} {m : List ByteArray} {n : Nat} (h : Al W w B f (s :: m) n) (hn : n < 1000) :
    Calls Try.prog 12 #[ptr B] w fun e w' => e = .returned (.tuple #[.int .i64 7, .string s, .bool true]) ∧ ∃ f', Al W w' B f' m n := by
  have hr : f.r ≠ [] := (cnt_pos h.w.ok).2 (by rw [h.cnt]; simp)
  obtain ⟨a, s', l, e1, e2, e3, e4, e5, e6, e7, e8⟩ := next_tells h.w.ok hr
  have ha : a = 7 := by
    rw [h.ls] at e2
    by_cases q : a = 7
    · exact q
    · rw [if_neg q] at e2; cases e2
  subst ha
  rw [h.ls, if_pos rfl] at e2
  injection e2 with e2 e2'
  subst e2 e2'
  refine (h.w.next (by rw [h.pz]; omega)).mono ?_
  rintro e w' ⟨rfl, h'⟩
  refine ⟨by unfold nextV; rw [e1], _, h', fun x => ?_, ?_, e6.trans h.lim, e8.trans h.pz⟩
  · rw [e3, h.ls]
    split <;> rfl
  · have := h.cnt
    rw [List.length_cons] at this
    omega
theorem Al.none {W w : World} {B : Nat} {f : FaQ} {n : Nat} (h : Al W w B f [] n) (hn : n < 1000) :
    Calls Try.prog 12 #[ptr B] w fun e w' => e = .returned (.tuple #[.int .i64 0, .string ⟨#[]⟩, .bool false]) ∧ Below W.heap.size W w' := by
  have hr : f.r = [] := by
    cases hr : f.r with
    | nil => rfl
    | cons e t =>
      have := (cnt_pos h.w.ok).1 (by rw [hr]; simp)
      rw [h.cnt] at this
      exact absurd this (Nat.lt_irrefl 0)
  refine (h.w.next (by rw [h.pz]; omega)).mono ?_
  rintro e w' ⟨rfl, h'⟩
  exact ⟨by unfold nextV; rw [(next_none hr).1]; rfl, h'.bel⟩
set_option maxHeartbeats 2000000 in
theorem walk (qu : Int) (v : Value) (l : List ByteArray) (W : World) (hv : RowAt 1 KS.cells ByteArray.empty W v l) (hz : l.length * 16 ≤ 140737488351232) :
    Calls Try.prog 6 #[.int .i64 qu, v] W fun e w' => e = .returned (.bool true) ∧ Below W.heap.size W w' := by
  have WK := Lib.hid fun w' => works20_ok w'
  have HV := Lib.hid hv
  obtain ⟨ad, cap, rfl, -, -⟩ := hv
  obtain ⟨r, hr⟩ : ∃ r : Int, r = (IntKind.u64.wrap qu).tmod 300 := ⟨_, rfl⟩
  have hr0 : 0 ≤ r ∧ r < 300 := by
    rw [hr]
    have : 0 ≤ IntKind.u64.wrap qu := by simp [IntKind.wrap, IntKind.bits, IntKind.signed]; omega
    rw [Int.tmod_eq_emod_of_nonneg this]
    omega
  have e1 : wrap64 r = r := by unfold wrap64; omega
  obtain ⟨L, hL⟩ : ∃ L : Nat, (L : Int) = 1 + r := ⟨(1 + r).toNat, by omega⟩
  have hL0 : 1 ≤ L ∧ L ≤ 300 := by omega
  have e2 : wrap64 (1 + r) = L := by unfold wrap64; omega
  have e3 : 1 + r = L := hL.symm
  have hru := hr.symm
  clear hL
  replace hr := Lib.hid hr
  obtain ⟨N, hN⟩ : ∃ N, N = l.length := ⟨_, rfl⟩
  rw [← hN] at hz HV ⊢
  have hN64 : N ≤ 9223372036854775807 := by omega
  replace hN := Lib.hid hN
  go_enter Try.func6, Try.ntmps6
  go_wp2_with fail
  refine (WK.out W).mono ?_
  rintro e w0 ⟨rfl, b0⟩
  have C := Lib.hid (fw_new 100 (L : Int) b0)
  replace b0 := Lib.hid b0
  go_wp2_with fail
  refine C.out.mono ?_
  rintro e w1 ⟨B, rfl, h1⟩
  have A1 : Hid (∃ f, Al W w1 B f [] 0) := ⟨_, h1, fun x => by rw [ls_new]; split <;> rfl, rfl, by show cutQ 100 = 100; decide, rfl⟩
  clear C WK h1 hru e1 e2 e3 hr0 hL0 hr
  have M0 : ∃ M : Nat, M = if N < 40 then N else 40 := ⟨_, rfl⟩
  obtain ⟨M, hM⟩ := M0
  have hMN : Hid (M < N → M = 40) := by unfold Hid; rw [hM]; split <;> omega
  have hMa : M ≤ N ∧ M ≤ 40 := by rw [hM]; split <;> omega
  replace hM := Lib.hid hM
  have STR : Hid (∀ i, i < N → ∃ g o, ad = some ⟨g, o, none⟩ ∧ g < W.heap.size ∧ W.cell? ⟨g, o + i, none⟩ = some (.string (l.getD i ByteArray.empty))) := fun i hi => by
    obtain ⟨g, o, e, hg, hc⟩ := HV.out.get i hi
    refine ⟨g, o, e, hg, ?_⟩
    have := hc 0 (by decide)
    rw [Nat.one_mul, Nat.add_zero] at this
    exact this
  have hix : ∀ (g o i : Nat) (z : Int) w', i < N → z = i → (Instr.indexAt 39 (.slice (some ⟨g, o, none⟩) N cap) (.int .i64 z)).run Try.prog w' = .ok (.pointer (some ⟨g, o + i, none⟩)) w' := fun g o i z w' hi hz => at_Z ks_ok g o N cap i w' hi z hz (o + i) (by show o + i = o + 1 * i; omega)
  replace hix := Lib.hid hix
  go_wp2_with fail
  go_loopg [6] M (fun g' s6 wr => ∃ i : Nat, i + g' = M ∧ s6 = .int .i64 i ∧ Hid (∃ f, Al W wr B f (l.take i) i))
  case atStart => exact ⟨0, by omega, rfl, A1⟩
  case round =>
    obtain ⟨i, hi, rfl, AL⟩ := hrel
    by_cases hlt : i < M
    · have g1 : decide ((i : Int) < (N : Int)) = true := decide_eq_true (by omega)
      have g2 : decide ((i : Int) < 40) = true := decide_eq_true (by omega)
      have g1' : decide (i < N) = true := decide_eq_true (by omega)
      have g2' : decide (i < 40) = true := decide_eq_true (by omega)
      obtain ⟨f, hA⟩ := AL.out
      obtain ⟨g, o, rfl, hg, hc⟩ := STR.out i (by omega)
      have hi0 := hix.out g o i i wr (by omega) rfl
      have ce := (hA.w.bel.cell hg).trans hc
      have hil : i < l.length := by rw [← hN.out]; omega
      have htk : l.take (i + 1) = l.take i ++ [l.getD i ByteArray.empty] := by rw [List.take_add_one, List.getElem?_eq_getElem hil, List.getD_eq_getElem?_getD, List.getElem?_eq_getElem hil]; rfl
      have htl : (l.take i).length = i := by rw [List.length_take]; omega
      obtain ⟨s, hs⟩ : ∃ s, s = l.getD i ByteArray.empty := ⟨_, rfl⟩
      rw [← hs] at ce htk
      have ew : wrap64 ((i : Int) + 1) = (i : Int) + 1 := by unfold wrap64; omega
      have hbel := Lib.hid hA.w.bel
      by_cases hsz : 500 < s.size
      · have g3 : decide ((500 : Int) < (s.size : Int)) = true := decide_eq_true (by omega)
        have g3' : decide (500 < s.size) = true := decide_eq_true hsz
        clear hA AL STR hc hg htk htl hs
        go_wp2_with fail
        go_ret
        exact ⟨rfl, hbel.out⟩
      · have g3 : decide ((500 : Int) < (s.size : Int)) = false := decide_eq_false (by omega)
        have g3' : decide (500 < s.size) = false := decide_eq_false hsz
        have CP := Lib.hid (hA.push s (by omega) (by omega) (by omega))
        have CC : Hid (∀ w f', Al W w B f' (l.take i ++ [s]) (i + 1) → Calls Try.prog 16 #[ptr B] w fun e w' => e = .returned (.int .i64 ((i : Int) + 1)) ∧ w = w') := fun w f' h => by
          have := h.w.count
          have e : ((l.take i ++ [s]).length : Int) = (i : Int) + 1 := by rw [List.length_append, htl]; rfl
          rw [h.cnt, e] at this
          exact this
        replace htk := Lib.hid htk
        clear hA AL hc hg htl hs hbel
        go_wp2_with fail
        refine CP.out.mono ?_
        rintro e w2 ⟨rfl, f', h2⟩
        have C2 := Lib.hid (CC.out w2 f' h2)
        rw [← htk.out] at h2
        have A2 : Hid (∃ f, Al W w2 B f (l.take (i + 1)) (i + 1)) := ⟨f', h2⟩
        have r1 : Hid (i + 1 + (M - (i + 1)) = M) := by unfold Hid; omega
        have r2 : Hid (M - (i + 1) < gk) := by unfold Hid; omega
        clear CP CC h2
        go_wp2_with fail
        refine C2.out.mono ?_
        rintro e w3 ⟨rfl, rfl⟩
        clear C2
        go_wp2_with fail
        go_roundg (M - (i + 1))
        case measure => exact r2.out
        case rel => exact ⟨i + 1, r1.out, rfl, A2⟩
    · obtain rfl : i = M := by omega
      have A2 : Hid (∃ f, Al W wr B f ((l.take i).drop 0) i) := AL
      have hil : (l.take i).length = i := by rw [List.length_take, ← hN.out]; omega
      rename World => w3
      have go1 : Hid (∀ j w f, Al W w B f ((l.take i).drop j) i → j < i → Calls Try.prog 12 #[ptr B] w fun e w' => e = .returned (.tuple #[.int .i64 7, .string (l.getD j ByteArray.empty), .bool true]) ∧ ∃ f', Al W w' B f' ((l.take i).drop (j + 1)) i) := fun j w f h hj => by
        have hjl : j < (l.take i).length := by omega
        have hjl2 : j < l.length := by have := hjl; rw [List.length_take] at this; omega
        have e : (l.take i).drop j = l.getD j ByteArray.empty :: (l.take i).drop (j + 1) := by
          rw [List.drop_eq_getElem_cons hjl, List.getElem_take, List.getD_eq_getElem?_getD, List.getElem?_eq_getElem hjl2]
          rfl
        rw [e] at h
        exact h.next (by omega)
      have go2 : Hid (∀ w f, Al W w B f ((l.take i).drop i) i → Calls Try.prog 12 #[ptr B] w fun e w' => e = .returned (.tuple #[.int .i64 0, .string ⟨#[]⟩, .bool false]) ∧ Below W.heap.size W w') := fun w f h => by
        rw [List.drop_of_length_le (by omega)] at h
        exact h.none (by omega)
      clear AL A1 hil
      by_cases hN2 : i < N
      · have i40 : i = 40 := hMN.out hN2
        subst i40
        have g1 : decide ((40 : Int) < (N : Int)) = true := decide_eq_true (by omega)
        have g1' : decide (40 < N) = true := decide_eq_true hN2
        have g0 : ((40 : Nat) : Int) = 40 := rfl
        rw [g0]
        go_wp2_with fail
        go_loopg [7] 40 (fun g' s7 wr => ∃ j : Nat, j + g' = 40 ∧ s7 = .int .i64 j ∧ Hid (∃ f, Al W wr B f ((l.take 40).drop j) 40))
        case atStart => exact ⟨0, by omega, rfl, A2⟩
        case round =>
          obtain ⟨j, hj, rfl, AL⟩ := hrel
          by_cases hlt : j < 40
          · have g1 : decide ((j : Int) < (N : Int)) = true := decide_eq_true (by omega)
            have g2 : decide ((j : Int) < 40) = true := decide_eq_true (by omega)
            have g1' : decide (j < N) = true := decide_eq_true (by omega)
            have g2' : decide (j < 40) = true := decide_eq_true hlt
            obtain ⟨f, hA⟩ := AL.out
            obtain ⟨g, o, rfl, hg, hc⟩ := STR.out j (by omega)
            have hi0 := fun w' => hix.out g o j j w' (by omega) rfl
            have CN := Lib.hid (go1.out j wr f hA hlt)
            obtain ⟨s, hs⟩ : ∃ s, s = l.getD j ByteArray.empty := ⟨_, rfl⟩
            rw [← hs] at hc CN
            have hcs := Lib.hid hc
            have ew : wrap64 ((j : Int) + 1) = (j : Int) + 1 := by unfold wrap64; omega
            clear hA AL hc hs
            go_wp2_with fail
            refine CN.out.mono ?_
            rintro e w4 ⟨rfl, f', h4⟩
            have ce := (h4.w.bel.cell hg).trans hcs.out
            have A4 : Hid (∃ f, Al W w4 B f ((l.take 40).drop (j + 1)) 40) := ⟨f', h4⟩
            clear CN h4 hg
            go_wp2_with fail
            go_roundg (40 - (j + 1))
            case measure => omega
            case rel => exact ⟨j + 1, by omega, by go_num, A4⟩
          · obtain rfl : j = 40 := by omega
            have g2 : decide (((40 : Nat) : Int) < 40) = false := by decide
            obtain ⟨f, hA⟩ := AL.out
            have CN := Lib.hid (go2.out wr f hA)
            clear hA AL go1 go2
            go_wp2_with fail
            refine CN.out.mono ?_
            rintro e w4 ⟨rfl, b4⟩
            replace b4 := Lib.hid b4
            clear CN
            go_wp2_with fail
            go_ret
            exact ⟨rfl, b4.out⟩
      · obtain rfl : i = N := by omega
        have g1 : decide ((i : Int) < (i : Int)) = false := decide_eq_false (by omega)
        have g1' : decide (i < i) = false := decide_eq_false hN2
        go_wp2_with fail
        go_loopg [7] i (fun g' s7 wr => ∃ j : Nat, j + g' = i ∧ s7 = .int .i64 j ∧ Hid (∃ f, Al W wr B f ((l.take i).drop j) i))
        case atStart => exact ⟨0, by omega, rfl, A2⟩
        case round =>
          obtain ⟨j, hj, rfl, AL⟩ := hrel
          by_cases hlt : j < i
          · have g1 : decide ((j : Int) < (i : Int)) = true := decide_eq_true (by omega)
            have g2 : decide ((j : Int) < 40) = true := decide_eq_true (by omega)
            have g1' : decide (j < i) = true := decide_eq_true hlt
            have g2' : decide (j < 40) = true := decide_eq_true (by omega)
            obtain ⟨f, hA⟩ := AL.out
            obtain ⟨g, o, rfl, hg, hc⟩ := STR.out j (by omega)
            have hi0 := fun w' => hix.out g o j j w' (by omega) rfl
            have CN := Lib.hid (go1.out j wr f hA hlt)
            obtain ⟨s, hs⟩ : ∃ s, s = l.getD j ByteArray.empty := ⟨_, rfl⟩
            rw [← hs] at hc CN
            have hcs := Lib.hid hc
            have ew : wrap64 ((j : Int) + 1) = (j : Int) + 1 := by unfold wrap64; omega
            clear hA AL hc hs
            go_wp2_with fail
            refine CN.out.mono ?_
            rintro e w4 ⟨rfl, f', h4⟩
            have ce := (h4.w.bel.cell hg).trans hcs.out
            have A4 : Hid (∃ f, Al W w4 B f ((l.take i).drop (j + 1)) i) := ⟨f', h4⟩
            clear CN h4 hg
            go_wp2_with fail
            go_roundg (i - (j + 1))
            case measure => omega
            case rel => exact ⟨j + 1, by omega, by go_num, A4⟩
          · obtain rfl : j = i := by omega
            obtain ⟨f, hA⟩ := AL.out
            have CN := Lib.hid (go2.out wr f hA)
            clear hA AL go1 go2
            go_wp2_with fail
            refine CN.out.mono ?_
            rintro e w4 ⟨rfl, b4⟩
            replace b4 := Lib.hid b4
            clear CN
            go_wp2_with fail
            go_ret
            exact ⟨rfl, b4.out⟩

theorem contract (H : Type) (enc : TypeId × Value → H) (W : World) (base : Nat) (args : Array Value) (ds gs : List (DataW H)) (before : List MemPlace)
    (hval : ∀ (j : Nat) t v, Try.f6.params[j]? = some t → args[j]? = some v → Value.okWide Try.prog W .any base t v)
    (hW : DataW.Whole enc Try.prog Try.f6.params.toList Rows.fairAloneSpec.vars false W args.toList ds gs before)
    (hsz : (DataW.weightsEach Try.prog (Try.f6.params.toList ++ (OpenSpec.ofChange Rows.fairAloneSpec).bare.plain.varTypes Try.prog) (ds ++ gs)).all (· ≤ reachBytes) = true) :
    Calls Try.prog 6 args W fun e W' => ∃ v, e = .returned v ∧ Rows.fairAloneSpec.post enc Try.prog Try.f6 false true false false W args v W' := by
  have hW' := hW
  obtain ⟨p, q, hA0, hV, rfl, hfz, hnd⟩ := hW
  have hA : DataW.TrodAll enc Try.prog W 0 (fun _ => true) true Try.f6.params.toList args.toList ds p := hA0
  rw [Try.params6] at hA hval hsz
  obtain ⟨v0, vs0, d0, ds0, p0, q0, hargs, rfl, rfl, h0, r0⟩ := trodAll_cons hA
  obtain ⟨v1, vs1, d1, ds1, p1, q1, rfl, rfl, rfl, h1, r1⟩ := trodAll_cons r0
  obtain ⟨rfl, rfl, rfl⟩ := trodAll_nil r1
  obtain rfl : args = #[v0, v1] := by cases args; simp_all
  obtain ⟨rfl, rfl⟩ := trodVars_none hV
  obtain ⟨a0, rfl, rfl, rfl, w0⟩ := open_int Try.underlying3 (hval 0 3 v0 rfl rfl) h0
  have b0 := bounds_i64 w0
  have k1 := h1
  have lt1 : ∀ x ∈ p1, x.block < W.heap.size := by obtain ⟨m, hm⟩ := k1; exact DataW.trod_lt m _ _ _ hm
  obtain ⟨l1, hs1, hz1, hb1⟩ := open_strl (hval 1 39 v1 rfl rfl) h1 (fun n hn => by simpa using List.all_eq_true.1 hsz _ (DataW.weights_mem_each (j := 1) (t := 39) rfl rfl n hn))
  clear hA0
  simp only [List.append_nil] at hW'
  refine (walk a0 v1 l1 W hs1 hz1).mono fun e W' ⟨he, bel⟩ => ?_
  subst he
  exact ⟨_, rfl, _, _, _, [], _, [], hW', trodAll_mk1 (shut_bool Try.underlying4 _), (trodAll_cons_mk (shut_int Try.underlying3 w0) (trodAll_cons_mk (Below.trod laidOut (by kernel_rfl) (of_decide_eq_true (by kernel_rfl)) k1 bel lt1) trodAll_mk0)), rfl, bel.frame _, fun h => by cases h⟩

theorem laid_met (os : Os) : laidMet Try.prog Rows.fairAloneRow.laid ((startWorld Try.prog os).forCall (fun _ _ => 0) ⟨#[], #[.int .i64 0, .slice none 0 0], []⟩).memory :=
  laidMet_of_run' 8 (by kernel_rfl) (by kernel_rfl)
theorem reads (os : Os) {H : Type} (enc : TypeId × Value → H) : ∃ places, DataW.whole enc Try.prog ((startWorld Try.prog os).forCall (fun _ _ => 0) ⟨#[], #[.int .i64 0, .slice none 0 0], []⟩).memory Try.f6.params.toList Rows.fairAloneSpec.vars false #[Value.int .i64 0, Value.slice none 0 0].toList 8 = some ([.lit (.int .i64 0), .nil], [], places) :=
  ⟨[], by kernel_rfl⟩

set_option maxRecDepth 100000 in
theorem lifted (os : Os) (started : os.Started) (H : Type) (enc : TypeId × Value → H) (F : Stop.Interp) :
    ReturnsInHanded {} Try.checked os 6 .any ((OpenSpec.ofChange Rows.fairAloneSpec).preRow enc Try.prog Try.f6 Rows.fairAloneRow.domain false Rows.fairAloneRow.laid) (((OpenSpec.ofChange Rows.fairAloneSpec).at F).post enc Try.prog Try.f6 false true false false) := by
  obtain ⟨places, hx⟩ := reads os enc
  refine returnsInHanded_of_row (C := Try.checked) (s := OpenSpec.ofChange Rows.fairAloneSpec) own started (by kernel_rfl) Try.func6
    (witness_row_at (enc := enc) (C := Try.checked) false (startWorld Try.prog os) #[.int .i64 0, .slice none 0 0] rfl (by kernel_rfl) (by kernel_rfl) (by kernel_rfl)
      (OpenSpec.preRow_of_cond 8 hx (by kernel_rfl) (fun k hk => by cases hk) (by kernel_rfl) (laid_met os))) ?_
  intro W base args ds gs before hval hW _ _ hsz _ _ _
  exact contract H enc W base args ds gs before hval hW hsz

theorem said : Rows.FairAloneSaid :=
  OpenClaim.holds_of_cond 6 Try.f6 rfl rfl rfl rfl rfl rfl rfl ⟨rfl, rfl, rfl, rfl, rfl⟩ rfl rfl rfl rfl rfl (by kernel_rfl) Try.func6 (by kernel_rfl)
    (of_decide_eq_true (by kernel_rfl)) (by unfold Func.isWrapper; first | (rw [if_pos (by decide +kernel)]; kernel_rfl) | (rw [if_neg (by decide +kernel)]; exact ⟨rfl, rfl⟩))
    (fun os started H enc _ F => by rw [OpenClaim.pre_eq_preRow]; exact lifted os started H enc F)
end Go.Proofs.Ytiamlldooihkdaa.fairAlone
namespace Go.Proofs.Ytiamlldooihkdaa
theorem fairAlone_said : Rows.FairAloneSaid := fairAlone.said
end Go.Proofs.Ytiamlldooihkdaa
