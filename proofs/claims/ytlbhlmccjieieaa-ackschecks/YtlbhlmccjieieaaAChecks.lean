/-
  The law AcksChecks returns true for every row of ranges: what is wrong with ranges is told. No condition.
-/
import Derived.Test.YtlbhlmccjieieaaAkInv
import Derived.Test.YtlbhlmccjieieaaAkOpen
import Derived.Test.YtlbhlmccjieieaaObSize
import Derived.Test.YtlbhlmccjieieaaRpOpen
import Derived.LaidLaws
namespace Go.Proofs.Ytlbhlmccjieieaa.acksChecks
set_option maxRecDepth 100000
open Go.ChangeShapes Go.WideShapes Go.ChangeAt Go.RowKit
open Go.ChangeMaps (open_string shut_string)

theorem rgs_all {w : World} {ad : Addr} {l : List Rg} (h : ∀ k, k < l.length → w.cell? (ad.add (2 * k)) = some (.int .i64 (l.getD k (0, 0)).1) ∧ w.cell? (ad.add (2 * k + 1)) = some (.int .i64 (l.getD k (0, 0)).2)) : ∀ j u, (rgs l)[j]? = some u → w.cell? (ad.add j) = some u := fun j u hj => by
  have hl : (rgs l).length = 2 * l.length := by
    clear h hj
    induction l with
    | nil => rfl
    | cons x l ih => rw [rgs_cons]; simp [ih]; omega
  have hlt : j < 2 * l.length := by
    rcases Nat.lt_or_ge j (2 * l.length) with q | q
    · exact q
    · rw [List.getElem?_eq_none (by omega)] at hj
      cases hj
  obtain ⟨k, hk⟩ : ∃ k, j = 2 * k ∨ j = 2 * k + 1 := ⟨j / 2, by omega⟩
  obtain ⟨g1, g2⟩ := rgs_get l k (by omega)
  obtain ⟨h1, h2⟩ := h k (by omega)
  rcases hk with rfl | rfl
  · rw [g1] at hj
    injection hj with hj
    rw [← hj]
    exact h1
  · rw [g2] at hj
    injection hj with hj
    rw [← hj]
    exact h2
theorem rgs_one (l : List Rg) : ∀ u ∈ rgs l, u.oneCell' = true := fun u hu => by
  unfold rgs at hu
  obtain ⟨x, _, hx⟩ := List.mem_flatMap.1 hu
  simp at hx
  rcases hx with rfl | rfl <;> rfl
theorem rgs_len (l : List Rg) : (rgs l).length = l.length * 2 := by
  induction l with
  | nil => rfl
  | cons x l ih => rw [rgs_cons]; simp [ih]; omega
theorem empty_own (w : World) (t : TypeId) : (w.alloc (.cells #[] t)).ownsRow w.heap.size t 2 (.slice (some ⟨w.heap.size, 0, none⟩) 0 0) 0 [] :=
  ⟨rfl, .inr ⟨w.heap.size, 0, #[], rfl, Nat.le_refl _, heap_alloc_new w _, Nat.le_refl _, Nat.zero_le _, rfl, rfl⟩⟩
set_option maxHeartbeats 8000000 in
theorem walk (a : Option Addr) (cap : Nat) (l : List Rg) (w : World) (hr : RgAt w (.slice a l.length cap) l) (ha : a = none → l.length = 0 ∧ cap = 0) (hs : l.length * 16 ≤ 140737488351232)
    (hz : ∀ x ∈ l, (-9223372036854775808 ≤ x.1 ∧ x.1 ≤ 9223372036854775807) ∧ (-9223372036854775808 ≤ x.2 ∧ x.2 ≤ 9223372036854775807)) :
    Calls Try.prog 4 #[.slice a l.length cap] w fun e w' => e = .returned (.bool true) ∧ Below w.heap.size w w' := by
  obtain ⟨i0, hi0, hz0, hz1, hz2⟩ := info_rg
  have OE := Lib.hid (empty_own w 38)
  have BE : Hid (Below w.heap.size w (w.alloc (.cells #[] 38))) := (Below.refl _ _).alloc (Nat.le_refl _) _
  cases a with
  | none =>
    obtain ⟨h0, rfl⟩ := ha rfl
    obtain rfl : l = [] := List.eq_nil_of_length_eq_zero h0
    clear h0 ha hs hz
    have O1 : Hid ((w.alloc (.cells #[] 38)).ownsRow w.heap.size 38 2 (.slice (some ⟨w.heap.size, 0, none⟩) 0 0) ([] : List Rg).length (rgs [])) := OE
    have RO : RgAt (w.alloc (.cells #[] 38)) (.slice (some ⟨w.heap.size, 0, none⟩) 0 0) [] := own_rgAt O1.out
    have RL : RgAt (w.alloc (.cells #[] 38)) (.slice none 0 0) [] := hr.keep BE.out
    have C1 : Hid (∀ _ : Unit, _) := fun _ => pchk_ok _ [] _ RO (by decide) (fun _ h => by cases h)
    have C2 : Hid (∀ w', Below (w.alloc (.cells #[] 38)).heap.size (w.alloc (.cells #[] 38)) w' → _) := fun w' b => rchk_ok (.slice none 0 0) [] w' (RL.keep b) (by decide)
    have SM : Hid (∀ w', Below (w.alloc (.cells #[] 38)).heap.size (w.alloc (.cells #[] 38)) w' → Calls Try.prog 14 #[.slice (some ⟨w.heap.size, 0, none⟩) 0 0, .slice none 0 0] w' fun e w'' => e = .returned (.bool true) ∧ Below w'.heap.size w' w'') := fun w' b =>
      rsame_ok _ _ [] [] w' (RO.keep b) (RL.keep b) (by decide) (by decide)
    have B1 : Hid (Below w.heap.size w (w.alloc (.cells #[] 38))) := BE
    clear RO RL O1 hr hz0 hz1 hz2
    generalize chkR [] = K at *
    go_enter Try.func4, Try.ntmps4
    go_wp2_with (at_builtin; refine wpList_append_own_none rfl _ _ 27 rfl w.heap.size 38 i0 2 Try.underlying27 hi0 _ 0 [] rfl OE.out rfl ?_)
    clear OE BE hi0
    refine (C1.out ()).mono ?_
    rintro e w2 ⟨rfl, b2⟩
    have Z2 := Lib.hid b2
    clear b2 C1
    go_wp2_with fail
    refine (C2.out _ Z2.out).mono ?_
    rintro e w3 ⟨rfl, b3⟩
    have Z3 : Hid (Below (w.alloc (.cells #[] 38)).heap.size (w.alloc (.cells #[] 38)) w3) := Z2.out.trans (b3.mono Z2.out.size)
    clear b3 C2 Z2
    have gK : (K == K) = true := by simp
    go_wp2_with fail
    refine (SM.out _ Z3.out).mono ?_
    rintro e w4 ⟨rfl, b4⟩
    have Z4 : Hid (Below w.heap.size w w4) := (B1.out.trans (Z3.out.mono B1.out.size)).trans (b4.mono (Nat.le_trans B1.out.size Z3.out.size))
    clear b4 SM Z3 B1
    go_wp2_with fail
    go_ret
    exact ⟨rfl, Z4.out⟩
  | some ad =>
    have hnews : ∀ j u, (rgs l)[j]? = some u → (w.alloc (.cells #[] 38)).cell? (ad.add j) = some u := by
      obtain ⟨a', cap', e, q⟩ := hr
      injection e with e _ _
      rcases q with rfl | ⟨g, o, rfl, q⟩
      · intro j u hj; simp [rgs] at hj
      · injection e with e
        subst e
        refine rgs_all fun k hk => ?_
        obtain ⟨h1, h2⟩ := q k hk
        rw [Addr.add_mid, Addr.add_mid]
        exact ⟨(BE.out.cell (World.block_lt_of_cell? w _ h1)).trans h1, (BE.out.cell (World.block_lt_of_cell? w _ h2)).trans h2⟩
    replace hnews : Hid _ := hnews
    replace hr : Hid (RgAt w (.slice (some ad) l.length cap) l) := hr
    replace hz : Hid _ := hz
    have h1c : Hid _ := rgs_one l
    have hrl : Hid _ := rgs_len l
    clear ha
    go_enter Try.func4, Try.ntmps4
    go_wp2_with (at_builtin; refine wpList_append_own _ rfl _ _ 27 rfl w.heap.size 38 i0 (.agg #[.int .i64 0, .int .i64 0]) 2 16 Try.underlying27 hi0 hz0 hz1 hz2 rfl (by decide) _ 0 _ rfl OE.out ad l.length cap (rgs l) rfl hrl.out hnews.out h1c.out (by unfold maxLen; omega) (by omega) (by simp) ?_)
    intro v1 w1 hown' hgrow _
    have O1 : Hid (w1.ownsRow w.heap.size 38 2 v1 l.length (rgs l)) := hown'
    have B1 : Hid (Below w.heap.size w w1) := BE.out.grown hgrow BE.out.size (fun k hk => (OE.out.lt k hk).1)
    clear hown' hgrow OE BE hnews h1c hrl hi0 hz0 hz1 hz2
    replace hr := hr.out
    replace hz := hz.out
    obtain ⟨a, hae⟩ : ∃ a : Option Addr, a = some ad := ⟨_, rfl⟩
    rw [← hae] at hr ⊢
    clear hae
    have RO : RgAt w1 v1 l := own_rgAt O1.out
    have RL : RgAt w1 (.slice a l.length cap) l := hr.keep B1.out
    have C1 : Hid (∀ _ : Unit, _) := fun _ => pchk_ok v1 l w1 RO (by omega) hz
    have C2 : Hid (∀ w', Below w1.heap.size w1 w' → _) := fun w' b => rchk_ok (.slice a l.length cap) l w' (RL.keep b) (by omega)
    have SM : Hid (∀ w', Below w1.heap.size w1 w' → Calls Try.prog 14 #[v1, .slice a l.length cap] w' fun e w'' => e = .returned (.bool true) ∧ Below w'.heap.size w' w'') := fun w' b => by
      have := rsame_ok v1 (.slice a l.length cap) l l w' (RO.keep b) (RL.keep b) (by omega) (by omega)
      rw [decide_eq_true (rfl : l = l)] at this
      exact this
    clear RO RL O1 hr hz
    generalize chkR l = K at *
    generalize l.length = N at *
    go_wp2_with fail
    refine (C1.out ()).mono ?_
    rintro e w2 ⟨rfl, b2⟩
    have Z2 := Lib.hid b2
    clear b2 C1
    go_wp2_with fail
    refine (C2.out _ Z2.out).mono ?_
    rintro e w3 ⟨rfl, b3⟩
    have Z3 : Hid (Below w1.heap.size w1 w3) := Z2.out.trans (b3.mono Z2.out.size)
    clear b3 C2 Z2
    have gK : (K == K) = true := by simp
    go_wp2_with fail
    refine (SM.out _ Z3.out).mono ?_
    rintro e w4 ⟨rfl, b4⟩
    have Z4 : Hid (Below w.heap.size w w4) := (B1.out.trans (Z3.out.mono B1.out.size)).trans (b4.mono (Nat.le_trans B1.out.size Z3.out.size))
    clear b4 SM Z3 B1
    go_wp2_with fail
    go_ret
    exact ⟨rfl, Z4.out⟩

theorem contract (H : Type) (enc : TypeId × Value → H) (W : World) (base : Nat) (args : Array Value) (ds gs : List (DataW H)) (before : List MemPlace)
    (hval : ∀ (j : Nat) t v, Try.f4.params[j]? = some t → args[j]? = some v → Value.okWide Try.prog W .any base t v)
    (hW : DataW.Whole enc Try.prog Try.f4.params.toList Rows.acksChecksSpec.vars false W args.toList ds gs before)
    (hsz : (DataW.weightsEach Try.prog (Try.f4.params.toList ++ (OpenSpec.ofChange Rows.acksChecksSpec).bare.plain.varTypes Try.prog) (ds ++ gs)).all (· ≤ reachBytes) = true) :
    Calls Try.prog 4 args W fun e W' => ∃ v, e = .returned v ∧ Rows.acksChecksSpec.post enc Try.prog Try.f4 false true false false W args v W' := by
  have hW' := hW
  obtain ⟨p, q, hA0, hV, rfl, hfz, hnd⟩ := hW
  have hA : DataW.TrodAll enc Try.prog W 0 (fun _ => true) true Try.f4.params.toList args.toList ds p := hA0
  rw [Try.params4] at hA hval hsz
  obtain ⟨v0, vs0, d0, ds0, p0, q0, hargs, rfl, rfl, h0, r0⟩ := trodAll_cons hA
  obtain ⟨rfl, rfl, rfl⟩ := trodAll_nil r0
  obtain rfl : args = #[v0] := by cases args; simp_all
  obtain ⟨rfl, rfl⟩ := trodVars_none hV
  have k0 := h0
  have lt0 : ∀ x ∈ p0, x.block < W.heap.size := by obtain ⟨m, hm⟩ := k0; exact DataW.trod_lt m _ _ _ hm
  obtain ⟨l0, hs0, hn0, hz0⟩ := open_rgs (hval 0 27 v0 rfl rfl) h0
  have hq0 := hs0
  obtain ⟨a0, c0, rfl, hr0⟩ := hs0
  have ha0 := open_nil Try.underlying27 k0
  have z0 : l0.length * 16 ≤ 140737488351232 := sized_len Try.underlying27 k0 (fun n hn => by simpa using List.all_eq_true.1 hsz _ (DataW.weights_mem_each (j := 0) (t := 27) rfl rfl n hn))
  clear hA0
  simp only [List.append_nil] at hW'
  refine (walk a0 c0 l0 W hq0 ha0 z0 hz0).mono fun e W' ⟨he, bel⟩ => ?_
  subst he
  exact ⟨_, rfl, _, _, _, [], _, [], hW', trodAll_mk1 (shut_bool Try.underlying4 _), (trodAll_cons_mk (Below.trod laidOut (by kernel_rfl) (of_decide_eq_true (by kernel_rfl)) k0 bel lt0) trodAll_mk0), rfl, bel.frame _, fun h => by cases h⟩

theorem laid_met (os : Os) : laidMet Try.prog Rows.acksChecksRow.laid ((startWorld Try.prog os).forCall (fun _ _ => 0) ⟨#[], #[.slice none 0 0], []⟩).memory :=
  laidMet_of_run' 8 (by kernel_rfl) (by kernel_rfl)
theorem reads (os : Os) {H : Type} (enc : TypeId × Value → H) : ∃ places, DataW.whole enc Try.prog ((startWorld Try.prog os).forCall (fun _ _ => 0) ⟨#[], #[.slice none 0 0], []⟩).memory Try.f4.params.toList Rows.acksChecksSpec.vars false #[Value.slice none 0 0].toList 8 = some ([.nil], [], places) :=
  ⟨[], by kernel_rfl⟩

set_option maxRecDepth 100000 in
theorem lifted (os : Os) (started : os.Started) (H : Type) (enc : TypeId × Value → H) (F : Stop.Interp) :
    ReturnsInHanded {} Try.checked os 4 .any ((OpenSpec.ofChange Rows.acksChecksSpec).preRow enc Try.prog Try.f4 Rows.acksChecksRow.domain false Rows.acksChecksRow.laid) (((OpenSpec.ofChange Rows.acksChecksSpec).at F).post enc Try.prog Try.f4 false true false false) := by
  obtain ⟨places, hx⟩ := reads os enc
  refine returnsInHanded_of_row (C := Try.checked) (s := OpenSpec.ofChange Rows.acksChecksSpec) own started (by kernel_rfl) Try.func4
    (witness_row_at (enc := enc) (C := Try.checked) false (startWorld Try.prog os) #[.slice none 0 0] rfl (by kernel_rfl) (by kernel_rfl) (by kernel_rfl)
      (OpenSpec.preRow_of_cond 8 hx (by kernel_rfl) (fun k hk => by cases hk) (by kernel_rfl) (laid_met os))) ?_
  intro W base args ds gs before hval hW _ _ hsz _ _ _
  exact contract H enc W base args ds gs before hval hW hsz

theorem said : Rows.AcksChecksSaid :=
  OpenClaim.holds_of_cond 4 Try.f4 rfl rfl rfl rfl rfl rfl rfl ⟨rfl, rfl, rfl, rfl, rfl⟩ rfl rfl rfl rfl rfl (by kernel_rfl) Try.func4 (by kernel_rfl)
    (of_decide_eq_true (by kernel_rfl)) (by unfold Func.isWrapper; first | (rw [if_pos (by decide +kernel)]; kernel_rfl) | (rw [if_neg (by decide +kernel)]; exact ⟨rfl, rfl⟩))
    (fun os started H enc _ F => by rw [OpenClaim.pre_eq_preRow]; exact lifted os started H enc F)
end Go.Proofs.Ytlbhlmccjieieaa.acksChecks
namespace Go.Proofs.Ytlbhlmccjieieaa
theorem acksChecks_said : Rows.AcksChecksSaid := acksChecks.said
end Go.Proofs.Ytlbhlmccjieieaa
