/-
  The law FairDoes returns true for every limit, quantum and row of acts: whatever is pushed, taken and dropped is answered as the document has it. No condition.
-/
import Derived.Test.YtiamlldooihkdaaFaTw
import Derived.Test.YtiamlldooihkdaaObDraw
import Derived.Test.YtiamlldooihkdaaObRun
import Derived.Deep.Cut
import Derived.BigQuiet
import Derived.Test.YtiamlldooihkdaaFaOpen
import Derived.LaidLaws
namespace Go.Proofs.Ytiamlldooihkdaa.fairDoes
set_option maxRecDepth 100000
open Go.ChangeShapes Go.WideShapes Go.ChangeAt Go.RowKit
open Go.ChangeMaps (open_string shut_string)

theorem wrap_in {x y : Int} (e : x = y) (h0 : -9223372036854775808 ≤ y) (h1 : y ≤ 9223372036854775807) : wrap64 x = y := by subst e; unfold wrap64; omega
set_option linter.unusedSimpArgs false in
set_option maxHeartbeats 16000000 in
theorem walk (limit qu : Int) (v : Value) (l : List FOp) (W : World) (hv : RowAt 3 foC fo0 W v l) (hz : l.length * 32 ≤ 140737488351232) (HB : ∀ x ∈ l, FoB x) :
    Calls Try.prog 3 #[.int .i64 limit, .int .i64 qu, v] W fun e w' => e = .returned (.bool true) ∧ Below W.heap.size W w' := by
  have HV := Lib.hid hv
  obtain ⟨ad, cap, rfl, -, -⟩ := hv
  obtain ⟨N, hN⟩ : ∃ N, N = l.length := ⟨_, rfl⟩
  rw [← hN] at hz HV ⊢
  have H : Hid (∀ i, i < N → ∃ g o, ad = some ⟨g, o, none⟩ ∧ (∀ w', (Instr.indexAt 22 (.slice ad N cap) (.int .i64 (i : Int))).run Try.prog w' = .ok (.pointer (some ⟨g, o + 3 * i, none⟩)) w') ∧ (∀ w', Below W.heap.size W w' → w'.cell? ⟨g, o + 3 * i, none⟩ = some (.int .i64 (l.getD i fo0).kind) ∧ w'.cell? ⟨g, o + 3 * i + 1, none⟩ = some (.int .i64 (l.getD i fo0).id) ∧ w'.cell? ⟨g, o + 3 * i + 2, none⟩ = some (.string (l.getD i fo0).s)) ∧ FoB (l.getD i fo0)) := fun i hi => by
    obtain ⟨g, o, e, hg, hc⟩ := HV.out.get i hi
    refine ⟨g, o, e, fun w' => by rw [e]; exact at_R Try.underlying22 (by intro w; kernel_rfl) g o N cap i w' hi _ rfl _ rfl, fun w' b => ⟨(b.cell hg).trans (hc 0 (by decide)), (b.cell hg).trans (hc 1 (by decide)), (b.cell hg).trans (hc 2 (by decide))⟩, HB _ ?_⟩
    rw [List.getD_eq_getElem?_getD, List.getElem?_eq_getElem (by rw [← hN]; exact hi)]
    exact List.getElem_mem _
  have hN64 : N ≤ 9223372036854775807 := by omega
  clear HV HB hz hN
  have C := Lib.hid (fw_new limit qu (W := W) (w := W) (Below.refl _ _))
  go_enter Try.func3, Try.ntmps3
  go_wp2_with fail
  refine C.out.mono ?_
  rintro e w1 ⟨B, rfl, h1⟩
  have C1 := Lib.hid (tw_new h1 limit qu)
  clear C h1
  go_wp2_with fail
  refine C1.out.mono ?_
  rintro e w2 ⟨R, rfl, h2⟩
  clear C1
  obtain ⟨f0, hf0⟩ : ∃ f0, f0 = newE limit qu := ⟨_, rfl⟩
  have hf1 : f0.pz = 0 := by rw [hf0]; rfl
  rw [← hf0] at h2
  clear hf0
  replace h2 := Lib.hid h2
  obtain ⟨M, hM⟩ : ∃ M : Nat, M = min N 150 := ⟨_, rfl⟩
  have hM1 : M ≤ N ∧ M ≤ 150 := by omega
  have hM2 : Hid (M = N ∨ M = 150) := by unfold Hid; omega
  clear hM
  go_wp2_with fail
  go_loopg [9] M (fun g' s9 wr => ∃ (i : Nat) (f : FaQ), i + g' = M ∧ s9 = .int .i64 i ∧ Hid (Tw W wr B R f f fun _ => False) ∧ f.pz ≤ i)
  case atStart => exact ⟨0, f0, by omega, rfl, h2, by omega⟩
  case round =>
    clear h2 hf1
    obtain ⟨i, f, hi, rfl, OR, hpz⟩ := hrel
    by_cases hlt : i < M
    · have q1 : decide (i < N) = true := decide_eq_true (by omega)
      have q2 : decide ((i : Int) < (N : Int)) = true := decide_eq_true (by omega)
      have q3 : decide ((i : Int) < 150) = true := decide_eq_true (by omega)
      have q4 : decide (i < 150) = true := decide_eq_true (by omega)
      have wi : Hid (wrap64 ((i : Int) + 1) = (i : Int) + 1) := wrap_in rfl (by omega) (by omega)
      have gi : Hid (i + 1 + (M - (i + 1)) = M) := by unfold Hid; omega
      have gm : Hid (M - (i + 1) < gk) := by unfold Hid; omega
      have hi150 : Hid (i < 150) := by unfold Hid; omega
      have hpzb : f.pz < 150 := by omega
      obtain ⟨g, po, rfl, ia, CC, hx⟩ := H.out i (by omega)
      obtain ⟨d1, d2, d3⟩ := CC wr OR.out.bel
      obtain ⟨x, hxe⟩ : ∃ x, x = l.getD i fo0 := ⟨_, rfl⟩
      rw [← hxe] at d1 d2 d3 hx
      clear CC hxe
      obtain ⟨kd, id, s⟩ := x
      obtain ⟨h64k, h64, hs64⟩ := hx
      simp only at d1 d2 d3 h64k h64 hs64
      have h3 : Hid (Tw W (wr.alloc (.cells #[.int .i64 kd, .int .i64 id, .string s] 28)) B R f f fun k => k = wr.heap.size) := OR.out.with _
      have l3 : Lies (wr.alloc (.cells #[.int .i64 kd, .int .i64 id, .string s] 28)) wr.heap.size [.int .i64 kd, .int .i64 id, .string s] := Lies.new wr [.int .i64 kd, .int .i64 id, .string s] _
      go_upto_region 8 with fail
      obtain ⟨w3, hw3⟩ : ∃ w3, w3 = wr.alloc (.cells #[.int .i64 kd, .int .i64 id, .string s] 28) := ⟨_, rfl⟩
      rw [← hw3] at h3 l3 ⊢
      clear hw3
      obtain ⟨O, hO⟩ : ∃ O, O = wr.heap.size := ⟨_, rfl⟩
      rw [← hO] at h3 l3 ⊢
      clear hO d1 d2 d3 ia OR q1 q2 q3 q4 hlt h64k H hM1 hM2 hN64
      have c0 := l3.cell 0 rfl
      have c1 := l3.cell 1 rfl
      have c2 := l3.cell 2 rfl
      replace l3 := Lib.hid l3
      by_cases k0 : kd = 0
      · subst k0
        have pz1 : Hid ((pushQ f id s).pz ≤ i + 1) := by
          have : (pushQ f id s).pz = f.pz + 1 := by unfold pushQ; split <;> rfl
          unfold Hid
          omega
        have P1 : Hid (∀ w, Tw W w B R f f (fun k => k = O) → _) := fun w h => h.push id s h64 (by omega) hs64
        have P2 : Hid (∀ w, Tw W w B R f (pushQ f id s) (fun k => k = O) → _) := fun w h => h.push id s h64 (by omega) hs64
        have P3 : Hid (∀ w, Tw W w B R f f (fun k => k = O) → _) := fun w h => h.rpush id s h64 (by omega) hs64
        have P4 : Hid (∀ w, Tw W w B R (pushQ f id s) f (fun k => k = O) → _) := fun w h => h.rpush id s h64 (by omega) hs64
        have eq0 : (pushE f id s != pushE f id s) = false := by simp
        generalize pushE f id s = pe at *
        have pz0 : Hid True := trivial
        clear hi hpz hpzb h64 hs64
        go_upto_region 10 with fail
        have hT : Tw W w3.drew B R f f (fun k => k = O) := h3.out.keep (drewB _ _)
        have lT : Lies w3.drew O [.int .i64 0, .int .i64 id, .string s] := l3.out.of_block (w' := w3.drew) rfl
        have SB : Hid (∀ w', KX (fun k => k = O) w3.drew w' → w'.cell? ⟨O, 1, none⟩ = some (.int .i64 id) ∧ w'.cell? ⟨O, 2, none⟩ = some (.string s)) := fun w' k => by
          have l := lT.of_block (k O rfl)
          exact ⟨l.cell 1 rfl, l.cell 2 rfl⟩
        have KT : Hid (∀ a b c : World, KX (fun k => k = O) a b → KX (fun k => k = O) b c → KX (fun k => k = O) a c) := fun a b c h g k hk => (g k hk).trans (h k hk)
        have hS := SB.out _ (fun _ _ => rfl)
        replace hT := Lib.hid hT
        clear c0 c1 c2 h3 lT l3
        refine wp_region_held (S := fun w' => w'.cell? ⟨O, 1, none⟩ = some (.int .i64 id) ∧ w'.cell? ⟨O, 2, none⟩ = some (.string s)) (by kernel_rfl) ?_
        change wpAnyH _ .any _ _ _ 13 (Array.replicate 13 false) _ w3.drew
        generalize w3.drew = wd at *
        refine obTakeH (i := 0) (d := 43) (v := .pointer (some ⟨B, 0, none⟩)) rfl rfl (by kernel_rfl) (by kernel_rfl) (by kernel_rfl) (fun _ _ _ h => h) rfl (fun w' hS => by obtain ⟨s1, s2⟩ := hS; go_simp) hS ?_
        refine obTakeH (i := 1) (d := 44) (v := .pointer (some ⟨O, 1, none⟩)) rfl rfl (by kernel_rfl) (by kernel_rfl) (by kernel_rfl) (fun _ _ _ h => h) rfl (fun w' hS => by obtain ⟨s1, s2⟩ := hS; go_simp) hS ?_
        refine obTakeH (i := 2) (d := 45) (v := .int .i64 id) rfl rfl (by kernel_rfl) (by kernel_rfl) (by kernel_rfl) (fun _ _ _ h => h) rfl (fun w' hS => by obtain ⟨s1, s2⟩ := hS; go_simp) hS ?_
        refine obTakeH (i := 3) (d := 46) (v := .pointer (some ⟨O, 2, none⟩)) rfl rfl (by kernel_rfl) (by kernel_rfl) (by kernel_rfl) (fun _ _ _ h => h) rfl (fun w' hS => by obtain ⟨s1, s2⟩ := hS; go_simp) hS ?_
        refine obTakeH (i := 4) (d := 47) (v := .string s) rfl rfl (by kernel_rfl) (by kernel_rfl) (by kernel_rfl) (fun _ _ _ h => h) rfl (fun w' hS => by obtain ⟨s1, s2⟩ := hS; go_simp) hS ?_
        refine obTakeH (i := 6) (d := 49) (v := .pointer (some ⟨R, 0, none⟩)) rfl rfl (by kernel_rfl) (by kernel_rfl) (by kernel_rfl) (fun _ _ _ h => h) rfl (fun w' hS => by obtain ⟨s1, s2⟩ := hS; go_simp) hS ?_
        refine obTakeH (i := 7) (d := 50) (v := .pointer (some ⟨O, 1, none⟩)) rfl rfl (by kernel_rfl) (by kernel_rfl) (by kernel_rfl) (fun _ _ _ h => h) rfl (fun w' hS => by obtain ⟨s1, s2⟩ := hS; go_simp) hS ?_
        refine obTakeH (i := 8) (d := 51) (v := .int .i64 id) rfl rfl (by kernel_rfl) (by kernel_rfl) (by kernel_rfl) (fun _ _ _ h => h) rfl (fun w' hS => by obtain ⟨s1, s2⟩ := hS; go_simp) hS ?_
        refine obTakeH (i := 9) (d := 52) (v := .pointer (some ⟨O, 2, none⟩)) rfl rfl (by kernel_rfl) (by kernel_rfl) (by kernel_rfl) (fun _ _ _ h => h) rfl (fun w' hS => by obtain ⟨s1, s2⟩ := hS; go_simp) hS ?_
        refine obTakeH (i := 10) (d := 53) (v := .string s) rfl rfl (by kernel_rfl) (by kernel_rfl) (by kernel_rfl) (fun _ _ _ h => h) rfl (fun w' hS => by obtain ⟨s1, s2⟩ := hS; go_simp) hS ?_
        try simp only [Act.put, List.setIfInBounds_toArray, List.set_cons_succ, List.set_cons_zero]
        refine wpAnyH_all (rs := [5]) (by kernel_rfl) (by simp) (fun y hy => ?_)
        obtain rfl : y = 5 := by simpa using hy
        clear hy
        refine wpOp_step rfl (fun K' hK => ?_)
        refine obCall3 (k1 := 43) (k2 := 45) (k3 := 47) (d := 48) (x1 := .pointer (some ⟨B, 0, none⟩)) (x2 := .int .i64 id) (x3 := .string s) 10 _ rfl rfl _ _ _ _ (fun _ => rfl) rfl rfl rfl (P1.out _ hT.out) (fun e w4 hR => ?_)
        have h4 := Lib.hid hR.2.1
        have hk4 := hR.2.2
        have hS := SB.out _ hk4
        refine ⟨_, hR.1, hK _ _ ⟨hS, ?_⟩⟩
        clear hK K' hR
        try simp only [Act.put, List.setIfInBounds_toArray, List.set_cons_succ, List.set_cons_zero]
        refine wpAnyH_all (rs := [11]) (by kernel_rfl) (by simp) (fun y hy => ?_)
        obtain rfl : y = 11 := by simpa using hy
        clear hy
        refine wpOp_step rfl (fun K' hK => ?_)
        refine obCall3 (k1 := 49) (k2 := 51) (k3 := 53) (d := 54) (x1 := .pointer (some ⟨R, 0, none⟩)) (x2 := .int .i64 id) (x3 := .string s) 11 _ rfl rfl _ _ _ _ (fun _ => rfl) rfl rfl rfl (P4.out _ h4.out) (fun e w5 hR => ?_)
        have h5 := Lib.hid hR.2.1
        have hk5 := hR.2.2
        have hS := SB.out _ (KT.out _ _ _ hk4 hk5)
        refine ⟨_, hR.1, hK _ _ ⟨hS, ?_⟩⟩
        clear hK K' hR
        try simp only [Act.put, List.setIfInBounds_toArray, List.set_cons_succ, List.set_cons_zero]
        refine obTakeH (i := 12) (d := 55) (v := .bool false) rfl rfl (by kernel_rfl) (by kernel_rfl) (by kernel_rfl) (fun _ _ _ h => h) rfl (fun w' hS => by go_simp) hS ?_
        try simp only [Act.put, List.setIfInBounds_toArray, List.set_cons_succ, List.set_cons_zero]
        refine wpAnyH_done (by kernel_rfl) ?_ 0
        have h7 := Lib.hid h5.out.without
        clear hS h4 h5 hk4 hk5 hT SB KT P1 P2 P3 P4 eq0
        have TC := Lib.hid h7.out.count
        have TD : Hid (∀ w, Tw W w B R (pushQ f id s) (pushQ f id s) (fun _ => False) → _) := fun w h => h.rcount (by have := pz1.out; have := hi150.out; omega)
        have eqc : ((cntE (pushQ f id s).r : Int) != (cntE (pushQ f id s).r : Int)) = false := by simp
        generalize cntE (pushQ f id s).r = cc at *
        clear pz0
        go_wp2_with fail
        refine TC.out.mono ?_
        rintro e w8 ⟨rfl, rfl⟩
        have TE := Lib.hid (TD.out _ h7.out)
        clear TC TD
        go_wp2_with fail
        refine TE.out.mono ?_
        rintro e w8 ⟨rfl, rfl⟩
        clear TE
        replace wi := wi.out
        go_wp2_with fail
        go_roundg (M - (i + 1))
        case measure => exact gm.out
        case rel => exact ⟨i + 1, pushQ f id s, gi.out, by go_num, h7, pz1.out⟩
      · have n0 : (kd == 0) = false := by simpa using k0
        have n0' : decide (kd = 0) = false := decide_eq_false k0
        by_cases k1 : kd = 1
        · subst k1
          have pz1 : Hid ((nextE f).pz ≤ i + 1) := by
            have hok := h3.out.okp
            have : (nextE f).pz = f.pz := by
              unfold nextE takeE
              have hs := (next_same hok).pz
              split
              · exact hs
              · split <;> exact hs
            unfold Hid
            omega
          have P1 := Lib.hid (h3.out.next (by omega))
          have P4 : Hid (∀ w, Tw W w B R (nextE f) f (fun k => k = O) → _) := fun w h => h.rnext (by omega)
          obtain ⟨x1, x2, x3, hV⟩ : ∃ x1 x2 x3, nextV f = .tuple #[.int .i64 x1, .string x2, .bool x3] := ⟨_, _, _, rfl⟩
          rw [hV] at P1 P4
          have eqa : (x1 != x1) = false := by simp
          have eqb : (x3 != x3) = false := by simp
          have eqd : decide (x2 = x2) = true := by simp
          clear hi hpz hpzb h64 hs64 hV
          go_wp2_with fail
          refine P1.out.mono ?_
          rintro e w4 ⟨rfl, h4, k4⟩
          have P5 := Lib.hid (P4.out _ h4)
          clear P1 P4 h4 k4 c0 c1 c2 h3
          go_wp2_with fail
          refine P5.out.mono ?_
          rintro e w5 ⟨rfl, h5, k5⟩
          have h7 := Lib.hid h5.without
          clear P5 h5 k5 l3
          have TC := Lib.hid h7.out.count
          have TD : Hid (∀ w, Tw W w B R (nextE f) (nextE f) (fun _ => False) → _) := fun w h => h.rcount (by have := pz1.out; have := hi150.out; omega)
          have eqc : ((cntE (nextE f).r : Int) != (cntE (nextE f).r : Int)) = false := by simp
          generalize cntE (nextE f).r = cc at *
          go_wp2_with fail
          refine TC.out.mono ?_
          rintro e w8 ⟨rfl, rfl⟩
          have TE := Lib.hid (TD.out _ h7.out)
          clear TC TD
          go_wp2_with fail
          refine TE.out.mono ?_
          rintro e w8 ⟨rfl, rfl⟩
          clear TE
          replace wi := wi.out
          go_wp2_with fail
          go_roundg (M - (i + 1))
          case measure => exact gm.out
          case rel => exact ⟨i + 1, nextE f, gi.out, by go_num, h7, pz1.out⟩
        · have n1 : (kd == 1) = false := by simpa using k1
          have n1' : decide (kd = 1) = false := decide_eq_false k1
          by_cases k2 : kd = 2
          · subst k2
            have pz1 : Hid ((dropE f id).pz ≤ i + 1) := by
              have : (dropE f id).pz = f.pz := rfl
              unfold Hid
              omega
            have P1 : Hid (∀ w, Tw W w B R f f (fun k => k = O) → _) := fun w h => h.drop id h64 (by omega)
            have P2 : Hid (∀ w, Tw W w B R f (dropE f id) (fun k => k = O) → _) := fun w h => h.drop id h64 (by omega)
            have P3 : Hid (∀ w, Tw W w B R f f (fun k => k = O) → _) := fun w h => h.rdrop id (by omega)
            have P4 : Hid (∀ w, Tw W w B R (dropE f id) f (fun k => k = O) → _) := fun w h => h.rdrop id (by omega)
            have eq0 : (((lsE f.r id).length : Int) != ((lsE f.r id).length : Int)) = false := by simp
            generalize (lsE f.r id).length = pe at *
            have pz0 : Hid True := trivial
            clear hi hpz hpzb h64 hs64
            go_upto_region 18 with fail
            have hT : Tw W w3.drew B R f f (fun k => k = O) := h3.out.keep (drewB _ _)
            have lT : Lies w3.drew O [.int .i64 2, .int .i64 id, .string s] := l3.out.of_block (w' := w3.drew) rfl
            have SB : Hid (∀ w', KX (fun k => k = O) w3.drew w' → w'.cell? ⟨O, 1, none⟩ = some (.int .i64 id)) := fun w' k => by
              have l := lT.of_block (k O rfl)
              exact l.cell 1 rfl
            have KT : Hid (∀ a b c : World, KX (fun k => k = O) a b → KX (fun k => k = O) b c → KX (fun k => k = O) a c) := fun a b c h g k hk => (g k hk).trans (h k hk)
            have hS := SB.out _ (fun _ _ => rfl)
            replace hT := Lib.hid hT
            clear c0 c1 c2 h3 lT l3
            refine wp_region_held (S := fun w' => w'.cell? ⟨O, 1, none⟩ = some (.int .i64 id)) (by kernel_rfl) ?_
            change wpAnyH _ .any _ _ _ 9 (Array.replicate 9 false) _ w3.drew
            generalize w3.drew = wd at *
            refine obTakeH (i := 0) (d := 85) (v := .pointer (some ⟨B, 0, none⟩)) rfl rfl (by kernel_rfl) (by kernel_rfl) (by kernel_rfl) (fun _ _ _ h => h) rfl (fun w' hS => by go_simp) hS ?_
            refine obTakeH (i := 1) (d := 86) (v := .pointer (some ⟨O, 1, none⟩)) rfl rfl (by kernel_rfl) (by kernel_rfl) (by kernel_rfl) (fun _ _ _ h => h) rfl (fun w' hS => by go_simp) hS ?_
            refine obTakeH (i := 2) (d := 87) (v := .int .i64 id) rfl rfl (by kernel_rfl) (by kernel_rfl) (by kernel_rfl) (fun _ _ _ h => h) rfl (fun w' hS => by go_simp) hS ?_
            refine obTakeH (i := 4) (d := 89) (v := .pointer (some ⟨R, 0, none⟩)) rfl rfl (by kernel_rfl) (by kernel_rfl) (by kernel_rfl) (fun _ _ _ h => h) rfl (fun w' hS => by go_simp) hS ?_
            refine obTakeH (i := 5) (d := 90) (v := .pointer (some ⟨O, 1, none⟩)) rfl rfl (by kernel_rfl) (by kernel_rfl) (by kernel_rfl) (fun _ _ _ h => h) rfl (fun w' hS => by go_simp) hS ?_
            refine obTakeH (i := 6) (d := 91) (v := .int .i64 id) rfl rfl (by kernel_rfl) (by kernel_rfl) (by kernel_rfl) (fun _ _ _ h => h) rfl (fun w' hS => by go_simp) hS ?_
            try simp only [Act.put, List.setIfInBounds_toArray, List.set_cons_succ, List.set_cons_zero]
            refine wpAnyH_all (rs := [3]) (by kernel_rfl) (by simp) (fun y hy => ?_)
            obtain rfl : y = 3 := by simpa using hy
            clear hy
            refine wpOp_step rfl (fun K' hK => ?_)
            refine obCall2 (k1 := 85) (k2 := 87) (d := 88) (x1 := .pointer (some ⟨B, 0, none⟩)) (x2 := .int .i64 id) 14 _ rfl rfl _ _ _ _ (fun _ => rfl) rfl rfl (P1.out _ hT.out) (fun e w4 hR => ?_)
            have h4 := Lib.hid hR.2.1
            have hk4 := hR.2.2
            have hS := SB.out _ hk4
            refine ⟨_, hR.1, hK _ _ ⟨hS, ?_⟩⟩
            clear hK K' hR
            try simp only [Act.put, List.setIfInBounds_toArray, List.set_cons_succ, List.set_cons_zero]
            refine wpAnyH_all (rs := [7]) (by kernel_rfl) (by simp) (fun y hy => ?_)
            obtain rfl : y = 7 := by simpa using hy
            clear hy
            refine wpOp_step rfl (fun K' hK => ?_)
            refine obCall2 (k1 := 89) (k2 := 91) (d := 92) (x1 := .pointer (some ⟨R, 0, none⟩)) (x2 := .int .i64 id) 15 _ rfl rfl _ _ _ _ (fun _ => rfl) rfl rfl (P4.out _ h4.out) (fun e w5 hR => ?_)
            have h5 := Lib.hid hR.2.1
            have hk5 := hR.2.2
            have hS := SB.out _ (KT.out _ _ _ hk4 hk5)
            refine ⟨_, hR.1, hK _ _ ⟨hS, ?_⟩⟩
            clear hK K' hR
            try simp only [Act.put, List.setIfInBounds_toArray, List.set_cons_succ, List.set_cons_zero]
            refine obTakeH (i := 8) (d := 93) (v := .bool false) rfl rfl (by kernel_rfl) (by kernel_rfl) (by kernel_rfl) (fun _ _ _ h => h) rfl (fun w' hS => by go_simp) hS ?_
            try simp only [Act.put, List.setIfInBounds_toArray, List.set_cons_succ, List.set_cons_zero]
            refine wpAnyH_done (by kernel_rfl) ?_ 0
            have h7 := Lib.hid h5.out.without
            clear hS h4 h5 hk4 hk5 hT SB KT P1 P2 P3 P4 eq0
            have TC := Lib.hid h7.out.count
            have TD : Hid (∀ w, Tw W w B R (dropE f id) (dropE f id) (fun _ => False) → _) := fun w h => h.rcount (by have := pz1.out; have := hi150.out; omega)
            have eqc : ((cntE (dropE f id).r : Int) != (cntE (dropE f id).r : Int)) = false := by simp
            generalize cntE (dropE f id).r = cc at *
            clear pz0
            go_wp2_with fail
            refine TC.out.mono ?_
            rintro e w8 ⟨rfl, rfl⟩
            have TE := Lib.hid (TD.out _ h7.out)
            clear TC TD
            go_wp2_with fail
            refine TE.out.mono ?_
            rintro e w8 ⟨rfl, rfl⟩
            clear TE
            replace wi := wi.out
            go_wp2_with fail
            go_roundg (M - (i + 1))
            case measure => exact gm.out
            case rel => exact ⟨i + 1, dropE f id, gi.out, by go_num, h7, pz1.out⟩
          · skip
            have pz1 : Hid (f.pz ≤ i + 1) := by unfold Hid; omega
            have k2' : (kd == 2) = false := by simpa using k2
            have k2'' : decide (kd = 2) = false := decide_eq_false k2
            have h7 := Lib.hid h3.out.without
            clear h3 l3 hi hpz h64 hs64
            go_upto_region 20 with fail
            clear c0 c1 c2 n0 n0' n1 n1' k0 k1 k2 k2' k2''
            have TC := Lib.hid h7.out.count
            have TD : Hid (∀ w, Tw W w B R (f) (f) (fun _ => False) → _) := fun w h => h.rcount (by have := pz1.out; have := hi150.out; omega)
            have eqc : ((cntE (f).r : Int) != (cntE (f).r : Int)) = false := by simp
            generalize cntE (f).r = cc at *
            go_wp2_with fail
            refine TC.out.mono ?_
            rintro e w8 ⟨rfl, rfl⟩
            have TE := Lib.hid (TD.out _ h7.out)
            clear TC TD
            go_wp2_with fail
            refine TE.out.mono ?_
            rintro e w8 ⟨rfl, rfl⟩
            clear TE
            replace wi := wi.out
            go_wp2_with fail
            go_roundg (M - (i + 1))
            case measure => exact gm.out
            case rel => exact ⟨i + 1, f, gi.out, by go_num, h7, pz1.out⟩
    · obtain rfl : i = M := by omega
      have bel := Lib.hid OR.out.bel
      clear hi hlt H OR hpz
      by_cases hN : i < N
      · obtain rfl : i = 150 := by have := hM2.out; omega
        have q1 : decide (150 < N) = true := decide_eq_true hN
        have q2 : decide (((150 : Nat) : Int) < (N : Int)) = true := decide_eq_true (by omega)
        have q3 : decide (((150 : Nat) : Int) < 150) = false := by decide
        have q4 : decide ((150 : Int) < 150) = false := by decide
        have q5 : decide ((150 : Int) < (N : Int)) = true := decide_eq_true (by omega)
        clear hM1 hM2 hN
        go_wp2_with fail
        go_ret
        exact ⟨rfl, bel.out⟩
      · obtain rfl : i = N := by omega
        have q1 : decide (i < i) = false := decide_eq_false hN
        have q2 : decide ((i : Int) < (i : Int)) = false := decide_eq_false (by omega)
        clear hM1 hM2 hN
        go_wp2_with fail
        go_ret
        exact ⟨rfl, bel.out⟩

theorem contract (H : Type) (enc : TypeId × Value → H) (W : World) (base : Nat) (args : Array Value) (ds gs : List (DataW H)) (before : List MemPlace)
    (hval : ∀ (j : Nat) t v, Try.f3.params[j]? = some t → args[j]? = some v → Value.okWide Try.prog W .any base t v)
    (hW : DataW.Whole enc Try.prog Try.f3.params.toList Rows.fairDoesSpec.vars false W args.toList ds gs before)
    (hsz : (DataW.weightsEach Try.prog (Try.f3.params.toList ++ (OpenSpec.ofChange Rows.fairDoesSpec).bare.plain.varTypes Try.prog) (ds ++ gs)).all (· ≤ reachBytes) = true) :
    Calls Try.prog 3 args W fun e W' => ∃ v, e = .returned v ∧ Rows.fairDoesSpec.post enc Try.prog Try.f3 false true false false W args v W' := by
  have hW' := hW
  obtain ⟨p, q, hA0, hV, rfl, hfz, hnd⟩ := hW
  have hA : DataW.TrodAll enc Try.prog W 0 (fun _ => true) true Try.f3.params.toList args.toList ds p := hA0
  rw [Try.params3] at hA hval hsz
  obtain ⟨v0, vs0, d0, ds0, p0, q0, hargs, rfl, rfl, h0, r0⟩ := trodAll_cons hA
  obtain ⟨v1, vs1, d1, ds1, p1, q1, rfl, rfl, rfl, h1, r1⟩ := trodAll_cons r0
  obtain ⟨v2, vs2, d2, ds2, p2, q2, rfl, rfl, rfl, h2, r2⟩ := trodAll_cons r1
  obtain ⟨rfl, rfl, rfl⟩ := trodAll_nil r2
  obtain rfl : args = #[v0, v1, v2] := by cases args; simp_all
  obtain ⟨rfl, rfl⟩ := trodVars_none hV
  obtain ⟨a0, rfl, rfl, rfl, w0⟩ := open_int Try.underlying3 (hval 0 3 v0 rfl rfl) h0
  have b0 := bounds_i64 w0
  obtain ⟨a1, rfl, rfl, rfl, w1⟩ := open_int Try.underlying3 (hval 1 3 v1 rfl rfl) h1
  have b1 := bounds_i64 w1
  have k2 := h2
  have lt2 : ∀ x ∈ p2, x.block < W.heap.size := by obtain ⟨m, hm⟩ := k2; exact DataW.trod_lt m _ _ _ hm
  obtain ⟨l2, hs2, hz2, hb2⟩ := open_fops (hval 2 22 v2 rfl rfl) h2 (fun n hn => by simpa using List.all_eq_true.1 hsz _ (DataW.weights_mem_each (j := 2) (t := 22) rfl rfl n hn))
  clear hA0
  simp only [List.append_nil] at hW'
  refine (walk a0 a1 v2 l2 W hs2 hz2 hb2).mono fun e W' ⟨he, bel⟩ => ?_
  subst he
  exact ⟨_, rfl, _, _, _, [], _, [], hW', trodAll_mk1 (shut_bool Try.underlying4 _), (trodAll_cons_mk (shut_int Try.underlying3 w0) (trodAll_cons_mk (shut_int Try.underlying3 w1) (trodAll_cons_mk (Below.trod laidOut (by kernel_rfl) (of_decide_eq_true (by kernel_rfl)) k2 bel lt2) trodAll_mk0))), rfl, bel.frame _, fun h => by cases h⟩

theorem laid_met (os : Os) : laidMet Try.prog Rows.fairDoesRow.laid ((startWorld Try.prog os).forCall (fun _ _ => 0) ⟨#[], #[.int .i64 0, .int .i64 0, .slice none 0 0], []⟩).memory :=
  laidMet_of_run' 8 (by kernel_rfl) (by kernel_rfl)
theorem reads (os : Os) {H : Type} (enc : TypeId × Value → H) : ∃ places, DataW.whole enc Try.prog ((startWorld Try.prog os).forCall (fun _ _ => 0) ⟨#[], #[.int .i64 0, .int .i64 0, .slice none 0 0], []⟩).memory Try.f3.params.toList Rows.fairDoesSpec.vars false #[Value.int .i64 0, Value.int .i64 0, Value.slice none 0 0].toList 8 = some ([.lit (.int .i64 0), .lit (.int .i64 0), .nil], [], places) :=
  ⟨[], by kernel_rfl⟩

set_option maxRecDepth 100000 in
theorem lifted (os : Os) (started : os.Started) (H : Type) (enc : TypeId × Value → H) (F : Stop.Interp) :
    ReturnsInHanded {} Try.checked os 3 .any ((OpenSpec.ofChange Rows.fairDoesSpec).preRow enc Try.prog Try.f3 Rows.fairDoesRow.domain false Rows.fairDoesRow.laid) (((OpenSpec.ofChange Rows.fairDoesSpec).at F).post enc Try.prog Try.f3 false true false false) := by
  obtain ⟨places, hx⟩ := reads os enc
  refine returnsInHanded_of_row (C := Try.checked) (s := OpenSpec.ofChange Rows.fairDoesSpec) own started (by kernel_rfl) Try.func3
    (witness_row_at (enc := enc) (C := Try.checked) false (startWorld Try.prog os) #[.int .i64 0, .int .i64 0, .slice none 0 0] rfl (by kernel_rfl) (by kernel_rfl) (by kernel_rfl)
      (OpenSpec.preRow_of_cond 8 hx (by kernel_rfl) (fun k hk => by cases hk) (by kernel_rfl) (laid_met os))) ?_
  intro W base args ds gs before hval hW _ _ hsz _ _ _
  exact contract H enc W base args ds gs before hval hW hsz

theorem said : Rows.FairDoesSaid :=
  OpenClaim.holds_of_cond 3 Try.f3 rfl rfl rfl rfl rfl rfl rfl ⟨rfl, rfl, rfl, rfl, rfl⟩ rfl rfl rfl rfl rfl (by kernel_rfl) Try.func3 (by kernel_rfl)
    (of_decide_eq_true (by kernel_rfl)) (by unfold Func.isWrapper; first | (rw [if_pos (by decide +kernel)]; kernel_rfl) | (rw [if_neg (by decide +kernel)]; exact ⟨rfl, rfl⟩))
    (fun os started H enc _ F => by rw [OpenClaim.pre_eq_preRow]; exact lifted os started H enc F)
end Go.Proofs.Ytiamlldooihkdaa.fairDoes
namespace Go.Proofs.Ytiamlldooihkdaa
theorem fairDoes_said : Rows.FairDoesSaid := fairDoes.said
end Go.Proofs.Ytiamlldooihkdaa
