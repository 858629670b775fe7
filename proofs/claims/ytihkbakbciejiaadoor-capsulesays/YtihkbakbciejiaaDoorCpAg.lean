/-
  What the document's own Assigns answers. No condition but the form's own reach.
-/
import Derived.Test.YtihkbakbciejiaaDoorCpTl
import Derived.Test.YtihkbakbciejiaaDoorShBytes
import Derived.Test.YtihkbakbciejiaaDoorObDraw
import Derived.OrdersHeld
namespace Go.Proofs.YtihkbakbciejiaaDoor
set_option maxRecDepth 100000
open Go.RowKit Go.Sort

set_option maxHeartbeats 16000000 in
theorem rasg16_ok (v : Value) (l : List Ad) (w : World) (hv : RowAt 3 adc nA w v l) (hl : l.length * 24 ≤ 140737488351232) (hb : ∀ x ∈ l, x.addr < 4294967296) :
    Calls Tryd.prog 26 #[v] w fun e w' => e = .returned (.string (strL (asgL l))) ∧ Below w.heap.size w w' := by
  obtain ⟨a, cap, rfl, -, hc⟩ := hv
  obtain ⟨M, hM⟩ : ∃ M, M = l.length := ⟨_, rfl⟩
  have CC := Lib.hid hc
  have HB := Lib.hid hb
  rw [← hM] at hl CC ⊢
  replace hM := Lib.hid hM
  clear hc hb
  have hcf : ∀ (x y : Value) (w : World), (callFunc 52 #[x, y]).run Tryd.prog w = .ok (.enter 52 #[x, y]) w := fun x y w => by simp [go_sem]
  have hcp : ∀ (x : Value) (w : World), (callFunc 35 #[x]).run Tryd.prog w = .ok (.enter 35 #[x]) w := fun x w => by simp [go_sem]
  obtain ⟨OUT, hOUT⟩ : ∃ OUT, OUT = strL (asgL l) := ⟨_, rfl⟩
  rw [← hOUT]
  replace hOUT := Lib.hid hOUT
  go_enter Tryd.func26, Tryd.ntmps26
  go_wp2_with fail
  go_loopg [3, 4] M (fun g sv iv wr => ∃ i : Nat, i + g = M ∧ iv = .int .i64 (i : Int) ∧ sv = .string (strL ((l.take i).flatMap adB)) ∧ Hid ((∀ a ∈ l.take i, numI a.id ∧ adRt a = true) ∧ Below w.heap.size w wr))
  case atStart => exact ⟨0, by omega, rfl, rfl, ⟨(fun a h => by rw [List.take_zero] at h; cases h), Below.refl _ _⟩⟩
  case round =>
    obtain ⟨i, hi, rfl, rfl, ZI⟩ := hrel
    by_cases hin : i < M
    · have il : i < l.length := by have := hM.out; omega
      obtain ⟨g, o, rfl, hgw, cs⟩ := CC.out i hin
      have xin := getD_in l nA i il
      have hadr := HB.out _ xin
      have tk := take_next l nA i il
      obtain ⟨x, hx⟩ : ∃ x, x = l.getD i nA := ⟨_, rfl⟩
      rw [← hx] at cs hadr tk xin
      obtain ⟨id, ad, bi⟩ := x
      simp only at hadr
      have KW : Hid (∀ w', Below w.heap.size w w' → w'.cell? ⟨g, o + 3 * i, none⟩ = some (.int .i64 id) ∧ w'.cell? ⟨g, o + 3 * i + 1, none⟩ = some (.int .u32 (ad : Int)) ∧ w'.cell? ⟨g, o + 3 * i + 2, none⟩ = some (.int .i64 bi)) := fun w' bb => ⟨(bb.cell hgw).trans (cs 0 (by decide)), (bb.cell hgw).trans (cs 1 (by decide)), (bb.cell hgw).trans (cs 2 (by decide))⟩
      have BAD : Hid (¬ (numI id ∧ adRt ⟨id, ad, bi⟩ = true) → OUT = ⟨#[]⟩) := fun h => by rw [hOUT.out, asg_bad xin h]; rfl
      have ia := fun w' => at_rad g o M cap i w' hin (i : Int) rfl (o + 3 * i) rfl
      have ZZ := Lib.hid ZI.out.2
      have OKS := Lib.hid ZI.out.1
      obtain ⟨k0, k1, k2⟩ := KW.out wr ZZ.out
      have RN := Lib.hid (rnum_ok id wr)
      have CK := Lib.hid (rcheck_ok (ad : Int) bi wr (by omega) (by omega))
      unfold pv at CK
      have zX : (strL ((l.take i).flatMap adB)).size ≤ 14 * i := by
        rw [strL_size]
        have := adF_len (l.take i)
        rw [List.length_take] at this
        omega
      clear cs hx CC HB ZI xin
      by_cases hn : numI id
      · rw [decide_eq_true hn] at RN
        go_wp2_with fail
        refine RN.out.mono ?_
        rintro e w2 ⟨rfl, rfl⟩
        clear RN
        go_wp2_with fail
        refine CK.out.mono ?_
        rintro e w2 ⟨rfl, b2⟩
        have Z2 := Lib.hid (ZZ.out.trans (b2.mono ZZ.out.size))
        clear CK b2 ZZ k0 k1 k2
        cases hrt : rt (ad : Int) bi with
        | false =>
          have E := Lib.hid (BAD.out (fun c => by have h2 : rt (ad : Int) bi = true := c.2; rw [hrt] at h2; cases h2))
          clear BAD hrt tk OKS KW
          go_wp2_with fail
          go_ret
          exact ⟨by rw [E.out]; rfl, Z2.out⟩
        | true =>
          have hbi := rt_bits hrt
          have OK2 : Hid (∀ a ∈ l.take (i + 1), numI a.id ∧ adRt a = true) := fun a h => by
            rw [tk] at h
            rcases List.mem_append.1 h with h | h
            · exact OKS.out a h
            · rw [List.mem_singleton] at h
              rw [h]
              exact ⟨hn, hrt⟩
          have KS : Hid (∀ w', Below w2.heap.size w2 w' → w'.cell? ⟨g, o + 3 * i, none⟩ = some (.int .i64 id) ∧ w'.cell? ⟨g, o + 3 * i + 1, none⟩ = some (.int .u32 (ad : Int)) ∧ w'.cell? ⟨g, o + 3 * i + 2, none⟩ = some (.int .i64 bi)) := fun w' b => KW.out w' (Z2.out.trans (b.mono Z2.out.size))
          have B1 : Hid (∀ w', _) := fun w' => rputI_ok id w' hn
          have B2 : Hid (∀ w', _) := fun w' => rbytes 4 (by decide) (ad : Int) w' (by omega) (by omega)
          have z1 := putI_len id
          have z2 : (strOfNums (digs (ad : Int) 4)).size = 4 := by rw [strOfNums_size, digs_length]
          have z3 : (strOfNums [bi]).size = 1 := strOfNums_size _
          have FIN : Hid (strL ((l.take i).flatMap adB) ++ strL (putI id) ++ ⟨#[4]⟩ ++ strOfNums (digs (ad : Int) 4) ++ strOfNums [bi] = strL ((l.take (i + 1)).flatMap adB)) := by
            unfold Hid
            rw [digs_b4 ad hadr, one_b8 bi, tk, List.flatMap_append, show (⟨#[4]⟩ : ByteArray) = strL [4] from rfl, strL_append, strL_append, strL_append, strL_append]
            simp [adB]
          obtain ⟨X, hX⟩ : ∃ X, X = strL ((l.take i).flatMap adB) := ⟨_, rfl⟩
          rw [← hX] at zX FIN
          have w2' : IntKind.i64.wrap (ad : Int) = (ad : Int) := by rw [IntKind.wrap_i64]; omega
          have w3' : IntKind.u8.wrap bi = bi := by rw [IntKind.wrap_u8]; omega
          have BB : Below w2.heap.size w2 w2.drew := drewB _ _
          have hS := KS.out _ BB
          have NX : Hid (∀ w', Below w2.heap.size w2 w' → Below w.heap.size w w') := fun w' b => Z2.out.trans (b.mono Z2.out.size)
          obtain ⟨S1, hS1⟩ : ∃ S1, S1 = strL (putI id) := ⟨_, rfl⟩
          obtain ⟨S2, hS2⟩ : ∃ S2, S2 = strOfNums (digs (ad : Int) 4) := ⟨_, rfl⟩
          rw [← hS1] at B1 z1 FIN
          rw [← hS2] at B2 z2 FIN
          have hXz : X.size ≤ 1000000000000000 := by omega
          have h2z : S2.size ≤ 4 := by omega
          replace hS1 := Lib.hid hS1
          replace hS2 := Lib.hid hS2
          replace z2 := Lib.hid z2
          clear BAD hrt tk OKS KW Z2
          go_upto_region 7 with fail
          rw [← hX]
          replace hX := Lib.hid hX
          refine wp_region_held (S := fun w' => w'.cell? ⟨g, o + 3 * i, none⟩ = some (.int .i64 id) ∧ w'.cell? ⟨g, o + 3 * i + 1, none⟩ = some (.int .u32 (ad : Int)) ∧ w'.cell? ⟨g, o + 3 * i + 2, none⟩ = some (.int .i64 bi)) (by kernel_rfl) ?_
          change wpAnyH _ .any _ _ _ 29 (Array.replicate 29 false) _ w2.drew
          generalize w2.drew = wd at *
          refine obTakeH (i := 0) (d := 27) (v := .string X) rfl rfl (by kernel_rfl) (by kernel_rfl) (by kernel_rfl) (fun _ _ _ h => h) rfl (fun w hS => by obtain ⟨s0, s1, s2⟩ := hS; go_simp) hS ?_
          refine obTakeH (i := 1) (d := 28) (v := .slice (some ⟨g, o, none⟩) M cap) rfl rfl (by kernel_rfl) (by kernel_rfl) (by kernel_rfl) (fun _ _ _ h => h) rfl (fun w hS => by obtain ⟨s0, s1, s2⟩ := hS; go_simp) hS ?_
          refine obTakeH (i := 2) (d := 29) (v := .int .i64 (i : Int)) rfl rfl (by kernel_rfl) (by kernel_rfl) (by kernel_rfl) (fun _ _ _ h => h) rfl (fun w hS => by obtain ⟨s0, s1, s2⟩ := hS; go_simp) hS ?_
          refine obTakeH (i := 3) (d := 30) (v := .pointer (some ⟨g, o + 3 * i, none⟩)) rfl rfl (by kernel_rfl) (by kernel_rfl) (by kernel_rfl) (fun _ _ _ h => h) rfl (fun w hS => by obtain ⟨s0, s1, s2⟩ := hS; go_simp) hS ?_
          refine obTakeH (i := 4) (d := 31) (v := .pointer (some ⟨g, o + 3 * i, none⟩)) rfl rfl (by kernel_rfl) (by kernel_rfl) (by kernel_rfl) (fun _ _ _ h => h) rfl (fun w hS => by obtain ⟨s0, s1, s2⟩ := hS; go_simp) hS ?_
          try simp only [Act.put, List.setIfInBounds_toArray, List.set_cons_succ, List.set_cons_zero]
          refine obTakeH (i := 5) (d := 32) (v := .int .i64 id) rfl rfl (by kernel_rfl) (by kernel_rfl) (by kernel_rfl) (fun _ _ _ h => h) rfl (fun w hS => by obtain ⟨s0, s1, s2⟩ := hS; go_simp) hS ?_
          refine obTakeH (i := 9) (d := 36) (v := .slice (some ⟨g, o, none⟩) M cap) rfl rfl (by kernel_rfl) (by kernel_rfl) (by kernel_rfl) (fun _ _ _ h => h) rfl (fun w hS => by obtain ⟨s0, s1, s2⟩ := hS; go_simp) hS ?_
          refine obTakeH (i := 10) (d := 37) (v := .int .i64 (i : Int)) rfl rfl (by kernel_rfl) (by kernel_rfl) (by kernel_rfl) (fun _ _ _ h => h) rfl (fun w hS => by obtain ⟨s0, s1, s2⟩ := hS; go_simp) hS ?_
          refine obTakeH (i := 11) (d := 38) (v := .pointer (some ⟨g, o + 3 * i, none⟩)) rfl rfl (by kernel_rfl) (by kernel_rfl) (by kernel_rfl) (fun _ _ _ h => h) rfl (fun w hS => by obtain ⟨s0, s1, s2⟩ := hS; go_simp) hS ?_
          refine obTakeH (i := 12) (d := 39) (v := .pointer (some ⟨g, o + 3 * i + 1, none⟩)) rfl rfl (by kernel_rfl) (by kernel_rfl) (by kernel_rfl) (fun _ _ _ h => h) rfl (fun w hS => by obtain ⟨s0, s1, s2⟩ := hS; go_simp) hS ?_
          try simp only [Act.put, List.setIfInBounds_toArray, List.set_cons_succ, List.set_cons_zero]
          refine obTakeH (i := 13) (d := 40) (v := .pointer (some ⟨g, o + 3 * i + 1, none⟩)) rfl rfl (by kernel_rfl) (by kernel_rfl) (by kernel_rfl) (fun _ _ _ h => h) rfl (fun w hS => by obtain ⟨s0, s1, s2⟩ := hS; go_simp) hS ?_
          refine obTakeH (i := 14) (d := 41) (v := .int .u32 (ad : Int)) rfl rfl (by kernel_rfl) (by kernel_rfl) (by kernel_rfl) (fun _ _ _ h => h) rfl (fun w hS => by obtain ⟨s0, s1, s2⟩ := hS; go_simp) hS ?_
          refine obTakeH (i := 15) (d := 42) (v := .int .i64 (ad : Int)) rfl rfl (by kernel_rfl) (by kernel_rfl) (by kernel_rfl) (fun _ _ _ h => h) rfl (fun w hS => by obtain ⟨s0, s1, s2⟩ := hS; go_simp) hS ?_
          refine obTakeH (i := 18) (d := 45) (v := .slice (some ⟨g, o, none⟩) M cap) rfl rfl (by kernel_rfl) (by kernel_rfl) (by kernel_rfl) (fun _ _ _ h => h) rfl (fun w hS => by obtain ⟨s0, s1, s2⟩ := hS; go_simp) hS ?_
          refine obTakeH (i := 19) (d := 46) (v := .int .i64 (i : Int)) rfl rfl (by kernel_rfl) (by kernel_rfl) (by kernel_rfl) (fun _ _ _ h => h) rfl (fun w hS => by obtain ⟨s0, s1, s2⟩ := hS; go_simp) hS ?_
          try simp only [Act.put, List.setIfInBounds_toArray, List.set_cons_succ, List.set_cons_zero]
          refine obTakeH (i := 20) (d := 47) (v := .pointer (some ⟨g, o + 3 * i, none⟩)) rfl rfl (by kernel_rfl) (by kernel_rfl) (by kernel_rfl) (fun _ _ _ h => h) rfl (fun w hS => by obtain ⟨s0, s1, s2⟩ := hS; go_simp) hS ?_
          refine obTakeH (i := 21) (d := 48) (v := .pointer (some ⟨g, o + 3 * i + 1, none⟩)) rfl rfl (by kernel_rfl) (by kernel_rfl) (by kernel_rfl) (fun _ _ _ h => h) rfl (fun w hS => by obtain ⟨s0, s1, s2⟩ := hS; go_simp) hS ?_
          refine obTakeH (i := 22) (d := 49) (v := .pointer (some ⟨g, o + 3 * i + 2, none⟩)) rfl rfl (by kernel_rfl) (by kernel_rfl) (by kernel_rfl) (fun _ _ _ h => h) rfl (fun w hS => by obtain ⟨s0, s1, s2⟩ := hS; go_simp) hS ?_
          refine obTakeH (i := 23) (d := 50) (v := .int .i64 bi) rfl rfl (by kernel_rfl) (by kernel_rfl) (by kernel_rfl) (fun _ _ _ h => h) rfl (fun w hS => by obtain ⟨s0, s1, s2⟩ := hS; go_simp) hS ?_
          refine obTakeH (i := 24) (d := 51) (v := .int .u8 bi) rfl rfl (by kernel_rfl) (by kernel_rfl) (by kernel_rfl) (fun _ _ _ h => h) rfl (fun w hS => by obtain ⟨s0, s1, s2⟩ := hS; go_simp) hS ?_
          try simp only [Act.put, List.setIfInBounds_toArray, List.set_cons_succ, List.set_cons_zero]
          try simp only [Act.put, List.setIfInBounds_toArray, List.set_cons_succ, List.set_cons_zero]
          refine wpAnyH_all (rs := [6, 25]) (by kernel_rfl) (by simp) (fun y hy => ?_)
          have hy2 : y = 6 ∨ y = 25 := by simpa using hy
          clear hy
          rcases hy2 with rfl | rfl
          · refine wpOp_step rfl (fun K' hK => ?_)
            refine obCall1g (k1 := 32) (d := 33) (x1 := .int .i64 id) 35 _ rfl rfl _ _ _ _ (hcp _) rfl (B1.out _) (fun e wc1 hR => ?_)
            obtain ⟨rfl, b1⟩ := hR
            have hS1 := KS.out wc1 (BB.trans (b1.mono BB.size))
            refine ⟨_, rfl, hK _ _ ⟨hS1, ?_⟩⟩
            replace hS := hS1
            replace BB := BB.trans (b1.mono BB.size)
            clear hK K' b1 hS1
            try simp only [Act.put, List.setIfInBounds_toArray, List.set_cons_succ, List.set_cons_zero]
            refine obTakeH (i := 7) (d := 34) (v := .string (X ++ S1)) rfl rfl (by kernel_rfl) (by kernel_rfl) (by kernel_rfl) (fun _ _ _ h => h) rfl (fun w hS => by obtain ⟨s0, s1, s2⟩ := hS; go_simp <;> omega) hS ?_
            refine obTakeH (i := 8) (d := 35) (v := .string (X ++ S1 ++ ⟨#[4]⟩)) rfl rfl (by kernel_rfl) (by kernel_rfl) (by kernel_rfl) (fun _ _ _ h => h) rfl (fun w hS => by obtain ⟨s0, s1, s2⟩ := hS; go_simp <;> omega) hS ?_
            try simp only [Act.put, List.setIfInBounds_toArray, List.set_cons_succ, List.set_cons_zero]
            refine wpAnyH_all (rs := [16, 25]) (by kernel_rfl) (by simp) (fun y hy => ?_)
            have hy2 : y = 16 ∨ y = 25 := by simpa using hy
            clear hy
            rcases hy2 with rfl | rfl
            · refine wpOp_step rfl (fun K' hK => ?_)
              refine obCallTC (k1 := 42) (d := 43) (x1 := .int .i64 (ad : Int)) (c := .int .i64 4) 52 _ rfl rfl _ _ _ _ (hcf _ _) rfl (B2.out _) (fun e wc2 hR => ?_)
              obtain ⟨rfl, b2⟩ := hR
              have hS2 := KS.out wc2 (BB.trans (b2.mono BB.size))
              refine ⟨_, rfl, hK _ _ ⟨hS2, ?_⟩⟩
              replace hS := hS2
              replace BB := BB.trans (b2.mono BB.size)
              clear hK K' b2 hS2
              try simp only [Act.put, List.setIfInBounds_toArray, List.set_cons_succ, List.set_cons_zero]
              refine obTakeH (i := 17) (d := 44) (v := .string (X ++ S1 ++ ⟨#[4]⟩ ++ S2)) rfl rfl (by kernel_rfl) (by kernel_rfl) (by kernel_rfl) (fun _ _ _ h => h) rfl (fun w hS => by obtain ⟨s0, s1, s2⟩ := hS; go_simp <;> omega) hS ?_
              try simp only [Act.put, List.setIfInBounds_toArray, List.set_cons_succ, List.set_cons_zero]
              refine wpAnyH_all (rs := [25]) (by kernel_rfl) (by simp) (fun y hy => ?_)
              obtain rfl : y = 25 := by simpa using hy
              clear hy
              refine wpOp_step rfl (fun K' hK => ?_)
              have BA3 := BB.alloc BB.size (.cells #[.int .u8 bi] 5)
              have hS3 := KS.out _ BA3
              have nA : (wc2.alloc (.cells #[.int .u8 bi] 5)).cell? ⟨wc2.heap.size, 0, none⟩ = some (.int .u8 bi) := World.cell?_alloc_new _ _ _ 0
              go_simp
              refine hK _ _ ⟨hS3, ?_⟩
              clear hK K'
              replace hS := hS3
              replace BB := BA3
              clear hS3 BA3
              generalize wc2.alloc (.cells #[.int .u8 bi] 5) = wa3 at *
              generalize wc2.heap.size = KB3 at *
              try simp only [Act.put, List.setIfInBounds_toArray, List.set_cons_succ, List.set_cons_zero]
              refine wpAnyH_all (rs := [26]) (by kernel_rfl) (by simp) (fun y hy => ?_)
              obtain rfl : y = 26 := by simpa using hy
              clear hy
              refine wpOp_step rfl (fun K' hK => ?_)
              have cv := conv1_later (c := 1) nA
              go_simp
              refine hK _ _ ⟨hS, ?_⟩
              clear hK K' cv nA
              try simp only [Act.put, List.setIfInBounds_toArray, List.set_cons_succ, List.set_cons_zero]
              refine obTakeH (i := 27) (d := 54) (v := .string (X ++ S1 ++ ⟨#[4]⟩ ++ S2 ++ strOfNums [bi])) rfl rfl (by kernel_rfl) (by kernel_rfl) (by kernel_rfl) (fun _ _ _ h => h) rfl (fun w hS => by obtain ⟨s0, s1, s2⟩ := hS; go_simp <;> omega) hS ?_
              refine obTakeH (i := 28) (d := 3) (v := .string (X ++ S1 ++ ⟨#[4]⟩ ++ S2 ++ strOfNums [bi])) rfl rfl (by kernel_rfl) (by kernel_rfl) (by kernel_rfl) (fun _ _ _ h => h) rfl (fun w hS => by obtain ⟨s0, s1, s2⟩ := hS; go_simp) hS ?_
              try simp only [Act.put, List.setIfInBounds_toArray, List.set_cons_succ, List.set_cons_zero]
              refine wpAnyH_done (by kernel_rfl) ?_ 0
              have NN := Lib.hid (And.intro OK2.out (NX.out wa3 BB))
              clear BB hS NX KS B1 B2 OK2
              go_wp2_with fail
              go_roundg (M - (i + 1))
              case measure => omega
              case rel => exact ⟨i + 1, by omega, by simp, by rw [FIN.out], NN⟩
            · refine wpOp_step rfl (fun K' hK => ?_)
              have BA5 := BB.alloc BB.size (.cells #[.int .u8 bi] 5)
              have hS5 := KS.out _ BA5
              have nA : (wc1.alloc (.cells #[.int .u8 bi] 5)).cell? ⟨wc1.heap.size, 0, none⟩ = some (.int .u8 bi) := World.cell?_alloc_new _ _ _ 0
              go_simp
              refine hK _ _ ⟨hS5, ?_⟩
              clear hK K'
              replace hS := hS5
              replace BB := BA5
              clear hS5 BA5
              generalize wc1.alloc (.cells #[.int .u8 bi] 5) = wa5 at *
              generalize wc1.heap.size = KB5 at *
              try simp only [Act.put, List.setIfInBounds_toArray, List.set_cons_succ, List.set_cons_zero]
              refine wpAnyH_all (rs := [16, 26]) (by kernel_rfl) (by simp) (fun y hy => ?_)
              have hy2 : y = 16 ∨ y = 26 := by simpa using hy
              clear hy
              rcases hy2 with rfl | rfl
              · refine wpOp_step rfl (fun K' hK => ?_)
                refine obCallTC (k1 := 42) (d := 43) (x1 := .int .i64 (ad : Int)) (c := .int .i64 4) 52 _ rfl rfl _ _ _ _ (hcf _ _) rfl (B2.out _) (fun e wc6 hR => ?_)
                obtain ⟨rfl, b6⟩ := hR
                have hS6 := KS.out wc6 (BB.trans (b6.mono BB.size))
                refine ⟨_, rfl, hK _ _ ⟨hS6, ?_⟩⟩
                replace hS := hS6
                replace BB := BB.trans (b6.mono BB.size)
                replace nA := byte_keep b6 _ nA
                clear hK K' b6 hS6
                try simp only [Act.put, List.setIfInBounds_toArray, List.set_cons_succ, List.set_cons_zero]
                refine obTakeH (i := 17) (d := 44) (v := .string (X ++ S1 ++ ⟨#[4]⟩ ++ S2)) rfl rfl (by kernel_rfl) (by kernel_rfl) (by kernel_rfl) (fun _ _ _ h => h) rfl (fun w hS => by obtain ⟨s0, s1, s2⟩ := hS; go_simp <;> omega) hS ?_
                try simp only [Act.put, List.setIfInBounds_toArray, List.set_cons_succ, List.set_cons_zero]
                refine wpAnyH_all (rs := [26]) (by kernel_rfl) (by simp) (fun y hy => ?_)
                obtain rfl : y = 26 := by simpa using hy
                clear hy
                refine wpOp_step rfl (fun K' hK => ?_)
                have cv := conv1_later (c := 1) nA
                go_simp
                refine hK _ _ ⟨hS, ?_⟩
                clear hK K' cv nA
                try simp only [Act.put, List.setIfInBounds_toArray, List.set_cons_succ, List.set_cons_zero]
                refine obTakeH (i := 27) (d := 54) (v := .string (X ++ S1 ++ ⟨#[4]⟩ ++ S2 ++ strOfNums [bi])) rfl rfl (by kernel_rfl) (by kernel_rfl) (by kernel_rfl) (fun _ _ _ h => h) rfl (fun w hS => by obtain ⟨s0, s1, s2⟩ := hS; go_simp <;> omega) hS ?_
                refine obTakeH (i := 28) (d := 3) (v := .string (X ++ S1 ++ ⟨#[4]⟩ ++ S2 ++ strOfNums [bi])) rfl rfl (by kernel_rfl) (by kernel_rfl) (by kernel_rfl) (fun _ _ _ h => h) rfl (fun w hS => by obtain ⟨s0, s1, s2⟩ := hS; go_simp) hS ?_
                try simp only [Act.put, List.setIfInBounds_toArray, List.set_cons_succ, List.set_cons_zero]
                refine wpAnyH_done (by kernel_rfl) ?_ 0
                have NN := Lib.hid (And.intro OK2.out (NX.out wc6 BB))
                clear BB hS NX KS B1 B2 OK2
                go_wp2_with fail
                go_roundg (M - (i + 1))
                case measure => omega
                case rel => exact ⟨i + 1, by omega, by simp, by rw [FIN.out], NN⟩
              · refine wpOp_step rfl (fun K' hK => ?_)
                have cv := conv1_later (c := 1) nA
                go_simp
                refine hK _ _ ⟨hS, ?_⟩
                clear hK K' cv nA
                try simp only [Act.put, List.setIfInBounds_toArray, List.set_cons_succ, List.set_cons_zero]
                refine wpAnyH_all (rs := [16]) (by kernel_rfl) (by simp) (fun y hy => ?_)
                obtain rfl : y = 16 := by simpa using hy
                clear hy
                refine wpOp_step rfl (fun K' hK => ?_)
                refine obCallTC (k1 := 42) (d := 43) (x1 := .int .i64 (ad : Int)) (c := .int .i64 4) 52 _ rfl rfl _ _ _ _ (hcf _ _) rfl (B2.out _) (fun e wc9 hR => ?_)
                obtain ⟨rfl, b9⟩ := hR
                have hS9 := KS.out wc9 (BB.trans (b9.mono BB.size))
                refine ⟨_, rfl, hK _ _ ⟨hS9, ?_⟩⟩
                replace hS := hS9
                replace BB := BB.trans (b9.mono BB.size)
                clear hK K' b9 hS9
                try simp only [Act.put, List.setIfInBounds_toArray, List.set_cons_succ, List.set_cons_zero]
                refine obTakeH (i := 17) (d := 44) (v := .string (X ++ S1 ++ ⟨#[4]⟩ ++ S2)) rfl rfl (by kernel_rfl) (by kernel_rfl) (by kernel_rfl) (fun _ _ _ h => h) rfl (fun w hS => by obtain ⟨s0, s1, s2⟩ := hS; go_simp <;> omega) hS ?_
                try simp only [Act.put, List.setIfInBounds_toArray, List.set_cons_succ, List.set_cons_zero]
                refine obTakeH (i := 27) (d := 54) (v := .string (X ++ S1 ++ ⟨#[4]⟩ ++ S2 ++ strOfNums [bi])) rfl rfl (by kernel_rfl) (by kernel_rfl) (by kernel_rfl) (fun _ _ _ h => h) rfl (fun w hS => by obtain ⟨s0, s1, s2⟩ := hS; go_simp <;> omega) hS ?_
                refine obTakeH (i := 28) (d := 3) (v := .string (X ++ S1 ++ ⟨#[4]⟩ ++ S2 ++ strOfNums [bi])) rfl rfl (by kernel_rfl) (by kernel_rfl) (by kernel_rfl) (fun _ _ _ h => h) rfl (fun w hS => by obtain ⟨s0, s1, s2⟩ := hS; go_simp) hS ?_
                try simp only [Act.put, List.setIfInBounds_toArray, List.set_cons_succ, List.set_cons_zero]
                refine wpAnyH_done (by kernel_rfl) ?_ 0
                have NN := Lib.hid (And.intro OK2.out (NX.out wc9 BB))
                clear BB hS NX KS B1 B2 OK2
                go_wp2_with fail
                go_roundg (M - (i + 1))
                case measure => omega
                case rel => exact ⟨i + 1, by omega, by simp, by rw [FIN.out], NN⟩
          · refine wpOp_step rfl (fun K' hK => ?_)
            have BA10 := BB.alloc BB.size (.cells #[.int .u8 bi] 5)
            have hS10 := KS.out _ BA10
            have nA : (wd.alloc (.cells #[.int .u8 bi] 5)).cell? ⟨wd.heap.size, 0, none⟩ = some (.int .u8 bi) := World.cell?_alloc_new _ _ _ 0
            go_simp
            refine hK _ _ ⟨hS10, ?_⟩
            clear hK K'
            replace hS := hS10
            replace BB := BA10
            clear hS10 BA10
            generalize wd.alloc (.cells #[.int .u8 bi] 5) = wa10 at *
            generalize wd.heap.size = KB10 at *
            try simp only [Act.put, List.setIfInBounds_toArray, List.set_cons_succ, List.set_cons_zero]
            refine wpAnyH_all (rs := [6, 26]) (by kernel_rfl) (by simp) (fun y hy => ?_)
            have hy2 : y = 6 ∨ y = 26 := by simpa using hy
            clear hy
            rcases hy2 with rfl | rfl
            · refine wpOp_step rfl (fun K' hK => ?_)
              refine obCall1g (k1 := 32) (d := 33) (x1 := .int .i64 id) 35 _ rfl rfl _ _ _ _ (hcp _) rfl (B1.out _) (fun e wc11 hR => ?_)
              obtain ⟨rfl, b11⟩ := hR
              have hS11 := KS.out wc11 (BB.trans (b11.mono BB.size))
              refine ⟨_, rfl, hK _ _ ⟨hS11, ?_⟩⟩
              replace hS := hS11
              replace BB := BB.trans (b11.mono BB.size)
              replace nA := byte_keep b11 _ nA
              clear hK K' b11 hS11
              try simp only [Act.put, List.setIfInBounds_toArray, List.set_cons_succ, List.set_cons_zero]
              refine obTakeH (i := 7) (d := 34) (v := .string (X ++ S1)) rfl rfl (by kernel_rfl) (by kernel_rfl) (by kernel_rfl) (fun _ _ _ h => h) rfl (fun w hS => by obtain ⟨s0, s1, s2⟩ := hS; go_simp <;> omega) hS ?_
              refine obTakeH (i := 8) (d := 35) (v := .string (X ++ S1 ++ ⟨#[4]⟩)) rfl rfl (by kernel_rfl) (by kernel_rfl) (by kernel_rfl) (fun _ _ _ h => h) rfl (fun w hS => by obtain ⟨s0, s1, s2⟩ := hS; go_simp <;> omega) hS ?_
              try simp only [Act.put, List.setIfInBounds_toArray, List.set_cons_succ, List.set_cons_zero]
              refine wpAnyH_all (rs := [16, 26]) (by kernel_rfl) (by simp) (fun y hy => ?_)
              have hy2 : y = 16 ∨ y = 26 := by simpa using hy
              clear hy
              rcases hy2 with rfl | rfl
              · refine wpOp_step rfl (fun K' hK => ?_)
                refine obCallTC (k1 := 42) (d := 43) (x1 := .int .i64 (ad : Int)) (c := .int .i64 4) 52 _ rfl rfl _ _ _ _ (hcf _ _) rfl (B2.out _) (fun e wc12 hR => ?_)
                obtain ⟨rfl, b12⟩ := hR
                have hS12 := KS.out wc12 (BB.trans (b12.mono BB.size))
                refine ⟨_, rfl, hK _ _ ⟨hS12, ?_⟩⟩
                replace hS := hS12
                replace BB := BB.trans (b12.mono BB.size)
                replace nA := byte_keep b12 _ nA
                clear hK K' b12 hS12
                try simp only [Act.put, List.setIfInBounds_toArray, List.set_cons_succ, List.set_cons_zero]
                refine obTakeH (i := 17) (d := 44) (v := .string (X ++ S1 ++ ⟨#[4]⟩ ++ S2)) rfl rfl (by kernel_rfl) (by kernel_rfl) (by kernel_rfl) (fun _ _ _ h => h) rfl (fun w hS => by obtain ⟨s0, s1, s2⟩ := hS; go_simp <;> omega) hS ?_
                try simp only [Act.put, List.setIfInBounds_toArray, List.set_cons_succ, List.set_cons_zero]
                refine wpAnyH_all (rs := [26]) (by kernel_rfl) (by simp) (fun y hy => ?_)
                obtain rfl : y = 26 := by simpa using hy
                clear hy
                refine wpOp_step rfl (fun K' hK => ?_)
                have cv := conv1_later (c := 1) nA
                go_simp
                refine hK _ _ ⟨hS, ?_⟩
                clear hK K' cv nA
                try simp only [Act.put, List.setIfInBounds_toArray, List.set_cons_succ, List.set_cons_zero]
                refine obTakeH (i := 27) (d := 54) (v := .string (X ++ S1 ++ ⟨#[4]⟩ ++ S2 ++ strOfNums [bi])) rfl rfl (by kernel_rfl) (by kernel_rfl) (by kernel_rfl) (fun _ _ _ h => h) rfl (fun w hS => by obtain ⟨s0, s1, s2⟩ := hS; go_simp <;> omega) hS ?_
                refine obTakeH (i := 28) (d := 3) (v := .string (X ++ S1 ++ ⟨#[4]⟩ ++ S2 ++ strOfNums [bi])) rfl rfl (by kernel_rfl) (by kernel_rfl) (by kernel_rfl) (fun _ _ _ h => h) rfl (fun w hS => by obtain ⟨s0, s1, s2⟩ := hS; go_simp) hS ?_
                try simp only [Act.put, List.setIfInBounds_toArray, List.set_cons_succ, List.set_cons_zero]
                refine wpAnyH_done (by kernel_rfl) ?_ 0
                have NN := Lib.hid (And.intro OK2.out (NX.out wc12 BB))
                clear BB hS NX KS B1 B2 OK2
                go_wp2_with fail
                go_roundg (M - (i + 1))
                case measure => omega
                case rel => exact ⟨i + 1, by omega, by simp, by rw [FIN.out], NN⟩
              · refine wpOp_step rfl (fun K' hK => ?_)
                have cv := conv1_later (c := 1) nA
                go_simp
                refine hK _ _ ⟨hS, ?_⟩
                clear hK K' cv nA
                try simp only [Act.put, List.setIfInBounds_toArray, List.set_cons_succ, List.set_cons_zero]
                refine wpAnyH_all (rs := [16]) (by kernel_rfl) (by simp) (fun y hy => ?_)
                obtain rfl : y = 16 := by simpa using hy
                clear hy
                refine wpOp_step rfl (fun K' hK => ?_)
                refine obCallTC (k1 := 42) (d := 43) (x1 := .int .i64 (ad : Int)) (c := .int .i64 4) 52 _ rfl rfl _ _ _ _ (hcf _ _) rfl (B2.out _) (fun e wc15 hR => ?_)
                obtain ⟨rfl, b15⟩ := hR
                have hS15 := KS.out wc15 (BB.trans (b15.mono BB.size))
                refine ⟨_, rfl, hK _ _ ⟨hS15, ?_⟩⟩
                replace hS := hS15
                replace BB := BB.trans (b15.mono BB.size)
                clear hK K' b15 hS15
                try simp only [Act.put, List.setIfInBounds_toArray, List.set_cons_succ, List.set_cons_zero]
                refine obTakeH (i := 17) (d := 44) (v := .string (X ++ S1 ++ ⟨#[4]⟩ ++ S2)) rfl rfl (by kernel_rfl) (by kernel_rfl) (by kernel_rfl) (fun _ _ _ h => h) rfl (fun w hS => by obtain ⟨s0, s1, s2⟩ := hS; go_simp <;> omega) hS ?_
                try simp only [Act.put, List.setIfInBounds_toArray, List.set_cons_succ, List.set_cons_zero]
                refine obTakeH (i := 27) (d := 54) (v := .string (X ++ S1 ++ ⟨#[4]⟩ ++ S2 ++ strOfNums [bi])) rfl rfl (by kernel_rfl) (by kernel_rfl) (by kernel_rfl) (fun _ _ _ h => h) rfl (fun w hS => by obtain ⟨s0, s1, s2⟩ := hS; go_simp <;> omega) hS ?_
                refine obTakeH (i := 28) (d := 3) (v := .string (X ++ S1 ++ ⟨#[4]⟩ ++ S2 ++ strOfNums [bi])) rfl rfl (by kernel_rfl) (by kernel_rfl) (by kernel_rfl) (fun _ _ _ h => h) rfl (fun w hS => by obtain ⟨s0, s1, s2⟩ := hS; go_simp) hS ?_
                try simp only [Act.put, List.setIfInBounds_toArray, List.set_cons_succ, List.set_cons_zero]
                refine wpAnyH_done (by kernel_rfl) ?_ 0
                have NN := Lib.hid (And.intro OK2.out (NX.out wc15 BB))
                clear BB hS NX KS B1 B2 OK2
                go_wp2_with fail
                go_roundg (M - (i + 1))
                case measure => omega
                case rel => exact ⟨i + 1, by omega, by simp, by rw [FIN.out], NN⟩
            · refine wpOp_step rfl (fun K' hK => ?_)
              have cv := conv1_later (c := 1) nA
              go_simp
              refine hK _ _ ⟨hS, ?_⟩
              clear hK K' cv nA
              try simp only [Act.put, List.setIfInBounds_toArray, List.set_cons_succ, List.set_cons_zero]
              refine wpAnyH_all (rs := [6]) (by kernel_rfl) (by simp) (fun y hy => ?_)
              obtain rfl : y = 6 := by simpa using hy
              clear hy
              refine wpOp_step rfl (fun K' hK => ?_)
              refine obCall1g (k1 := 32) (d := 33) (x1 := .int .i64 id) 35 _ rfl rfl _ _ _ _ (hcp _) rfl (B1.out _) (fun e wc17 hR => ?_)
              obtain ⟨rfl, b17⟩ := hR
              have hS17 := KS.out wc17 (BB.trans (b17.mono BB.size))
              refine ⟨_, rfl, hK _ _ ⟨hS17, ?_⟩⟩
              replace hS := hS17
              replace BB := BB.trans (b17.mono BB.size)
              clear hK K' b17 hS17
              try simp only [Act.put, List.setIfInBounds_toArray, List.set_cons_succ, List.set_cons_zero]
              refine obTakeH (i := 7) (d := 34) (v := .string (X ++ S1)) rfl rfl (by kernel_rfl) (by kernel_rfl) (by kernel_rfl) (fun _ _ _ h => h) rfl (fun w hS => by obtain ⟨s0, s1, s2⟩ := hS; go_simp <;> omega) hS ?_
              refine obTakeH (i := 8) (d := 35) (v := .string (X ++ S1 ++ ⟨#[4]⟩)) rfl rfl (by kernel_rfl) (by kernel_rfl) (by kernel_rfl) (fun _ _ _ h => h) rfl (fun w hS => by obtain ⟨s0, s1, s2⟩ := hS; go_simp <;> omega) hS ?_
              try simp only [Act.put, List.setIfInBounds_toArray, List.set_cons_succ, List.set_cons_zero]
              refine wpAnyH_all (rs := [16]) (by kernel_rfl) (by simp) (fun y hy => ?_)
              obtain rfl : y = 16 := by simpa using hy
              clear hy
              refine wpOp_step rfl (fun K' hK => ?_)
              refine obCallTC (k1 := 42) (d := 43) (x1 := .int .i64 (ad : Int)) (c := .int .i64 4) 52 _ rfl rfl _ _ _ _ (hcf _ _) rfl (B2.out _) (fun e wc18 hR => ?_)
              obtain ⟨rfl, b18⟩ := hR
              have hS18 := KS.out wc18 (BB.trans (b18.mono BB.size))
              refine ⟨_, rfl, hK _ _ ⟨hS18, ?_⟩⟩
              replace hS := hS18
              replace BB := BB.trans (b18.mono BB.size)
              clear hK K' b18 hS18
              try simp only [Act.put, List.setIfInBounds_toArray, List.set_cons_succ, List.set_cons_zero]
              refine obTakeH (i := 17) (d := 44) (v := .string (X ++ S1 ++ ⟨#[4]⟩ ++ S2)) rfl rfl (by kernel_rfl) (by kernel_rfl) (by kernel_rfl) (fun _ _ _ h => h) rfl (fun w hS => by obtain ⟨s0, s1, s2⟩ := hS; go_simp <;> omega) hS ?_
              try simp only [Act.put, List.setIfInBounds_toArray, List.set_cons_succ, List.set_cons_zero]
              refine obTakeH (i := 27) (d := 54) (v := .string (X ++ S1 ++ ⟨#[4]⟩ ++ S2 ++ strOfNums [bi])) rfl rfl (by kernel_rfl) (by kernel_rfl) (by kernel_rfl) (fun _ _ _ h => h) rfl (fun w hS => by obtain ⟨s0, s1, s2⟩ := hS; go_simp <;> omega) hS ?_
              refine obTakeH (i := 28) (d := 3) (v := .string (X ++ S1 ++ ⟨#[4]⟩ ++ S2 ++ strOfNums [bi])) rfl rfl (by kernel_rfl) (by kernel_rfl) (by kernel_rfl) (fun _ _ _ h => h) rfl (fun w hS => by obtain ⟨s0, s1, s2⟩ := hS; go_simp) hS ?_
              try simp only [Act.put, List.setIfInBounds_toArray, List.set_cons_succ, List.set_cons_zero]
              refine wpAnyH_done (by kernel_rfl) ?_ 0
              have NN := Lib.hid (And.intro OK2.out (NX.out wc18 BB))
              clear BB hS NX KS B1 B2 OK2
              go_wp2_with fail
              go_roundg (M - (i + 1))
              case measure => omega
              case rel => exact ⟨i + 1, by omega, by simp, by rw [FIN.out], NN⟩
      · rw [decide_eq_false hn] at RN
        have E := Lib.hid (BAD.out (fun c => hn c.1))
        clear BAD tk OKS KW CK
        go_wp2_with fail
        refine RN.out.mono ?_
        rintro e w2 ⟨rfl, rfl⟩
        clear RN
        go_wp2_with fail
        go_ret
        exact ⟨by rw [E.out]; rfl, ZZ.out⟩
    · have e : l.take i = l := List.take_of_length_le (by have := hM.out; omega)
      have h := ZI.out.1
      rw [e] at h
      have E : strL ((l.take i).flatMap adB) = OUT := by rw [e, hOUT.out, asg_ok h]
      rw [E]
      have ZZ := Lib.hid ZI.out.2
      clear CC HB E ZI e h
      go_wp2_with fail
      go_ret
      exact ⟨rfl, ZZ.out⟩
end Go.Proofs.YtihkbakbciejiaaDoor
