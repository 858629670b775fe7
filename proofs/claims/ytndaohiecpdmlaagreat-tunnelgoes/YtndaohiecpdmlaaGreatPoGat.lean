/-
  What the program's own gatherPorts leaves in its set. No condition but that the rules are right.
-/
import Derived.Test.YtndaohiecpdmlaaGreatMgF
import Derived.Test.YtndaohiecpdmlaaGreatObSetU
namespace Go.Proofs.YtndaohiecpdmlaaGreat
set_option maxRecDepth 100000
open Go.RowKit Go.Sort

/-- The ports at which a rule that concerns an address begins, or is over. -/
def gatB (l : List Ru) (p a q : Int) : Bool := l.any fun r => con r p a && (decide (q = r.fr) || decide (q = r.up + 1))
theorem gatB_take (l : List Ru) (p a q : Int) (k : Nat) (hk : k < l.length) : gatB (l.take (k + 1)) p a q = (gatB (l.take k) p a q || (con (l.getD k ru0) p a && (decide (q = (l.getD k ru0).fr) || decide (q = (l.getD k ru0).up + 1)))) := by
  unfold gatB
  rw [List.take_add_one, List.any_append, List.getElem?_eq_getElem hk, List.getD_eq_getElem?_getD, List.getElem?_eq_getElem hk]
  simp
theorem SetU.same {w : World} {b n : Nat} {S T : Int → Bool} (h : SetU w b n S) (e : ∀ q, S q = T q) : SetU w b n T := by
  have : S = T := funext e
  exact this ▸ h
theorem RBox.other {w w' : World} {A b : Nat} {r : Ru} (h : RBox w A r) (g : w.grownBy w' (some b)) (hA : A ≠ b) : RBox w' A r := by
  have e := g.block A h.lt (by intro q; injection q with q; exact hA q)
  exact ⟨Nat.lt_of_lt_of_le h.lt g.size, (World.cell?_of_block (a := ⟨A, 0, none⟩) e).trans h.c0, (World.cell?_of_block (a := ⟨A, 1, none⟩) e).trans h.c1, (World.cell?_of_block (a := ⟨A, 2, none⟩) e).trans h.c2, (World.cell?_of_block (a := ⟨A, 3, none⟩) e).trans h.c3, (World.cell?_of_block (a := ⟨A, 4, none⟩) e).trans h.c4, (World.cell?_of_block (a := ⟨A, 5, none⟩) e).trans h.c5⟩
set_option maxHeartbeats 8000000 in
theorem gat_ok (l : List Ru) (v : Value) (b n : Nat) (S : Int → Bool) (p a : Int) (b0 : 0 ≤ a) (b1 : a < 4294967296) (w : World) (h : RusAt w v l) (hvb : 0 < l.length → ∀ g o m c, v = .slice (some ⟨g, o, none⟩) m c → g ≠ b) (HB : ∀ r ∈ l, RuB r) (HR : ∀ r ∈ l, ruR r = true) (hl : l.length ≤ 32) (hS : SetU w b n S) (hn : n ≤ 1000000) :
    Calls Tryz.prog 64 #[.map (some b), v, .int .i64 p, .int .u32 a] w fun e w' => e = .returned (.tuple #[]) ∧ SetU w' b (n + 64) (fun q => S q || gatB l p a q) ∧ Kept (· = b) w w' := by
  have H := Lib.hid h
  obtain ⟨ad', c', rfl, -, -⟩ := h
  replace HB := Lib.hid HB
  replace HR := Lib.hid HR
  replace hvb := Lib.hid hvb
  obtain ⟨m, hm⟩ : ∃ m, m = l.length := ⟨_, rfl⟩
  rw [← hm] at H hl hvb ⊢
  replace hm := Lib.hid hm
  have hml : m ≤ 9223372036854775807 := by omega
  have S0 : Hid (SetU w b (n + 2 * 0) (fun q => S q || gatB (l.take 0) p a q)) := hS.same fun q => by simp [gatB]
  clear hS
  go_enter Tryz.func64, Tryz.ntmps64
  go_wp2_with fail
  go_loopg [12] m (fun g' iv wr => ∃ k : Nat, k + g' = m ∧ iv = .int .i64 k ∧ Hid (SetU wr b (n + 2 * k) (fun q => S q || gatB (l.take k) p a q)) ∧ Hid (Kept (· = b) w wr))
  case atStart => exact ⟨0, by omega, rfl, S0.out, .refl _ _⟩
  case round =>
    obtain ⟨k, hk, rfl, SS, kp⟩ := hrel
    by_cases hlt : k < m
    · have g1 : decide ((k : Int) < (m : Int)) = true := decide_eq_true (by omega)
      have g1' : decide (k < m) = true := decide_eq_true hlt
      have H1 := Lib.hid (H.out.kept kp.out fun _ g o m' c e => hvb.out (by omega) g o m' c e)
      have hkl : k < l.length := by rw [← hm.out]; exact hlt
      obtain ⟨g, o, cap, e0, hg, m0, m1, m2, m3, m4, m5⟩ := H1.out.at (k := k) hkl rfl
      injection e0 with e1 e2 e3
      subst e1 e3
      clear e2
      have ia := fun w' => at_rus g o m c' k w' hlt (k : Int) rfl (o + 6 * k) rfl
      have hmem : l.getD k ru0 ∈ l := by rw [List.getD_eq_getElem?_getD, List.getElem?_eq_getElem hkl]; exact List.getElem_mem _
      have hbr := HB.out _ hmem
      have hwr := ruR_w (HR.out _ hmem)
      have T1 := Lib.hid (fun q => gatB_take l p a q k hkl)
      obtain ⟨r, hr⟩ : ∃ r, r = l.getD k ru0 := ⟨_, rfl⟩
      rw [← hr] at m0 m1 m2 m3 m4 m5 hbr hwr T1
      clear hr hmem
      have C := Lib.hid (con_ok r hbr p a b0 b1 (wr.alloc (ruO r)))
      have bf := hwr.f0
      have bu := hwr.u1
      have bfu := hwr.fu
      clear hbr hwr
      have bx := box_below wr (ruO r)
      have X := RBox.new wr r
      have lt : wr.heap.size < (wr.alloc (ruO r)).heap.size := by simp
      obtain ⟨al, pro, ad, bits, fr, up⟩ := r
      unfold ruV at C
      unfold ruO at X bx lt
      simp only at *
      have SS1 := Lib.hid (SS.out.keep bx)
      have kp1 := Lib.hid (kp.out.add bx)
      have lb : b < wr.heap.size := SS.out.lt
      clear bx kp SS
      obtain ⟨T, hT⟩ : ∃ T, con ⟨al, pro, ad, bits, fr, up⟩ p a = T := ⟨_, rfl⟩
      rw [hT] at C T1
      clear hT
      go_wp2_with fail
      refine C.out.mono ?_
      rintro e w1 ⟨rfl, b2⟩
      have SS2 := Lib.hid (SS1.out.keep b2)
      have kp2 := Lib.hid (kp1.out.add b2)
      have X1 := Lib.hid (X.keep lt b2)
      clear X b2 SS1 kp1 C lt m0 m1 m2 m3 m4 m5 H1
      cases T
      · have SS3 : Hid (SetU w1 b (n + 2 * (k + 1)) (fun q => S q || gatB (l.take (k + 1)) p a q)) := (SS2.out.more (by omega)).same fun q => by rw [T1.out]; simp
        go_wp2_with fail
        go_roundg (m - (k + 1))
        case measure => omega
        case rel => exact ⟨k + 1, by omega, by go_num, SS3.out, kp2.out⟩
      · have lbw : wr.heap.size ≠ b := by omega
        have k4 := X1.out.c4
        have wu : wrap64 (up + 1) = up + 1 := by unfold wrap64; omega
        have xf : -9223372036854775808 ≤ fr ∧ fr ≤ 9223372036854775807 := by omega
        have xu : -9223372036854775808 ≤ up + 1 ∧ up + 1 ≤ 9223372036854775807 := by omega
        go_wp2_with (first
          | (refine SS2.out.wput (by unfold maxLen; omega) rfl _ _ _ rfl xf rfl rfl rfl ?_; intro w2 s2 g2; have X2 := Lib.hid (X1.out.other g2 lbw); have k5 := X2.out.c5; have kp3 := Lib.hid (kp2.out.grown g2 (fun x e _ => (by injection e with e; exact e.symm))); replace s2 := Lib.hid s2)
          | (refine s2.out.wput (by unfold maxLen; omega) rfl _ _ _ rfl xu rfl rfl rfl ?_; intro w3 s3 g3; have kp4 := Lib.hid (kp3.out.grown g3 (fun x e _ => (by injection e with e; exact e.symm))); replace s3 := Lib.hid s3))
        have SS3 : Hid (SetU w3 b (n + 2 * (k + 1)) (fun q => S q || gatB (l.take (k + 1)) p a q)) := (s3.out.more (by omega)).same fun q => by
          rw [T1.out, Bool.true_and]
          cases S q <;> cases gatB (l.take k) p a q <;> cases decide (q = fr) <;> cases decide (q = up + 1) <;> rfl
        go_roundg (m - (k + 1))
        case measure => omega
        case rel => exact ⟨k + 1, by omega, by go_num, SS3.out, kp4.out⟩
    · obtain rfl : k = m := by omega
      have g1 : decide ((k : Int) < (k : Int)) = false := decide_eq_false (by omega)
      have g1' : decide (k < k) = false := decide_eq_false hlt
      have F : Hid (SetU wr b (n + 64) (fun q => S q || gatB l p a q)) := (SS.out.more (by omega)).same fun q => by rw [hm.out, List.take_length]
      go_wp2_with fail
      go_end0
      exact ⟨rfl, F.out, kp.out⟩
end Go.Proofs.YtndaohiecpdmlaaGreat
