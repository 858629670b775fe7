/-
  What the program's own routeFits, takeRoute and Ways answer. No condition but the form's own reach.
-/
import Derived.Test.YtihkbakbciejiaaDoorCpPgL
import Derived.Test.YtihkbakbciejiaaDoorCpOp
namespace Go.Proofs.YtihkbakbciejiaaDoor
set_option maxRecDepth 100000
open Go.RowKit

def rov (l : List Ro) : List Value := l.flatMap roC
theorem rov_snoc (l : List Ro) (a : Ro) : rov (l ++ [a]) = rov l ++ roC a := by simp [rov, List.flatMap_append]
theorem info_rop : ∃ i, Tryd.prog.info? 55 = some i ∧ i.zero = some (.agg #[.int .u32 0, .int .u32 0, .int .i64 0]) ∧ i.size = 3 ∧ i.bytes = 16 := by
  have h : (Tryd.prog.info? 55).map (fun i => (i.zero, i.size, i.bytes)) = some (some (.agg #[.int .u32 0, .int .u32 0, .int .i64 0]), 3, 16) := by kernel_rfl
  obtain ⟨i, hi, e⟩ := Option.map_eq_some_iff.1 h
  injection e with e1 e2
  injection e2 with e2 e3
  exact ⟨i, hi, e1, e2, e3⟩
/-- Routes that the call itself has made. -/
structure RoP (base : Nat) (w : World) (v : Value) (l : List Ro) : Prop where
  row : w.ownsRow base 55 3 v l.length (rov l)
theorem RoP.nil (base : Nat) (w : World) : RoP base w (.slice none 0 0) [] := ⟨World.ownsRow_nil _ _ _ _⟩
theorem RoP.of {base : Nat} {w w' : World} {v : Value} {l : List Ro} (h : RoP base w v l) (b : ∀ k, v.ownBlock = some k → w'.heap[k]? = w.heap[k]?) : RoP base w' v l := ⟨rows_blockC h.row b⟩
theorem RoP.keep {base : Nat} {w w' : World} {v : Value} {l : List Ro} (h : RoP base w v l) (b : Below w.heap.size w w') : RoP base w' v l := h.of fun k hk => b.block k (h.row.lt k hk).2
theorem RoP.slice {base : Nat} {w : World} {v : Value} {l : List Ro} (h : RoP base w v l) : ∃ a c, v = .slice a l.length c := by
  rcases h.row.2 with ⟨rfl, e⟩ | ⟨g, cap, cur, rfl, -⟩
  · exact ⟨_, _, by rw [e]⟩
  · exact ⟨_, _, rfl⟩
theorem RoP.app {base : Nat} {w : World} {v : Value} {l : List Ro} (h : RoP base w v l) (hb : base ≤ w.heap.size) (hl : l.length < 1000000000) (a : Ro) :
    ∃ v' w', (∀ z, (builtin .append #[52, 52] 52 z #[v, .slice (some ⟨w.heap.size, 0, none⟩) 1 1]).run Tryd.prog (w.alloc (.cells #[.int .u32 (a.low : Int), .int .u32 (a.high : Int), .int .i64 a.pro] 55)) = .ok (.value v') w') ∧ RoP base w' v' (l ++ [a]) ∧ Kept (fun x => base ≤ x) w w' := by
  obtain ⟨i0, hi0, hz0, hz1, hz2⟩ := info_rop
  have bA : Below w.heap.size w (w.alloc (.cells #[.int .u32 (a.low : Int), .int .u32 (a.high : Int), .int .i64 a.pro] 55)) := (Below.refl _ _).alloc (Nat.le_refl _) _
  have h2 := h.keep bA
  obtain ⟨v', w', hr, h3, h4, -, -⟩ := run_append_own_at (P := Tryd.prog) (w.alloc (.cells #[.int .u32 (a.low : Int), .int .u32 (a.high : Int), .int .i64 a.pro] 55)) base 52 52 55 i0 (.agg #[.int .u32 0, .int .u32 0, .int .i64 0]) 3 16 Tryd.underlying52 hi0 hz0 hz1 hz2 (by decide) (by decide) v l.length (rov l) h2.row ⟨w.heap.size, 0, none⟩ 1 1 (roC a) rfl (fun j u hj => by
    rw [Addr.add_lit]
    exact (Lies.new w (roC a) 55).r j u hj) (fun x hx => by unfold roC at hx; simp only [List.mem_cons, List.not_mem_nil, or_false] at hx; rcases hx with rfl | rfl | rfl <;> rfl) (by unfold maxLen; omega) (by omega) (Nat.le_trans hb bA.size)
  have kp : Kept (fun x => base ≤ x) w w' := (Kept.of _ bA).grown h4 (fun k hk _ => (h2.row.lt k hk).1)
  exact ⟨v', w', fun z => by simp only [builtin, Sem.run_bind, Sem.run_pure, hr, Result.andThen_ok], ⟨by rw [rov_snoc, List.length_append]; exact h3⟩, kp⟩
theorem rov_get (l : List Ro) : ∀ (k : Nat), k < l.length → ∀ j, j < 3 → (rov l)[3 * k + j]? = (roC (l.getD k nR))[j]? := by
  induction l with
  | nil => intro k hk; exact absurd hk (Nat.not_lt_zero _)
  | cons x l ih =>
    intro k hk j hj
    show (roC x ++ rov l)[3 * k + j]? = _
    cases k with
    | zero =>
      rw [List.getElem?_append_left (by show 3 * 0 + j < 3; omega), Nat.mul_zero, Nat.zero_add]
      rfl
    | succ k =>
      rw [List.getElem?_append_right (by show 3 ≤ _; omega), show 3 * (k + 1) + j - (roC x).length = 3 * k + j by show 3 * (k + 1) + j - 3 = _; omega, ih k (by simpa using hk) j hj]
      rfl
theorem rop_at {base : Nat} {w : World} {v : Value} {l : List Ro} {e : TypeId} (h : w.ownsRow base e 3 v l.length (rov l)) : RowAt 3 roC nR w v l := by
  obtain ⟨h1, h2⟩ := h
  rcases h2 with ⟨rfl, e⟩ | ⟨g, cap, cur, rfl, e2, e3, e4, e5, e6, e7⟩
  · exact ⟨none, 0, by rw [e], by omega, fun k hk => by omega⟩
  · have get : ∀ i x, (rov l)[i]? = some x → w.cell? ⟨g, i, none⟩ = some x := fun i x hx => by
      rw [← e7, List.getElem?_take] at hx
      split at hx
      · rw [Array.getElem?_toList] at hx
        simp [World.cell?, e3, hx]
      · cases hx
    have hg : g < w.heap.size := by
      rcases Nat.lt_or_ge g w.heap.size with q | q
      · exact q
      · rw [Array.getElem?_eq_none q] at e3; cases e3
    refine ⟨_, _, rfl, e4, fun k hk => ⟨g, 0, rfl, hg, fun j hj => ?_⟩⟩
    rw [Nat.zero_add]
    have h3 := rov_get l k hk j hj
    have h4 : j < (roC (l.getD k nR)).length := hj
    rw [List.getElem?_eq_getElem h4] at h3 ⊢
    exact get _ _ h3
/-- Is a route right behind those ahead of it? -/
def fitR (acc : List Ro) (x : Ro) : Bool := okR x && (decide (acc = []) || behR (acc.getD (acc.length - 1) nR) x)
theorem right_fit {acc : List Ro} (h : rightR acc = true) (x : Ro) : rightR (acc ++ [x]) = fitR acc x := by
  unfold fitR
  rcases List.eq_nil_or_concat acc with rfl | ⟨a, y, rfl⟩
  · simp [rightR]
  · rw [List.concat_eq_append] at h ⊢
    rw [List.append_assoc]
    show rightR (a ++ [y, x]) = _
    rw [right_two, h]
    have e1 : (a ++ [y]).getD ((a ++ [y]).length - 1) nR = y := by simp [List.getD]
    rw [e1, decide_eq_false (by simp)]
    simp only [Bool.true_and, Bool.false_or]
    exact Bool.and_comm _ _
theorem at_rop (B o N cap i : Nat) (w : World) (h : i < N) (z : Int) (hz : z = i) (p : Nat) (hp : p = o + 3 * i) :
    (Instr.indexAt 52 (.slice (some ⟨B, o, none⟩) N cap) (.int .i64 z)).run Tryd.prog w = .ok (.pointer (some ⟨B, p, none⟩)) w := by
  subst hz hp
  have e : Tryd.prog.elem 52 = 55 := by kernel_rfl
  rw [run_indexAt_slice (P := Tryd.prog) w 52 ⟨B, o, none⟩ N cap .i64 i (by rw [e]; exact Tryd.underlying52), if_pos (by omega), e]
  have s : (sizeOf 55).run Tryd.prog w = .ok 3 w := Tryd.sizeOf55 w
  rw [s]
  simp [Addr.add_mid, Nat.mul_comm]
/-- A route in a box. -/
structure Br (w wr : World) (K : Nat) (i a b : Int) : Prop where
  k : Lies wr K [.int .u32 i, .int .u32 a, .int .i64 b]
  g : w.heap.size ≤ K
  bel : Below w.heap.size w wr
section
variable {w wr w' : World} {K : Nat} {i a b : Int}
theorem Br.new (w : World) (i a b : Int) (t : TypeId) : Br w (w.alloc (.cells #[.int .u32 i, .int .u32 a, .int .i64 b] t)) w.heap.size i a b := ⟨Lies.new w _ _, Nat.le_refl _, (Below.refl _ _).alloc (Nat.le_refl _) _⟩
theorem Br.keep (h : Br w wr K i a b) (q : Below wr.heap.size wr w') : Br w w' K i a b := ⟨h.k.keep (by show 0 < 3; decide) q, h.g, h.bel.trans (q.mono h.bel.size)⟩
theorem Br.put (h : Br w wr K i a b) (x y z : Int) : Br w (((wr.setCell ⟨K, 0, none⟩ (.int .u32 x)).setCell ⟨K, 1, none⟩ (.int .u32 y)).setCell ⟨K, 2, none⟩ (.int .i64 z)) K x y z :=
  ⟨((h.k.put 0 (by show 0 < 3; decide) (.int .u32 x)).put 1 (by show 1 < 3; decide) (.int .u32 y)).put 2 (by show 2 < 3; decide) (.int .i64 z), h.g, ((h.bel.setCell (p := ⟨K, 0, none⟩) h.g _).setCell (p := ⟨K, 1, none⟩) h.g _).setCell (p := ⟨K, 2, none⟩) h.g _⟩
theorem Br.c0 (h : Br w wr K i a b) : wr.cell? ⟨K, 0, none⟩ = some (.int .u32 i) := h.k.cell 0 rfl
theorem Br.c1 (h : Br w wr K i a b) : wr.cell? ⟨K, 1, none⟩ = some (.int .u32 a) := h.k.cell 1 rfl
theorem Br.c2 (h : Br w wr K i a b) : wr.cell? ⟨K, 2, none⟩ = some (.int .i64 b) := h.k.cell 2 rfl
theorem Br.f0 (h : Br w wr K i a b) : wr.frozen? ⟨K, 0, none⟩ = false := h.k.free 0 (by show 0 < 3; decide)
theorem Br.f1 (h : Br w wr K i a b) : wr.frozen? ⟨K, 1, none⟩ = false := h.k.free 1 (by show 1 < 3; decide)
theorem Br.f2 (h : Br w wr K i a b) : wr.frozen? ⟨K, 2, none⟩ = false := h.k.free 2 (by show 2 < 3; decide)
end
set_option maxHeartbeats 8000000 in
theorem pfit_ok (v : Value) (acc : List Ro) (lo hi : Nat) (pr : Int) (w : World) (hv : RoAt w v acc) (hl : acc.length < 9223372036854775807) :
    Calls Tryd.prog 47 #[v, .agg #[.int .u32 (lo : Int), .int .u32 (hi : Int), .int .i64 pr]] w fun e w' => e = .returned (.bool (fitR acc ⟨lo, hi, pr⟩)) ∧ Below w.heap.size w w' := by
  obtain ⟨a, cap, rfl, hc⟩ := hv
  have N0 := Br.new w (lo : Int) (hi : Int) pr 55
  obtain ⟨w1, hw1⟩ : ∃ w1, w1 = w.alloc (.cells #[.int .u32 (lo : Int), .int .u32 (hi : Int), .int .i64 pr] 55) := ⟨_, rfl⟩
  rw [← hw1] at N0
  obtain ⟨K, hK⟩ : ∃ K, K = w.heap.size := ⟨_, rfl⟩
  have N1 : Br w w1 K (lo : Int) (hi : Int) pr := by rw [hK]; exact N0
  clear N0
  have k0 := N1.c0
  have k1 := N1.c1
  have k2 := N1.c2
  have ZZ := Lib.hid N1.bel
  have okx : okR ⟨lo, hi, pr⟩ = (decide (lo ≤ hi) && decide (0 ≤ pr) && decide (pr ≤ 255)) := rfl
  have NO : Hid (okR ⟨lo, hi, pr⟩ = false → fitR acc ⟨lo, hi, pr⟩ = false) := fun h => by unfold fitR; rw [h]; rfl
  obtain ⟨M, hM⟩ : ∃ M, M = acc.length := ⟨_, rfl⟩
  by_cases h1 : lo ≤ hi
  · have q1 : decide ((hi : Int) < (lo : Int)) = false := decide_eq_false (by omega)
    have q1n : ¬ hi < lo := by omega
    by_cases h2 : 0 ≤ pr
    · have q2 : decide (pr < 0) = false := decide_eq_false (by omega)
      by_cases h3 : pr ≤ 255
      · have q3 : decide (255 < pr) = false := decide_eq_false (by omega)
        have ok1 : okR ⟨lo, hi, pr⟩ = true := by rw [okx]; simp [h1, h2, h3]
        by_cases hn : acc = []
        · have F : Hid (fitR acc ⟨lo, hi, pr⟩ = true) := by unfold Hid fitR; rw [ok1, hn]; rfl
          have m0 : acc.length = 0 := by rw [hn]; rfl
          rw [m0, F.out]
          clear NO okx ok1 hc hn m0 hM F hl
          go_enter Tryd.func47, Tryd.ntmps47
          go_upto_region 1 with fail
          rw [← hw1, ← hK]
          clear hw1
          replace hK := Lib.hid hK
          go_wp2_with fail
          go_ret
          exact ⟨rfl, ZZ.out⟩
        · have hpos : 0 < acc.length := by
            cases acc with
            | nil => exact absurd rfl hn
            | cons _ _ => simp
          obtain ⟨j, hj⟩ : ∃ j, j = acc.length - 1 := ⟨_, rfl⟩
          have hjm : j < acc.length := by omega
          obtain ⟨g, o, rfl, hgw, d0, d1, d2⟩ := hc j hjm
          have e0 := (ZZ.out.cell hgw).trans d0
          have e1 := (ZZ.out.cell hgw).trans d1
          have e2 := (ZZ.out.cell hgw).trans d2
          have F : fitR acc ⟨lo, hi, pr⟩ = behR (acc.getD j nR) ⟨lo, hi, pr⟩ := by
            unfold fitR
            rw [ok1, decide_eq_false hn, ← hj]
            simp
          obtain ⟨y, hy⟩ : ∃ y, y = acc.getD j nR := ⟨_, rfl⟩
          rw [← hy] at e0 e1 e2 F
          obtain ⟨yl, yh, yp⟩ := y
          simp only at e0 e1 e2
          have bd : behR ⟨yl, yh, yp⟩ ⟨lo, hi, pr⟩ = (decide (yp < pr) || (decide (yp = pr) && decide (yh < lo))) := rfl
          rw [bd] at F
          rw [F]
          rw [← hM] at hl hjm hj ⊢
          have hjm' : j < M := hjm
          have ib := fun w' => at_rop g o M cap j w' hjm' (j : Int) rfl (o + 3 * j) rfl
          have sub : (M : Int) - 1 = (j : Int) := by omega
          have M0 : ((M : Int) == 0) = false := by
            have : ¬ (M : Int) = 0 := by omega
            simpa using this
          have M0n : ¬ M = 0 := by omega
          have Z2 : Hid (Below w.heap.size w (w1.alloc (.cells #[.int .u32 (yl : Int), .int .u32 (yh : Int), .int .i64 yp] 55))) := ZZ.out.alloc ZZ.out.size _
          have B2 : Below w1.heap.size w1 (w1.alloc (.cells #[.int .u32 (yl : Int), .int .u32 (yh : Int), .int .i64 yp] 55)) := (Below.refl _ _).alloc (Nat.le_refl _) _
          have N2 := N1.keep B2
          have l0 := N2.c0
          have l1 := N2.c1
          have l2 := N2.c2
          replace hj := Lib.hid hj
          replace hM := Lib.hid hM
          clear NO okx ok1 hc hn F bd hy d0 d1 d2 B2 N2 N1 hpos
          by_cases m1 : yp < pr
          · have r1 : decide (yp < pr) = true := decide_eq_true m1
            rw [r1, Bool.true_or]
            go_enter Tryd.func47, Tryd.ntmps47
            go_upto_region 1 with fail
            rw [← hw1, ← hK]
            clear hw1
            replace hK := Lib.hid hK
            go_wp2_with fail
            go_ret
            exact ⟨rfl, Z2.out⟩
          · have r1 : decide (yp < pr) = false := decide_eq_false m1
            rw [r1, Bool.false_or]
            by_cases m2 : yp = pr
            · subst m2
              rw [decide_eq_true rfl, Bool.true_and]
              by_cases m3 : yh < lo
              · have r3 : decide ((yh : Int) < (lo : Int)) = true := decide_eq_true (by omega)
                rw [decide_eq_true m3]
                go_enter Tryd.func47, Tryd.ntmps47
                go_upto_region 1 with fail
                rw [← hw1, ← hK]
                clear hw1
                replace hK := Lib.hid hK
                go_wp2_with fail
                go_ret
                exact ⟨rfl, Z2.out⟩
              · have r3 : decide ((yh : Int) < (lo : Int)) = false := decide_eq_false (by omega)
                rw [decide_eq_false m3]
                go_enter Tryd.func47, Tryd.ntmps47
                go_upto_region 1 with fail
                rw [← hw1, ← hK]
                clear hw1
                replace hK := Lib.hid hK
                go_wp2_with fail
                go_ret
                exact ⟨rfl, Z2.out⟩
            · have r2 : (yp == pr) = false := by simpa using m2
              rw [decide_eq_false m2, Bool.false_and]
              go_enter Tryd.func47, Tryd.ntmps47
              go_upto_region 1 with fail
              rw [← hw1, ← hK]
              clear hw1
              replace hK := Lib.hid hK
              go_wp2_with fail
              go_ret
              exact ⟨rfl, Z2.out⟩
      · have q3 : decide (255 < pr) = true := decide_eq_true (by omega)
        rw [NO.out (by rw [okx]; simp [h3])]
        clear NO okx hc hM hl
        go_enter Tryd.func47, Tryd.ntmps47
        go_upto_region 1 with fail
        rw [← hw1, ← hK]
        clear hw1
        replace hK := Lib.hid hK
        go_wp2_with fail
        go_ret
        exact ⟨rfl, ZZ.out⟩
    · have q2 : decide (pr < 0) = true := decide_eq_true (by omega)
      rw [NO.out (by rw [okx]; simp [h2])]
      clear NO okx hc hM hl
      go_enter Tryd.func47, Tryd.ntmps47
      go_upto_region 1 with fail
      rw [← hw1, ← hK]
      clear hw1
      replace hK := Lib.hid hK
      go_wp2_with fail
      go_ret
      exact ⟨rfl, ZZ.out⟩
  · have q1 : decide ((hi : Int) < (lo : Int)) = true := decide_eq_true (by omega)
    have q1n : hi < lo := by omega
    rw [NO.out (by rw [okx]; simp [h1])]
    clear NO okx hc hM hl
    go_enter Tryd.func47, Tryd.ntmps47
    go_upto_region 1 with fail
    rw [← hw1, ← hK]
    clear hw1
    replace hK := Lib.hid hK
    go_wp2_with fail
    go_ret
    exact ⟨rfl, ZZ.out⟩
/-- A route at the front of bytes. -/
def tkR (s : L) : Except Int (Ro × L) := match bod 9 s with
  | .error x => .error x
  | .ok (b, r) => .ok (⟨w4 b, w4 (b.drop 4), ((b.getD 8 0).toNat : Int)⟩, r)
theorem way_step (k : Nat) (acc : List Ro) (s : L) (hs : s ≠ []) : wayN (k + 1) acc s = match tkR s with
    | .error x => .error x
    | .ok (x, r) => if rightR (acc ++ [x]) = false then .error 2 else if acc.length = 16 then .error 8 else wayN k (acc ++ [x]) r := by
  cases s with
  | nil => exact absurd rfl hs
  | cons c r =>
    rw [wayN_cons]
    unfold tkR bod
    simp only
    by_cases hc : c ≠ 4
    · rw [if_pos hc, if_pos hc]
    · rw [if_neg hc, if_neg hc]
      by_cases h9 : r.length < 9
      · rw [if_pos h9, if_pos h9]
      · rw [if_neg h9, if_neg h9]
        have e1 : w4 (r.take 9) = w4 r := by
          unfold w4
          rw [List.take_take]
          rfl
        have e2 : w4 ((r.take 9).drop 4) = w4 (r.drop 4) := by
          unfold w4
          rw [List.drop_take, List.take_take]
          rfl
        have e3 : (r.take 9).getD 8 0 = r.getD 8 0 := by
          simp [List.getD]
        simp only [e1, e2, e3]
/-- What takeRoute answers. -/
def TrA (s : ByteArray) (e : Ending) : Prop := (∃ (x : Ro) (r : ByteArray), tkR (toL s) = .ok (x, toL r) ∧ r.size < s.size ∧ (x.low < 4294967296 ∧ x.high < 4294967296) ∧ (0 ≤ x.pro ∧ x.pro < 256) ∧ e = .returned (.tuple #[.agg #[.int .u32 (x.low : Int), .int .u32 (x.high : Int), .int .i64 x.pro], .string r, .int .i64 0])) ∨ (∃ x : Int, tkR (toL s) = .error x ∧ (x = 1 ∨ x = 5) ∧ e = .returned (.tuple #[.agg #[.int .u32 0, .int .u32 0, .int .i64 0], .string ⟨#[]⟩, .int .i64 x]))
set_option maxHeartbeats 8000000 in
theorem ptroute_ok (s : ByteArray) (w : World) (hs : s.size ≤ 4611686018427387903) :
    Calls Tryd.prog 46 #[.string s] w fun e w' => TrA s e ∧ Below w.heap.size w w' := by
  have N0 := Br.new w 0 0 0 55
  obtain ⟨w1, hw1⟩ : ∃ w1, w1 = w.alloc (.cells #[.int .u32 0, .int .u32 0, .int .i64 0] 55) := ⟨_, rfl⟩
  rw [← hw1] at N0
  obtain ⟨K, hK⟩ : ∃ K, K = w.heap.size := ⟨_, rfl⟩
  have N1 : Br w w1 K 0 0 0 := by rw [hK]; exact N0
  clear N0
  have TE : Hid (∀ x : Int, bod 9 (toL s) = .error x → tkR (toL s) = .error x) := fun x hx => by
    unfold tkR
    rw [hx]
  have TO : Hid (∀ b q : L, bod 9 (toL s) = .ok (b, q) → tkR (toL s) = .ok (⟨w4 b, w4 (b.drop 4), ((b.getD 8 0).toNat : Int)⟩, q)) := fun b q hx => by
    unfold tkR
    rw [hx]
  have BO := Lib.hid (pbody_ok s 9 w1 hs (by decide))
  replace N1 := Lib.hid N1
  go_enter Tryd.func46, Tryd.ntmps46
  go_upto_region 1 with fail
  rw [← hw1, ← hK]
  clear hw1
  replace hK := Lib.hid hK
  go_wp2_with fail
  refine BO.out.mono ?_
  rintro e w3 ⟨hA, b3⟩
  have N3 := N1.out.keep b3
  have k0 := N3.c0
  have k1 := N3.c1
  have k2 := N3.c2
  have kf0 := N3.f0
  have kf1 := N3.f1
  have kf2 := N3.f2
  clear BO b3 N1
  rcases hA with ⟨b, q, hb, zb, zq, rfl⟩ | ⟨x, hb, hx, rfl⟩
  · have zd : (b.extract 4 b.size).size = 5 := by rw [ByteArray.size_extract]; omega
    have W1 : Hid (∀ w', _) := fun w' => pword_ok b w' (by omega) (by omega)
    have W2 : Hid (∀ w', _) := fun w' => pword_ok (b.extract 4 b.size) w' (by omega) (by omega)
    rw [toL_extract] at W2
    have ix8 : ∀ w', (Instr.index 9 (.string b) (.int .i64 8)).run Tryd.prog w' = .ok (.int .u8 (((toL b).getD 8 0).toNat : Int)) w' := fun w' => at_str0 b 8 w' (by omega) 8 rfl
    have hcf : ∀ (x : Value) (w : World), (callFunc 61 #[x]).run Tryd.prog w = .ok (.enter 61 #[x]) w := fun x w => by simp [go_sem]
    have a1 := w4_lt (toL b)
    have a2 := w4_lt ((toL b).drop 4)
    have b1 : ((toL b).getD 8 0).toNat < 256 := ((toL b).getD 8 0).toNat_lt
    have AN : Hid (TrA s (.returned (.tuple #[.agg #[.int .u32 (w4 (toL b) : Int), .int .u32 (w4 ((toL b).drop 4) : Int), .int .i64 (((toL b).getD 8 0).toNat : Int)], .string q, .int .i64 0]))) := .inl ⟨⟨w4 (toL b), w4 ((toL b).drop 4), (((toL b).getD 8 0).toNat : Int)⟩, q, TO.out _ _ hb, by omega, ⟨a1, a2⟩, ⟨by show (0 : Int) ≤ ((((toL b).getD 8 0).toNat : Nat) : Int); omega, by show ((((toL b).getD 8 0).toNat : Nat) : Int) < 256; omega⟩, rfl⟩
    obtain ⟨A, hA⟩ : ∃ A, A = w4 (toL b) := ⟨_, rfl⟩
    obtain ⟨A2, hA2⟩ : ∃ A2, A2 = w4 ((toL b).drop 4) := ⟨_, rfl⟩
    obtain ⟨Bt, hBt⟩ : ∃ Bt, Bt = ((toL b).getD 8 0).toNat := ⟨_, rfl⟩
    rw [← hA] at W1 a1 AN
    rw [← hA2] at W2 a2 AN
    rw [← hBt] at ix8 b1 AN
    replace hA := Lib.hid hA
    replace hA2 := Lib.hid hA2
    replace hBt := Lib.hid hBt
    have NP := Lib.hid ((N3.put (A : Int) (A2 : Int) (Bt : Int)).keep (drewB _ _))
    have wB : IntKind.i64.wrap (Bt : Int) = (Bt : Int) := by rw [IntKind.wrap_i64]; omega
    have g5 : (8 : Int) < (b.size : Int) := by omega
    have g5n : 8 < b.size := by omega
    have g6 : (4 : Int) ≤ (b.size : Int) := by omega
    have g6n : 4 ≤ b.size := by omega
    replace zb := Lib.hid zb
    replace zd := Lib.hid zd
    clear TE TO hb zq N3
    go_wp2_with fail
    go_region_law (first | (refine cal1S 61 (k1 := 18) (.string b) (.int .u32 (A : Int)) (W1.out _) (hcf _) rfl rfl (by simp [Act.eval, Act.put]) ?_) | (refine cal1S 61 (k1 := 21) (.string (b.extract 4 b.size)) (.int .u32 (A2 : Int)) (W2.out _) (hcf _) rfl rfl (by simp [Act.eval, Act.put]) ?_))
    all_goals
      clear W1 W2 k0 k1 k2 kf0 kf1 kf2
      go_wp2_with fail
      generalize (((w3.setCell ⟨K, 0, none⟩ (.int .u32 (A : Int))).setCell ⟨K, 1, none⟩ (.int .u32 (A2 : Int))).setCell ⟨K, 2, none⟩ (.int .i64 (Bt : Int))).drew = wf at *
      have q0 := NP.out.c0
      have q1 := NP.out.c1
      have q2 := NP.out.c2
      exact bodyPost_ret (v := .tuple #[.agg #[.int .u32 (A : Int), .int .u32 (A2 : Int), .int .i64 (Bt : Int)], .string q, .int .i64 0]) (by simp [results, Tryd.results46, go_sem, q0, q1, q2]) rfl ⟨AN.out, NP.out.bel⟩
  · have NP := Lib.hid (N3.put 0 0 0)
    have AN : Hid (TrA s (.returned (.tuple #[.agg #[.int .u32 0, .int .u32 0, .int .i64 0], .string ⟨#[]⟩, .int .i64 x]))) := .inr ⟨x, TE.out x hb, hx, rfl⟩
    have hx0 : (x == 0) = false := by rcases hx with rfl | rfl <;> rfl
    have hx1 : ¬ x = 0 := by rcases hx with rfl | rfl <;> decide
    replace hx := Lib.hid hx
    clear TE TO hb N3
    go_wp2_with fail
    generalize ((w3.setCell ⟨K, 0, none⟩ (.int .u32 0)).setCell ⟨K, 1, none⟩ (.int .u32 0)).setCell ⟨K, 2, none⟩ (.int .i64 0) = wf at *
    have q0 := NP.out.c0
    have q1 := NP.out.c1
    have q2 := NP.out.c2
    exact bodyPost_ret (v := .tuple #[.agg #[.int .u32 0, .int .u32 0, .int .i64 0], .string ⟨#[]⟩, .int .i64 x]) (by simp [results, Tryd.results46, go_sem, q0, q1, q2]) rfl ⟨AN.out, NP.out.bel⟩
/-- What Ways answers. -/
def RoPA (s : ByteArray) (base : Nat) (e : Ending) (w' : World) : Prop :=
  (∃ l v, wayL (toL s) = .ok l ∧ l.length ≤ 16 ∧ e = .returned (.tuple #[v, .int .i64 0]) ∧ RoP base w' v l) ∨ (∃ x : Int, wayL (toL s) = .error x ∧ x ≠ 0 ∧ e = .returned (.tuple #[.slice none 0 0, .int .i64 x]))
/-- The routes so far. -/
structure RoJ (w wr : World) (s0 : ByteArray) (g : Nat) (s : ByteArray) (acc : List Ro) (lv : Value) : Prop where
  eq : wayL (toL s0) = wayN g acc (toL s)
  len : s.size < g
  few : acc.length ≤ 16
  row : RoP w.heap.size wr lv acc
  bel : Below w.heap.size w wr
  rt : rightR acc = true
set_option maxHeartbeats 8000000 in
theorem prlro_ok (s0 : ByteArray) (w : World) (hs : s0.size ≤ 4611686018427387903) :
    Calls Tryd.prog 45 #[.string s0, .func (.func 46) #[] #[], .func (.func 47) #[] #[]] w fun e w' => RoPA s0 w.heap.size e w' ∧ Below w.heap.size w w' := by
  have P0 : Hid (RoJ w w s0 (s0.size + 1) s0 [] (.slice none 0 0)) := ⟨by unfold wayL; rw [toL_len], Nat.lt_succ_self _, by simp, RoP.nil _ _, Below.refl _ _, rfl⟩
  go_enter Tryd.func45, Tryd.ntmps45
  go_wp2_with fail
  go_loopg [0, 8] (s0.size + 1) (fun g sv lv wr => ∃ (s : ByteArray) (acc : List Ro), sv = .string s ∧ g ≤ s0.size + 1 ∧ Hid (RoJ w wr s0 g s acc lv))
  case atStart => exact ⟨s0, [], rfl, Nat.le_refl _, P0⟩
  case round =>
    obtain ⟨s, acc, rfl, hg, X⟩ := hrel
    clear P0
    have hlen := X.out.len
    obtain ⟨g1, rfl⟩ : ∃ g1, gk = g1 + 1 := ⟨gk - 1, by omega⟩
    have EQ := Lib.hid X.out.eq
    obtain ⟨av, cv, hu⟩ := X.out.row.slice
    subst hu
    by_cases h0 : toL s = []
    · have hz : s = ⟨#[]⟩ := toL_inj (by rw [h0]; rfl)
      have EQ2 : Hid (wayL (toL s0) = .ok acc) := by
        unfold Hid
        rw [EQ.out, h0]
        rfl
      subst hz
      have OO := Lib.hid X.out.row
      have FW := Lib.hid X.out.few
      have ZZ := Lib.hid X.out.bel
      have AN : Hid (RoPA s0 w.heap.size (.returned (.tuple #[.slice av acc.length cv, .int .i64 0])) wr) := .inl ⟨acc, _, EQ2.out, FW.out, rfl, OO.out⟩
      generalize acc.length = M at *
      clear X h0 EQ EQ2 OO FW
      go_wp2_with fail
      go_ret2
      exact ⟨AN.out, ZZ.out⟩
    · have n0 : s.toList.isEmpty = false := by
        rw [toL_empC]
        cases hx : toL s with
        | nil => exact absurd hx h0
        | cons _ _ => rfl
      have EQ1 := EQ.out
      rw [way_step _ _ _ h0] at EQ1
      have TA : Hid (∀ _ : Unit, _) := fun _ => ptroute_ok s wr (by omega)
      have RW := Lib.hid X.out.row
      have ZB := Lib.hid X.out.bel
      have FW := X.out.few
      have RT := Lib.hid X.out.rt
      replace EQ1 := Lib.hid EQ1
      clear X EQ
      go_wp2_with fail
      refine (TA.out ()).mono ?_
      rintro e w1 ⟨hA, b1⟩
      have R1 := RW.out.keep b1
      have Z1 := ZB.out.trans (b1.mono ZB.out.size)
      clear TA RW ZB b1
      rcases hA with ⟨⟨lo, hi, pr⟩, r, hk, hrs, hb1, hb2, rfl⟩ | ⟨x, hk, hx, rfl⟩
      · have EQ2 := EQ1.out
        rw [hk] at EQ2
        simp only at EQ2
        have LB : Lies (w1.alloc (.cells #[.int .u32 (lo : Int), .int .u32 (hi : Int), .int .i64 pr] 55)) w1.heap.size [.int .u32 (lo : Int), .int .u32 (hi : Int), .int .i64 pr] := Lies.new w1 [.int .u32 (lo : Int), .int .u32 (hi : Int), .int .i64 pr] 55
        have bB : Below w1.heap.size w1 (w1.alloc (.cells #[.int .u32 (lo : Int), .int .u32 (hi : Int), .int .i64 pr] 55)) := (Below.refl _ _).alloc (Nat.le_refl _) _
        obtain ⟨wb, hwb⟩ : ∃ wb, wb = w1.alloc (.cells #[.int .u32 (lo : Int), .int .u32 (hi : Int), .int .i64 pr] 55) := ⟨_, rfl⟩
        rw [← hwb] at LB bB
        have R2 := R1.keep bB
        have Z2 := Z1.trans (bB.mono Z1.size)
        have c0 := LB.cell 0 (v := .int .u32 (lo : Int)) rfl
        have c1 := LB.cell 1 (v := .int .u32 (hi : Int)) rfl
        have c2 := LB.cell 2 (v := .int .i64 pr) rfl
        have FT : Hid (∀ _ : Unit, _) := fun _ => pfit_ok (.slice av acc.length cv) acc lo hi pr wb (rop_at R2.row).ro (by omega)
        replace LB := Lib.hid LB
        replace R2 := Lib.hid R2
        replace Z2 := Lib.hid Z2
        clear EQ1 hk R1 Z1 bB
        go_upto_region 4 with fail
        rw [← hwb]
        clear hwb
        generalize w1.heap.size = KB at *
        go_wp2_with fail
        refine (FT.out ()).mono ?_
        rintro e w2 ⟨rfl, b2⟩
        have LB2 := LB.out.keep (by show 0 < 3; decide) b2
        have R3 := R2.out.keep b2
        have Z3 := Z2.out.trans (b2.mono Z2.out.size)
        have d0 := LB2.cell 0 (v := .int .u32 (lo : Int)) rfl
        have d1 := LB2.cell 1 (v := .int .u32 (hi : Int)) rfl
        have d2 := LB2.cell 2 (v := .int .i64 pr) rfl
        clear FT b2 LB R2 Z2 LB2 c0 c1 c2
        cases hrt : fitR acc ⟨lo, hi, pr⟩ with
        | false =>
          have EQ3 : Hid (wayL (toL s0) = .error 2) := by
            unfold Hid
            rw [EQ2, if_pos (by rw [right_fit RT.out]; exact hrt)]
          replace Z3 := Lib.hid Z3
          generalize acc.length = M at *
          clear EQ2 R3 hrt
          go_wp2_with fail
          go_ret2
          exact ⟨.inr ⟨2, EQ3.out, by decide, rfl⟩, Z3.out⟩
        | true =>
          rw [if_neg (by rw [right_fit RT.out, hrt]; simp)] at EQ2
          by_cases h16 : acc.length = 16
          · rw [if_pos h16] at EQ2
            have q16 : ((acc.length : Int) == 16) = true := by rw [h16]; rfl
            replace EQ2 := Lib.hid EQ2
            replace Z3 := Lib.hid Z3
            generalize acc.length = M at *
            clear R3 h16 hrt
            go_wp2_with fail
            go_ret2
            exact ⟨.inr ⟨8, EQ2.out, by decide, rfl⟩, Z3.out⟩
          · rw [if_neg h16] at EQ2
            have q16 : ((acc.length : Int) == 16) = false := by
              have : ¬ (acc.length : Int) = 16 := by omega
              simpa using this
            obtain ⟨v', w4', hap, row, kp⟩ := R3.app Z3.size (by omega) ⟨lo, hi, pr⟩
            have NX : Hid (RoJ w w4' s0 g1 r (acc ++ [⟨lo, hi, pr⟩]) v') := ⟨EQ2, by omega, by rw [List.length_append]; simp; omega, row, Z3.trans (kp.below Z3.size fun _ h => h), by rw [right_fit RT.out]; exact hrt⟩
            obtain ⟨av', cv', hu'⟩ := row.slice
            subst hu'
            replace hap := Lib.hid hap
            have hg1 : g1 ≤ s0.size + 1 := by omega
            generalize (acc ++ [(⟨lo, hi, pr⟩ : Ro)]).length = N2 at *
            generalize acc.length = M at *
            clear R3 row kp EQ2 h16 Z3 hrt
            go_wp2_with (refine obB2L _ rfl .append _ _ 52 52 rfl _ _ rfl rfl hap.out ?_)
            go_roundg g1
            case measure => omega
            case rel => exact ⟨_, _, rfl, hg1, NX⟩
      · have EQ2 := EQ1.out
        rw [hk] at EQ2
        replace EQ2 := Lib.hid EQ2
        have hx0 : (x == 0) = false := by rcases hx with rfl | rfl <;> rfl
        have hx1 : ¬ x = 0 := by rcases hx with rfl | rfl <;> decide
        have bA : Below w1.heap.size w1 (w1.alloc (.cells #[.int .u32 0, .int .u32 0, .int .i64 0] 55)) := (Below.refl _ _).alloc (Nat.le_refl _) _
        have Z2 := Lib.hid (Z1.trans (bA.mono Z1.size))
        replace hx := Lib.hid hx
        generalize acc.length = M at *
        clear EQ1 hk R1 Z1 bA
        go_wp2_with fail
        go_ret2
        exact ⟨.inr ⟨x, EQ2.out, hx1, rfl⟩, Z2.out⟩
theorem pways_ok (s0 : ByteArray) (w : World) (hs : s0.size ≤ 4611686018427387903) :
    Calls Tryd.prog 19 #[.string s0] w fun e w' => RoPA s0 w.heap.size e w' ∧ Below w.heap.size w w' := by
  have C := Lib.hid (prlro_ok s0 w hs)
  go_enter Tryd.func19, Tryd.ntmps19
  go_wp2_with fail
  refine C.out.mono ?_
  rintro e w1 ⟨hA, b1⟩
  have B1 := Lib.hid b1
  clear C b1
  rcases hA with ⟨l, v, h1, h2, rfl, h3⟩ | ⟨x, h1, h2, rfl⟩
  · obtain ⟨a, c, rfl⟩ := h3.slice
    have A1 : Hid (RoPA s0 w.heap.size (.returned (.tuple #[.slice a l.length c, .int .i64 0])) w1) := .inl ⟨l, _, h1, h2, rfl, h3⟩
    generalize l.length = M at *
    clear h1 h2 h3
    go_wp2_with fail
    go_ret2
    exact ⟨A1.out, B1.out⟩
  · have A1 : Hid (RoPA s0 w.heap.size (.returned (.tuple #[.slice none 0 0, .int .i64 x])) w1) := .inr ⟨x, h1, h2, rfl⟩
    clear h1 h2
    go_wp2_with fail
    go_ret2
    exact ⟨A1.out, B1.out⟩
end Go.Proofs.YtihkbakbciejiaaDoor
