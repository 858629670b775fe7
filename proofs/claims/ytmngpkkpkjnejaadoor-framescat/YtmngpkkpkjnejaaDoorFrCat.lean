/-
  append of two answers' frames, one behind the other; so many bytes of padding as a text; what Parse answers of texts that are put together. No condition but how many there are.
-/
import Derived.Test.YtmngpkkpkjnejaaDoorFrApp
import Derived.Test.YtmngpkkpkjnejaaDoorFrO
import Derived.Laws.MakeOwn
import Derived.Lib.ConvBytes
namespace Go.Proofs.YtmngpkkpkjnejaaDoor
set_option maxRecDepth 100000
open Go.RowKit Go.Sort

theorem app_frs {w : World} {base : Nat} {lv : Value} {xs ys : List FX} {a : Option Addr} {c : Nat} (hE : w.ownsRow base 24 7 lv xs.length (fcells xs)) (hn : ∃ p n cp, lv = .slice (some p) n cp) (hy : ys = [] ∨ ∃ p, a = some p ∧ ∀ j u, (fcells ys)[j]? = some u → w.cell? (p.add j) = some u) (h1 : ∀ u ∈ fcells ys, u.oneCell' = true) (hl : xs.length + ys.length ≤ 1000) (hb : base ≤ w.heap.size) (ty : TypeId) :
    ∃ v' w', (∀ z, (builtin .append #[29, 29] ty z #[lv, .slice a ys.length c]).run Tryd.prog w = .ok (.value v') w') ∧ w'.ownsRow base 24 7 v' (xs ++ ys).length (fcells (xs ++ ys)) ∧ w.grownBy w' lv.ownBlock ∧ ∃ p n cp, v' = .slice (some p) n cp := by
  obtain ⟨i0, hi0, hz0, hz1, hz2⟩ := info_fr
  have fa : fcells (xs ++ ys) = fcells xs ++ fcells ys := by simp [fcells, List.flatMap_append]
  cases a with
  | none =>
    have e : ys = [] := by
      rcases hy with h | ⟨p, h, _⟩
      · exact h
      · cases h
    subst e
    rcases hE.2 with ⟨rfl, _⟩ | ⟨g, cap, cur, rfl, hr⟩
    · obtain ⟨p, n, cp, e⟩ := hn
      injection e with e
      cases e
    · refine ⟨_, w, fun z => ?_, by rw [List.append_nil]; exact hE, ⟨rfl, rfl, rfl, Nat.le_refl _, fun _ _ _ => rfl⟩, _, _, _, rfl⟩
      have hS : Src Tryd.prog i0.size 29 (.slice none 0 c) 0 [] w := Src.ofNil w Tryd.underlying29 c
      have hcap : xs.length ≤ cap := hr.2.2.1
      have := run_append_room_src w 29 29 ty 24 i0 Tryd.underlying29 hi0 g 0 xs.length cap (.slice none 0 c) 0 [] hS (by omega) (fun j hj => by cases hj) (fun j hj => by cases hj)
      simp only [builtin, Sem.run_bind, Sem.run_pure, List.length_nil, this, Result.andThen_ok]
      rfl
  | some p =>
    have hnews : ∀ j u, (fcells ys)[j]? = some u → w.cell? (p.add j) = some u := fun j u hj => by
      rcases hy with h | ⟨q, h, hc⟩
      · rw [h] at hj; simp [fcells] at hj
      · injection h with h
        subst h
        exact hc j u hj
    obtain ⟨v', w', q1, q2, q3, q4⟩ := run_append_own (P := Tryd.prog) w base 29 ty 24 i0 (.agg #[.int .i64 0, .int .i64 0, .int .i64 0, .bool false, .int .i64 0, .string ⟨#[]⟩, .slice none 0 0]) 7 80 Tryd.underlying29 hi0 hz0 hz1 hz2 rfl (by decide) lv xs.length (fcells xs) hE p ys.length c (fcells ys) (by rw [fcells_len]) hnews h1 (by unfold maxLen; omega) (by omega) hb
    refine ⟨v', w', fun z => by simp only [builtin, Sem.run_bind, Sem.run_pure, q1, Result.andThen_ok], by rw [List.length_append, fa]; exact q2, q3, ?_⟩
    rcases q2.2 with ⟨rfl, _⟩ | ⟨g, cap, cur, rfl, _⟩
    · obtain ⟨p', n, cp, e⟩ := hn
      rw [(q4.1 rfl).1] at e
      injection e with e
      cases e
    · exact ⟨_, _, _, rfl⟩
theorem cat_rows {w : World} {v2 v3 : Value} {l2 l3 : List Fr} (f2 : FrsAt w v2 l2) (f3 : FrsAt w v3 l3) (h : l2.length + l3.length ≤ 1000) (ty ty' : TypeId) :
    ∃ v7 w7 v8 w8, (∀ z, (builtin .append #[29, 29] ty z #[.slice (some ⟨w.heap.size, 0, none⟩) 0 0, v2]).run Tryd.prog (w.alloc (.cells #[] 24)) = .ok (.value v7) w7) ∧
      (∀ z, (builtin .append #[29, 29] ty' z #[v7, v3]).run Tryd.prog w7 = .ok (.value v8) w8) ∧ FrsAt w8 v8 (l2 ++ l3) ∧ Below w.heap.size w w8 := by
  obtain ⟨xs, hx, gx, a, c, rfl, cx⟩ := frs_cells f2
  obtain ⟨ys, hy, gy, a', c', rfl, cy⟩ := frs_cells f3
  have hxl : xs.length = l2.length := by rw [← hx, List.length_map]
  have hyl : ys.length = l3.length := by rw [← hy, List.length_map]
  have b6 : Below w.heap.size w (w.alloc (.cells #[] 24)) := (Below.refl _ _).alloc (Nat.le_refl _) _
  have z6 : (w.alloc (.cells #[] 24)).heap.size = w.heap.size + 1 := by simp
  have hE : (w.alloc (.cells #[] 24)).ownsRow w.heap.size 24 7 (.slice (some ⟨w.heap.size, 0, none⟩) 0 0) ([] : List FX).length (fcells []) := ⟨rfl, .inr ⟨w.heap.size, 0, #[], rfl, Nat.le_refl _, heap_at w _, Nat.le_refl _, Nat.zero_le _, rfl, rfl⟩⟩
  have old : ∀ {W : World} {zs : List FX} {q : Option Addr}, Below w.heap.size w W → (zs = [] ∨ ∃ p, q = some p ∧ ∀ j u, (fcells zs)[j]? = some u → w.cell? (p.add j) = some u) → (zs = [] ∨ ∃ p, q = some p ∧ ∀ j u, (fcells zs)[j]? = some u → W.cell? (p.add j) = some u) := fun {W zs q} b h => by
    rcases h with h | ⟨p, e, h⟩
    · exact .inl h
    · exact .inr ⟨p, e, fun j u hj => (b.cell (World.block_lt_of_cell? w _ (h j u hj))).trans (h j u hj)⟩
  have one : ∀ {zs : List FX}, (∀ x ∈ zs, FG w (fun _ => False) x) → ∀ u ∈ fcells zs, u.oneCell' = true := fun {zs} hz u hu => by
    obtain ⟨x, hx, hu⟩ := List.mem_flatMap.1 hu
    exact fcell_one (hz x hx) u hu
  obtain ⟨v7, w7, r7, o7, g7, n7⟩ := app_frs (ty := ty) (a := a) (c := c) hE ⟨_, _, _, rfl⟩ (old b6 cx) (one gx) (by show 0 + _ ≤ _; omega) (by omega)
  have b7 : Below w.heap.size w w7 := b6.grown g7 (by omega) (fun k hk => (hE.lt k hk).1)
  rw [List.nil_append] at o7
  obtain ⟨v8, w8, r8, o8, g8, n8⟩ := app_frs (ty := ty') (a := a') (c := c') o7 n7 (old b7 cy) (one gy) (by omega) b7.size
  have b8 : Below w.heap.size w w8 := b7.grown g8 b7.size (fun k hk => (o7.lt k hk).1)
  have row : FRow w8 w.heap.size v8 (xs ++ ys) (fun _ => False) := ⟨o8, fun x hx' => by
    have mv : ∀ x, FG w (fun _ => False) x → FG w8 (fun _ => False) x := fun x hx => hx.move (fun b hb _ => b8.block b hb) fun _ _ q => q
    rcases List.mem_append.1 hx' with q | q
    · exact mv x (gx x q)
    · exact mv x (gy x q)⟩
  have at8 := row.at
  rw [List.map_append, hx, hy] at at8
  exact ⟨v7, w7, v8, w8, r7, r8, at8, b8⟩
/-- .. an operation of a guard that stands. -/
theorem obB2LW {P : Program} (w : World) {ops : Array Oper} {rest : List Oper} {o : Oper} {a : Act} {Q : Exit → Act → World → Prop} (hwant : Region.wanted o (yielded ops a.tmps) = true) (b : Builtin) (x y : Operand) (t t' : TypeId) (ho : o.op = .call { callee := .builtin b, args := #[x, y], argTypes := #[t, t'] }) (v u : Value) (hx : a.eval x = v) (hy : a.eval y = u)
    {v' : Value} {w' : World} (hr : ∀ z, (builtin b #[t, t'] o.type z #[v, u]).run P w = .ok (.value v') w') (h : wpList P ops Q rest (a.put o.dst v') w') : wpList P ops Q (o :: rest) a w := by
  unfold wpList
  rw [if_pos hwant]
  exact .inl (obB2 w b x y t t' ho v u hx hy hr h)
/-- So many bytes of padding, as a text. -/
def pad0 (n : Nat) : ByteArray := ⟨(List.replicate n (0 : UInt8)).toArray⟩
theorem toL_pad0 (n : Nat) : toL (pad0 n) = List.replicate n 0 := rfl
theorem pad0_size (n : Nat) : (pad0 n).size = n := by rw [← toL_len, toL_pad0, List.length_replicate]
theorem cat_err {a b : ByteArray} {e : Int} (h : parse (toL a) 0 = .error e) (he : e ≠ 1) (n : Nat) : parse (toL (a ++ pad0 n ++ b)) 0 = .error e := by
  rw [toL_append, toL_append, List.append_assoc]
  exact parse_catE _ _ 0 e (Nat.le_refl _) h he _
theorem cat_mid {a b : ByteArray} {x : List Fr} (h : parse (toL a) 0 = .ok x) (n : Nat) : parse (toL (a ++ pad0 n ++ b)) 0 = match parse (toL b) x.length with
    | .ok y => .ok (x ++ y)
    | .error e => .error e := by
  rw [toL_append, toL_append, List.append_assoc, parse_cat _ _ 0 x (Nat.le_refl _) h, toL_pad0, parse_pads n (toL b) (0 + x.length) (by have := (parse_small h).1; omega), Nat.zero_add]
  cases parse (toL b) x.length <;> rfl
theorem cat_ok {a b : ByteArray} {x y : List Fr} (h : parse (toL a) 0 = .ok x) (k : parse (toL b) 0 = .ok y) (hl : x.length + y.length ≤ 64) (n : Nat) : parse (toL (a ++ pad0 n ++ b)) 0 = .ok (x ++ y) := by
  rw [cat_mid h, parse_count _ _ 0 x.length y (Nat.le_refl _) k hl]
theorem cat_bad {a b : ByteArray} {x : List Fr} {e : Int} (h : parse (toL a) 0 = .ok x) (k : parse (toL b) 0 = .error e) (n : Nat) : parse (toL (a ++ pad0 n ++ b)) 0 = .error e ∨ parse (toL (a ++ pad0 n ++ b)) 0 = .error 8 := by
  rcases parse_countE _ (toL b) 0 x.length e (Nat.le_refl _) (Nat.zero_le _) k with q | q
  · left; rw [cat_mid h, q]
  · right; rw [cat_mid h, q]
end Go.Proofs.YtmngpkkpkjnejaaDoor
