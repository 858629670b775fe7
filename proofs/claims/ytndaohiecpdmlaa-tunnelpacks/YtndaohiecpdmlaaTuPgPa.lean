/-
  What the program's own Pack and Unpack answer of any emission and any bytes. No condition but what the form allows.
-/
import Derived.Test.YtndaohiecpdmlaaTuFaceP
import Derived.Test.YtndaohiecpdmlaaTuRPk
import Derived.Test.YtndaohiecpdmlaaUdpTwo
import Derived.Test.YtndaohiecpdmlaaObRowZ
import Derived.Test.YtndaohiecpdmlaaObRun
import Derived.Laws.MakeOwn
import Derived.Laws.BytesArg
namespace Go.Proofs.Ytndaohiecpdmlaa
set_option maxRecDepth 100000
open Go.RowKit Go.Sort

theorem pport_ok (n : Int) (w : World) : Calls Try.prog 17 #[.int .i64 n] w fun e w' => e = .returned (.bool (isP n)) ∧ w = w' := by
  unfold isP
  by_cases h0 : 0 ≤ n
  · have q1 : decide (0 ≤ n) = true := decide_eq_true h0
    rw [q1, Bool.true_and]
    go_enter Try.func17, Try.ntmps17
    go_wp2_with fail
    go_ret
    exact ⟨rfl, rfl⟩
  · have q1 : decide (0 ≤ n) = false := decide_eq_false h0
    rw [q1, Bool.false_and]
    go_enter Try.func17, Try.ntmps17
    go_wp2_with fail
    go_ret
    exact ⟨rfl, rfl⟩
/-! ### numbers of bytes -/
theorem orb (x b : Int) (h0 : 0 ≤ x) (h : x < 16777216) (b0 : 0 ≤ b) (hb : b < 256) : bits .or .i64 (x * 256) b = x * 256 + b := by
  obtain ⟨a, rfl⟩ := Int.eq_ofNat_of_zero_le h0
  obtain ⟨c, rfl⟩ := Int.eq_ofNat_of_zero_le b0
  rw [show (a : Int) * 256 = ((a * 256 : Nat) : Int) by omega, i64_or_nat _ _ (by omega) (by omega), nat_join 8 (a * 256) c (by omega) (by omega)]
  omega
theorem orb0 (b : Int) (b0 : 0 ≤ b) (hb : b < 256) : bits .or .i64 0 b = b := by
  have := orb 0 b (by omega) (by omega) b0 hb
  simpa using this
theorem wsm {x : Int} (h0 : 0 ≤ x) (h : x < 4294967296) : wrap64 x = x := by unfold wrap64; omega
theorem reti {a b : Int} (h : a = b) : Ending.returned (.int .i64 a) = .returned (.int .i64 b) := by rw [h]
set_option maxHeartbeats 2000000 in
theorem pnumber2 (t : ByteArray) (w : World) (hs : t.size = 2) :
    Calls Try.prog 18 #[.string t] w fun e w' => e = .returned (.int .i64 (byt t 0 * 256 + byt t 1)) ∧ w = w' := by
  have hb := byt_bd t
  have e0 := byt_eq t 0 (by omega); have b0 := hb 0; have e1 := byt_eq t 1 (by omega); have b1 := hb 1
  have x0 := orb0 (byt t 0) b0.1 b0.2
  have x1 := orb (byt t 0) (byt t 1) b0.1 (by omega) b1.1 b1.2
  clear hb
  go_enter Try.func18, Try.ntmps18
  go_wp2
  go_rounds 3
  go_ret
  exact ⟨by first | rfl | (refine reti ?_; simp [*, wsm]; done) | (refine reti ?_; rw [wsm (by omega) (by omega)]; simp [*]), rfl⟩
set_option maxHeartbeats 2000000 in
theorem pnumber4 (t : ByteArray) (w : World) (hs : t.size = 4) :
    Calls Try.prog 18 #[.string t] w fun e w' => e = .returned (.int .i64 (((byt t 0 * 256 + byt t 1) * 256 + byt t 2) * 256 + byt t 3)) ∧ w = w' := by
  have hb := byt_bd t
  have e0 := byt_eq t 0 (by omega); have b0 := hb 0; have e1 := byt_eq t 1 (by omega); have b1 := hb 1; have e2 := byt_eq t 2 (by omega); have b2 := hb 2; have e3 := byt_eq t 3 (by omega); have b3 := hb 3
  have x0 := orb0 (byt t 0) b0.1 b0.2
  have x1 := orb (byt t 0) (byt t 1) b0.1 (by omega) b1.1 b1.2
  have x2 := orb (byt t 0 * 256 + byt t 1) (byt t 2) (by omega) (by omega) b2.1 b2.2
  have x3 := orb ((byt t 0 * 256 + byt t 1) * 256 + byt t 2) (byt t 3) (by omega) (by omega) b3.1 b3.2
  clear hb
  go_enter Try.func18, Try.ntmps18
  go_wp2
  go_rounds 5
  go_ret
  exact ⟨by first | rfl | (refine reti ?_; simp [*, wsm]; done), rfl⟩
theorem pnum2 (s : ByteArray) (w : World) (k m : Nat) (hm : m = k + 2) (hs : k + 2 ≤ s.size) : Calls Try.prog 18 #[.string (s.extract k m)] w fun e w' => e = .returned (.int .i64 (num (byt s) k 2)) ∧ w = w' := by
  subst hm
  have := pnumber2 (s.extract k (k + 2)) w (by rw [ByteArray.size_extract]; omega)
  rw [byt_extract _ _ _ _ (by omega), byt_extract _ _ _ _ (by omega)] at this
  rwa [← num2] at this
theorem pnum4 (s : ByteArray) (w : World) (k m : Nat) (hm : m = k + 4) (hs : k + 4 ≤ s.size) : Calls Try.prog 18 #[.string (s.extract k m)] w fun e w' => e = .returned (.int .i64 (num (byt s) k 4)) ∧ w = w' := by
  subst hm
  have := pnumber4 (s.extract k (k + 4)) w (by rw [ByteArray.size_extract]; omega)
  rw [byt_extract _ _ _ _ (by omega), byt_extract _ _ _ _ (by omega), byt_extract _ _ _ _ (by omega), byt_extract _ _ _ _ (by omega)] at this
  rwa [← num4] at this
theorem pnumber_wp (o : Oper) (k : Nat) {x v : Value} (ho : o.op = .call { callee := .value (.func 18), args := #[.tmp k], argTypes := #[9] }) (N : ∀ w, Calls Try.prog 18 #[x] w fun e w' => e = .returned v ∧ w = w')
    (a : Act) (w : World) (K : Act → World → Prop) (Q : Exit → Act → World → Prop) (hx : a.eval (.tmp k) = x) (hK : K (a.put o.dst v) w) : o.wp Try.prog a w K Q := by
  unfold Oper.wp
  have hr : (execOp a.eval o).run Try.prog w = .ok (.enter 18 #[x]) w := by
    unfold execOp
    rw [ho]
    simp only [go_sem] at hx ⊢
    simp [go_sem, hx]
  rw [hr]
  refine (N w).mono ?_
  rintro e w' ⟨rfl, rfl⟩
  exact hK
/-! ### a row of bytes with room -/
def KY : RowK Int := ⟨49, 5, 1, 1, fun x => [.int .u8 x], 0⟩
theorem ky_ok : KY.Ok := ⟨Try.underlying49, info_of (z := .int .u8 0) (by kernel_rfl) rfl, by decide, fun _ => rfl, fun x u hu => by
  have : u = .int .u8 x := by simpa [KY] using hu
  rw [this]
  rfl⟩
def ofY (s : ByteArray) : List Int := s.data.toList.map fun b => (b.toNat : Int)
theorem ofY_len (s : ByteArray) : (ofY s).length = s.size := by unfold ofY; rw [List.length_map, Array.length_toList]; rfl
theorem ofY_str (s : ByteArray) : strOfNums (ofY s) = s := by
  unfold strOfNums ofY
  rw [List.map_map]
  apply ByteArray.ext
  apply Array.ext'
  show List.map _ s.data.toList = s.data.toList
  conv => rhs; rw [← List.map_id s.data.toList]
  apply List.map_congr_left
  intro b _
  simp
theorem ky_flat (l : List Int) : l.flatMap KY.cells = l.map (Value.int .u8) := by
  induction l with
  | nil => rfl
  | cons a l ih => rw [List.flatMap_cons, ih]; rfl
theorem srcY (w : World) (s : ByteArray) : Src Try.prog KY.n 9 (.string s) (ofY s).length ((ofY s).flatMap KY.cells) w := by
  have e : (ofY s).flatMap KY.cells = byteCells s := by rw [ky_flat]; unfold ofY byteCells; rw [List.map_map]; rfl
  rw [e, ofY_len]
  exact Src.ofString w Try.underlying9 s
theorem RowZ.app_text {w : World} {g o n cap : Nat} {d : List Int} (h : RowZ KY w (.slice (some ⟨g, o, none⟩) n cap) d) (ty tx : TypeId) (x : Value) (m : List Int) (S : Src Try.prog KY.n tx x m.length (m.flatMap KY.cells) w) (hroom : d.length + m.length ≤ cap) :
    ∃ w', (∀ z, (builtin .append #[KY.st, tx] ty z #[.slice (some ⟨g, o, none⟩) n cap, x]).run Try.prog w = .ok (.value (.slice (some ⟨g, o, none⟩) (d.length + m.length) cap)) w') ∧ RowZ KY w' (.slice (some ⟨g, o, none⟩) (d.length + m.length) cap) (d ++ m) ∧ Kept (fun k => k = g) w w' := by
  have hK := ky_ok
  obtain ⟨i, z, hi, hz, h2, h3, hzc⟩ := hK.info
  have hla : (d ++ m).length = d.length + m.length := List.length_append
  have hfa : (d ++ m).flatMap KY.cells = d.flatMap KY.cells ++ m.flatMap KY.cells := List.flatMap_append
  have hld := flat_len hK.len d
  have hlm := flat_len hK.len m
  obtain ⟨rfl, cur, hg, q4, q5, q3, q6⟩ := h.get
  have hfit : o + d.length * KY.n + (m.flatMap KY.cells).length ≤ cur.size := by
    rw [hlm]
    have := Nat.mul_le_mul_right KY.n hroom
    rw [Nat.add_mul] at this
    omega
  have hst := run_storeCells_at Try.prog g (o + d.length * KY.n) KY.e (m.flatMap KY.cells) 0 cur w hg (by omega) (fun u hu => by
    obtain ⟨y, _, hy⟩ := List.mem_flatMap.1 hu
    exact hK.one y u hy)
  simp only [Nat.add_zero] at hst
  have hsp : ((cur.toList.take (o + d.length * KY.n) ++ m.flatMap KY.cells ++ cur.toList.drop (o + d.length * KY.n + (m.flatMap KY.cells).length)).toArray) = spl cur (o + d.length * KY.n) (m.flatMap KY.cells) := rfl
  rw [hsp] at hst
  refine ⟨w.setRow g (spl cur (o + d.length * KY.n) (m.flatMap KY.cells)), fun z => ?_, ?_, ⟨rfl, rfl, rfl, by simp [World.setRow], fun b _ hb => setRow_other _ _ _ _ hb⟩⟩
  · have hL := S.len
    have hC := S.cells
    rcases S.kind with ⟨e', hk'⟩ | hk' <;> simp [builtin, Builtin.append_, run_underlying hK.ht, run_underlying hk', sizeOf, typeInfo, hi, h2, hL, hroom, hC, Addr.add_lit, hst]
  · refine .inr ⟨g, o, cap, spl cur (o + d.length * KY.n) (m.flatMap KY.cells), by rw [hla], setRow_heap w g cur _ KY.e (0, 0) hg, by omega, q5, by rw [spl_size hfit]; exact q3, fun j hj => ?_⟩
    rw [hla, Nat.add_mul] at hj
    rw [spl_get hfit, hlm, hfa]
    by_cases e : j < d.length * KY.n
    · rw [if_pos (by omega), q6 j e, List.getElem?_append_left (by rw [hld]; exact e)]
    · rw [if_neg (by omega), if_pos (by omega), List.getElem?_append_right (by rw [hld]; omega), hld]
      congr 1
      omega
/-- A row of one's own while it is filled; a box ahead of it. -/
structure PK (w0 w : World) (E g cap : Nat) (bx : List Value) (d : List Int) : Prop where
  row : RowZ KY w (.slice (some ⟨g, 0, none⟩) d.length cap) d
  le : w0.heap.size ≤ g
  bel : Below w0.heap.size w0 w
  box : Lies w E bx
  ne : E ≠ g
  pos : 0 < bx.length
theorem PK.step {w0 w w1 w2 : World} {E g cap : Nat} {bx : List Value} {d m : List Int} {k : Nat} (h : PK w0 w E g cap bx d) (b : Below w.heap.size w w1) (r : RowZ KY w2 (.slice (some ⟨g, 0, none⟩) k cap) (d ++ m)) (hk : k = d.length + m.length) (q : Kept (fun k => k = g) w1 w2) : PK w0 w2 E g cap bx (d ++ m) :=
  ⟨by rw [List.length_append, ← hk]; exact r, h.le, (h.bel.trans (b.mono h.bel.size)).trans (q.below (Nat.le_trans h.bel.size b.size) fun k hk => by rw [hk]; exact h.le), (h.box.keep h.pos b).of_block (q.block E (Nat.lt_of_lt_of_le (h.box.lt h.pos) b.size) h.ne), h.ne, h.pos⟩
theorem PK.lit {w0 w : World} {E g cap : Nat} {bx : List Value} {d : List Int} (h : PK w0 w E g cap bx d) (m : List Int) (n k l : Nat) (hn : n = d.length) (hl : l = m.length) (hk : k = d.length + m.length) (hc : k ≤ cap) (cs : Array Value) (hcs : cs = (m.flatMap KY.cells).toArray) :
    ∃ w', Hid (∀ z, (builtin .append #[49, 49] 49 z #[.slice (some ⟨g, 0, none⟩) n cap, .slice (some ⟨w.heap.size, 0, none⟩) l l]).run Try.prog (w.alloc (.cells cs 5)) = .ok (.value (.slice (some ⟨g, 0, none⟩) k cap)) w') ∧ PK w0 w' E g cap bx (d ++ m) := by
  subst hn hl hk hcs
  have b : Below w.heap.size w (w.alloc (.cells (m.flatMap KY.cells).toArray 5)) := (Below.refl _ _).alloc (Nat.le_refl _) _
  obtain ⟨w', r, R, q⟩ := (h.row.keep b).app_room ky_ok 49 (.slice (some ⟨w.heap.size, 0, none⟩) m.length m.length) m (src_lit ky_ok w m 5) hc
  exact ⟨w', r, h.step b R rfl q⟩
theorem PK.text {w0 w : World} {E g cap : Nat} {bx : List Value} {d : List Int} (h : PK w0 w E g cap bx d) (s : ByteArray) (n k : Nat) (hn : n = d.length) (hk : k = d.length + s.size) (hc : k ≤ cap) :
    ∃ w', Hid (∀ z, (builtin .append #[49, 9] 49 z #[.slice (some ⟨g, 0, none⟩) n cap, .string s]).run Try.prog w = .ok (.value (.slice (some ⟨g, 0, none⟩) k cap)) w') ∧ PK w0 w' E g cap bx (d ++ ofY s) := by
  subst hn hk
  have e := ofY_len s
  obtain ⟨w', r, R, q⟩ := h.row.app_text 49 9 (.string s) (ofY s) (srcY w s) (by rw [e]; exact hc)
  rw [e] at r R
  exact ⟨w', r, h.step (Below.refl _ _) R (by rw [e]) q⟩
theorem PK.conv {w0 w : World} {E g cap : Nat} {bx : List Value} {d : List Int} (h : PK w0 w E g cap bx d) (n : Nat) (hn : n = d.length) :
    (convert 49 9 (.slice (some ⟨g, 0, none⟩) n cap)).run Try.prog w = .ok (.string (strOfNums d)) w := by
  subst hn
  exact run_convert_bytes_arg (P := Try.prog) _ 49 5 Try.underlying49 Try.underlying5 g 0 d.length cap d rfl (fun i hi => by
    have := h.row.cell ky_ok i 0 hi (by decide)
    have := this.1
    simpa [KY] using this) 9 Try.underlying9
theorem mk_room (c : Nat) (h : c ≤ 281474976710656) : ∃ cs : Array Value, cs.size = c ∧ Hid (∀ w : World, (Instr.makeSlice 49 (.int .i64 0) (.int .i64 (c : Int))).run Try.prog w = .ok (.slice (some ⟨w.heap.size, 0, none⟩) 0 c) (w.alloc (.cells cs 5))) := by
  obtain ⟨i, z, hi, hz, h2, h3, hzc⟩ := ky_ok.info
  have e2 : i.size = 1 := h2
  have e3 : i.bytes = 1 := h3
  refine ⟨madeCells z.cells (c * i.size), by simp [madeCells, e2], fun w => ?_⟩
  have := run_make (P := Try.prog) w 49 5 i z Try.underlying49 hi hz .i64 .i64 0 c (by omega) (by omega) (by rw [e3]; omega) (by omega)
  rw [this, Int.toNat_natCast]
  rfl
theorem PK.new {w0 w : World} {E cap : Nat} {bx : List Value} (h0 : w0.heap.size ≤ w.heap.size) (b : Below w0.heap.size w0 w) (l : Lies w E bx) (p : 0 < bx.length) (cs : Array Value) (hs : cs.size = cap) (hm : cap ≤ maxLen) : PK w0 (w.alloc (.cells cs 5)) E w.heap.size cap bx [] := by
  have b1 : Below w.heap.size w (w.alloc (.cells cs 5)) := (Below.refl _ _).alloc (Nat.le_refl _) _
  refine ⟨.inr ⟨w.heap.size, 0, cap, cs, rfl, ?_, Nat.zero_le _, hm, ?_, fun j hj => ?_⟩, h0, b.trans (b1.mono h0), l.keep p b1, Nat.ne_of_lt (l.lt p), p⟩
  · show (w.heap.push _)[w.heap.size]? = _
    simp [KY]
  · show 0 + cap * 1 ≤ _
    omega
  · simp at hj
end Go.Proofs.Ytndaohiecpdmlaa
