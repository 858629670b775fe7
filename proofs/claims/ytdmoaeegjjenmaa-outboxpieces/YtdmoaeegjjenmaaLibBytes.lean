/-
  bytes.IndexByte, and bytes.Count and bytes.Repeat at one byte, over bytes in a row: what they answer. Repeat: at most 1000000 times. No other condition.
-/
import Derived.Test.YtdmoaeegjjenmaaObBytes
import Derived.Test.YtdmoaeegjjenmaaLibMul
import Derived.Lib.BytesEntry
import Derived.Lib.MakeNoZero
import Derived.Laws.Externs
import Derived.Shelf.Bytes.SlCountOne
namespace Go.Proofs.Ytdmoaeegjjenmaa
set_option maxRecDepth 100000
open Go.RowKit Go.Sort

/-- The place of the first byte that is c, or behind all. -/
def fstY (c : Int) : List Int → Nat
  | [] => 0
  | x :: l => if x = c then 0 else fstY c l + 1
theorem fstY_le (c : Int) : ∀ l, fstY c l ≤ l.length
  | [] => Nat.le_refl _
  | x :: l => by
    unfold fstY
    have := fstY_le c l
    split
    · omega
    · rw [List.length_cons]; omega
def Byte (l : List Int) : Prop := ∀ x ∈ l, 0 ≤ x ∧ x ≤ 255
theorem Byte.tail {x : Int} {l : List Int} (h : Byte (x :: l)) : Byte l := fun y hy => h y (List.mem_cons_of_mem _ hy)
theorem byte_eq {x c : Int} (hx : 0 ≤ x ∧ x ≤ 255) (hc : 0 ≤ c ∧ c ≤ 255) : (UInt8.ofNat x.toNat == c.toNat.toUInt8) = decide (x = c) := by
  by_cases e : x = c
  · subst e
    simp
  · rw [decide_eq_false e]
    apply beq_false_of_ne
    intro q
    have := congrArg UInt8.toNat q
    simp at this
    omega
theorem index_fst (c : Int) (hc : 0 ≤ c ∧ c ≤ 255) : ∀ l : List Int, Byte l → Lib.indexByte (Lib.bytesOf l) c.toNat.toUInt8 = if fstY c l < l.length then (fstY c l : Int) else -1
  | [], _ => rfl
  | x :: l, h => by
    have ih := index_fst c hc l h.tail
    show (if (UInt8.ofNat x.toNat == c.toNat.toUInt8) = true then (0 : Int) else if (Lib.indexByte (Lib.bytesOf l) c.toNat.toUInt8 == -1) = true then -1 else Lib.indexByte (Lib.bytesOf l) c.toNat.toUInt8 + 1) = _
    have e0 : fstY c (x :: l) = if x = c then 0 else fstY c l + 1 := rfl
    rw [byte_eq (h x (List.mem_cons_self ..)) hc, ih, e0]
    by_cases e : x = c
    · rw [decide_eq_true e, if_pos rfl, if_pos e, if_pos (by rw [List.length_cons]; omega)]
      rfl
    · rw [decide_eq_false e, if_neg (by decide), if_neg e]
      by_cases q : fstY c l < l.length
      · have q2 : ((fstY c l : Int) == -1) = false := by rw [beq_eq_false_iff_ne]; omega
        rw [if_pos q, q2, if_neg (by decide), if_pos (show fstY c l + 1 < (x :: l).length by rw [List.length_cons]; omega)]
        omega
      · rw [if_neg q, if_pos (by decide), if_neg (show ¬ fstY c l + 1 < (x :: l).length by rw [List.length_cons]; omega)]
def cntY (c : Int) (l : List Int) : Nat := (l.filter fun x => decide (x = c)).length
theorem count_cnt (c : Int) (hc : 0 ≤ c ∧ c ≤ 255) : ∀ l : List Int, Byte l → Lib.countByte (Lib.bytesOf l) c.toNat.toUInt8 = cntY c l
  | [], _ => rfl
  | x :: l, h => by
    have ih := count_cnt c hc l h.tail
    unfold Lib.countByte Lib.bytesOf cntY at ih ⊢
    rw [List.map_cons, List.count_cons, ih, byte_eq (h x (List.mem_cons_self ..)) hc, List.filter_cons]
    by_cases e : x = c <;> simp [e]
set_option maxHeartbeats 1000000 in
theorem index_ok (w : World) (v : Value) (xs : List Int) (c : Int) (h : RowY w v xs) (hb : Byte xs) (hc : 0 ≤ c ∧ c ≤ 255) :
    Calls Try.prog 30 #[v, .int .u8 c] w fun e w' => e = .returned (.int .i64 (if fstY c xs < xs.length then (fstY c xs : Int) else -1)) ∧ w = w' := by
  rw [← index_fst c hc xs hb]
  have hrun : Hid ((Extern.BytealgIndexByte.indexByte #[v, .int .u8 c]).run Try.prog w = .ok (.int .i64 (Lib.indexByte (Lib.bytesOf xs) c.toNat.toUInt8)) w) := by
    rcases h with ⟨rfl, rfl⟩ | ⟨g, o, cap, cur, rfl, hg, -, -, -, q6⟩
    · exact Lib.run_indexByteNil w 0 0 c
    · exact Lib.run_indexByteSlice w g o xs.length cap xs rfl (fun i hi => by rw [← q6 i hi]; simp [World.cell?, hg]) c
  generalize Lib.indexByte (Lib.bytesOf xs) c.toNat.toUInt8 = I at *
  clear h hb
  go_enter Try.func30, Try.ntmps30
  go_wp2
  rw [run_callFunc_extern Try.func41 (by kernel_rfl) (by kernel_rfl) (by kernel_rfl) (e := Extern.BytealgIndexByte.indexByte) (by kernel_rfl), hrun.out]
  simp only [Result.andThen]
  rw [Oper.upon_value]
  go_wp2
  go_ret
  exact ⟨rfl, rfl⟩
set_option maxHeartbeats 1000000 in
theorem count_ok (w : World) (v : Value) (xs : List Int) (g : Nat) (c : Int) (h : RowY w v xs) (hs : RowY w (.slice (some ⟨g, 0, none⟩) 1 1) [c]) (hb : Byte xs) (hc : 0 ≤ c ∧ c ≤ 255) :
    Calls Try.prog 38 #[v, .slice (some ⟨g, 0, none⟩) 1 1] w fun e w' => e = .returned (.int .i64 (cntY c xs : Nat)) ∧ w = w' := by
  rw [← count_cnt c hc xs hb]
  have hcell := (hs.cell 0 (by simp)).1
  simp at hcell
  have hrun : Hid ((Extern.BytealgCount.count #[v, .int .u8 c]).run Try.prog w = .ok (.int .i64 (Lib.countByte (Lib.bytesOf xs) c.toNat.toUInt8 : Nat)) w) := by
    rcases h with ⟨rfl, rfl⟩ | ⟨g, o, cap, cur, rfl, hg, -, -, -, q6⟩
    · exact Lib.run_countNil w 0 0 c
    · exact Lib.run_countSlice w g o xs.length cap xs rfl (fun i hi => by rw [← q6 i hi]; simp [World.cell?, hg]) c
  have ha := at_u8 g 0 1 1 0 w (by decide) 0 rfl 0 rfl
  generalize Lib.countByte (Lib.bytesOf xs) c.toNat.toUInt8 = I at *
  clear h hb hs
  go_enter Try.func38, Try.ntmps38
  go_wp2
  rw [run_callFunc_extern Try.func43 (by kernel_rfl) (by kernel_rfl) (by kernel_rfl) (e := Extern.BytealgCount.count) (by kernel_rfl), hrun.out]
  simp only [Result.andThen]
  rw [Oper.upon_value]
  go_wp2
  go_ret
  exact ⟨rfl, rfl⟩
/-- The first k bytes of a new row are x. -/
structure RepB (w0 wr : World) (n k : Nat) (x : Int) : Prop where
  cur : ∃ cur : Array Value, wr.heap[w0.heap.size]? = some (.cells cur 5 (0, 0)) ∧ n ≤ cur.size ∧ ∀ j, j < k → cur[j]? = some (.int .u8 x)
  bel : Below w0.heap.size w0 wr
theorem RepB.copy {w0 wr : World} {n k : Nat} {x : Int} (h : RepB w0 wr n k x) (o dl dc sl sc m : Nat) (a : Addr) (hm : m = Nat.min sl dl) (hok : o ≤ k) (hfit : o + m ≤ n) (hsrc : ∀ j, j < m → wr.cell? (a.add j) = some (.int .u8 x)) :
    ∃ w', (∀ ty z, (builtin .copy #[59, 59] ty z #[.slice (some ⟨w0.heap.size, o, none⟩) dl dc, .slice (some a) sl sc]).run Try.prog wr = .ok (.value (.int .i64 (m : Int))) w') ∧ RepB w0 w' n (max k (o + m)) x := by
  obtain ⟨⟨cur, hg, hs, hx⟩, hb⟩ := h
  have hl : (List.replicate m (Value.int .u8 x)).length = m := List.length_replicate
  have hr : ∀ ty, (Builtin.copy_ #[59, 59] ty #[.slice (some ⟨w0.heap.size, o, none⟩) dl dc, .slice (some a) sl sc]).run Try.prog wr = .ok (goInt (List.replicate m (Value.int .u8 x)).length) (wr.setRow w0.heap.size (spl cur o (List.replicate m (Value.int .u8 x)))) := fun ty =>
    run_copy_row Try.prog wr 59 59 ty 5 w0.heap.size o dl dc a sl sc cur 5 (List.replicate m (.int .u8 x)) Try.underlying59 (by kernel_rfl) hg (by rw [hl, hm]) (fun j v hj => by
      have hlt : j < m := by have := (List.getElem?_eq_some_iff.1 hj).1; rwa [hl] at this
      rw [List.getElem?_replicate, if_pos hlt] at hj
      rw [← hj]
      exact hsrc j hlt) (by rw [hl]; omega) (fun v hv => by rw [List.eq_of_mem_replicate hv]; rfl)
  rw [hl] at hr
  refine ⟨_, fun ty z => by simp only [builtin, Sem.run_bind, Sem.run_pure, hr, Result.andThen_ok]; rfl, ⟨spl cur o (List.replicate m (.int .u8 x)), setRow_heap wr _ cur _ 5 (0, 0) hg, by rw [spl_size (by rw [hl]; omega)]; exact hs, fun j hj => ?_⟩, ⟨hb.os, hb.tape, hb.output, by simpa [World.setRow] using hb.size, fun b hbb => (setRow_other _ _ _ _ (by omega)).trans (hb.block b hbb)⟩⟩
  rw [spl_get (by rw [hl]; omega), hl]
  by_cases q : j < o
  · rw [if_pos q]; exact hx j (by omega)
  · rw [if_neg q]
    by_cases r : j < o + m
    · rw [if_pos r, List.getElem?_replicate, if_pos (by omega)]
    · rw [if_neg r]; exact hx j (by omega)
theorem RepB.drew {w0 wr : World} {n k : Nat} {x : Int} (h : RepB w0 wr n k x) : RepB w0 wr.drew n k x := ⟨h.cur, ⟨h.bel.os, h.bel.tape, h.bel.output, h.bel.size, h.bel.block⟩⟩
theorem RepB.cell {w0 wr : World} {n k : Nat} {x : Int} (h : RepB w0 wr n k x) (j : Nat) (hj : j < k) : wr.cell? (Addr.add ⟨w0.heap.size, 0, none⟩ j) = some (.int .u8 x) := by
  obtain ⟨⟨cur, hg, -, hx⟩, -⟩ := h
  rw [Addr.add_mid, Nat.zero_add, ← hx j hj]
  simp [World.cell?, hg]
theorem RepB.row {w0 wr : World} {n : Nat} {x : Int} (h : RepB w0 wr n n x) (hn : n ≤ 1000000) : RowY wr (.slice (some ⟨w0.heap.size, 0, none⟩) n n) (List.replicate n x) := by
  obtain ⟨⟨cur, hg, hs, hx⟩, -⟩ := h
  have hl : (List.replicate n x).length = n := List.length_replicate
  have := RowY.mk (xs := List.replicate n x) (o := 0) (cap := n) hg (by omega) (by unfold maxLen; omega) (by omega) fun k hk => by
    rw [hl] at hk
    rw [Nat.zero_add, hx k hk]
    simp [List.getD, hk]
  rwa [hl] at this
set_option maxHeartbeats 4000000 in
theorem repeat_ok (w : World) (g c : Nat) (x : Int) (n : Nat) (h : RowY w (.slice (some ⟨g, 0, none⟩) 1 c) [x]) (hn : n ≤ 1000000) :
    Calls Try.prog 28 #[.slice (some ⟨g, 0, none⟩) 1 c, .int .i64 n] w fun e w' => ∃ v', e = .returned v' ∧ RowY w' v' (List.replicate n x) ∧ Below w.heap.size w w' ∧ (∀ k, v'.ownBlock = some k → w.heap.size ≤ k) := by
  rcases Nat.eq_zero_or_pos n with rfl | hp
  · clear h
    go_enter Try.func28, Try.ntmps28
    go_wp2
    go_ret
    refine ⟨_, rfl, .inr ⟨w.heap.size, 0, 0, #[], rfl, ?_, Nat.le_refl _, Nat.zero_le _, Nat.le_refl _, fun k hk => by simp at hk⟩, (Below.refl _ _).alloc (Nat.le_refl _) _, fun k hk => ?_⟩
    · show (w.heap.push _)[w.heap.size]? = _
      simp
    · injection hk with hk
      exact Nat.le_of_eq hk
  · obtain ⟨cs, hmk, hcs, -⟩ := Lib.run_makeNoZero (P := Try.prog) w #[3] 59 5 Try.underlying59 n (by omega)
    have M := Lib.hid (mul_ok n w hn)
    have z0 : ((n : Int) == 0) = false := by rw [beq_eq_false_iff_ne]; omega
    have z1 : IntKind.u64.wrap (n : Int) = n := by rw [IntKind.wrap_u64]; omega
    have z2 : ¬ ((n : Int) < 0) := by omega
    have hx := (h.cell 0 (by simp)).1
    simp only [Nat.add_zero, List.getD_cons_zero] at hx
    have hgl : g < w.heap.size := h.lt g rfl
    have R0 : RepB w (w.drew.drew.alloc (.cells cs 5)) n 0 x := ⟨⟨cs, by show (w.heap.push _)[w.heap.size]? = _; simp, hcs, fun j hj => by omega⟩, (⟨rfl, rfl, rfl, Nat.le_refl _, fun _ _ => rfl⟩ : Below w.heap.size w w.drew.drew).alloc (Nat.le_refl _) _⟩
    obtain ⟨w1, hc1, R1⟩ := R0.copy 0 n n 1 c 1 ⟨g, 0, none⟩ (show 1 = min 1 n by omega) (Nat.le_refl _) (by omega) (fun j hj => by
      obtain rfl : j = 0 := by omega
      rw [Addr.add_mid]
      exact (R0.bel.cell (p := ⟨g, 0, none⟩) hgl).trans hx)
    rw [show max 0 (0 + 1) = 1 from rfl] at R1
    replace hc1 := Lib.hid hc1
    replace R1 := Lib.hid R1
    clear R0 h hx
    by_cases q : 8192 < n
    · have q1 : decide ((8192 : Int) < (n : Int)) = true := decide_eq_true (by omega)
      go_enter Try.func28, Try.ntmps28
      go_wp2_with fail
      refine M.out.mono ?_
      rintro e w2 ⟨rfl, rfl⟩
      clear M
      go_wp2_with fail
      rw [run_callFunc_extern Try.func40 (by kernel_rfl) (by kernel_rfl) (by kernel_rfl) (e := Extern.BytealgMakeNoZero.makeNoZero #[3] #[59]) (by kernel_rfl), hmk]
      simp only [Result.andThen]
      rw [Oper.upon_value]
      clear hmk
      go_wp2_with (refine obB2L _ rfl .copy _ _ 59 59 rfl (.slice (some ⟨w.heap.size, 0, none⟩) n n) (.slice (some ⟨g, 0, none⟩) 1 c) rfl rfl (hc1.out _) ?_)
      go_loopg [10] (n - 1) (fun g' bv wr => ∃ k : Nat, Hid (1 ≤ k ∧ k ≤ n ∧ k + g' = n) ∧ bv = .int .i64 k ∧ Hid (RepB w wr n k x))
      case atStart => exact ⟨1, ⟨by omega, by omega, by omega⟩, rfl, R1⟩
      case round =>
        clear R1 hc1
        obtain ⟨k, hk, rfl, R⟩ := hrel
        obtain ⟨hk1, hk2, hkg⟩ := hk.out
        replace hkg := Lib.hid hkg
        by_cases hlt : k < n
        · have y1 : decide ((k : Int) < (n : Int)) = true := decide_eq_true (by omega)
          have y1' : decide (k < n) = true := decide_eq_true hlt
          obtain ⟨ch, hch⟩ : ∃ ch : Nat, ch = min k (8192) := ⟨_, rfl⟩
          have y2 : min (k : Int) (8192 : Int) = (ch : Int) := by omega
          obtain ⟨m, hm⟩ : ∃ m : Nat, m = Nat.min ch (n - k) := ⟨_, rfl⟩
          have hm' : m = min ch (n - k) := hm
          obtain ⟨w3, hc3, R3⟩ := R.out.drew.copy k (n - k) (n - k) ch n m ⟨w.heap.size, 0, none⟩ hm (Nat.le_refl _) (by omega) (fun j hj => R.out.drew.cell j (by omega))
          rw [show max k (k + m) = k + m by omega] at R3
          replace hc3 := Lib.hid hc3
          replace R3 := Lib.hid R3
          have hms : Hid (n - (k + m) < gk) := by have := hkg.out; unfold Hid; omega
          have hk3 : Hid (1 ≤ k + m ∧ k + m ≤ n ∧ k + m + (n - (k + m)) = n) := by unfold Hid; omega
          have hne : ¬ (n = k) := by omega
          have hwr : Hid (IntKind.i64.wrap ((k : Int) + (m : Int)) = ((k + m : Nat) : Int)) := by unfold Hid; rw [IntKind.wrap_i64]; omega
          have hcn : (ch : Int) ≤ (n : Int) := by omega
          have hkn : (k : Int) ≤ (n : Int) := by omega
          have hkm : (k : Int) + (m : Int) ≤ 1000000 := by omega
          clear R hm hm' hch hk
          go_wp2_with fail
          go_region_law (refine obB2S rfl .copy _ _ 59 59 rfl (.slice (some ⟨w.heap.size, k, none⟩) (n - k) (n - k)) (.slice (some ⟨w.heap.size, 0, none⟩) ch n) (by simp [Act.eval, Act.put]) (by simp [Act.eval, Act.put]) (hc3.out _) ?_)
          go_wp2_with fail
          go_roundg (n - (k + m))
          case measure => exact hms.out
          case rel => exact ⟨k + m, hk3, congrArg (Value.int .i64) hwr.out, R3⟩
        · obtain rfl : k = n := by omega
          have y1 : decide ((k : Int) < (k : Int)) = false := decide_eq_false (by omega)
          have V := R.out.row hn
          have Bl := R.out.bel
          replace V := Lib.hid V
          replace Bl := Lib.hid Bl
          clear R hk hkg
          go_wp2_with fail
          go_ret
          exact ⟨_, rfl, V.out, Bl.out, fun j hj => by injection hj with hj; exact Nat.le_of_eq hj⟩
    · have q1 : decide ((8192 : Int) < (n : Int)) = false := decide_eq_false (by omega)
      go_enter Try.func28, Try.ntmps28
      go_wp2_with fail
      refine M.out.mono ?_
      rintro e w2 ⟨rfl, rfl⟩
      clear M
      go_wp2_with fail
      rw [run_callFunc_extern Try.func40 (by kernel_rfl) (by kernel_rfl) (by kernel_rfl) (e := Extern.BytealgMakeNoZero.makeNoZero #[3] #[59]) (by kernel_rfl), hmk]
      simp only [Result.andThen]
      rw [Oper.upon_value]
      clear hmk
      go_wp2_with (refine obB2L _ rfl .copy _ _ 59 59 rfl (.slice (some ⟨w.heap.size, 0, none⟩) n n) (.slice (some ⟨g, 0, none⟩) 1 c) rfl rfl (hc1.out _) ?_)
      go_loopg [10] (n - 1) (fun g' bv wr => ∃ k : Nat, Hid (1 ≤ k ∧ k ≤ n ∧ k + g' = n) ∧ bv = .int .i64 k ∧ Hid (RepB w wr n k x))
      case atStart => exact ⟨1, ⟨by omega, by omega, by omega⟩, rfl, R1⟩
      case round =>
        clear R1 hc1
        obtain ⟨k, hk, rfl, R⟩ := hrel
        obtain ⟨hk1, hk2, hkg⟩ := hk.out
        replace hkg := Lib.hid hkg
        by_cases hlt : k < n
        · have y1 : decide ((k : Int) < (n : Int)) = true := decide_eq_true (by omega)
          have y1' : decide (k < n) = true := decide_eq_true hlt
          obtain ⟨ch, hch⟩ : ∃ ch : Nat, ch = min k (n) := ⟨_, rfl⟩
          have y2 : min (k : Int) (n : Int) = (ch : Int) := by omega
          obtain ⟨m, hm⟩ : ∃ m : Nat, m = Nat.min ch (n - k) := ⟨_, rfl⟩
          have hm' : m = min ch (n - k) := hm
          obtain ⟨w3, hc3, R3⟩ := R.out.drew.copy k (n - k) (n - k) ch n m ⟨w.heap.size, 0, none⟩ hm (Nat.le_refl _) (by omega) (fun j hj => R.out.drew.cell j (by omega))
          rw [show max k (k + m) = k + m by omega] at R3
          replace hc3 := Lib.hid hc3
          replace R3 := Lib.hid R3
          have hms : Hid (n - (k + m) < gk) := by have := hkg.out; unfold Hid; omega
          have hk3 : Hid (1 ≤ k + m ∧ k + m ≤ n ∧ k + m + (n - (k + m)) = n) := by unfold Hid; omega
          have hne : ¬ (n = k) := by omega
          have hwr : Hid (IntKind.i64.wrap ((k : Int) + (m : Int)) = ((k + m : Nat) : Int)) := by unfold Hid; rw [IntKind.wrap_i64]; omega
          have hcn : (ch : Int) ≤ (n : Int) := by omega
          have hkn : (k : Int) ≤ (n : Int) := by omega
          have hkm : (k : Int) + (m : Int) ≤ 1000000 := by omega
          clear R hm hm' hch hk
          go_wp2_with fail
          go_region_law (refine obB2S rfl .copy _ _ 59 59 rfl (.slice (some ⟨w.heap.size, k, none⟩) (n - k) (n - k)) (.slice (some ⟨w.heap.size, 0, none⟩) ch n) (by simp [Act.eval, Act.put]) (by simp [Act.eval, Act.put]) (hc3.out _) ?_)
          go_wp2_with fail
          go_roundg (n - (k + m))
          case measure => exact hms.out
          case rel => exact ⟨k + m, hk3, congrArg (Value.int .i64) hwr.out, R3⟩
        · obtain rfl : k = n := by omega
          have y1 : decide ((k : Int) < (k : Int)) = false := decide_eq_false (by omega)
          have V := R.out.row hn
          have Bl := R.out.bel
          replace V := Lib.hid V
          replace Bl := Lib.hid Bl
          clear R hk hkg
          go_wp2_with fail
          go_ret
          exact ⟨_, rfl, V.out, Bl.out, fun j hj => by injection hj with hj; exact Nat.le_of_eq hj⟩
end Go.Proofs.Ytdmoaeegjjenmaa
