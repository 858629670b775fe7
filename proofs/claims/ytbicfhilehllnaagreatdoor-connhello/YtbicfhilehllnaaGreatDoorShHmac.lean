/-
  What the document's own turned and Hmac answer, for every key and text of less than 2^39 bytes: the code that the chapter says. No other condition.
-/
import Derived.Test.YtbicfhilehllnaaGreatDoorShSum
import Derived.OwnWalk
import Derived.Laws.OwnMore
namespace Go.Proofs.YtbicfhilehllnaaGreatDoor
set_option maxRecDepth 100000
open Go.RowKit Go.Sort

/-- A key of sixty-four bytes, each turned by a byte. -/
def tby (key : List Nat) (b : Nat) (k : Nat) : List Nat := (List.range k).map fun i => key.getD i 0 ^^^ b
/-- A key, or its digest. -/
def kk (key : List Nat) : List Nat := if 64 < key.length then dig key else key
/-- The code of a text under a key. -/
def hm (key l : List Nat) : List Nat := dig (tby (kk key) 92 64 ++ dig (tby (kk key) 54 64 ++ l))
theorem tby_length (key : List Nat) (b k : Nat) : (tby key b k).length = k := by simp [tby]
theorem tby_succ (key : List Nat) (b k : Nat) : tby key b (k + 1) = tby key b k ++ [key.getD k 0 ^^^ b] := by
  unfold tby
  rw [List.range_succ, List.map_append]
  rfl
theorem get_lt {key : List Nat} (h : ∀ x ∈ key, x < 256) (i : Nat) : key.getD i 0 < 256 := by
  rw [List.getD]
  cases e : key[i]? with
  | none => decide
  | some x => exact h x (List.mem_of_getElem? e)
theorem tby_lt {key : List Nat} (h : ∀ x ∈ key, x < 256) (b : Nat) (hb : b < 256) (k : Nat) : ∀ x ∈ tby key b k, x < 256 := by
  intro x hx
  obtain ⟨i, _, rfl⟩ := List.mem_map.1 hx
  exact Nat.xor_lt_two_pow (n := 8) (get_lt h i) hb
theorem info_u8 : ∃ i, Tryz.prog.info? 5 = some i ∧ i.zero = some (.int .u8 0) ∧ i.size = 1 ∧ i.bytes = 1 := by
  have h : (Tryz.prog.info? 5).map (fun i => (i.zero, i.size, i.bytes)) = some (some (.int .u8 0), 1, 1) := by kernel_rfl
  obtain ⟨i, hi, e⟩ := Option.map_eq_some_iff.1 h
  simp only [Prod.mk.injEq] at e
  exact ⟨i, hi, e.1, e.2.1, e.2.2⟩
/-- Bytes as cells. -/
def bc (l : List Nat) : List Value := l.map fun x : Nat => .int .u8 (x : Int)
theorem xor8 (a b : Nat) (ha : a < 256) (hb : b < 256) : bits .xor .u8 (a : Int) (b : Int) = ((a ^^^ b : Nat) : Int) := u8_xor_nat a b ha hb
theorem bc_snoc (l : List Nat) (x : Nat) : bc (l ++ [x]) = bc l ++ [.int .u8 (x : Int)] := by unfold bc; rw [List.map_append]; rfl
theorem bstr_nums (l : List Nat) : strOfNums (l.map fun x : Nat => (x : Int)) = bstr l := by
  unfold strOfNums bstr
  rw [List.map_map]
  rfl
/-- A row of bytes of its own, as a text. -/
theorem own_str {w : World} {B n : Nat} {v : Value} {l : List Nat} (h : w.ownsRow B 5 1 v n (bc l)) (hn : 0 < n) :
    ∃ g cap, v = .slice (some ⟨g, 0, none⟩) n cap ∧ (convert 129 9 (.slice (some ⟨g, 0, none⟩) n cap)).run Tryz.prog w = .ok (.string (bstr l)) w := by
  have hl : l.length = n := by
    have := h.1
    simpa [bc] using this
  rcases h.2 with ⟨rfl, rfl⟩ | ⟨g, cap, cur, rfl, hb, hg, h1, h2, h3, h4⟩
  · exact absurd hn (by decide)
  · refine ⟨g, cap, rfl, ?_⟩
    rw [← bstr_nums]
    refine run_convert_bytes_arg (P := Tryz.prog) w 129 5 Tryz.underlying129 Tryz.underlying5 g 0 n cap _ (by simpa using hl) (fun i hi => ?_) 9 Tryz.underlying9
    rw [Nat.zero_add, World.ownsRow.cellAt h i (by omega)]
    have hi' : i < l.length := by omega
    simp [bc, List.getD, List.getElem?_eq_getElem hi']
set_option maxHeartbeats 4000000 in
theorem rturned_ok (key : ByteArray) (b : Nat) (w : World) (hb : b < 256) :
    Calls Tryz.prog 148 #[.string key, .int .u8 (b : Int)] w fun e w' => e = .returned (.string (bstr (tby (nb key) b 64))) ∧ Below w.heap.size w w' := by
  obtain ⟨i0, hi, hz0, hz1, hz2⟩ := info_u8
  go_enter Tryz.func148, Tryz.ntmps148
  go_wp2
  go_loopg [5, 6] 64 (fun g v i wr => ∃ k : Nat, k + g = 64 ∧ i = .int .i64 k ∧ Hid (wr.ownsRow w.heap.size 5 1 v k (bc (tby (nb key) b k))) ∧ Hid (Below w.heap.size w wr))
  case atStart => exact ⟨0, rfl, rfl, World.ownsRow_nil _ _ _ _, Below.refl _ _⟩
  case round =>
    obtain ⟨k, hk, rfl, hown, bel⟩ := hrel
    by_cases hk64 : k < 64
    · have g1 : decide ((k : Int) < 64) = true := decide_eq_true (by omega)
      have ts := tby_succ (nb key) b k
      have hx := get_lt (nb_lt key) k
      have xx := xor8 _ b hx hb
      by_cases hkk : k < key.size
      · have g2 : (k : Int) < key.size := by omega
        have yy : ∀ h : k < key.size, ((key[k].toNat : Nat) : Int) = (((nb key).getD k 0 : Nat) : Int) := fun h => by rw [nb_get key k h]
        generalize (nb key).getD k 0 = x at *
        go_wp2_with (at_builtin; refine wpList_append_own _ rfl _ _ 129 rfl w.heap.size 5 i0 (.int .u8 0) 1 1 Tryz.underlying129 hi hz0 hz1 hz2 rfl (by decide) _ _ _ rfl (hown.out.alloc _) ⟨wr.heap.size, 0, none⟩ 1 1 [.int .u8 ((x ^^^ b : Nat) : Int)] rfl rfl ?c1 ?c2 ?c3 ?c4 ?c5 ?_)
        case c1 =>
          intro j u hj
          match j, hj with
          | 0, hj => simp at hj; subst hj; simp [Addr.add]
          | j + 1, hj => simp at hj
        case c2 => first | (intro u hu; simp at hu; subst hu; rfl) | rfl
        case c3 => unfold maxLen; omega
        case c4 => omega
        case c5 => have := bel.out.size; simp; omega
        · intro v' w1 hown' hgrow _
          have hB : Hid (Below w.heap.size w w1) := (bel.out.alloc bel.out.size _).grown hgrow (Nat.le_trans bel.out.size (by simp)) (fun k hk => (hown.out.lt k hk).1)
          have hO : Hid (w1.ownsRow w.heap.size 5 1 v' (k + 1) (bc (tby (nb key) b (k + 1)))) := by
            rw [ts, bc_snoc]
            exact hown'
          clear hown' hgrow hown bel
          go_wp2
          go_roundg (64 - (k + 1))
          case measure => omega
          case rel => exact ⟨k + 1, by omega, by go_num, hO, hB⟩
      · have g2 : ¬ (k : Int) < key.size := by omega
        have g3 : decide ((k : Int) < key.size) = false := decide_eq_false g2
        have e0 : (nb key).getD k 0 = 0 := by rw [List.getD, List.getElem?_eq_none (by rw [nb_length]; omega)]; rfl
        rw [e0, Nat.zero_xor] at ts
        clear xx hx e0
        go_wp2_with (at_builtin; refine wpList_append_own _ rfl _ _ 129 rfl w.heap.size 5 i0 (.int .u8 0) 1 1 Tryz.underlying129 hi hz0 hz1 hz2 rfl (by decide) _ _ _ rfl (hown.out.alloc _) ⟨wr.heap.size, 0, none⟩ 1 1 [.int .u8 ((b : Nat) : Int)] rfl rfl ?c1 ?c2 ?c3 ?c4 ?c5 ?_)
        case c2 => first | (intro u hu; simp at hu; subst hu; rfl) | rfl
        case c3 => unfold maxLen; omega
        case c4 => omega
        case c5 => have := bel.out.size; simp; omega
        · intro v' w1 hown' hgrow _
          have hB : Hid (Below w.heap.size w w1) := (bel.out.alloc bel.out.size _).grown hgrow (Nat.le_trans bel.out.size (by simp)) (fun k hk => (hown.out.lt k hk).1)
          have hO : Hid (w1.ownsRow w.heap.size 5 1 v' (k + 1) (bc (tby (nb key) b (k + 1)))) := by
            rw [ts, bc_snoc]
            exact hown'
          clear hown' hgrow hown bel
          go_wp2
          go_roundg (64 - (k + 1))
          case measure => omega
          case rel => exact ⟨k + 1, by omega, by go_num, hO, hB⟩
    · obtain rfl : k = 64 := by omega
      have g1 : decide (((64 : Nat) : Int) < 64) = false := by decide
      obtain ⟨g, cap, rfl, hcv⟩ := own_str hown.out (by decide)
      clear hown
      go_wp2
      go_ret
      exact ⟨rfl, bel.out⟩
theorem nb_append (a b : ByteArray) : nb (a ++ b) = nb a ++ nb b := by
  unfold nb
  rw [ByteArray.data_append, Array.toList_append, List.map_append]
theorem dig_lt (l : List Nat) : ∀ x ∈ dig l, x < 256 := by
  intro x hx
  unfold dig at hx
  obtain ⟨y, _, h⟩ := List.mem_flatMap.1 hx
  exact be_lt y 4 x h
theorem dig_length (l : List Nat) : (dig l).length = 32 := by
  unfold dig St.list
  simp [be_length]
set_option maxHeartbeats 4000000 in
theorem rhmac_in (key K s : ByteArray) (w : World) (hs : s.size < 549755813888) (hk : (64 < key.size ∧ K = bstr (dig (nb key)) ∧ key.size < 549755813888) ∨ (key.size ≤ 64 ∧ K = key)) :
    Calls Tryz.prog 95 #[.string key, .string s] w fun e w' => e = .returned (.string (bstr (dig (tby (nb K) 92 64 ++ dig (tby (nb K) 54 64 ++ nb s))))) ∧ Below w.heap.size w w' := by
  have TA : Hid (∀ w, Calls Tryz.prog 148 #[.string K, .int .u8 92] w fun e w' => e = .returned (.string (bstr (tby (nb K) 92 64))) ∧ Below w.heap.size w w') := fun w => rturned_ok K 92 w (by decide)
  have TB : Hid (∀ w, Calls Tryz.prog 148 #[.string K, .int .u8 54] w fun e w' => e = .returned (.string (bstr (tby (nb K) 54 64))) ∧ Below w.heap.size w w') := fun w => rturned_ok K 54 w (by decide)
  have za : (bstr (tby (nb K) 92 64)).size = 64 := by rw [bstr_size, tby_length]
  have zb : (bstr (tby (nb K) 54 64)).size = 64 := by rw [bstr_size, tby_length]
  have S1 : Hid (∀ w, _) := fun w => rsum_ok (bstr (tby (nb K) 54 64) ++ s) w (by rw [ByteArray.size_append, zb]; omega)
  rw [nb_append, nb_bstr (tby_lt (nb_lt K) 54 (by decide) 64)] at S1
  have zd : (bstr (dig (tby (nb K) 54 64 ++ nb s))).size = 32 := by rw [bstr_size, dig_length]
  have S2 : Hid (∀ w, _) := fun w => rsum_ok (bstr (tby (nb K) 92 64) ++ bstr (dig (tby (nb K) 54 64 ++ nb s))) w (by rw [ByteArray.size_append, za, zd]; decide)
  rw [nb_append, nb_bstr (tby_lt (nb_lt K) 92 (by decide) 64), nb_bstr (dig_lt _)] at S2
  generalize bstr (dig (tby (nb K) 92 64 ++ dig (tby (nb K) 54 64 ++ nb s))) = R at *
  generalize bstr (dig (tby (nb K) 54 64 ++ nb s)) = D at *
  generalize bstr (tby (nb K) 92 64) = X at *
  generalize bstr (tby (nb K) 54 64) = Y at *
  rcases hk with ⟨h1, h2, h3⟩ | ⟨h1, h2⟩
  · have S0 : Hid (∀ w, _) := fun w => rsum_ok key w (by omega)
    rw [← h2] at S0
    clear h2
    have g : decide ((64 : Int) < key.size) = true := decide_eq_true (by omega)
    go_enter Tryz.func95, Tryz.ntmps95
    go_wp2_with fail
    refine (S0.out _).mono ?_
    rintro e w0 ⟨rfl, b0⟩
    have Z0 : Hid (Below w.heap.size w w0) := b0
    clear b0 S0
    go_wp2_with fail
    refine (TA.out _).mono ?_
    rintro e w1 ⟨rfl, b1⟩
    have Z1 : Hid (Below w.heap.size w w1) := Z0.out.trans (b1.mono Z0.out.size)
    clear b1 TA Z0
    go_wp2_with fail
    refine (TB.out _).mono ?_
    rintro e w2 ⟨rfl, b2⟩
    have Z2 : Hid (Below w.heap.size w w2) := Z1.out.trans (b2.mono Z1.out.size)
    clear b2 TB Z1
    go_wp2_with fail
    refine (S1.out _).mono ?_
    rintro e w3 ⟨rfl, b3⟩
    have Z3 : Hid (Below w.heap.size w w3) := Z2.out.trans (b3.mono Z2.out.size)
    clear b3 S1 Z2
    go_wp2_with fail
    refine (S2.out _).mono ?_
    rintro e w4 ⟨rfl, b4⟩
    have Z4 : Hid (Below w.heap.size w w4) := Z3.out.trans (b4.mono Z3.out.size)
    clear b4 S2 Z3
    go_wp2_with fail
    go_ret
    exact ⟨rfl, Z4.out⟩
  · subst h2
    have g : decide ((64 : Int) < K.size) = false := decide_eq_false (by omega)
    go_enter Tryz.func95, Tryz.ntmps95
    go_wp2_with fail
    refine (TA.out _).mono ?_
    rintro e w1 ⟨rfl, b1⟩
    have Z1 : Hid (Below w.heap.size w w1) := b1
    clear b1 TA
    go_wp2_with fail
    refine (TB.out _).mono ?_
    rintro e w2 ⟨rfl, b2⟩
    have Z2 : Hid (Below w.heap.size w w2) := Z1.out.trans (b2.mono Z1.out.size)
    clear b2 TB Z1
    go_wp2_with fail
    refine (S1.out _).mono ?_
    rintro e w3 ⟨rfl, b3⟩
    have Z3 : Hid (Below w.heap.size w w3) := Z2.out.trans (b3.mono Z2.out.size)
    clear b3 S1 Z2
    go_wp2_with fail
    refine (S2.out _).mono ?_
    rintro e w4 ⟨rfl, b4⟩
    have Z4 : Hid (Below w.heap.size w w4) := Z3.out.trans (b4.mono Z3.out.size)
    clear b4 S2 Z3
    go_wp2_with fail
    go_ret
    exact ⟨rfl, Z4.out⟩
theorem rhmac_ok (key s : ByteArray) (w : World) (hk : key.size < 549755813888) (hs : s.size < 549755813888) :
    Calls Tryz.prog 95 #[.string key, .string s] w fun e w' => e = .returned (.string (bstr (hm (nb key) (nb s)))) ∧ Below w.heap.size w w' := by
  unfold hm kk
  rw [nb_length]
  by_cases h : 64 < key.size
  · rw [if_pos h]
    have := rhmac_in key (bstr (dig (nb key))) s w hs (.inl ⟨h, rfl, hk⟩)
    rwa [nb_bstr (dig_lt _)] at this
  · rw [if_neg h]
    exact rhmac_in key key s w hs (.inr ⟨by omega, rfl⟩)
end Go.Proofs.YtbicfhilehllnaaGreatDoor
