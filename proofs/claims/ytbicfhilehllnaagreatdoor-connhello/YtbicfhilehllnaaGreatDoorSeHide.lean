/-
  What the document's own Hide answers: each byte turned by the stream's at its place. Texts below 2^37 bytes; no other condition.
-/
import Derived.Test.YtbicfhilehllnaaGreatDoorSeTag
import Derived.Test.YtbicfhilehllnaaGreatDoorShDraw
import Derived.RegionTactic
namespace Go.Proofs.YtbicfhilehllnaaGreatDoor
set_option maxRecDepth 100000
open Go.RowKit Go.Sort

/-- Thirty-two bytes of the stream of a number. -/
def strm (key : ByteArray) (n : Int) (i : Nat) : List Nat := hm (nb key) (e8 n ++ be i 4)
theorem strm_length (key : ByteArray) (n : Int) (i : Nat) : (strm key n i).length = 32 := hm_length _ _
theorem strm_lt (key : ByteArray) (n : Int) (i : Nat) : ∀ x ∈ strm key n i, x < 256 := hm_lt _ _
/-- The byte of the stream at a place. -/
def sbyte (key : ByteArray) (n : Int) (i : Nat) : Nat := (strm key n (i / 32)).getD (i % 32) 0
/-- Bytes turned by the stream, the first k of them. -/
def hdn (key : ByteArray) (n : Int) (d : List Nat) (k : Nat) : List Nat := (List.range k).map fun i => d.getD i 0 ^^^ sbyte key n i
theorem hdn_succ (key : ByteArray) (n : Int) (d : List Nat) (k : Nat) : hdn key n d (k + 1) = hdn key n d k ++ [d.getD k 0 ^^^ sbyte key n k] := by
  unfold hdn
  rw [List.range_succ, List.map_append]
  rfl
theorem hdn_length (key : ByteArray) (n : Int) (d : List Nat) (k : Nat) : (hdn key n d k).length = k := by simp [hdn]
theorem sbyte_lt (key : ByteArray) (n : Int) (i : Nat) : sbyte key n i < 256 := get_lt (strm_lt _ _ _) _
theorem hdn_lt (key : ByteArray) (n : Int) {d : List Nat} (h : ∀ x ∈ d, x < 256) (k : Nat) : ∀ x ∈ hdn key n d k, x < 256 := by
  intro x hx
  obtain ⟨i, _, rfl⟩ := List.mem_map.1 hx
  exact Nat.xor_lt_two_pow (n := 8) (get_lt h i) (sbyte_lt _ _ _)
/-- What hides a secret's data under a number. -/
def hide (secret : ByteArray) (n : Int) (d : List Nat) : List Nat := hdn (ckey secret) n d d.length
/-- A row of one's own behind a call that only adds. -/
theorem owns_below {w w' : World} {base size n : Nat} {e : TypeId} {v : Value} {xs : List Value} (h : w.ownsRow base e size v n xs) (b : Below w.heap.size w w') : w'.ownsRow base e size v n xs := by
  refine ⟨h.1, ?_⟩
  rcases h.2 with h | ⟨g, cap, cur, h1, h2, h3, h4⟩
  · exact .inl h
  · exact .inr ⟨g, cap, cur, h1, h2, (b.block g (Array.getElem?_eq_some_iff.1 h3).1).trans h3, h4⟩
theorem own_str0 {w : World} {B : Nat} {v : Value} {l : List Nat} (h : w.ownsRow B 5 1 v 0 (bc l)) : (convert 129 9 v).run Tryz.prog w = .ok (.string ⟨#[]⟩) w := by
  rcases h.2 with ⟨rfl, _⟩ | ⟨g, cap, cur, rfl, _⟩
  · exact run_convert_bytes_nil (P := Tryz.prog) w 129 5 Tryz.underlying129 Tryz.underlying5 0 0 9 Tryz.underlying9
  · exact run_convert_bytes_arg (P := Tryz.prog) w 129 5 Tryz.underlying129 Tryz.underlying5 g 0 0 cap [] rfl (fun i hi => by omega) 9 Tryz.underlying9
/-- An append in a region that draws. -/
theorem app_wp (w : World) {o : Oper} {a : Act} {K : Act → World → Prop} {Q : Exit → Act → World → Prop} {i : TypeInfo} (hi : Tryz.prog.info? 5 = some i) (hz : i.zero = some (.int .u8 0)) (hs : i.size = 1) (hb : i.bytes = 1)
    (s x : Operand) (ho : o.op = .call { callee := .builtin .append, args := #[s, x], argTypes := #[129, 129] }) (d : Nat) (hd : o.dst = some d) (base : Nat) (v : Value) (n : Nat) (xs : List Value) (hv : a.eval s = v) (hown : w.ownsRow base 5 1 v n xs)
    (g : Nat) (u : Value) (hx : a.eval x = .slice (some ⟨g, 0, none⟩) 1 1) (hc : w.cell? ⟨g, 0, none⟩ = some u) (h1 : u.oneCell' = true) (hn : n < 137438953472) (hbase : base ≤ w.heap.size)
    (h : ∀ v' w', w'.ownsRow base 5 1 v' (n + 1) (xs ++ [u]) → w.grownBy w' v.ownBlock → K (a.put (some d) v') w') : o.wp Tryz.prog a w K Q :=
  wp_append_own w s x 129 ho base 5 i (.int .u8 0) 1 1 Tryz.underlying129 hi hz hs hb rfl (by decide) v n xs hv hown ⟨g, 0, none⟩ 1 1 [u] hx rfl
    (fun j y hj => by
      match j, hj with
      | 0, hj => simp at hj; subst hj; rw [Addr.add_mid]; exact hc
      | j + 1, hj => simp at hj)
    (fun y hy => by simp at hy; subst hy; exact h1) (by unfold maxLen; omega) (by omega) hbase (fun v' w' h2 h3 _ => by rw [hd]; exact h v' w' h2 h3)
set_option maxHeartbeats 4000000 in
set_option maxRecDepth 100000 in
theorem rhide_ok (secret : ByteArray) (n : Int) (data : ByteArray) (w : World) (h1 : secret.size < 549755813888) (h2 : data.size < 137438953472) :
    Calls Tryz.prog 185 #[.string secret, .int .i64 n, .string data] w fun e w' => e = .returned (.string (bstr (hide secret n (nb data)))) ∧ Below w.heap.size w w' := by
  have D : Hid (∀ w, _) := fun w => rderive_ok secret ⟨#[99, 105, 112, 104, 101, 114]⟩ ⟨#[]⟩ w h1 (by decide) (by decide)
  have E : Hid (∀ w, _) := fun w => reight_ok n w
  have hR : hide secret n (nb data) = hdn (ckey secret) n (nb data) data.size := by unfold hide; rw [nb_length]
  rw [hR]
  clear hR
  have zk : (ckey secret).size = 32 := der_len _ _ _
  have eK : der secret ⟨#[99, 105, 112, 104, 101, 114]⟩ ⟨#[]⟩ = ckey secret := rfl
  rw [eK] at D
  clear eK
  have ze : (bstr (e8 n)).size = 8 := by rw [bstr_size, e8_length]
  have hST : Hid (∀ (i : Nat) w, i < 4294967296 → Calls Tryz.prog 95 #[.string (ckey secret), .string (bstr (e8 n) ++ bstr (be i 4))] w fun e w' => e = .returned (.string (bstr (strm (ckey secret) n i))) ∧ Below w.heap.size w w') := fun i w _ => by
    have := rhmac_ok (ckey secret) (bstr (e8 n) ++ bstr (be i 4)) w (by rw [zk]; decide) (by rw [ByteArray.size_append, ze, bstr_size, be_length]; decide)
    rw [nb_append, nb_bstr (e8_lt n), nb_bstr (be_lt _ _)] at this
    exact this
  have hBY : Hid (∀ (i : Nat) w, i < 4294967296 → Calls Tryz.prog 184 #[.int .i64 (i : Int), .int .i64 4] w fun e w' => e = .returned (.string (bstr (be i 4))) ∧ Below w.heap.size w w') := fun i w hi => by
    have := rbytes 4 (by decide) (i : Int) w (by omega) (by omega)
    rw [digs_be] at this
    exact this
  obtain ⟨i0, hi, hz0, hz1, hz2⟩ := info_u8
  replace hi : Hid _ := hi
  generalize ckey secret = key at *
  generalize bstr (e8 n) = X at *
  go_enter Tryz.func185, Tryz.ntmps185
  go_wp2_with (go_at_call 49; refine (D.out _).mono ?_; rintro e w1 ⟨rfl, b1⟩)
  have Z1 : Hid (Below w.heap.size w w1) := b1
  clear b1 D
  go_loopg [8, 9, 10] data.size (fun g bv sv iv wr => ∃ (k : Nat) (s : ByteArray), k + g = data.size ∧ iv = .int .i64 k ∧ sv = .string s ∧ Hid (k % 32 ≠ 0 → s = bstr (strm key n (k / 32))) ∧ Hid (wr.ownsRow w.heap.size 5 1 bv k (bc (hdn key n (nb data) k))) ∧ Hid (Below w.heap.size w wr))
  case atStart => exact ⟨0, ⟨#[]⟩, by omega, rfl, rfl, fun h => absurd rfl h, World.ownsRow_nil _ _ _ _, Z1⟩
  case round =>
    clear Z1
    obtain ⟨k, s, hk, rfl, rfl, hs, hown, bel⟩ := hrel
    by_cases hlt : k < data.size
    · have g1 : decide ((k : Int) < (data.size : Int)) = true := decide_eq_true (by omega)
      have hii := hi
      have hsucc : Hid (hdn key n (nb data) (k + 1) = hdn key n (nb data) k ++ [(nb data).getD k 0 ^^^ sbyte key n k]) := hdn_succ _ _ _ _
      have hxx := xor8 ((nb data).getD k 0) (sbyte key n k) (get_lt (nb_lt data) k) (sbyte_lt _ _ _)
      have hxd : ∀ h : k < data.size, ((data[k].toNat : Nat) : Int) = (((nb data).getD k 0 : Nat) : Int) := fun h => by rw [nb_get data k h]
      have ix1 := fun w => idx_at data k (((nb data).getD k 0 : Nat) : Int) w hlt (hxd hlt) (k : Int) rfl
      have zS : (bstr (strm key n (k / 32))).size = 32 := by rw [bstr_size, strm_length]
      have hm32 : k % 32 < (bstr (strm key n (k / 32))).size := by rw [zS]; exact Nat.mod_lt _ (by decide)
      have hsd : (((bstr (strm key n (k / 32)))[k % 32].toNat : Nat) : Int) = ((sbyte key n k : Nat) : Int) := by
        rw [nb_get _ _ hm32, nb_bstr (strm_lt _ _ _)]
        rfl
      have ix2 := fun w => idx_at (bstr (strm key n (k / 32))) (k % 32) ((sbyte key n k : Nat) : Int) w hm32 hsd ((k % 32 : Nat) : Int) rfl
      have hr : (k : Int) % 32 = ((k % 32 : Nat) : Int) := by omega
      have hrt : (k : Int).tmod 32 = ((k % 32 : Nat) : Int) := by rw [Int.tmod_eq_emod_of_nonneg (by omega)]; exact hr
      have hnext : Hid ((k + 1) % 32 ≠ 0 → bstr (strm key n (k / 32)) = bstr (strm key n ((k + 1) / 32))) := fun h => by
        rw [show (k + 1) / 32 = k / 32 by omega]
      clear hi hxd hsd hm32 zS
      have h32i : ((k : Int) % 32 == 0) = decide (k % 32 = 0) := by
        by_cases h : k % 32 = 0
        · rw [decide_eq_true h]; simp; omega
        · rw [decide_eq_false h]; simp; omega
      have hs' : k % 32 ≠ 0 → s = bstr (strm key n (k / 32)) := hs.out
      have S1 : Hid (∀ w, _) := fun w => hST.out (k / 32) w (by omega)
      have B1 : Hid (∀ w, _) := fun w => hBY.out (k / 32) w (by omega)
      have hq : (k : Int) / 32 = ((k / 32 : Nat) : Int) := by omega
      have zb : (bstr (be (k / 32) 4)).size = 4 := by rw [bstr_size, be_length]
      clear hs
      generalize hrr : k % 32 = r at *
      generalize bstr (strm key n (k / 32)) = SS at *
      generalize bstr (be (k / 32) 4) = Y at *
      generalize k / 32 = q at *
      generalize (nb data).getD k 0 ^^^ sbyte key n k = z at *
      generalize (nb data).getD k 0 = x at *
      generalize sbyte key n k = y at *
      have hx := hxx
      clear hxx
      replace hrr : Hid _ := hrr
      by_cases h32 : r = 0
      · have g2 : ((k : Int) % 32 == 0) = true := by rw [h32i]; exact decide_eq_true h32
        have g3 : ((r : Int) == 0) = true := by rw [h32]; rfl
        clear h32i hs'
        replace h32 : Hid _ := h32
        go_wp2_with fail
        refine (E.out _).mono ?_
        rintro e w2 ⟨rfl, b2⟩
        have O2 : Hid (w2.ownsRow w.heap.size 5 1 u8 k (bc (hdn key n (nb data) k))) := owns_below hown.out b2
        have Z2 : Hid (Below w.heap.size w w2) := bel.out.trans (b2.mono bel.out.size)
        clear b2 E hown bel
        go_wp2_with fail
        refine (B1.out _).mono ?_
        rintro e w3 ⟨rfl, b3⟩
        have O3 : Hid (w3.ownsRow w.heap.size 5 1 u8 k (bc (hdn key n (nb data) k))) := owns_below O2.out b3
        have Z3 : Hid (Below w.heap.size w w3) := Z2.out.trans (b3.mono Z2.out.size)
        clear b3 B1 O2 Z2 hq
        go_wp2_with fail
        refine (S1.out _).mono ?_
        rintro e w4 ⟨rfl, b4⟩
        have O4 : Hid (w4.ownsRow w.heap.size 5 1 u8 k (bc (hdn key n (nb data) k))) := owns_below O3.out b4
        have Z4 : Hid (Below w.heap.size w w4) := Z3.out.trans (b4.mono Z3.out.size)
        clear b4 S1 O3 Z3
        go_wp2_with fail
        refine wp_region_any (by kernel_rfl) ?_
        change wpAny _ .any _ _ 12 (Array.replicate 12 false) _ w4.drew
        refine take_slot (i := 0) (d := 30) (v := u8) rfl rfl (by kernel_rfl) (by kernel_rfl) (by kernel_rfl) (fun _ _ _ h => h) rfl (fun w => by go_simp) ?_
        refine take_slot (i := 1) (d := 31) (v := .string data) rfl rfl (by kernel_rfl) (by kernel_rfl) (by kernel_rfl) (fun _ _ _ h => h) rfl (fun w => by go_simp) ?_
        refine take_slot (i := 2) (d := 32) (v := .int .i64 (k : Int)) rfl rfl (by kernel_rfl) (by kernel_rfl) (by kernel_rfl) (fun _ _ _ h => h) rfl (fun w => by go_simp) ?_
        refine take_slot (i := 3) (d := 33) (v := .int .u8 (x : Int)) rfl rfl (by kernel_rfl) (by kernel_rfl) (by kernel_rfl) (fun _ _ _ h => h) rfl (fun w => by go_simp) ?_
        refine take_slot (i := 4) (d := 34) (v := .string SS) rfl rfl (by kernel_rfl) (by kernel_rfl) (by kernel_rfl) (fun _ _ _ h => h) rfl (fun w => by go_simp) ?_
        refine take_slot (i := 5) (d := 35) (v := .int .i64 (k : Int)) rfl rfl (by kernel_rfl) (by kernel_rfl) (by kernel_rfl) (fun _ _ _ h => h) rfl (fun w => by go_simp) ?_
        refine take_slot (i := 6) (d := 36) (v := .int .i64 (r : Int)) rfl rfl (by kernel_rfl) (by kernel_rfl) (by kernel_rfl) (fun _ _ _ h => h) rfl (fun w => by go_simp) ?_
        refine take_slot (i := 7) (d := 37) (v := .int .u8 (y : Int)) rfl rfl (by kernel_rfl) (by kernel_rfl) (by kernel_rfl) (fun _ _ _ h => h) rfl (fun w => by go_simp) ?_
        refine take_slot (i := 8) (d := 38) (v := .int .u8 (z : Int)) rfl rfl (by kernel_rfl) (by kernel_rfl) (by kernel_rfl) (fun _ _ _ h => h) rfl (fun w => by go_simp) ?_
        simp only [Act.put, List.setIfInBounds_toArray, List.set_cons_succ, List.set_cons_zero]
        clear ix1 ix2 hx hr hrt
        refine wpAny_all (rs := [9]) (by kernel_rfl) (by simp) (fun i hi => ?_)
        obtain rfl : i = 9 := by simpa using hi
        refine wpOp_step rfl (fun K' hK => ?_)
        clear hi
        go_simp
        refine hK _ _ ?_
        clear hK K'
        refine wpAny_all (rs := [10]) (by kernel_rfl) (by simp) (fun i hi => ?_)
        obtain rfl : i = 10 := by simpa using hi
        refine wpOp_step rfl (fun K' hK => ?_)
        clear hi
        refine app_wp _ hii.out hz0 hz1 hz2 _ _ rfl 40 rfl w.heap.size u8 k (bc (hdn key n (nb data) k)) rfl (O4.out.drew.alloc _) w4.heap.size (.int .u8 (z : Int)) rfl ?_ rfl (by omega) ?_ ?_
        · simp
        · have := Z4.out.size; simp; omega
        · intro v' w5 hown' hgrow
          refine hK _ _ ?_
          clear hK K'
          have hB : Hid (Below w.heap.size w w5) := (Z4.out.drew.alloc Z4.out.size _).grown hgrow (Nat.le_trans Z4.out.size (by simp)) (fun k hk => (O4.out.lt k hk).1)
          have hO : Hid (w5.ownsRow w.heap.size 5 1 v' (k + 1) (bc (hdn key n (nb data) (k + 1)))) := by
            unfold Hid
            rw [hsucc.out, bc_snoc]
            exact hown'
          clear hown' hgrow Z4 O4
          simp only [Act.put, List.setIfInBounds_toArray, List.set_cons_succ, List.set_cons_zero]
          refine wpAny_all (rs := [11]) (by kernel_rfl) (by simp) (fun i hi => ?_)
          obtain rfl : i = 11 := by simpa using hi
          refine wpOp_step rfl (fun K' hK => ?_)
          clear hi
          go_simp
          refine hK _ _ ?_
          clear hK K'
          refine wpAny_done (by kernel_rfl) ?_ 0
          go_wp2
          go_roundg (data.size - (k + 1))
          case measure => omega
          case rel => exact ⟨k + 1, SS, by omega, by go_num, rfl, hnext, hO, hB⟩
      · have g2 : ((k : Int) % 32 == 0) = false := by rw [h32i]; exact decide_eq_false h32
        have g3 : ((r : Int) == 0) = false := by simp; omega
        have hss := (hs' h32).symm
        subst hss
        clear h32i hs' S1 B1 hq zb E
        replace h32 : Hid _ := h32
        go_wp2_with fail
        refine wp_region_any (by kernel_rfl) ?_
        change wpAny _ .any _ _ 12 (Array.replicate 12 false) _ wr.drew
        refine take_slot (i := 0) (d := 30) (v := u8) rfl rfl (by kernel_rfl) (by kernel_rfl) (by kernel_rfl) (fun _ _ _ h => h) rfl (fun w => by go_simp) ?_
        refine take_slot (i := 1) (d := 31) (v := .string data) rfl rfl (by kernel_rfl) (by kernel_rfl) (by kernel_rfl) (fun _ _ _ h => h) rfl (fun w => by go_simp) ?_
        refine take_slot (i := 2) (d := 32) (v := .int .i64 (k : Int)) rfl rfl (by kernel_rfl) (by kernel_rfl) (by kernel_rfl) (fun _ _ _ h => h) rfl (fun w => by go_simp) ?_
        refine take_slot (i := 3) (d := 33) (v := .int .u8 (x : Int)) rfl rfl (by kernel_rfl) (by kernel_rfl) (by kernel_rfl) (fun _ _ _ h => h) rfl (fun w => by go_simp) ?_
        refine take_slot (i := 4) (d := 34) (v := .string SS) rfl rfl (by kernel_rfl) (by kernel_rfl) (by kernel_rfl) (fun _ _ _ h => h) rfl (fun w => by go_simp) ?_
        refine take_slot (i := 5) (d := 35) (v := .int .i64 (k : Int)) rfl rfl (by kernel_rfl) (by kernel_rfl) (by kernel_rfl) (fun _ _ _ h => h) rfl (fun w => by go_simp) ?_
        refine take_slot (i := 6) (d := 36) (v := .int .i64 (r : Int)) rfl rfl (by kernel_rfl) (by kernel_rfl) (by kernel_rfl) (fun _ _ _ h => h) rfl (fun w => by go_simp) ?_
        refine take_slot (i := 7) (d := 37) (v := .int .u8 (y : Int)) rfl rfl (by kernel_rfl) (by kernel_rfl) (by kernel_rfl) (fun _ _ _ h => h) rfl (fun w => by go_simp) ?_
        refine take_slot (i := 8) (d := 38) (v := .int .u8 (z : Int)) rfl rfl (by kernel_rfl) (by kernel_rfl) (by kernel_rfl) (fun _ _ _ h => h) rfl (fun w => by go_simp) ?_
        simp only [Act.put, List.setIfInBounds_toArray, List.set_cons_succ, List.set_cons_zero]
        clear ix1 ix2 hx hr hrt
        refine wpAny_all (rs := [9]) (by kernel_rfl) (by simp) (fun i hi => ?_)
        obtain rfl : i = 9 := by simpa using hi
        refine wpOp_step rfl (fun K' hK => ?_)
        clear hi
        go_simp
        refine hK _ _ ?_
        clear hK K'
        refine wpAny_all (rs := [10]) (by kernel_rfl) (by simp) (fun i hi => ?_)
        obtain rfl : i = 10 := by simpa using hi
        refine wpOp_step rfl (fun K' hK => ?_)
        clear hi
        refine app_wp _ hii.out hz0 hz1 hz2 _ _ rfl 40 rfl w.heap.size u8 k (bc (hdn key n (nb data) k)) rfl (hown.out.drew.alloc _) wr.heap.size (.int .u8 (z : Int)) rfl ?_ rfl (by omega) ?_ ?_
        · simp
        · have := bel.out.size; simp; omega
        · intro v' w5 hown' hgrow
          refine hK _ _ ?_
          clear hK K'
          have hB : Hid (Below w.heap.size w w5) := (bel.out.drew.alloc bel.out.size _).grown hgrow (Nat.le_trans bel.out.size (by simp)) (fun k hk => (hown.out.lt k hk).1)
          have hO : Hid (w5.ownsRow w.heap.size 5 1 v' (k + 1) (bc (hdn key n (nb data) (k + 1)))) := by
            unfold Hid
            rw [hsucc.out, bc_snoc]
            exact hown'
          clear hown' hgrow bel hown
          simp only [Act.put, List.setIfInBounds_toArray, List.set_cons_succ, List.set_cons_zero]
          refine wpAny_all (rs := [11]) (by kernel_rfl) (by simp) (fun i hi => ?_)
          obtain rfl : i = 11 := by simpa using hi
          refine wpOp_step rfl (fun K' hK => ?_)
          clear hi
          go_simp
          refine hK _ _ ?_
          clear hK K'
          refine wpAny_done (by kernel_rfl) ?_ 0
          go_wp2
          go_roundg (data.size - (k + 1))
          case measure => omega
          case rel => exact ⟨k + 1, SS, by omega, by go_num, rfl, hnext, hO, hB⟩
    · obtain rfl : k = data.size := by omega
      have g1 : decide ((data.size : Int) < (data.size : Int)) = false := decide_eq_false (by omega)
      by_cases h0 : data.size = 0
      · have ho := hown.out
        rw [h0] at ho
        have hcv := own_str0 ho
        have hfin : bstr (hdn key n (nb data) data.size) = ⟨#[]⟩ := by rw [h0]; rfl
        replace hfin : Hid _ := hfin
        clear ho
        go_wp2
        go_ret
        exact ⟨by rw [hfin.out]; rfl, bel.out⟩
      · obtain ⟨g, cap, rfl, hcv⟩ := own_str hown.out (by omega)
        go_wp2
        go_ret
        exact ⟨rfl, bel.out⟩
end Go.Proofs.YtbicfhilehllnaaGreatDoor
