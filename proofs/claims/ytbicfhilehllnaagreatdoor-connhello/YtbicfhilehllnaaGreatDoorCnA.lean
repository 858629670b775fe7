/-
  Plain facts: a packet's head, number, name and sealed bytes; what a hello says. No condition but the sizes. The program's own headOf and numberOf: a packet's head is written, its number read. Names below 1000 bytes, numbers from 0 on; packets of 13 bytes or more. No other condition. The program's own packets: keys of the key that both know, a packet sealed and opened, a hello read. Texts below 2^30 bytes; the tables lie where the program's text lays them. No other condition. The document's own packets: a head, a packet, its nonce, a hello. Texts below 2^30 bytes. No other condition. Hello: the program's own and the document's, of any bytes. Texts below 2^30 bytes; the tables lie where the program's text lays them. No other condition.
-/
import Derived.Test.YtbicfhilehllnaaGreatDoorSeMath
import Derived.Test.YtbicfhilehllnaaGreatDoorObBytes
import Derived.Test.YtbicfhilehllnaaGreatDoorShOut
import Derived.Deep.LoopGhost
import Derived.Lib.Hide
import Derived.Test.YtbicfhilehllnaaGreatDoorSeInv
import Derived.Deep.RegionWith
import Derived.RegionTactic
import Derived.Test.YtbicfhilehllnaaGreatDoorSeOpen
import Derived.Test.YtbicfhilehllnaaGreatDoorShDer
namespace Go.Proofs.YtbicfhilehllnaaGreatDoor.cn
set_option maxRecDepth 100000
open Go.RowKit

/-- A packet's head. -/
def hd (k : Nat) (cid : ByteArray) (n : Nat) : ByteArray := bstr [k] ++ cid ++ bstr (be n 4)
theorem hd_size (k : Nat) (cid : ByteArray) (n : Nat) : (hd k cid n).size = cid.size + 5 := by
  unfold hd
  rw [ByteArray.size_append, ByteArray.size_append, bstr_size, bstr_size, be_length]
  show 1 + cid.size + 4 = _
  omega
/-- The number in a packet's head. -/
def nu (p : ByteArray) : Nat := (((nb p).getD 9 0 * 256 + (nb p).getD 10 0) * 256 + (nb p).getD 11 0) * 256 + (nb p).getD 12 0
theorem get_nb_lt (p : ByteArray) (i : Nat) : (nb p).getD i 0 < 256 := get_lt (nb_lt p) i
theorem nu_lt (p : ByteArray) : nu p < 4294967296 := by
  have a := get_nb_lt p 9
  have b := get_nb_lt p 10
  have c := get_nb_lt p 11
  have d := get_nb_lt p 12
  unfold nu
  omega
/-- A packet. -/
def pk (key : ByteArray) (k : Nat) (cid : ByteArray) (n : Nat) (data : ByteArray) : ByteArray := hd k cid n ++ sld key n (hd k cid n) data
theorem pk_size (key : ByteArray) (k : Nat) (cid : ByteArray) (n : Nat) (data : ByteArray) : (pk key k cid n data).size = cid.size + 21 + data.size := by
  unfold pk
  rw [ByteArray.size_append, hd_size, sld_size]
  omega
theorem pk_head (key : ByteArray) (k : Nat) (cid : ByteArray) (n : Nat) (data : ByteArray) (h : cid.size = 8) : (pk key k cid n data).extract 0 13 = hd k cid n := by
  have e : (hd k cid n).size = 13 := by rw [hd_size, h]
  unfold pk
  rw [← e, ByteArray.extract_append_eq_left]
  rfl
theorem pk_rest (key : ByteArray) (k : Nat) (cid : ByteArray) (n : Nat) (data : ByteArray) (h : cid.size = 8) : (pk key k cid n data).extract 13 (pk key k cid n data).size = sld key n (hd k cid n) data := by
  have e : (hd k cid n).size = 13 := by rw [hd_size, h]
  unfold pk
  rw [ByteArray.size_append, e]
  have := ByteArray.extract_append_eq_right (a := hd k cid n) (b := sld key n (hd k cid n) data) (i := 13) (j := 13 + (sld key n (hd k cid n) data).size) (by rw [e]) (by rw [e])
  exact this
theorem nb_hd (k : Nat) (cid : ByteArray) (n : Nat) (hk : k < 256) : nb (hd k cid n) = k :: (nb cid ++ be n 4) := by
  unfold hd
  rw [nb_append, nb_append, nb_bstr (fun x hx => by simp at hx; omega), nb_bstr (be_lt n 4)]
  rfl
theorem nb_pk (key : ByteArray) (k : Nat) (cid : ByteArray) (n : Nat) (data : ByteArray) (hk : k < 256) : nb (pk key k cid n data) = k :: (nb cid ++ (be n 4 ++ nb (sld key n (hd k cid n) data))) := by
  unfold pk
  rw [nb_append, nb_hd k cid n hk]
  simp
theorem be4 (n : Nat) : be n 4 = [n / 16777216 % 256, n / 65536 % 256, n / 256 % 256, n % 256] := by
  rw [be_cons, be_cons, be_cons, be_cons]
  simp [be]
theorem pk_nu (key : ByteArray) (k : Nat) (cid : ByteArray) (n : Nat) (data : ByteArray) (hk : k < 256) (h : cid.size = 8) (hn : n < 4294967296) : nu (pk key k cid n data) = n := by
  have hl : (nb cid).length = 8 := by rw [nb_length, h]
  unfold nu
  rw [nb_pk key k cid n data hk, be4]
  have g : ∀ i, (k :: (nb cid ++ ([n / 16777216 % 256, n / 65536 % 256, n / 256 % 256, n % 256] ++ nb (sld key n (hd k cid n) data)))).getD (9 + i) 0 = ([n / 16777216 % 256, n / 65536 % 256, n / 256 % 256, n % 256] ++ nb (sld key n (hd k cid n) data)).getD i 0 := fun i => by
    rw [show 9 + i = (8 + i) + 1 by omega]
    simp only [List.getD_cons_succ]
    simp only [List.getD_eq_getElem?_getD]
    rw [List.getElem?_append_right (by omega), hl, show 8 + i - 8 = i by omega]
  have g0 := g 0
  have g1 := g 1
  have g2 := g 2
  have g3 := g 3
  simp only [Nat.reduceAdd] at g0 g1 g2 g3
  rw [g0, g1, g2, g3]
  simp
  omega
theorem pk_first (key : ByteArray) (k : Nat) (cid : ByteArray) (n : Nat) (data : ByteArray) (hk : k < 256) : (nb (pk key k cid n data)).getD 0 0 = k := by
  rw [nb_pk key k cid n data hk]
  rfl
theorem pk_name (key : ByteArray) (k : Nat) (cid : ByteArray) (n : Nat) (data : ByteArray) (h : cid.size = 8) : (pk key k cid n data).extract 1 9 = cid := by
  have e : pk key k cid n data = (bstr [k] ++ cid) ++ (bstr (be n 4) ++ sld key n (hd k cid n) data) := by
    unfold pk
    conv => lhs; arg 1; unfold hd
    rw [ByteArray.append_assoc]
  have z : (bstr [k]).size = 1 := by rw [bstr_size]; rfl
  apply ByteArray.ext
  apply Array.toList_inj.1
  rw [e]
  have zc : cid.data.toList.length = 8 := by simpa using h
  have zk : (bstr [k]).data.toList.length = 1 := by simpa using z
  simp only [ByteArray.data_extract, Array.toList_extract, ByteArray.data_append, Array.toList_append, List.extract_eq_take_drop]
  rw [List.append_assoc, show (1 : Nat) = (bstr [k]).data.toList.length from zk.symm, List.drop_left, zk, List.take_append_of_le_length (by omega), List.take_of_length_le (by omega)]
/-- What Open answers of a packet. -/
def opnE (key p : ByteArray) : Int := ope key (nu p) (p.extract 0 13) (p.extract 13 p.size)
def opnV (key p : ByteArray) : ByteArray := opv key (nu p) (p.extract 0 13) (p.extract 13 p.size)
theorem opn_pk (key : ByteArray) (k : Nat) (cid : ByteArray) (n : Nat) (data : ByteArray) (hk : k < 256) (h : cid.size = 8) (hn : n < 4294967296) : opnE key (pk key k cid n data) = 0 ∧ opnV key (pk key k cid n data) = data := by
  unfold opnE opnV
  rw [pk_nu key k cid n data hk h hn, pk_head key k cid n data h, pk_rest key k cid n data h]
  exact ⟨(open_seal key n (hd k cid n) data).2, (open_seal key n (hd k cid n) data).1⟩
/-- The nonce of a hello, or a welcome. -/
def nonE (key p : ByteArray) : Int := if opnE key p = 0 then (if (opnV key p).size = 16 ∧ nu p = 0 then 0 else 3) else opnE key p
def nonV (key p : ByteArray) : ByteArray := if nonE key p = 0 then opnV key p else ⟨#[]⟩
theorem non_pk (key : ByteArray) (k : Nat) (cid data : ByteArray) (hk : k < 256) (h : cid.size = 8) (hd : data.size = 16) : nonE key (pk key k cid 0 data) = 0 ∧ nonV key (pk key k cid 0 data) = data := by
  obtain ⟨a, b⟩ := opn_pk key k cid 0 data hk h (by decide)
  have c := pk_nu key k cid 0 data hk h (by decide)
  have e : nonE key (pk key k cid 0 data) = 0 := by
    unfold nonE
    rw [a, b, c, if_pos rfl, if_pos ⟨hd, rfl⟩]
  refine ⟨e, ?_⟩
  unfold nonV
  rw [if_pos e, b]
theorem ope_cases (s : ByteArray) (n : Int) (h c : ByteArray) : ope s n h c = 0 ∨ ope s n h c = 1 ∨ ope s n h c = 10 := by
  unfold ope
  split
  · exact .inr (.inl rfl)
  · split
    · exact .inl rfl
    · exact .inr (.inr rfl)
def sHello : ByteArray := ⟨#[104, 101, 108, 108, 111]⟩
def sWelcome : ByteArray := ⟨#[119, 101, 108, 99, 111, 109, 101]⟩
def sUp : ByteArray := ⟨#[117, 112]⟩
def sDown : ByteArray := ⟨#[100, 111, 119, 110]⟩
def kHello (psk : ByteArray) : ByteArray := der psk sHello ⟨#[]⟩
def kWelcome (psk nonce : ByteArray) : ByteArray := der psk sWelcome nonce
/-- Hello's answers. -/
def helE (psk p : ByteArray) : Int := if p.size < 29 then 1 else if (nb p).getD 0 0 = 1 then nonE (kHello psk) p else 5
def helN (psk p : ByteArray) : ByteArray := if helE psk p = 0 then p.extract 1 9 else ⟨#[]⟩
def helV (psk p : ByteArray) : ByteArray := if helE psk p = 0 then nonV (kHello psk) p else ⟨#[]⟩
theorem hel_pk (psk cid nonce : ByteArray) (h : cid.size = 8) (hn : nonce.size = 16) : helE psk (pk (kHello psk) 1 cid 0 nonce) = 0 ∧ helN psk (pk (kHello psk) 1 cid 0 nonce) = cid ∧ helV psk (pk (kHello psk) 1 cid 0 nonce) = nonce := by
  obtain ⟨a, b⟩ := non_pk (kHello psk) 1 cid nonce (by decide) h hn
  have z := pk_size (kHello psk) 1 cid 0 nonce
  have e : helE psk (pk (kHello psk) 1 cid 0 nonce) = 0 := by
    unfold helE
    rw [if_neg (by omega), if_pos (pk_first (kHello psk) 1 cid 0 nonce (by decide)), a]
  refine ⟨e, ?_, ?_⟩
  · unfold helN
    rw [if_pos e, pk_name _ _ _ _ _ h]
  · unfold helV
    rw [if_pos e, b]
end Go.Proofs.YtbicfhilehllnaaGreatDoor.cn
namespace Go.Proofs.YtbicfhilehllnaaGreatDoor.cn
set_option maxRecDepth 100000
open Go.RowKit Go.Sort
open ob (RowY obB2L ofB ofB_len ofB_app srcB)

theorem ofB_bstr (l : List Nat) (h : ∀ x ∈ l, x < 256) : ofB (bstr l) = l.map fun x : Nat => (x : Int) := by
  unfold ofB bstr
  simp only [List.map_map]
  apply List.map_congr_left
  intro x hx
  have := h x hx
  simp
  omega
theorem shr_nat (n s : Nat) : ((n : Int) / 2 ^ s) = ((n / 2 ^ s : Nat) : Int) := by simp
/-- The head with so many bytes of the number. -/
def hdj (k : Nat) (name : ByteArray) (n j : Nat) : ByteArray := bstr [k] ++ name ++ bstr ((be n 4).take j)
theorem hdj_succ (k : Nat) (name : ByteArray) (n j : Nat) (hj : j < 4) : ofB (hdj k name n (j + 1)) = ofB (hdj k name n j) ++ [((n / 2 ^ (24 - 8 * j) % 256 : Nat) : Int)] := by
  unfold hdj
  rw [ofB_app, ofB_app, ofB_app, ofB_app, ofB_bstr ((be n 4).take (j + 1)) (fun x hx => be_lt n 4 x (List.mem_of_mem_take hx)), ofB_bstr ((be n 4).take j) (fun x hx => be_lt n 4 x (List.mem_of_mem_take hx)), be4, List.append_assoc, List.append_assoc, List.append_assoc]
  congr 2
  have : j = 0 ∨ j = 1 ∨ j = 2 ∨ j = 3 := by omega
  rcases this with rfl | rfl | rfl | rfl <;> simp
theorem hdj_size (k : Nat) (name : ByteArray) (n j : Nat) (hj : j ≤ 4) : (hdj k name n j).size = name.size + 1 + j := by
  unfold hdj
  rw [ByteArray.size_append, ByteArray.size_append, bstr_size, bstr_size, List.length_take, be_length]
  show 1 + name.size + min j 4 = _
  omega
theorem num_chain (a b c d : Nat) (ha : a < 256) (hb : b < 256) (hc : c < 256) (hd : d < 256) :
    bits .or .i64 (wrap64 (bits .or .i64 (wrap64 (bits .or .i64 (wrap64 (bits .or .i64 0 (wrap64 (a : Int)) * 256)) (wrap64 (b : Int)) * 256)) (wrap64 (c : Int)) * 256)) (wrap64 (d : Int)) = ((((a * 256 + b) * 256 + c) * 256 + d : Nat) : Int) := by
  have w : ∀ n : Int, 0 ≤ n ∧ n < 9223372036854775808 → wrap64 n = n := fun n h => by unfold wrap64; omega
  have e0 : bits .or .i64 0 (wrap64 (a : Int)) = (a : Int) := by
    rw [w a (by omega)]
    have := or_byte 0 a (by omega) (by omega) (by omega) (by omega)
    simpa using this
  rw [e0, w b (by omega), w c (by omega), w d (by omega), w (a * 256) (by omega), or_byte a b (by omega) (by omega) (by omega) (by omega), w ((a * 256 + b) * 256) (by omega), or_byte _ c (by omega) (by omega) (by omega) (by omega), w (((a * 256 + b) * 256 + c) * 256) (by omega), or_byte _ d (by omega) (by omega) (by omega) (by omega)]
  omega
theorem ret_i {a b : Int} (h : a = b) : Ending.returned (.int .i64 a) = .returned (.int .i64 b) := by rw [h]
set_option maxHeartbeats 2000000 in
theorem number_ok (p : ByteArray) (w : World) (h : 13 ≤ p.size) :
    Calls Tryz.prog 92 #[.string p] w fun e w' => e = .returned (.int .i64 (nu p : Int)) ∧ w = w' := by
  go_enter Tryz.func92, Tryz.ntmps92
  go_wp2
  go_rounds 5
  go_ret
  refine ⟨ret_i ?_, rfl⟩
  rw [num_chain _ _ _ _ (UInt8.toNat_lt _) (UInt8.toNat_lt _) (UInt8.toNat_lt _) (UInt8.toNat_lt _)]
  unfold nu
  rw [← nb_get p 9 (by omega), ← nb_get p 10 (by omega), ← nb_get p 11 (by omega), ← nb_get p 12 (by omega)]
/-- A row of bytes of one's own, made behind a world. -/
structure HJ (w wr : World) (v : Value) (xs : List Int) : Prop where
  row : RowY wr v xs
  own : ∀ k, v.ownBlock = some k → w.heap.size ≤ k
  bel : Below w.heap.size w wr
theorem HJ.alloc {w wr : World} {v : Value} {xs : List Int} (h : HJ w wr v xs) (o : Obj) : HJ w (wr.alloc o) v xs :=
  ⟨h.row.keep ((Below.refl _ _).alloc (Nat.le_refl _) _), h.own, h.bel.alloc h.bel.size _⟩
theorem HJ.app {w wr : World} {v : Value} {xs : List Int} (h : HJ w wr v xs) (tx ty : TypeId) (x : Value) (ys : List Int) (S : Src Tryz.prog 1 tx x ys.length (ob.nY ys) wr) (hk : xs.length + ys.length < 1000000000) :
    ∃ v' w', (∀ z, (builtin .append #[129, tx] ty z #[v, x]).run Tryz.prog wr = .ok (.value v') w') ∧ HJ w w' v' (xs ++ ys) := by
  obtain ⟨v2, w2, hap, r, g, o⟩ := h.row.app tx ty x ys S hk
  refine ⟨v2, w2, hap, r, fun k hk => ?_, h.bel.grown g h.bel.size h.own⟩
  rcases o with o | o
  · exact h.own k (o ▸ hk)
  · rw [o] at hk
    injection hk with hk
    subst hk
    exact h.bel.size
theorem one_row (wr : World) (x : Int) : RowY (wr.alloc (.cells #[.int .u8 x] 5)) (.slice (some ⟨wr.heap.size, 0, none⟩) 1 1) [x] :=
  RowY.mk (w := wr.alloc (.cells #[.int .u8 x] 5)) (g := wr.heap.size) (o := 0) (cap := 1) (cur := #[.int .u8 x]) (xs := [x]) (by show (wr.heap.push _)[wr.heap.size]? = _; simp) (by simp) (by unfold maxLen; omega) (by simp) (fun k hk => by
    have : k = 0 := by simpa using hk
    subst this
    rfl)
theorem HJ.one {w wr : World} {v : Value} {xs : List Int} (h : HJ w wr v xs) (x : Int) (hk : xs.length < 2000) :
    ∃ v' w', (∀ z, (builtin .append #[129, 129] 129 z #[v, .slice (some ⟨wr.heap.size, 0, none⟩) 1 1]).run Tryz.prog (wr.alloc (.cells #[.int .u8 x] 5)) = .ok (.value v') w') ∧ HJ w w' v' (xs ++ [x]) := by
  have s := (one_row wr x).src
  exact (h.alloc _).app 129 129 (.slice (some ⟨wr.heap.size, 0, none⟩) 1 1) [x] s (by simp; omega)
set_option maxHeartbeats 2000000 in
theorem head_ok (k n : Nat) (name : ByteArray) (w : World) (hk : k < 256) (hn : n < 4611686018427387904) (hs : name.size < 1000) :
    Calls Tryz.prog 101 #[.int .u8 (k : Int), .string name, .int .i64 (n : Int)] w fun e w' => e = .returned (.string (hd k name n)) ∧ Below w.heap.size w w' := by
  obtain ⟨v1, w1, hap1, H1⟩ : ∃ v1 w1, (∀ z, (builtin .append #[129, 9] 129 z #[.slice (some ⟨w.heap.size, 0, none⟩) 1 1, .string name]).run Tryz.prog (w.alloc (.cells #[.int .u8 (k : Int)] 5)) = .ok (.value v1) w1) ∧ HJ w w1 v1 (ofB (hdj k name n 0)) := by
    have h0 : HJ w (w.alloc (.cells #[.int .u8 (k : Int)] 5)) (.slice (some ⟨w.heap.size, 0, none⟩) 1 1) [(k : Int)] := ⟨one_row w k, fun j e => by injection e with e; subst e; exact Nat.le_refl _, (Below.refl _ _).alloc (Nat.le_refl _) _⟩
    obtain ⟨v1, w1, a, b⟩ := h0.app 9 129 (.string name) (ofB name) (srcB _ name) (by rw [ofB_len]; simp; omega)
    refine ⟨v1, w1, a, ?_⟩
    have e : ofB (hdj k name n 0) = [(k : Int)] ++ ofB name := by
      unfold hdj
      rw [ofB_app, ofB_app, ofB_bstr [k] (fun x hx => by simp at hx; omega), ofB_bstr ((be n 4).take 0) (fun x hx => by simp at hx)]
      simp
    rw [e]
    exact b
  replace hap1 : Hid _ := hap1
  replace H1 : Hid _ := H1
  have eF : Hid (hd k name n = hdj k name n 4) := by
    unfold Hid hd hdj
    rw [List.take_of_length_le (by rw [be_length]; omega)]
  obtain ⟨R, hR⟩ : ∃ R, R = hd k name n := ⟨_, rfl⟩
  rw [← hR]
  have HR : Hid (R = hdj k name n 4) := hR.trans eF.out
  clear hR eF
  go_enter Tryz.func101, Tryz.ntmps101
  go_wp2_with (refine obB2L _ rfl .append _ _ 129 9 rfl _ (.string name) rfl rfl hap1.out ?_)
  go_loopg [7, 8] 4 (fun g hv sv wr => ∃ j : Nat, j + g = 4 ∧ sv = .int .i64 (24 - 8 * (j : Int)) ∧ Hid (HJ w wr hv (ofB (hdj k name n j))))
  case atStart => exact ⟨0, by omega, by simp, H1⟩
  case round =>
    obtain ⟨j, hj, rfl, X⟩ := hrel
    by_cases hlt : j < 4
    · have z := hdj_size k name n j (by omega)
      obtain ⟨s, hs1⟩ : ∃ s : Nat, s = 24 - 8 * j := ⟨_, rfl⟩
      have hs2 : (24 : Int) - 8 * (j : Int) = (s : Int) := by omega
      rw [hs2]
      obtain ⟨x, hx⟩ : ∃ x : Nat, x = n / 2 ^ s % 256 := ⟨_, rfl⟩
      obtain ⟨v2, w2, hap, H2⟩ := X.out.one (x : Int) (by rw [ofB_len, z]; omega)
      have H3 : Hid (HJ w w2 v2 (ofB (hdj k name n (j + 1)))) := by
        rw [hdj_succ k name n j hlt, ← hs1, ← hx]
        exact H2
      replace hap : Hid _ := hap
      have hsle : s ≤ 24 := by omega
      have d1 : Hid ((n : Int) / 2 ^ s = ((n / 2 ^ s : Nat) : Int)) := by unfold Hid; simp
      have d2 : n / 2 ^ s < 4611686018427387904 := Nat.lt_of_le_of_lt (Nat.div_le_self _ _) hn
      have d3 : bits .and .i64 ((n : Int) / 2 ^ s) 255 % 256 = (x : Int) := by
        rw [d1.out, and255 ((n / 2 ^ s : Nat) : Int) (Int.natCast_nonneg _) (Int.ofNat_lt.2 (Nat.lt_trans d2 (by decide))), hx]
        rfl
      have hx2 : x < 256 := by rw [hx]; exact Nat.mod_lt _ (by decide)
      have ns : (s : Int) - 8 = 24 - 8 * ((j + 1 : Nat) : Int) := by omega
      replace ns : Hid _ := ns
      clear d1 d2
      replace hx : Hid _ := hx
      replace hs1 : Hid _ := hs1
      clear H2 X
      go_wp2_with (refine obB2L _ rfl .append _ _ 129 129 rfl _ _ rfl rfl hap.out ?_)
      go_roundg (3 - j)
      case measure => omega
      case rel => exact ⟨j + 1, by omega, by rw [ns.out], H3⟩
    · have hE : j = 4 := by omega
      subst hE
      rw [show (24 : Int) - 8 * ((4 : Nat) : Int) = -8 from rfl]
      obtain ⟨a, c, rfl, -⟩ := X.out.row.slice
      have cv := X.out.row.str (by rw [hdj_size k name n 4 (by omega)]; omega)
      have ZZ : Hid (RowKit.Below w.heap.size w wr) := X.out.bel
      rw [← HR.out] at cv ⊢
      clear X
      go_wp2
      go_ret
      exact ⟨rfl, ZZ.out⟩
end Go.Proofs.YtbicfhilehllnaaGreatDoor.cn
namespace Go.Proofs.YtbicfhilehllnaaGreatDoor.cn
set_option maxRecDepth 100000
open Go.RowKit Go.Sort

theorem SInv.ptr {w0 w : World} {v : Value} {s : ByteArray} {x y : Nat} (h : SInv w0 w v s x y) : ∃ B, v = .pointer (some ⟨B, 0, none⟩) := by
  obtain ⟨F, h, _⟩ := h.ex
  obtain ⟨B, e, _⟩ := h.ex
  exact ⟨B, e⟩
set_option maxHeartbeats 1000000 in
theorem keyOf_ok (psk label ctx : ByteArray) (w0 w : World) (b : Below w0.heap.size w0 w) (t : STab w0) (h1 : psk.size < 1073741824) (h2 : label.size < 1073741824) (h3 : ctx.size < 1073741824) :
    Calls Tryz.prog 93 #[.string psk, .string label, .string ctx] w fun e w' => ∃ a : Addr, e = .returned (.pointer (some a)) ∧ SInv w0 w' (.pointer (some a)) (der psk label ctx) 0 0 := by
  have T : Hid (STab w) := t.keep b
  have D : Hid (∀ _ : Unit, _) := fun _ => derive_ok psk label ctx w T.out.c T.out.v (by omega) (by omega) (by omega)
  have N : Hid (∀ w1, Below w0.heap.size w0 w1 → _) := fun w1 b1 => sinv_new (der psk label ctx) w0 w1 b1 t
  have B : Hid (Below w0.heap.size w0 w) := b
  clear T b t
  generalize der psk label ctx = K at *
  go_enter Tryz.func93, Tryz.ntmps93
  go_wp2_with fail
  refine (D.out ()).mono ?_
  rintro e w1 ⟨rfl, b1⟩
  have B1 : Hid (Below w0.heap.size w0 w1) := B.out.trans (b1.mono B.out.size)
  clear b1 D B
  go_wp2_with fail
  refine (N.out _ B1.out).mono ?_
  rintro e w2 ⟨a, rfl, n⟩
  have N2 := Lib.hid n
  clear n N B1
  go_wp2_with fail
  go_ret
  exact ⟨a, rfl, N2.out⟩
theorem helloKey_ok (psk : ByteArray) (w0 w : World) (b : Below w0.heap.size w0 w) (t : STab w0) (h1 : psk.size < 1073741824) :
    Calls Tryz.prog 46 #[.string psk] w fun e w' => ∃ a : Addr, e = .returned (.pointer (some a)) ∧ SInv w0 w' (.pointer (some a)) (kHello psk) 0 0 := by
  have K : Hid (∀ _ : Unit, _) := fun _ => keyOf_ok psk sHello ⟨#[]⟩ w0 w b t h1 (by decide) (by decide)
  unfold kHello
  generalize der psk sHello ⟨#[]⟩ = k at *
  unfold sHello at K
  go_enter Tryz.func46, Tryz.ntmps46
  go_wp2_with fail
  refine (K.out ()).mono ?_
  rintro e w2 ⟨a, rfl, n⟩
  have N2 := Lib.hid n
  clear n K
  go_wp2_with fail
  go_ret
  exact ⟨a, rfl, N2.out⟩
theorem welcomeKey_ok (psk nonce : ByteArray) (w0 w : World) (b : Below w0.heap.size w0 w) (t : STab w0) (h1 : psk.size < 1073741824) (h2 : nonce.size < 1073741824) :
    Calls Tryz.prog 53 #[.string psk, .string nonce] w fun e w' => ∃ a : Addr, e = .returned (.pointer (some a)) ∧ SInv w0 w' (.pointer (some a)) (kWelcome psk nonce) 0 0 := by
  have K : Hid (∀ _ : Unit, _) := fun _ => keyOf_ok psk sWelcome nonce w0 w b t h1 (by decide) h2
  unfold kWelcome
  generalize der psk sWelcome nonce = k at *
  unfold sWelcome at K
  go_enter Tryz.func53, Tryz.ntmps53
  go_wp2_with fail
  refine (K.out ()).mono ?_
  rintro e w2 ⟨a, rfl, n⟩
  have N2 := Lib.hid n
  clear n K
  go_wp2_with fail
  go_ret
  exact ⟨a, rfl, N2.out⟩
set_option maxHeartbeats 1000000 in
theorem sealPacket_ok {v : Value} {key : ByteArray} {x y : Nat} (k n : Nat) (name data : ByteArray) (w0 w : World) (t : STab w0) (h : SInv w0 w v key x y) (hk : k < 256) (hn : n < 4611686018427387904) (hs : name.size < 1000) (hda : data.size < 1073741824) (hK : key.size < 1073741824) (hx : x < 1000) (hy : y < 1000) :
    Calls Tryz.prog 51 #[v, .int .u8 (k : Int), .string name, .int .i64 (n : Int), .string data] w fun e w' => e = .returned (.string (pk key k name n data)) ∧ SInv w0 w' v key (x + 1) y := by
  have z1 := hd_size k name n
  have z2 := sld_size key n (hd k name n) data
  have H : Hid (∀ w, _) := fun w => head_ok k n name w hk hn hs
  have S : Hid (∀ w', SInv w0 w' v key x y → _) := fun w' h => sinv_seal t (n : Int) (hd k name n) data h (by omega) (by omega) (by omega) hx hy
  have I : Hid (∀ w', Below w.heap.size w w' → SInv w0 w' v key x y) := fun w' b => h.keep t b
  unfold pk
  generalize sld key n (hd k name n) data = Y at *
  generalize hd k name n = X at *
  clear h
  go_enter Tryz.func51, Tryz.ntmps51
  go_wp2_with fail
  refine (H.out _).mono ?_
  rintro e w1 ⟨rfl, b1⟩
  have I1 := Lib.hid (I.out w1 b1)
  clear b1 H I
  go_wp2_with fail
  refine (S.out _ I1.out).mono ?_
  rintro e w2 ⟨rfl, n2⟩
  have N2 := Lib.hid n2
  clear n2 S I1
  go_wp2_with fail
  go_ret
  exact ⟨rfl, N2.out⟩
set_option maxHeartbeats 1000000 in
theorem openPacket_ok {v : Value} {key : ByteArray} {x y : Nat} (p : ByteArray) (w0 w : World) (t : STab w0) (h : SInv w0 w v key x y) (hp : 13 ≤ p.size) (hs : p.size < 1073741824) (hK : key.size < 1073741824) (hx : x < 1000) (hy : y < 1000) :
    Calls Tryz.prog 91 #[v, .string p] w fun e w' => e = .returned (.tuple #[.string (opnV key p), .int .i64 (opnE key p)]) ∧ SInv w0 w' v key x (y + if opnE key p = 0 then 1 else 0) := by
  have z1 : (p.extract 0 13).size = 13 := by rw [ByteArray.size_extract]; omega
  have z2 : (p.extract 13 p.size).size = p.size - 13 := by rw [ByteArray.size_extract]; omega
  have NU : Hid (∀ w, _) := fun w => number_ok p w hp
  have O : Hid (∀ w', SInv w0 w' v key x y → _) := fun w' h => sinv_open t (nu p : Int) (p.extract 0 13) (p.extract 13 p.size) h (by omega) (by omega) (by omega) hx hy
  have I : Hid (SInv w0 w v key x y) := h
  have ID : Hid (SInv w0 w.drew v key x y) := h.keep t ((Below.refl _ _).drew)
  unfold opnE opnV
  generalize ope key (nu p) (p.extract 0 13) (p.extract 13 p.size) = E at *
  generalize opv key (nu p) (p.extract 0 13) (p.extract 13 p.size) = V at *
  obtain ⟨m, hm⟩ : ∃ m : Int, m = (nu p : Int) := ⟨_, rfl⟩
  rw [← hm] at NU O
  obtain ⟨Y, hY⟩ : ∃ Y, Y = y + if E = 0 then 1 else 0 := ⟨_, rfl⟩
  rw [← hY] at O ⊢
  clear hm h hY
  go_enter Tryz.func91, Tryz.ntmps91
  go_wp2_with fail
  go_region_with (first | (go_at_call 92; refine (NU.out _).mono ?_; rintro e w1 ⟨rfl, rfl⟩) | (go_at_call 144; refine (O.out _ ?_).mono ?_; first | exact I.out | exact ID.out; rintro e w2 ⟨rfl, n2⟩))
  all_goals
    have N2 := Lib.hid n2
    clear n2 O NU I ID
    go_wp2
    go_ret2
    exact ⟨rfl, N2.out⟩
end Go.Proofs.YtbicfhilehllnaaGreatDoor.cn
namespace Go.Proofs.YtbicfhilehllnaaGreatDoor.cn
set_option maxRecDepth 100000
open Go.RowKit Go.Sort

set_option maxHeartbeats 1000000 in
theorem rnum4_ok (t : ByteArray) (w : World) (h : t.size = 4) :
    Calls Tryz.prog 132 #[.string t] w fun e w' => e = .returned (.int .i64 (((((nb t).getD 0 0 * 256 + (nb t).getD 1 0) * 256 + (nb t).getD 2 0) * 256 + (nb t).getD 3 0 : Nat) : Int)) ∧ w = w' := by
  have a0 := UInt8.toNat_lt (t[0]'(by omega))
  have a1 := UInt8.toNat_lt (t[1]'(by omega))
  have a2 := UInt8.toNat_lt (t[2]'(by omega))
  have a3 := UInt8.toNat_lt (t[3]'(by omega))
  rw [← nb_get t 0 (by omega), ← nb_get t 1 (by omega), ← nb_get t 2 (by omega), ← nb_get t 3 (by omega)]
  go_enter Tryz.func132, Tryz.ntmps132
  go_wp2
  go_rounds 5
  go_ret
  exact ⟨ret_i (by omega), rfl⟩
theorem nu_cut (p : ByteArray) : ((((nb (p.extract 9 13)).getD 0 0 * 256 + (nb (p.extract 9 13)).getD 1 0) * 256 + (nb (p.extract 9 13)).getD 2 0) * 256 + (nb (p.extract 9 13)).getD 3 0) = nu p := by
  have e : ∀ i, i < 4 → (nb (p.extract 9 13)).getD i 0 = (nb p).getD (9 + i) 0 := fun i hi => by
    unfold nb
    rw [ByteArray.data_extract, Array.toList_extract, List.extract_eq_take_drop, List.map_take, List.map_drop]
    simp only [List.getD_eq_getElem?_getD]
    rw [List.getElem?_take, if_pos (by omega), List.getElem?_drop]
  rw [e 0 (by decide), e 1 (by decide), e 2 (by decide), e 3 (by decide)]
  rfl
set_option maxHeartbeats 1000000 in
theorem rhead_ok (k n : Nat) (cid : ByteArray) (w : World) (_ : k < 256) (hn : n < 4611686018427387904) (hs : cid.size < 1000) :
    Calls Tryz.prog 119 #[.int .u8 (k : Int), .string cid, .int .i64 (n : Int)] w fun e w' => e = .returned (.string (hd k cid n)) ∧ Below w.heap.size w w' := by
  have ek : strOfNums [(k : Int)] = bstr [k] := bstr_nums [k]
  have hcv : ∀ (w : World), (convert 129 9 (.slice (some ⟨w.heap.size, 0, none⟩) 1 1)).run Tryz.prog (w.alloc (.cells #[.int .u8 (k : Int)] 5)) = .ok (.string (bstr [k])) (w.alloc (.cells #[.int .u8 (k : Int)] 5)) := fun w => by rw [← ek]; exact conv1_later (World.cell?_alloc_new _ _ _ 0)
  have hcvd : ∀ (w : World), (convert 129 9 (.slice (some ⟨w.heap.size, 0, none⟩) 1 1)).run Tryz.prog (w.alloc (.cells #[.int .u8 (k : Int)] 5)).drew = .ok (.string (bstr [k])) (w.alloc (.cells #[.int .u8 (k : Int)] 5)).drew := fun w => by rw [← ek]; exact conv1_later (World.cell?_alloc_mark w _ 5 (0, 0) 0)
  have hcv1 : Hid (∀ {w1 : World}, Below (w.alloc (.cells #[.int .u8 (k : Int)] 5)).drew.heap.size (w.alloc (.cells #[.int .u8 (k : Int)] 5)).drew w1 → (convert 129 9 (.slice (some ⟨w.heap.size, 0, none⟩) 1 1)).run Tryz.prog w1 = .ok (.string (bstr [k])) w1) := fun b => by rw [← ek]; exact conv_after b
  have B : Hid (∀ w, _) := fun w => rbytes 4 (by decide) (n : Int) w (by omega) (by omega)
  rw [digs_be] at B
  have z1 : (bstr [k]).size = 1 := by rw [bstr_size]; rfl
  have z2 : (bstr (be n 4)).size = 4 := by rw [bstr_size, be_length]
  have z3 : (bstr [k] ++ cid).size = cid.size + 1 := by rw [ByteArray.size_append, z1]; omega
  unfold hd
  generalize bstr (be n 4) = Y at *
  generalize bstr [k] = X at *
  go_enter Tryz.func119, Tryz.ntmps119
  go_wp2_with fail
  go_region_with (go_at_call 184; refine (B.out _).mono ?_; rintro e w1 ⟨rfl, hb1⟩; first | (have hcv2 := hcv1.out hb1) | skip)
  all_goals
    go_wp2
    go_ret
  all_goals
    first
    | exact ⟨rfl, ((Below.refl _ _).alloc (Nat.le_refl _) _).drew.trans (hb1.mono (by simp))⟩
    | exact ⟨rfl, Below.alloc (w := w1) ((Below.refl _ _).drew.trans hb1) hb1.size _⟩
set_option maxHeartbeats 1000000 in
theorem rpack_ok (key : ByteArray) (k n : Nat) (cid data : ByteArray) (w : World) (hk : k < 256) (hn : n < 4611686018427387904) (hs : cid.size < 1000) (hK : key.size < 1073741824) (hd : data.size < 1073741824) :
    Calls Tryz.prog 60 #[.string key, .int .u8 (k : Int), .string cid, .int .i64 (n : Int), .string data] w fun e w' => e = .returned (.string (pk key k cid n data)) ∧ Below w.heap.size w w' := by
  have z1 := hd_size k cid n
  have z2 := sld_size key n (cn.hd k cid n) data
  have H : Hid (∀ w, _) := fun w => rhead_ok k n cid w hk hn hs
  have S : Hid (∀ w, _) := fun w => rseal_ok key (n : Int) (cn.hd k cid n) data w (by omega) (by omega) (by omega)
  unfold pk
  generalize sld key n (cn.hd k cid n) data = Y at *
  generalize cn.hd k cid n = X at *
  go_enter Tryz.func60, Tryz.ntmps60
  go_wp2_with fail
  refine (H.out _).mono ?_
  rintro e w1 ⟨rfl, b1⟩
  have Z1 : Hid (Below w.heap.size w w1) := b1
  clear b1 H
  go_wp2_with fail
  refine (S.out _).mono ?_
  rintro e w2 ⟨rfl, b2⟩
  have Z2 : Hid (Below w.heap.size w w2) := Z1.out.trans (b2.mono Z1.out.size)
  clear b2 S Z1
  go_wp2_with fail
  go_ret
  exact ⟨rfl, Z2.out⟩
set_option maxHeartbeats 1000000 in
theorem ropenP_ok (key p : ByteArray) (w : World) (hp : 13 ≤ p.size) (hs : p.size < 1073741824) (hK : key.size < 1073741824) :
    Calls Tryz.prog 94 #[.string key, .string p] w fun e w' => e = .returned (.tuple #[.int .i64 (nu p : Int), .string (opnV key p), .int .i64 (opnE key p)]) ∧ Below w.heap.size w w' := by
  have z0 : (p.extract 9 13).size = 4 := by rw [ByteArray.size_extract]; omega
  have z1 : (p.extract 0 13).size = 13 := by rw [ByteArray.size_extract]; omega
  have z2 : (p.extract 13 p.size).size = p.size - 13 := by rw [ByteArray.size_extract]; omega
  have NU : Hid (∀ w, _) := fun w => rnum4_ok (p.extract 9 13) w z0
  rw [nu_cut p] at NU
  have O : Hid (∀ w, _) := fun w => ropen_ok key (nu p : Int) (p.extract 0 13) (p.extract 13 p.size) w (by omega) (by omega) (by omega)
  unfold opnE opnV
  generalize ope key (nu p) (p.extract 0 13) (p.extract 13 p.size) = E at *
  generalize opv key (nu p) (p.extract 0 13) (p.extract 13 p.size) = V at *
  generalize ((nu p : Nat) : Int) = m at *
  go_enter Tryz.func94, Tryz.ntmps94
  go_wp2_with fail
  refine (NU.out _).mono ?_
  rintro e w1 ⟨rfl, rfl⟩
  clear NU
  go_wp2_with fail
  refine wp_region_quiet_below (by kernel_rfl) (by kernel_rfl) ?_
  repeat (go_big_quiet_step (first | (go_at_call 133; exact Calls.regrown_of (O.out _))))
  refine wpQuiet_nil ?_
  intro _ hw'
  obtain ⟨⟨dq, osq⟩, hw''⟩ := hw'
  subst hw''
  have bq := below_regrown w dq osq
  have Z1 : Hid (Below w.heap.size w (grow (redrawn w dq) osq)) := bq
  clear bq O
  simp only
  generalize grow (redrawn w dq) osq = w2 at *
  go_wp2
  go_ret3
  exact ⟨rfl, Z1.out⟩
end Go.Proofs.YtbicfhilehllnaaGreatDoor.cn
namespace Go.Proofs.YtbicfhilehllnaaGreatDoor.cn
set_option maxRecDepth 100000
open Go.RowKit Go.Sort

theorem der_small (k l c : ByteArray) : (der k l c).size < 1073741824 := by rw [der_len]; decide
theorem opn_bound (key p : ByteArray) (hs : p.size < 1073741824) : (opnV key p).size < 1073741824 := by
  unfold opnV opv
  split
  · exact (by decide : (0 : Nat) < 1073741824)
  · split
    · rw [bstr_size, hide_length, nb_length]
      unfold hdd
      rw [ByteArray.size_extract, ByteArray.size_extract]
      omega
    · exact (by decide : (0 : Nat) < 1073741824)
/-- What is told of a nonce. -/
def nE (E : Int) (V : ByteArray) (m : Nat) : Int := if E = 0 then (if V.size = 16 ∧ m = 0 then 0 else 3) else E
theorem nonE_eq (key p : ByteArray) : nonE key p = nE (opnE key p) (opnV key p) (nu p) := rfl
theorem nonV_eq (key p : ByteArray) : nonV key p = if nE (opnE key p) (opnV key p) (nu p) = 0 then opnV key p else ⟨#[]⟩ := rfl
theorem name_ok (p : ByteArray) (w : World) (h : 9 ≤ p.size) :
    Calls Tryz.prog 47 #[.string p] w fun e w' => e = .returned (.string (p.extract 1 9)) ∧ w = w' := by
  go_enter Tryz.func47, Tryz.ntmps47
  go_wp2
  go_ret
  exact ⟨rfl, rfl⟩
set_option maxHeartbeats 2000000 in
theorem openNonce_ok {v : Value} {key : ByteArray} {x y : Nat} (p : ByteArray) (w0 w : World) (t : STab w0) (h : SInv w0 w v key x y) (hp : 13 ≤ p.size) (hs : p.size < 1073741824) (hK : key.size < 1073741824) (hx : x < 1000) (hy : y < 1000) :
    Calls Tryz.prog 45 #[v, .string p] w fun e w' => e = .returned (.tuple #[.string (nonV key p), .int .i64 (nonE key p)]) ∧ Below w0.heap.size w0 w' := by
  have NU : Hid (∀ w, _) := fun w => number_ok p w hp
  have O : Hid (∀ _ : Unit, _) := fun _ => openPacket_ok p w0 w t h hp hs hK hx hy
  have zv := opn_bound key p hs
  rw [nonV_eq, nonE_eq]
  obtain ⟨m, hm⟩ : ∃ m : Nat, m = nu p := ⟨_, rfl⟩
  rw [← hm] at NU ⊢
  clear hm h
  generalize opnE key p = E at *
  generalize opnV key p = V at *
  by_cases hE : E = 0
  · subst hE
    rw [if_pos rfl] at O
    by_cases hV : V.size = 16
    · have q1 : ((V.size : Int) == 16) = true := by simp; omega
      by_cases hm : m = 0
      · subst hm
        have eA : nE 0 V 0 = 0 := by simp [nE, hV]
        rw [eA, if_pos rfl]
        clear eA
        go_enter Tryz.func45, Tryz.ntmps45
        go_wp2_with fail
        refine (O.out ()).mono ?_
        rintro e w1 ⟨rfl, n1⟩
        have Z1 : Hid (Below w0.heap.size w0 w1) := n1.below
        clear n1 O
        go_wp2_with fail
        refine (NU.out _).mono ?_
        rintro e w2 ⟨rfl, rfl⟩
        clear NU
        go_wp2_with fail
        go_ret2
        exact ⟨rfl, Z1.out⟩
      · have q2 : ((m : Int) == 0) = false := by simp; omega
        have eA : nE 0 V m = 3 := by simp [nE, hm]
        rw [eA, if_neg (by decide)]
        clear eA
        go_enter Tryz.func45, Tryz.ntmps45
        go_wp2_with fail
        refine (O.out ()).mono ?_
        rintro e w1 ⟨rfl, n1⟩
        have Z1 : Hid (Below w0.heap.size w0 w1) := n1.below
        clear n1 O
        go_wp2_with fail
        refine (NU.out _).mono ?_
        rintro e w2 ⟨rfl, rfl⟩
        clear NU
        go_wp2_with fail
        go_ret2
        exact ⟨rfl, Z1.out⟩
    · have q1 : ((V.size : Int) == 16) = false := by simp; omega
      have eA : nE 0 V m = 3 := by simp [nE, hV]
      rw [eA, if_neg (by decide)]
      clear NU eA
      go_enter Tryz.func45, Tryz.ntmps45
      go_wp2_with fail
      refine (O.out ()).mono ?_
      rintro e w1 ⟨rfl, n1⟩
      have Z1 : Hid (Below w0.heap.size w0 w1) := n1.below
      clear n1 O
      go_wp2_with fail
      go_ret2
      exact ⟨rfl, Z1.out⟩
  · have q0 : (E == 0) = false := by simpa using hE
    have eA : nE E V m = E := by simp [nE, hE]
    rw [eA, if_neg hE]
    clear eA
    clear NU
    replace hE : Hid _ := hE
    go_enter Tryz.func45, Tryz.ntmps45
    go_wp2_with fail
    refine (O.out ()).mono ?_
    rintro e w1 ⟨rfl, n1⟩
    have Z1 : Hid (Below w0.heap.size w0 w1) := n1.below
    clear n1 O
    go_wp2_with fail
    go_ret2
    exact ⟨rfl, Z1.out⟩
set_option maxHeartbeats 2000000 in
theorem rnonce_ok (key p : ByteArray) (w : World) (hp : 13 ≤ p.size) (hs : p.size < 1073741824) (hK : key.size < 1073741824) :
    Calls Tryz.prog 48 #[.string key, .string p] w fun e w' => e = .returned (.tuple #[.string (nonV key p), .int .i64 (nonE key p)]) ∧ Below w.heap.size w w' := by
  have O : Hid (∀ _ : Unit, _) := fun _ => ropenP_ok key p w hp hs hK
  have zv := opn_bound key p hs
  rw [nonV_eq, nonE_eq]
  obtain ⟨m, hm⟩ : ∃ m : Nat, m = nu p := ⟨_, rfl⟩
  rw [← hm] at O ⊢
  clear hm
  generalize opnE key p = E at *
  generalize opnV key p = V at *
  by_cases hE : E = 0
  · subst hE
    by_cases hm : m = 0
    · subst hm
      by_cases hV : V.size = 16
      · have q1 : ((V.size : Int) == 16) = true := by simp; omega
        have eA : nE 0 V 0 = 0 := by simp [nE, hV]
        rw [eA, if_pos rfl]
        clear eA
        go_enter Tryz.func48, Tryz.ntmps48
        go_wp2_with fail
        refine (O.out ()).mono ?_
        rintro e w1 ⟨rfl, b1⟩
        have Z1 : Hid (Below w.heap.size w w1) := b1
        clear b1 O
        go_wp2_with fail
        go_ret2
        exact ⟨rfl, Z1.out⟩
      · have q1 : ((V.size : Int) == 16) = false := by simp; omega
        have eA : nE 0 V 0 = 3 := by simp [nE, hV]
        rw [eA, if_neg (by decide)]
        clear eA
        go_enter Tryz.func48, Tryz.ntmps48
        go_wp2_with fail
        refine (O.out ()).mono ?_
        rintro e w1 ⟨rfl, b1⟩
        have Z1 : Hid (Below w.heap.size w w1) := b1
        clear b1 O
        go_wp2_with fail
        go_ret2
        exact ⟨rfl, Z1.out⟩
    · have q2 : ((m : Int) == 0) = false := by simp; omega
      have eA : nE 0 V m = 3 := by simp [nE, hm]
      rw [eA, if_neg (by decide)]
      clear eA
      go_enter Tryz.func48, Tryz.ntmps48
      go_wp2_with fail
      refine (O.out ()).mono ?_
      rintro e w1 ⟨rfl, b1⟩
      have Z1 : Hid (Below w.heap.size w w1) := b1
      clear b1 O
      go_wp2_with fail
      go_ret2
      exact ⟨rfl, Z1.out⟩
  · have q0 : (E == 0) = false := by simpa using hE
    have eA : nE E V m = E := by simp [nE, hE]
    rw [eA, if_neg hE]
    clear eA
    replace hE : Hid _ := hE
    go_enter Tryz.func48, Tryz.ntmps48
    go_wp2_with fail
    refine (O.out ()).mono ?_
    rintro e w1 ⟨rfl, b1⟩
    have Z1 : Hid (Below w.heap.size w w1) := b1
    clear b1 O
    go_wp2_with fail
    go_ret2
    exact ⟨rfl, Z1.out⟩
set_option maxHeartbeats 2000000 in
theorem hello_ok (psk p : ByteArray) (w0 w : World) (b : Below w0.heap.size w0 w) (t : STab w0) (hk : psk.size < 1073741824) (hs : p.size < 1073741824) :
    Calls Tryz.prog 12 #[.string psk, .string p] w fun e w' => e = .returned (.tuple #[.string (helN psk p), .string (helV psk p), .int .i64 (helE psk p)]) ∧ Below w0.heap.size w0 w' := by
  by_cases h29 : p.size < 29
  · have e1 : helE psk p = 1 := if_pos h29
    unfold helN helV
    rw [e1, if_neg (by decide), if_neg (by decide)]
    have g : decide ((p.size : Int) < 29) = true := decide_eq_true (by omega)
    replace b : Hid _ := b
    clear t e1
    go_enter Tryz.func12, Tryz.ntmps12
    go_wp2
    go_ret3
    exact ⟨rfl, b.out⟩
  · have g : decide ((p.size : Int) < 29) = false := decide_eq_false (by omega)
    have e0 : helE psk p = if (nb p).getD 0 0 = 1 then nonE (kHello psk) p else 5 := if_neg h29
    have f0 := nb_get p 0 (by omega)
    by_cases h1 : (nb p).getD 0 0 = 1
    · rw [if_pos h1] at e0
      have HK : Hid (∀ _ : Unit, _) := fun _ => helloKey_ok psk w0 w b t hk
      have ON : Hid (∀ w v, SInv w0 w v (kHello psk) 0 0 → _) := fun w v h => openNonce_ok p w0 w t h (by omega) hs (der_small _ _ _) (by decide) (by decide)
      have NM : Hid (∀ w, _) := fun w => name_ok p w (by omega)
      unfold helN helV
      rw [e0]
      rw [h1] at f0
      have g1 : (((p[0]'(by omega)).toNat : Int) == 1) = true := by rw [f0]; rfl
      have zn : nonV (kHello psk) p = if nonE (kHello psk) p = 0 then nonV (kHello psk) p else ⟨#[]⟩ := by
        unfold nonV
        split <;> rfl
      rw [← zn]
      have zV : Hid (nonE (kHello psk) p ≠ 0 → nonV (kHello psk) p = ⟨#[]⟩) := fun h => if_neg h
      clear zn e0 h1 f0 b t
      generalize nonV (kHello psk) p = V at *
      generalize nonE (kHello psk) p = E at *
      generalize kHello psk = K at *
      by_cases hE : E = 0
      · subst hE
        rw [if_pos rfl]
        go_enter Tryz.func12, Tryz.ntmps12
        go_wp2_with fail
        refine (HK.out ()).mono ?_
        rintro e w1 ⟨a, rfl, n1⟩
        have N1 := Lib.hid n1
        clear n1 HK
        go_wp2_with fail
        refine (ON.out _ _ N1.out).mono ?_
        rintro e w2 ⟨rfl, b2⟩
        have Z2 : Hid (Below w0.heap.size w0 w2) := b2
        clear b2 ON N1
        go_wp2_with fail
        refine (NM.out _).mono ?_
        rintro e w3 ⟨rfl, rfl⟩
        clear NM
        go_wp2_with fail
        go_ret3
        exact ⟨rfl, Z2.out⟩
      · have q0 : (E == 0) = false := by simpa using hE
        rw [if_neg hE]
        have hV := zV.out hE
        subst hV
        replace hE : Hid _ := hE
        clear NM
        go_enter Tryz.func12, Tryz.ntmps12
        go_wp2_with fail
        refine (HK.out ()).mono ?_
        rintro e w1 ⟨a, rfl, n1⟩
        have N1 := Lib.hid n1
        clear n1 HK
        go_wp2_with fail
        refine (ON.out _ _ N1.out).mono ?_
        rintro e w2 ⟨rfl, b2⟩
        have Z2 : Hid (Below w0.heap.size w0 w2) := b2
        clear b2 ON N1
        go_wp2_with fail
        go_ret3
        exact ⟨rfl, Z2.out⟩
    · rw [if_neg h1] at e0
      unfold helN helV
      rw [e0, if_neg (by decide), if_neg (by decide)]
      have g1 : (((p[0]'(by omega)).toNat : Int) == 1) = false := by
        simp only [beq_eq_false_iff_ne]
        omega
      replace b : Hid _ := b
      clear e0 f0 t h1
      go_enter Tryz.func12, Tryz.ntmps12
      go_wp2
      go_ret3
      exact ⟨rfl, b.out⟩
set_option maxHeartbeats 2000000 in
theorem rhello_ok (psk p : ByteArray) (w : World) (hk : psk.size < 1073741824) (hs : p.size < 1073741824) :
    Calls Tryz.prog 13 #[.string psk, .string p] w fun e w' => e = .returned (.tuple #[.string (helN psk p), .string (helV psk p), .int .i64 (helE psk p)]) ∧ Below w.heap.size w w' := by
  by_cases h29 : p.size < 29
  · have e1 : helE psk p = 1 := if_pos h29
    unfold helN helV
    rw [e1, if_neg (by decide), if_neg (by decide)]
    have g : decide ((p.size : Int) < 29) = true := decide_eq_true (by omega)
    clear e1
    go_enter Tryz.func13, Tryz.ntmps13
    go_wp2
    go_ret3
    exact ⟨rfl, Below.refl _ _⟩
  · have g : decide ((p.size : Int) < 29) = false := decide_eq_false (by omega)
    have e0 : helE psk p = if (nb p).getD 0 0 = 1 then nonE (kHello psk) p else 5 := if_neg h29
    have f0 := nb_get p 0 (by omega)
    by_cases h1 : (nb p).getD 0 0 = 1
    · rw [if_pos h1] at e0
      have HK : Hid (∀ w, _) := fun w => rderive_ok psk sHello ⟨#[]⟩ w (by omega) (by decide) (by decide)
      have ON : Hid (∀ w, _) := fun w => rnonce_ok (kHello psk) p w (by omega) hs (der_small _ _ _)
      unfold helN helV
      rw [e0]
      rw [h1] at f0
      have g1 : (((p[0]'(by omega)).toNat : Int) == 1) = true := by rw [f0]; rfl
      have zn : nonV (kHello psk) p = if nonE (kHello psk) p = 0 then nonV (kHello psk) p else ⟨#[]⟩ := by
        unfold nonV
        split <;> rfl
      rw [← zn]
      have zV : Hid (nonE (kHello psk) p ≠ 0 → nonV (kHello psk) p = ⟨#[]⟩) := fun h => if_neg h
      clear zn e0 h1 f0
      generalize nonV (kHello psk) p = V at *
      generalize nonE (kHello psk) p = E at *
      unfold kHello at ON
      generalize der psk sHello ⟨#[]⟩ = K at *
      unfold sHello at HK
      by_cases hE : E = 0
      · subst hE
        rw [if_pos rfl]
        go_enter Tryz.func13, Tryz.ntmps13
        go_wp2_with fail
        refine (HK.out _).mono ?_
        rintro e w1 ⟨rfl, b1⟩
        have Z1 : Hid (Below w.heap.size w w1) := b1
        clear b1 HK
        go_wp2_with fail
        refine (ON.out _).mono ?_
        rintro e w2 ⟨rfl, b2⟩
        have Z2 : Hid (Below w.heap.size w w2) := Z1.out.trans (b2.mono Z1.out.size)
        clear b2 ON Z1
        go_wp2_with fail
        go_ret3
        exact ⟨rfl, Z2.out⟩
      · have q0 : (E == 0) = false := by simpa using hE
        rw [if_neg hE]
        have hV := zV.out hE
        subst hV
        replace hE : Hid _ := hE
        go_enter Tryz.func13, Tryz.ntmps13
        go_wp2_with fail
        refine (HK.out _).mono ?_
        rintro e w1 ⟨rfl, b1⟩
        have Z1 : Hid (Below w.heap.size w w1) := b1
        clear b1 HK
        go_wp2_with fail
        refine (ON.out _).mono ?_
        rintro e w2 ⟨rfl, b2⟩
        have Z2 : Hid (Below w.heap.size w w2) := Z1.out.trans (b2.mono Z1.out.size)
        clear b2 ON Z1
        go_wp2_with fail
        go_ret3
        exact ⟨rfl, Z2.out⟩
    · rw [if_neg h1] at e0
      unfold helN helV
      rw [e0, if_neg (by decide), if_neg (by decide)]
      have g1 : (((p[0]'(by omega)).toNat : Int) == 1) = false := by
        simp only [beq_eq_false_iff_ne]
        omega
      clear e0 f0 h1
      go_enter Tryz.func13, Tryz.ntmps13
      go_wp2
      go_ret3
      exact ⟨rfl, Below.refl _ _⟩
end Go.Proofs.YtbicfhilehllnaaGreatDoor.cn
