/-
  What the document's own Sum answers, for every text of less than 2^40 bytes: the digest that the chapter says. No other condition.
-/
import Derived.Test.YtbicfhilehllnaaGreatDoorShConst
import Derived.Deep.LoopGhost
namespace Go.Proofs.YtbicfhilehllnaaGreatDoor
set_option maxRecDepth 100000
open Go.RowKit Go.Sort

/-- How many bytes 0 come behind a text. -/
def zz (n : Nat) : Nat := (119 - n % 64) % 64
def fill (s : ByteArray) (k : Nat) : ByteArray := bstr (nb s ++ 128 :: List.replicate k 0)
theorem fill_size (s : ByteArray) (k : Nat) : (fill s k).size = s.size + 1 + k := by
  unfold fill
  rw [bstr_size]
  simp [nb_length]
  omega
theorem fill_zero (s : ByteArray) : s ++ ByteArray.mk #[128] = fill s 0 := by
  have e : ByteArray.mk #[128] = bstr [128] := rfl
  unfold fill
  rw [e]
  conv => lhs; rw [← bstr_nb s]
  rw [bstr_append]
  rfl
theorem fill_succ (s : ByteArray) (k : Nat) : fill s k ++ ByteArray.mk #[0] = fill s (k + 1) := by
  have e : ByteArray.mk #[0] = bstr [0] := rfl
  unfold fill
  rw [e, bstr_append, List.append_assoc, List.cons_append, List.replicate_succ']
theorem fill_pad (s : ByteArray) : fill s (zz s.size) ++ bstr (be (8 * s.size) 8) = bstr (pad (nb s)) := by
  unfold fill pad zz
  rw [bstr_append, nb_length]
  simp
theorem pad_length (s : ByteArray) : (pad (nb s)).length = s.size + 9 + zz s.size := by
  unfold pad zz
  simp [be_length, nb_length]
  omega
theorem pad_lt (s : ByteArray) : ∀ x ∈ pad (nb s), x < 256 := by
  intro x hx
  unfold pad at hx
  simp only [List.mem_append, List.mem_cons, List.mem_replicate] at hx
  rcases hx with hx | rfl | ⟨_, rfl⟩ | hx
  · exact nb_lt s x hx
  · decide
  · decide
  · exact be_lt _ _ x hx
theorem nb_extract (l : List Nat) (a b : Nat) (h : ∀ x ∈ l, x < 256) : nb ((bstr l).extract a b) = (l.drop a).take (b - a) := by
  have e : ((bstr l).extract a b).data.toList = (((bstr l).data.toList).drop a).take (b - a) := by
    simp [ByteArray.data_extract, List.extract_eq_take_drop]
  have h2 := nb_bstr h
  unfold nb at h2 ⊢
  rw [e, List.map_take, List.map_drop, h2]
/-- The digest's bytes so far. -/
def outs (l : List Nat) (k : Nat) : List Nat := (l.take k).flatMap fun x => be x 4
theorem outs_length (l : List Nat) (k : Nat) (h : k ≤ l.length) : (outs l k).length = 4 * k := by
  unfold outs
  induction k with
  | zero => rfl
  | succ k ih =>
    have hk : k < l.length := by omega
    rw [List.take_succ_eq_append_getElem hk, List.flatMap_append, List.length_append, ih (by omega)]
    simp [be_length]
    omega
theorem outs_succ (l : List Nat) (k : Nat) (h : k < l.length) : outs l (k + 1) = outs l k ++ be (l.getD k 0) 4 := by
  unfold outs
  rw [List.take_succ_eq_append_getElem h, List.flatMap_append]
  simp [List.getD, List.getElem?_eq_getElem h]
set_option maxHeartbeats 4000000 in
set_option maxRecDepth 100000 in
theorem rsum_ok (s : ByteArray) (w : World) (hs : s.size < 1099511627776) :
    Calls Tryz.prog 147 #[.string s] w fun e w' => e = .returned (.string (bstr (dig (nb s)))) ∧ Below w.heap.size w w' := by
  have hZ : zz s.size < 64 := Nat.mod_lt _ (by decide)
  have hZ2 : (s.size + 1 + zz s.size) % 64 = 56 := by unfold zz; omega
  have hZ3 : ∀ k, k < zz s.size → (s.size + 1 + k) % 64 ≠ 56 := by unfold zz; omega
  have e0 := fill_zero s
  have z0 : (ByteArray.mk #[128]).size = 1 := rfl
  have z1 : (ByteArray.mk #[0]).size = 1 := rfl
  go_enter Tryz.func147, Tryz.ntmps147
  go_wp2
  go_loopg [3] (zz s.size) (fun g tv wr => ∃ k : Nat, k + g = zz s.size ∧ tv = .string (fill s k) ∧ w = wr)
  case atStart => exact ⟨0, by omega, rfl, rfl⟩
  case round =>
    obtain ⟨k, hk, rfl, rfl⟩ := hrel
    have fz := fill_size s k
    have fs := fill_succ s k
    by_cases hlt : k < zz s.size
    · have c1 : (((s.size : Int) + 1 + k) % 64 != 56) = true := by
        have := hZ3 k hlt
        simp only [bne_iff_ne, ne_eq]
        omega
      clear hZ3 e0
      go_wp2
      go_roundg (zz s.size - (k + 1))
      case measure => omega
      case rel => exact ⟨k + 1, by omega, rfl, rfl⟩
    · obtain rfl : k = zz s.size := by omega
      have c1 : (((s.size : Int) + 1 + (zz s.size : Nat)) % 64 != 56) = false := by
        simp only [bne_eq_false_iff_eq]
        omega
      have BY : Hid (∀ w, Calls Tryz.prog 184 #[.int .i64 (8 * (s.size : Int)), .int .i64 8] w fun e w' => e = .returned (.string (bstr (be (8 * s.size) 8))) ∧ Below w.heap.size w w') := fun w => by
        have := rbytes 8 (by decide) ((8 * s.size : Nat) : Int) w (by omega) (by omega)
        rw [digs_be] at this
        have e : ((8 * s.size : Nat) : Int) = 8 * (s.size : Int) := by omega
        rw [e] at this
        exact this
      have FI : Hid (∀ w, _) := rfirst_ok
      have CO : Hid (∀ w, _) := rconst_ok
      have fp := fill_pad s
      have zb : (bstr (be (8 * s.size) 8)).size = 8 := by rw [bstr_size, be_length]
      have zp : (bstr (pad (nb s))).size = s.size + 9 + zz s.size := by rw [bstr_size, pad_length]
      obtain ⟨M, hM⟩ : ∃ M, s.size + 9 + zz s.size = 64 * M := ⟨(s.size + 9 + zz s.size) / 64, by omega⟩
      have hD : dig (nb s) = outs (blks (pad (nb s)) M).list 8 := by
        unfold dig outs
        rw [pad_length, hM, Nat.mul_div_cancel_left _ (by decide)]
        rfl
      rw [hM] at zp
      have hpl := pad_lt s
      replace hD : Hid _ := hD
      clear hZ3 e0 fs
      generalize pad (nb s) = P at *
      generalize bstr (be (8 * s.size) 8) = L8 at *
      generalize hPP : bstr P = PP at *
      go_wp2_with (first
        | (go_at_call 184; refine (BY.out _).mono ?_; rintro e w1 ⟨rfl, b1⟩; have Z1 : Hid (Below w.heap.size w w1) := b1; clear b1)
        | (go_at_call 209; refine (FI.out _).mono ?_; rintro e w2 ⟨rfl, n2, b2⟩; have N2 : Hid (NB w2 w1.heap.size 8 st0.list) := n2; have Z2 : Hid (Below w.heap.size w w2) := Z1.out.trans (b2.mono Z1.out.size); clear n2 b2)
        | (go_at_call 210; refine (CO.out _).mono ?_; rintro e w3 ⟨rfl, k3, b3⟩; have N3 : Hid (NB w3 w1.heap.size 8 st0.list) := N2.out.keep N2.out.lt b3; have K3 : Hid (NB w3 w2.heap.size 64 ks) := k3; have Z3 : Hid (Below w.heap.size w w3) := Z2.out.trans (b3.mono Z2.out.size); clear k3 b3 N2 Z1 Z2))
      clear BY FI CO fp zb
      go_loopg [4, 6] M (fun g hv iv wr => ∃ n B : Nat, n + g = M ∧ hv = .slice (some ⟨B, 0, none⟩) 8 8 ∧ iv = .int .i64 (64 * (n : Int)) ∧ Hid (NB wr B 8 (blks P n).list) ∧ Hid (NB wr w2.heap.size 64 ks) ∧ Hid (Below w.heap.size w wr))
      case atStart => exact ⟨0, w1.heap.size, by omega, rfl, rfl, N3, K3, Z3⟩
      case round =>
        clear N3 K3 Z3
        obtain ⟨n, B, hn, rfl, rfl, N3, K3, Z3⟩ := hrel
        by_cases hnM : n < M
        · have g1 : decide (64 * (n : Int) < 64 * (M : Int)) = true := decide_eq_true (by omega)
          have hb : blks P (n + 1) = blk (blks P n) (nb (PP.extract (64 * n) (64 * n + 64))) := by
            show blk (blks P n) ((P.drop (64 * n)).take 64) = _
            rw [← hPP, nb_extract P _ _ hpl, Nat.add_sub_cancel_left]
          have BL : Hid (∀ _ : Unit, _) := fun _ => rblock_ok (blks P n) B 8 w2.heap.size 64 (PP.extract (64 * n) (64 * n + 64)) wr (by rw [ByteArray.size_extract]; omega) (blks_ok P n) N3.out K3.out
          rw [← hb] at BL
          have q1 : 64 * (n : Int) + 64 ≤ PP.size := by omega
          clear hb
          go_wp2_with (go_at_call 211; refine (BL.out ()).mono ?_; rintro e w4 ⟨B4, rfl, n4, _, b4⟩; have N4 : Hid (NB w4 B4 8 (blks P (n + 1)).list) := n4; have K4 : Hid (NB w4 w2.heap.size 64 ks) := K3.out.keep K3.out.lt b4; have Z4 : Hid (Below w.heap.size w w4) := Z3.out.trans (b4.mono Z3.out.size); clear n4 b4)
          go_roundg (M - (n + 1))
          case measure => omega
          case rel => exact ⟨n + 1, B4, by omega, rfl, by go_num, N4, K4, Z4⟩
        · obtain rfl : n = M := by omega
          have g1 : decide (64 * (n : Int) < 64 * (n : Int)) = false := decide_eq_false (by omega)
          have hok := blks_ok P n
          have hll : (blks P n).list.length = 8 := rfl
          have hl32 : W32 (blks P n).list := by
            intro x hx
            simp only [St.list, List.mem_cons, List.mem_nil_iff, or_false] at hx
            rcases hx with rfl | rfl | rfl | rfl | rfl | rfl | rfl | rfl
            · exact hok.a
            · exact hok.b
            · exact hok.c
            · exact hok.d
            · exact hok.e
            · exact hok.f
            · exact hok.g
            · exact hok.h
          clear hok K3
          generalize (blks P n).list = l at *
          go_wp2
          go_loopg [7, 8] 8 (fun g ov iv wr => ∃ k : Nat, k + g = 8 ∧ ov = .string (bstr (outs l k)) ∧ iv = .int .i64 k ∧ Hid (NB wr B 8 l) ∧ Hid (Below w.heap.size w wr))
          case atStart => exact ⟨0, rfl, rfl, rfl, N3, Z3⟩
          case round =>
            clear N3 Z3
            obtain ⟨k, hk, rfl, rfl, N3, Z3⟩ := hrel
            by_cases hk8 : k < 8
            · have g2 : decide ((k : Int) < 8) = true := decide_eq_true (by omega)
              have c0 := N3.out.c k hk8
              have hx := w32_get hl32 k
              have ol := outs_length l k (by omega)
              have oz : (bstr (outs l k)).size = 4 * k := by rw [bstr_size, ol]
              have os := outs_succ l k (by omega)
              have oa : bstr (outs l k) ++ bstr (be (l.getD k 0) 4) = bstr (outs l (k + 1)) := by rw [bstr_append, os]
              generalize l.getD k 0 = x at *
              have B4 : Hid (∀ w, Calls Tryz.prog 184 #[.int .i64 (x : Int), .int .i64 4] w fun e w' => e = .returned (.string (bstr (be x 4))) ∧ Below w.heap.size w w') := fun w => by
                have := rbytes 4 (by decide) (x : Int) w (by omega) (by omega)
                rw [digs_be] at this
                exact this
              have bz : (bstr (be x 4)).size = 4 := by rw [bstr_size, be_length]
              clear os ol
              generalize bstr (outs l k) = O1 at *
              generalize bstr (be x 4) = O2 at *
              go_wp2_with (go_at_call 184; refine (B4.out _).mono ?_; rintro e w5 ⟨rfl, b5⟩; have N5 : Hid (NB w5 B 8 l) := N3.out.keep N3.out.lt b5; have Z5 : Hid (Below w.heap.size w w5) := Z3.out.trans (b5.mono Z3.out.size); clear b5)
              go_roundg (8 - (k + 1))
              case measure => omega
              case rel => exact ⟨k + 1, by omega, rfl, by go_num, N5, Z5⟩
            · obtain rfl : k = 8 := by omega
              go_wp2
              go_ret
              exact ⟨by rw [hD.out]; rfl, Z3.out⟩
end Go.Proofs.YtbicfhilehllnaaGreatDoor
