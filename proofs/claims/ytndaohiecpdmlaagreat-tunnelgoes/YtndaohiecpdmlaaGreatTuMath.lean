/-
  What goes through a tunnel, plain: an emission and its bytes; a packet a hop further; what goes up and down. No condition.
-/
import Derived.Test.YtndaohiecpdmlaaGreatMgC
import Derived.Test.YtndaohiecpdmlaaGreatMgB
import Derived.Test.YtndaohiecpdmlaaGreatMgF
namespace Go.Proofs.YtndaohiecpdmlaaGreat
set_option maxRecDepth 100000
open Go.RowKit

theorem wrap_in {x y : Int} (e : x = y) (h0 : -9223372036854775808 ≤ y) (h1 : y ≤ 9223372036854775807) : wrap64 x = y := by subst e; unfold wrap64; omega
def In64 (x : Int) : Prop := -9223372036854775808 ≤ x ∧ x ≤ 9223372036854775807
/-- An emission. -/
structure Em where
  ip : Bool
  port : Int
  addr : Int
  to : Int
  data : ByteArray
def emV (m : Em) : Value := .agg #[.bool m.ip, .int .i64 m.port, .int .u32 m.addr, .int .i64 m.to, .string m.data]
def em0 : Em := ⟨false, 0, 0, 0, ⟨#[]⟩⟩
structure EmB (m : Em) : Prop where
  p : In64 m.port
  a0 : 0 ≤ m.addr
  a1 : m.addr < 4294967296
  t : In64 m.to
  d : m.data.size ≤ 140737488351232
/-- A tunnel: its target, the tenant's own, its rules; whether these have a route. -/
structure Tu where
  ip : Bool
  addr : Int
  tp : Int
  own : Int
  port : Int
  rules : List Ru
  rt : Bool
def tuV (T : Tu) (v : Value) : Value := .agg #[.bool T.ip, .int .u32 T.addr, .int .i64 T.tp, .int .u32 T.own, .int .i64 T.port, v]
structure TuB (T : Tu) : Prop where
  a0 : 0 ≤ T.addr
  a1 : T.addr < 4294967296
  tp : In64 T.tp
  o0 : 0 ≤ T.own
  o1 : T.own < 4294967296
  port : In64 T.port
  rs : ∀ r ∈ T.rules, RuB r
  len : T.rules.length * 48 ≤ 140737488351232
def openE (T : Tu) : Int := if T.ip then (if T.rt then 0 else 15) else if alw T.rules 17 T.addr T.tp then 0 else 15
/-- The port to which a packet goes. -/
def portV (proto frag : Int) (data : ByteArray) : Int := if (proto = 17 ∨ proto = 6) ∧ frag % 8192 = 0 ∧ 4 ≤ data.size then num (byt data) 2 2 else 0
def srcP (s : ByteArray) : Int := num (byt s) 12 4
def dstP (s : ByteArray) : Int := num (byt s) 16 4
def ttlP (s : ByteArray) : Int := num (byt s) 8 1
def proP (s : ByteArray) : Int := num (byt s) 9 1
def datP (s : ByteArray) : ByteArray := s.extract 20 s.size
def toP (s : ByteArray) : Int := portV (proP s) (num (byt s) 6 2) (datP s)
/-- The header of a packet a hop further, and its bytes. -/
def hopV (s : ByteArray) : Value := hv (num (byt s) 1 1) (num (byt s) 4 2) (num (byt s) 6 2) (ttlP s - 1) (proP s) (srcP s) (dstP s) (datP s)
def hopP (s : ByteArray) : ByteArray := pkt (num (byt s) 1 1) (num (byt s) 4 2) (num (byt s) 6 2) (ttlP s - 1) (proP s) (srcP s) (dstP s) (datP s)
def hopE (s : ByteArray) : Int := if errOf s ≠ 0 then errOf s else if ttlP s < 2 then 2 else 0
def hopS (s : ByteArray) : ByteArray := if hopE s = 0 then hopP s else ⟨#[]⟩
theorem hopE_zero {s : ByteArray} (h : hopE s = 0) : Good s ∧ errOf s = 0 ∧ 2 ≤ ttlP s ∧ hopS s = hopP s := by
  have e : hopS s = hopP s := by unfold hopS; rw [if_pos h]
  unfold hopE at h
  by_cases h1 : errOf s ≠ 0
  · rw [if_pos h1] at h; exact absurd h h1
  · rw [if_neg h1] at h
    have h1 : errOf s = 0 := by simpa using h1
    by_cases h2 : ttlP s < 2
    · rw [if_pos h2] at h; cases h
    · exact ⟨good_err s h1, h1, by omega, e⟩
theorem hopE_some {s : ByteArray} (h : hopE s ≠ 0) : hopS s = ⟨#[]⟩ := by unfold hopS; rw [if_neg h]
theorem dat_small {s : ByteArray} (h : Good s) : (datP s).size ≤ 65515 := by
  have := num2_bd s 2
  have h2 := h.2.2.1
  unfold said at h2
  unfold datP
  rw [ByteArray.size_extract]
  omega
theorem ttl_bd (s : ByteArray) : 0 ≤ ttlP s ∧ ttlP s < 256 := num1_bd s 8
theorem hop_hok {s : ByteArray} (h : 2 ≤ ttlP s) : HOK (num (byt s) 1 1) (num (byt s) 4 2) (num (byt s) 6 2) (ttlP s - 1) (proP s) := by
  obtain ⟨a, b, c, d, e⟩ := hok_of s
  have := ttl_bd s
  exact ⟨a, ⟨by omega, by omega⟩, c, d, e⟩
theorem hop_good {s : ByteArray} (h : Good s) (ht : 2 ≤ ttlP s) : Good (hopP s) ∧ hdOf (hopP s) = hopV s :=
  ⟨pkt_good _ _ _ _ _ _ _ _ (dat_small h) (num4_bd s 12).1 (num4_bd s 12).2 (num4_bd s 16).1 (num4_bd s 16).2, pkt_hd _ _ _ _ _ _ _ _ (hop_hok ht) (num4_bd s 12).1 (num4_bd s 12).2 (num4_bd s 16).1 (num4_bd s 16).2⟩
theorem hop_next {s : ByteArray} (h : hopE s = 0) : errOf (hopS s) = 0 ∧ valOf (hopS s) = hopV s ∧ (hopS s).size = s.size := by
  obtain ⟨g, -, t, e⟩ := hopE_zero h
  obtain ⟨g2, v⟩ := hop_good g t
  rw [e]
  refine ⟨err_good _ g2, by unfold valOf; rw [if_pos (err_good _ g2), v], ?_⟩
  unfold hopP
  rw [pkt_size]
  have := data_size s g.1
  unfold datP
  omega
def upE (T : Tu) (s : ByteArray) : Int := if 1000 < s.size then 8 else if T.ip = false then openE T else if errOf s ≠ 0 then errOf s else if srcP s ≠ T.own ∨ alw T.rules (proP s) (dstP s) (toP s) = false then 15 else hopE s
def upM (T : Tu) (s : ByteArray) : Em := if upE T s ≠ 0 then em0 else if T.ip = false then ⟨false, T.port, T.addr, T.tp, s⟩ else ⟨true, 0, dstP s, 0, hopS s⟩
def dnE (T : Tu) (src fr : Int) (s : ByteArray) : Int := if 1000 < s.size then 8 else if T.ip = false then (if src ≠ T.addr ∨ fr ≠ T.tp then 15 else 0) else if errOf s ≠ 0 then errOf s else if dstP s ≠ T.own then 15 else hopE s
def dnS (T : Tu) (src fr : Int) (s : ByteArray) : ByteArray := if dnE T src fr s ≠ 0 then ⟨#[]⟩ else if T.ip = false then s else hopS s
theorem up_good {T : Tu} {s : ByteArray} (h : upE T s = 0) (hi : T.ip = true) : s.size ≤ 1000 ∧ hopE s = 0 ∧ srcP s = T.own ∧ alw T.rules (proP s) (dstP s) (toP s) = true := by
  unfold upE at h
  by_cases h1 : 1000 < s.size
  · rw [if_pos h1] at h; cases h
  rw [if_neg h1, if_neg (by rw [hi]; decide)] at h
  by_cases h2 : errOf s ≠ 0
  · rw [if_pos h2] at h; exact absurd h h2
  rw [if_neg h2] at h
  by_cases h3 : srcP s ≠ T.own ∨ alw T.rules (proP s) (dstP s) (toP s) = false
  · rw [if_pos h3] at h; cases h
  · rw [if_neg h3] at h
    refine ⟨by omega, h, ?_, ?_⟩
    · exact Classical.byContradiction fun c => h3 (.inl c)
    · cases q : alw T.rules (proP s) (dstP s) (toP s) with
      | true => rfl
      | false => exact absurd (.inr q) h3
theorem up_plain {T : Tu} {s : ByteArray} (h : upE T s = 0) (hi : T.ip = false) : s.size ≤ 1000 ∧ alw T.rules 17 T.addr T.tp = true := by
  unfold upE at h
  by_cases h1 : 1000 < s.size
  · rw [if_pos h1] at h; cases h
  rw [if_neg h1, if_pos hi] at h
  unfold openE at h
  rw [if_neg (by rw [hi]; decide)] at h
  refine ⟨by omega, ?_⟩
  cases q : alw T.rules 17 T.addr T.tp with
  | true => rfl
  | false => rw [q] at h; cases h
theorem dn_good {T : Tu} {src fr : Int} {s : ByteArray} (h : dnE T src fr s = 0) (hi : T.ip = true) : s.size ≤ 1000 ∧ hopE s = 0 ∧ dstP s = T.own := by
  unfold dnE at h
  by_cases h1 : 1000 < s.size
  · rw [if_pos h1] at h; cases h
  rw [if_neg h1, if_neg (by rw [hi]; decide)] at h
  by_cases h2 : errOf s ≠ 0
  · rw [if_pos h2] at h; exact absurd h h2
  rw [if_neg h2] at h
  by_cases h3 : dstP s ≠ T.own
  · rw [if_pos h3] at h; cases h
  · rw [if_neg h3] at h
    exact ⟨by omega, h, by simpa using h3⟩
/-! ### emissions as bytes -/
def isP (n : Int) : Bool := decide (0 ≤ n) && decide (n ≤ 65535)
def pkL (m : Em) : List Int := [if m.ip then 1 else 0, m.port / 256, m.port % 256, m.to / 256, m.to % 256, m.addr / 16777216, m.addr / 65536 % 256, m.addr / 256 % 256, m.addr % 256]
def pkS (m : Em) : ByteArray := if isP m.port && isP m.to then strOfNums (pkL m) ++ m.data else ⟨#[]⟩
def upkE (s : ByteArray) : Int := if s.size < 9 then 1 else if 1 < byt s 0 then 3 else 0
def upkV (s : ByteArray) : Em := ⟨byt s 0 == 1, num (byt s) 1 2, num (byt s) 5 4, num (byt s) 3 2, s.extract 9 s.size⟩
def upkM (s : ByteArray) : Em := if upkE s = 0 then upkV s else em0
theorem pk_size (m : Em) : (strOfNums (pkL m)).size = 9 := strOfNums_size _
theorem pkL_bd {m : Em} (h : isP m.port = true ∧ isP m.to = true) (a0 : 0 ≤ m.addr) (a1 : m.addr < 4294967296) : ∀ y ∈ pkL m, 0 ≤ y ∧ y < 256 := by
  unfold isP at h
  simp only [Bool.and_eq_true, decide_eq_true_eq] at h
  intro y hy
  simp only [pkL, List.mem_cons, List.not_mem_nil, or_false] at hy
  rcases hy with rfl | rfl | rfl | rfl | rfl | rfl | rfl | rfl | rfl
  · split <;> omega
  all_goals omega
theorem pk_byt {m : Em} (h : isP m.port = true ∧ isP m.to = true) (a0 : 0 ≤ m.addr) (a1 : m.addr < 4294967296) (i : Nat) (hi : i < 9) : byt (strOfNums (pkL m) ++ m.data) i = (pkL m).getD i 0 := by
  rw [byt_left _ _ _ (by rw [pk_size]; exact hi), byt_nums _ (pkL_bd h a0 a1)]
theorem unpack_pack {m : Em} (h : isP m.port = true ∧ isP m.to = true) (a0 : 0 ≤ m.addr) (a1 : m.addr < 4294967296) : upkE (pkS m) = 0 ∧ upkV (pkS m) = m := by
  have e : pkS m = strOfNums (pkL m) ++ m.data := by unfold pkS; rw [h.1, h.2]; rfl
  have B := pk_byt h a0 a1
  have z : (strOfNums (pkL m) ++ m.data).size = 9 + m.data.size := by rw [ByteArray.size_append, pk_size]
  rw [e]
  have b0 := B 0 (by decide); have b1 := B 1 (by decide); have b2 := B 2 (by decide); have b3 := B 3 (by decide); have b4 := B 4 (by decide); have b5 := B 5 (by decide); have b6 := B 6 (by decide); have b7 := B 7 (by decide); have b8 := B 8 (by decide)
  have hp := h
  unfold isP at hp
  simp only [Bool.and_eq_true, decide_eq_true_eq] at hp
  have b00 : byt (strOfNums (pkL m) ++ m.data) 0 = if m.ip then 1 else 0 := b0
  constructor
  · unfold upkE
    rw [if_neg (by omega), if_neg]
    rw [b00]
    split <;> omega
  · have hd : (strOfNums (pkL m) ++ m.data).extract 9 (strOfNums (pkL m) ++ m.data).size = m.data := by
      refine bytes_ext _ _ (by rw [ByteArray.size_extract, z]; omega) fun i hi => ?_
      rw [ByteArray.size_extract, z] at hi
      rw [byt_extract _ _ _ _ (by omega)]
      have := byt_right (strOfNums (pkL m)) m.data i
      rwa [pk_size] at this
    have hi : (byt (strOfNums (pkL m) ++ m.data) 0 == 1) = m.ip := by
      rw [b00]
      cases m.ip <;> rfl
    unfold upkV
    rw [num2, num2, num4, hd, hi, b1, b2, b3, b4, b5, b6, b7, b8]
    simp only [pkL, List.getD_cons_succ, List.getD_cons_zero]
    have e1 : m.port / 256 * 256 + m.port % 256 = m.port := by omega
    have e2 : m.to / 256 * 256 + m.to % 256 = m.to := by omega
    have e3 : ((m.addr / 16777216 * 256 + m.addr / 65536 % 256) * 256 + m.addr / 256 % 256) * 256 + m.addr % 256 = m.addr := by omega
    rw [e1, e2, e3]
theorem upk_ports (s : ByteArray) : isP (upkV s).port = true ∧ isP (upkV s).to = true := by
  have a := num2_bd s 1
  have b := num2_bd s 3
  unfold isP upkV
  simp only [Bool.and_eq_true, decide_eq_true_eq]
  omega
theorem pack_unpack {s : ByteArray} (h : upkE s = 0) : pkS (upkV s) = s := by
  unfold upkE at h
  by_cases h1 : s.size < 9
  · rw [if_pos h1] at h; cases h
  rw [if_neg h1] at h
  by_cases h2 : 1 < byt s 0
  · rw [if_pos h2] at h; cases h
  have hp := upk_ports s
  have ha : 0 ≤ (upkV s).addr ∧ (upkV s).addr < 4294967296 := num4_bd s 5
  have e : pkS (upkV s) = strOfNums (pkL (upkV s)) ++ (upkV s).data := by unfold pkS; rw [hp.1, hp.2]; rfl
  have z : (strOfNums (pkL (upkV s)) ++ (upkV s).data).size = s.size := by
    rw [ByteArray.size_append, pk_size]
    show 9 + (s.extract 9 s.size).size = _
    rw [ByteArray.size_extract]
    omega
  rw [e]
  refine bytes_ext _ _ z fun i hi => ?_
  rw [z] at hi
  rcases Nat.lt_or_ge i 9 with c | c
  · rw [pk_byt hp ha.1 ha.2 i c]
    have b := byt_bd s
    have c0 := b 0; have c1 := b 1; have c2 := b (1 + 1); have c3 := b 3; have c4 := b (3 + 1); have c5 := b 5; have c6 := b (5 + 1); have c7 := b (5 + 2); have c8 := b (5 + 3)
    have hip : (if (upkV s).ip then (1 : Int) else 0) = byt s 0 := by
      show (if (byt s 0 == 1) = true then (1 : Int) else 0) = _
      by_cases q : byt s 0 = 1
      · rw [q]; rfl
      · rw [if_neg (by simpa using q)]; omega
    unfold pkL
    rw [hip]
    unfold upkV
    simp only
    rw [num2, num2, num4]
    clear b hip
    rcases i with _|_|_|_|_|_|_|_|_|i
    all_goals first | contradiction | omega | (simp only [List.getD_cons_succ, List.getD_cons_zero, Nat.zero_add, Nat.reduceAdd] at *; done) | (simp only [List.getD_cons_succ, List.getD_cons_zero, Nat.zero_add, Nat.reduceAdd] at *; omega)
  · obtain ⟨j, rfl⟩ : ∃ j, i = 9 + j := ⟨i - 9, by omega⟩
    have := byt_right (strOfNums (pkL (upkV s))) (upkV s).data j
    rw [pk_size] at this
    rw [this]
    show byt (s.extract 9 s.size) j = _
    rw [byt_extract _ _ _ _ (by omega)]
end Go.Proofs.YtndaohiecpdmlaaGreat
