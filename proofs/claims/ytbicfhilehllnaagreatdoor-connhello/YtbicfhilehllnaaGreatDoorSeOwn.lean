/-
  What the program's own New, Seal, Open and Used answer, and what they leave: a key with its secret, made parts or none, and what is counted. Texts below 2^36 bytes, counts below 2^62; one goroutine; the tables lie where the program's text lays them. No other condition.
-/
import Derived.Test.YtbicfhilehllnaaGreatDoorSeDo
namespace Go.Proofs.YtbicfhilehllnaaGreatDoor
set_option maxRecDepth 100000
open Go.RowKit Go.Sort

/-- The key v of a secret, in the blocks F; so many seals and opens counted. -/
structure KeyIs (F : Nat → Prop) (w : World) (v : Value) (secret : ByteArray) (a b : Nat) : Prop where
  ex : ∃ B, v = .pointer (some ⟨B, 0, none⟩) ∧ (∀ k, F k ↔ k = B) ∧ KD w B secret a b
theorem KD.of_block {w w' : World} {B : Nat} {s : ByteArray} {a b : Nat} (h : KD w B s a b) (e : w'.heap[B]? = w.heap[B]?) : KD w' B s a b := by
  rcases h with h | h
  · exact .inl (h.of_block e)
  · exact .inr (h.of_block e)
theorem KeyIs.keep {F : Nat → Prop} {w w' : World} {v : Value} {s : ByteArray} {a b : Nat} (h : KeyIs F w v s a b) (e : ∀ k, F k → w'.heap[k]? = w.heap[k]?) : KeyIs F w' v s a b := by
  obtain ⟨B, rfl, hF, h⟩ := h.ex
  exact ⟨B, rfl, hF, h.of_block (e B ((hF B).2 rfl))⟩
theorem KD.still {w w' : World} {B : Nat} {s : ByteArray} {a b : Nat} (h : KD w B s a b) (tb : STab w) (st : Still (fun k => k = B) w w') : STab w' := by
  rcases h with h | h
  · exact tb.still h st
  · exact tb.still h st
theorem KD.lt {w : World} {B : Nat} {s : ByteArray} {a b : Nat} (h : KD w B s a b) : B < w.heap.size := by
  rcases h with h | h
  · exact h.lt (by show 0 < 8; decide)
  · exact h.lt (by show 0 < 8; decide)
theorem KD.a {w : World} {B : Nat} {s : ByteArray} {a b : Nat} (h : KD w B s a b) : w.cell? ⟨B, 6, none⟩ = some (.int .i64 (a : Int)) ∧ w.frozen? ⟨B, 6, none⟩ = false ∧ w.cell? ⟨B, 7, none⟩ = some (.int .i64 (b : Int)) ∧ ∀ x : Nat, KD (w.setCell ⟨B, 6, none⟩ (.int .i64 (x : Int))) B s x b := by
  rcases h with h | h
  · exact ⟨h.cell 6 rfl, h.free 6 (by show 6 < 8; decide), h.cell 7 rfl, fun x => .inl (h.put 6 (by show 6 < 8; decide) _)⟩
  · exact ⟨h.cell 6 rfl, h.free 6 (by show 6 < 8; decide), h.cell 7 rfl, fun x => .inr (h.put 6 (by show 6 < 8; decide) _)⟩
theorem still_of {F : Nat → Prop} {B : Nat} {w w' : World} (hF : ∀ k, F k ↔ k = B) (h : Still (fun k => k = B) w w') : Still F w w' := ⟨h.os, h.tape, h.output, h.size, fun k hk hf => h.block k hk fun e => hf ((hF k).2 e)⟩
theorem snew_ok (secret : ByteArray) (w : World) (_ : STab w) :
    Calls Tryz.prog 145 #[.string secret] w fun e w' => ∃ (a : Addr) (F : Nat → Prop), e = .returned (.pointer (some a)) ∧ KeyIs F w' (.pointer (some a)) secret 0 0 ∧ (∀ k, F k → w.heap.size ≤ k ∧ k < w'.heap.size) ∧ Below w.heap.size w w' := by
  go_enter Tryz.func145, Tryz.ntmps145
  go_wp2
  go_ret
  have h : Cs (w.alloc (.cells (kv 0 0 secret ⟨#[]⟩ ⟨#[]⟩ 0 0).toArray 241)) w.heap.size (kv 0 0 secret ⟨#[]⟩ ⟨#[]⟩ 0 0) := by
    have := range_new w (kv 0 0 secret ⟨#[]⟩ ⟨#[]⟩ 0 0) 241
    exact ⟨this.1, this.2⟩
  exact ⟨⟨w.heap.size, 0, none⟩, fun k => k = w.heap.size, rfl, ⟨w.heap.size, rfl, fun _ => Iff.rfl, .inl h⟩, fun k hk => by subst hk; simp, (Below.refl _ _).alloc (Nat.le_refl _) _⟩
theorem ckey_size (s : ByteArray) : (ckey s).size = 32 := der_len _ _ _
set_option maxHeartbeats 2000000 in
theorem seal_b (B : Nat) (secret : ByteArray) (a b : Nat) (n : Int) (head data : ByteArray) (w : World) (tab : STab w) (h : KD w B secret a b) (h1 : secret.size < 68719476736) (h2 : head.size < 68719476736) (h3 : data.size < 68719476736) (ha : a < 4611686018427387904) :
    Calls Tryz.prog 102 #[.pointer (some ⟨B, 0, none⟩), .int .i64 n, .string head, .string data] w fun e w' => e = .returned (.string (sld secret n head data)) ∧ KD w' B secret (a + 1) b ∧ Still (fun k => k = B) w w' := by
  have hmf : ∀ (fn : Fn) (first cap : Array Value) (w : World), (Instr.makeFunc fn first cap).run Tryz.prog w = .ok (.func fn first cap) w := fun _ _ _ _ => rfl
  obtain ⟨c6, f6, _, hp⟩ := h.a
  have C : Hid (∀ _ : Unit, _) := fun _ => count_ok ⟨B, 6, none⟩ a w c6 f6 ha
  have H1 : Hid (KD (w.setCell ⟨B, 6, none⟩ (.int .i64 ((a + 1 : Nat) : Int))) B secret (a + 1) b) := hp (a + 1)
  have S1 : Hid (Still (fun k => k = B) w (w.setCell ⟨B, 6, none⟩ (.int .i64 ((a + 1 : Nat) : Int)))) := Still.set (F := fun k => k = B) (Still.refl _ w) ⟨B, 6, none⟩ rfl _
  have T1 : Hid (STab (w.setCell ⟨B, 6, none⟩ (.int .i64 ((a + 1 : Nat) : Int)))) := h.still tab S1.out
  have DO : Hid (∀ _ : Unit, _) := fun _ => do_ok B secret (a + 1) b _ T1.out H1.out h1
  have zc := ckey_size secret
  have TU : Hid (∀ w, STab w → _) := fun w t => pturn_ok (ckey secret) n data w t.c (by rw [zc]; decide) (by omega)
  have ehd : hdn (ckey secret) n (nb data) data.size = hide secret n (nb data) := by unfold hide; rw [nb_length]
  rw [ehd] at TU
  have zh : (bstr (hide secret n (nb data))).size = data.size := by rw [bstr_size, hide_length, nb_length]
  have TG : Hid (∀ w, STab w → _) := fun w t => ptag_ok secret n head (bstr (hide secret n (nb data))) w t.c t.v (by omega) (by omega)
  rw [nb_bstr (hide_lt secret n (nb_lt data))] at TG
  have zt : (bstr (tagl secret n head (hide secret n (nb data)))).size = 16 := by rw [bstr_size, tagl_length]
  have eK : Hid (∀ w, Cs w B (kv 1 0 ⟨#[]⟩ (ckey secret) (tkey secret) (a + 1) b) → KD w B secret (a + 1) b) := fun w h => .inr h
  unfold sld
  have hA : a + 1 = a + 1 := rfl
  generalize w.setCell ⟨B, 6, none⟩ (.int .i64 ((a + 1 : Nat) : Int)) = wA at *
  clear hA ehd zc hp c6 f6 h tab
  generalize bstr (tagl secret n head (hide secret n (nb data))) = Y at *
  generalize bstr (hide secret n (nb data)) = X at *
  generalize ckey secret = ck at *
  generalize tkey secret = tk at *
  go_enter Tryz.func102, Tryz.ntmps102
  go_wp2_with fail
  refine (C.out ()).mono ?_
  rintro e w1 ⟨rfl, rfl⟩
  clear C
  go_wp2_with fail
  refine (DO.out ()).mono ?_
  rintro e w2 ⟨rfl, h2', s2⟩
  have H2 : Hid (Cs w2 B (kv 1 0 ⟨#[]⟩ ck tk (a + 1) b)) := h2'
  have S12 : Hid (Still (fun k => k = B) w1 w2) := s2
  have T2 : Hid (STab w2) := H1.out.still T1.out s2
  have S2 : Hid (Still (fun k => k = B) w w2) := S1.out.trans s2
  clear h2' s2 DO S12 S1 T1 H1
  have c4 := H2.out.cell 4 (v := .string ck) rfl
  go_wp2_with fail
  refine (TU.out _ T2.out).mono ?_
  rintro e w3 ⟨rfl, b3⟩
  have H3 : Hid (Cs w3 B (kv 1 0 ⟨#[]⟩ ck tk (a + 1) b)) := H2.out.keep (by show 0 < 8; decide) b3
  have T3 : Hid (STab w3) := T2.out.keep b3
  have S3 : Hid (Still (fun k => k = B) w w3) := S2.out.add b3
  clear b3 c4 H2 T2 S2 TU
  have c5 := H3.out.cell 5 (v := .string tk) rfl
  go_wp2_with fail
  refine (TG.out _ T3.out).mono ?_
  rintro e w4 ⟨rfl, b4⟩
  have H4 : Hid (Cs w4 B (kv 1 0 ⟨#[]⟩ ck tk (a + 1) b)) := H3.out.keep (by show 0 < 8; decide) b4
  have S4 : Hid (Still (fun k => k = B) w w4) := S3.out.add b4
  clear b4 c5 H3 T3 S3 TG
  go_wp2_with fail
  go_ret
  exact ⟨rfl, eK.out _ H4.out, S4.out⟩
theorem seal_ok {F : Nat → Prop} {v : Value} {secret : ByteArray} {a b : Nat} (n : Int) (head data : ByteArray) (w : World) (tab : STab w) (h : KeyIs F w v secret a b) (hF : ∀ k, F k → k < w.heap.size)
    (h1 : secret.size < 68719476736) (h2 : head.size < 68719476736) (h3 : data.size < 68719476736) (ha : a < 4611686018427387904) (_ : b < 4611686018427387904) :
    Calls Tryz.prog 102 #[v, .int .i64 n, .string head, .string data] w fun e w' => ∃ F' : Nat → Prop, e = .returned (.string (sld secret n head data)) ∧ KeyIs F' w' v secret (a + 1) b ∧ (∀ k, F' k → (F k ∨ w.heap.size ≤ k) ∧ k < w'.heap.size) ∧ Still F w w' := by
  obtain ⟨B, rfl, hB, h⟩ := h.ex
  refine (seal_b B secret a b n head data w tab h h1 h2 h3 ha).mono ?_
  rintro e w' ⟨rfl, h', st⟩
  exact ⟨F, rfl, ⟨B, rfl, hB, h'⟩, fun k hk => ⟨.inl hk, Nat.lt_of_lt_of_le (hF k hk) st.size⟩, still_of hB st⟩
theorem KD.b {w : World} {B : Nat} {s : ByteArray} {a b : Nat} (h : Cs w B (kv 1 0 ⟨#[]⟩ (ckey s) (tkey s) a b)) : w.cell? ⟨B, 7, none⟩ = some (.int .i64 (b : Int)) ∧ w.frozen? ⟨B, 7, none⟩ = false ∧ ∀ x : Nat, Cs (w.setCell ⟨B, 7, none⟩ (.int .i64 (x : Int))) B (kv 1 0 ⟨#[]⟩ (ckey s) (tkey s) a x) :=
  ⟨h.cell 7 rfl, h.free 7 (by show 7 < 8; decide), fun x => h.put 7 (by show 7 < 8; decide) _⟩
set_option maxHeartbeats 4000000 in
theorem open_b (B : Nat) (secret : ByteArray) (a b : Nat) (n : Int) (head s : ByteArray) (w : World) (tab : STab w) (h : KD w B secret a b) (h1 : secret.size < 68719476736) (h2 : head.size < 68719476736) (h3 : s.size < 68719476736) (hb : b < 4611686018427387904) :
    Calls Tryz.prog 144 #[.pointer (some ⟨B, 0, none⟩), .int .i64 n, .string head, .string s] w fun e w' => e = .returned (.tuple #[.string (opv secret n head s), .int .i64 (ope secret n head s)]) ∧ KD w' B secret a (b + if ope secret n head s = 0 then 1 else 0) ∧ Still (fun k => k = B) w w' := by
  by_cases hs : s.size < 16
  · have e1 : opv secret n head s = ⟨#[]⟩ := if_pos hs
    have e2 : ope secret n head s = 1 := if_pos hs
    rw [e1, e2]
    have g1 : decide ((s.size : Int) - 16 < 0) = true := decide_eq_true (by omega)
    have H0 : Hid (KD w B secret a b) := h
    clear h tab e1 e2
    go_enter Tryz.func144, Tryz.ntmps144
    go_wp2
    go_ret2
    exact ⟨rfl, H0.out, Still.refl _ _⟩
  · have hmf : ∀ (fn : Fn) (first cap : Array Value) (w : World), (Instr.makeFunc fn first cap).run Tryz.prog w = .ok (.func fn first cap) w := fun _ _ _ _ => rfl
    have g1 : decide ((s.size : Int) - 16 < 0) = false := decide_eq_false (by omega)
    obtain ⟨m, hm⟩ : ∃ m, m = s.size - 16 := ⟨_, rfl⟩
    have hmi : (s.size : Int) - 16 = (m : Int) := by omega
    have hml : m ≤ s.size := by omega
    have zh : (hdd s).size < 68719476736 := by unfold hdd; rw [ByteArray.size_extract]; omega
    have DO : Hid (∀ _ : Unit, _) := fun _ => do_ok B secret a b w tab h h1
    have TG : Hid (∀ w, STab w → _) := fun w t => ptag_ok secret n head (hdd s) w t.c t.v (by omega) (by omega)
    have zc := ckey_size secret
    have TU : Hid (∀ w, STab w → _) := fun w t => pturn_ok (ckey secret) n (hdd s) w t.c (by rw [zc]; decide) (by omega)
    have ehd : hdn (ckey secret) n (nb (hdd s)) (hdd s).size = hide secret n (nb (hdd s)) := by unfold hide; rw [nb_length]
    rw [ehd] at TU
    have e1 : opv secret n head s = if good secret n head s then bstr (hide secret n (nb (hdd s))) else ⟨#[]⟩ := if_neg hs
    have e2 : ope secret n head s = if good secret n head s then 0 else 10 := if_neg hs
    rw [e1, e2]
    have hg : ((tgd s).toList == (bstr (tagl secret n head (nb (hdd s)))).toList) = good secret n head s := by
      unfold good
      rw [Bool.eq_iff_iff]
      simp only [beq_iff_eq]
      exact ⟨Eq.symm, Eq.symm⟩
    have hh : s.extract 0 m = hdd s := by rw [hm]; rfl
    have ht : s.extract m s.size = tgd s := by rw [hm]; rfl
    have eK : Hid (∀ w b, Cs w B (kv 1 0 ⟨#[]⟩ (ckey secret) (tkey secret) a b) → KD w B secret a b) := fun w b h => .inr h
    have KB : Hid (∀ w b, Cs w B (kv 1 0 ⟨#[]⟩ (ckey secret) (tkey secret) a b) → _) := fun w b h => KD.b h
    have H0 : Hid (KD w B secret a b) := h
    have T0 : Hid (STab w) := tab
    clear e1 e2 ehd zc h tab zh
    generalize bstr (hide secret n (nb (hdd s))) = X at *
    generalize bstr (tagl secret n head (nb (hdd s))) = Y at *
    generalize good secret n head s = G at *
    generalize hdd s = P at *
    generalize tgd s = Q at *
    generalize ckey secret = ck at *
    generalize tkey secret = tk at *
    have hq : (m : Int) ≤ s.size := by omega
    replace hm : Hid _ := hm
    go_enter Tryz.func144, Tryz.ntmps144
    go_wp2_with fail
    refine (DO.out ()).mono ?_
    rintro e w2 ⟨rfl, h2', s2⟩
    have H2 : Hid (Cs w2 B (kv 1 0 ⟨#[]⟩ ck tk a b)) := h2'
    have T2 : Hid (STab w2) := H0.out.still T0.out s2
    have S2 : Hid (Still (fun k => k = B) w w2) := s2
    clear h2' s2 DO H0 T0
    go_wp2_with fail
    go_region
    have H3 : Hid (Cs w2.drew B (kv 1 0 ⟨#[]⟩ ck tk a b)) := H2.out.of_block rfl
    have T3 : Hid (STab w2.drew) := T2.out.keep ⟨rfl, rfl, rfl, Nat.le_refl _, fun _ _ => rfl⟩
    have S3 : Hid (Still (fun k => k = B) w w2.drew) := S2.out.drew
    clear H2 T2 S2
    generalize w2.drew = w3 at *
    have c5 := H3.out.cell 5 (v := .string tk) rfl
    go_wp2_with fail
    refine (TG.out _ T3.out).mono ?_
    rintro e w4 ⟨rfl, b4⟩
    have H4 : Hid (Cs w4 B (kv 1 0 ⟨#[]⟩ ck tk a b)) := H3.out.keep (by show 0 < 8; decide) b4
    have T4 : Hid (STab w4) := T3.out.keep b4
    have S4 : Hid (Still (fun k => k = B) w w4) := S3.out.add b4
    clear b4 H3 T3 S3 TG c5
    cases G with
    | false =>
      go_wp2_with fail
      go_ret2
      exact ⟨rfl, eK.out _ _ H4.out, S4.out⟩
    | true =>
      obtain ⟨c7, f7, hp⟩ := KB.out _ _ H4.out
      have C : Hid (∀ _ : Unit, _) := fun _ => count_ok ⟨B, 7, none⟩ b w4 c7 f7 hb
      have H5 : Hid (Cs (w4.setCell ⟨B, 7, none⟩ (.int .i64 ((b + 1 : Nat) : Int))) B (kv 1 0 ⟨#[]⟩ ck tk a (b + 1))) := hp (b + 1)
      have S45 : Still (fun k => k = B) w4 (w4.setCell ⟨B, 7, none⟩ (.int .i64 ((b + 1 : Nat) : Int))) := Still.set (F := fun k => k = B) (Still.refl _ w4) ⟨B, 7, none⟩ rfl _
      have T5 : Hid (STab (w4.setCell ⟨B, 7, none⟩ (.int .i64 ((b + 1 : Nat) : Int)))) := T4.out.still H4.out S45
      have S5 : Hid (Still (fun k => k = B) w (w4.setCell ⟨B, 7, none⟩ (.int .i64 ((b + 1 : Nat) : Int)))) := S4.out.trans S45
      generalize w4.setCell ⟨B, 7, none⟩ (.int .i64 ((b + 1 : Nat) : Int)) = wA at *
      clear c7 f7 hp S45 KB H4 T4 S4
      go_wp2_with fail
      refine (C.out ()).mono ?_
      rintro e w5 ⟨rfl, rfl⟩
      clear C
      have c4 := H5.out.cell 4 (v := .string ck) rfl
      go_wp2_with fail
      refine (TU.out _ T5.out).mono ?_
      rintro e w6 ⟨rfl, b6⟩
      have H6 : Hid (Cs w6 B (kv 1 0 ⟨#[]⟩ ck tk a (b + 1))) := H5.out.keep (by show 0 < 8; decide) b6
      have S6 : Hid (Still (fun k => k = B) w w6) := S5.out.add b6
      clear b6 H5 T5 S5 TU c4
      go_wp2_with fail
      go_ret2
      exact ⟨rfl, eK.out _ _ H6.out, S6.out⟩
theorem open_ok {F : Nat → Prop} {v : Value} {secret : ByteArray} {a b : Nat} (n : Int) (head s : ByteArray) (w : World) (tab : STab w) (h : KeyIs F w v secret a b) (hF : ∀ k, F k → k < w.heap.size)
    (h1 : secret.size < 68719476736) (h2 : head.size < 68719476736) (h3 : s.size < 68719476736) (_ : a < 4611686018427387904) (hb : b < 4611686018427387904) :
    Calls Tryz.prog 144 #[v, .int .i64 n, .string head, .string s] w fun e w' => ∃ F' : Nat → Prop, e = .returned (.tuple #[.string (opv secret n head s), .int .i64 (ope secret n head s)]) ∧ KeyIs F' w' v secret a (b + if ope secret n head s = 0 then 1 else 0) ∧ (∀ k, F' k → (F k ∨ w.heap.size ≤ k) ∧ k < w'.heap.size) ∧ Still F w w' := by
  obtain ⟨B, rfl, hB, h⟩ := h.ex
  refine (open_b B secret a b n head s w tab h h1 h2 h3 hb).mono ?_
  rintro e w' ⟨rfl, h', st⟩
  exact ⟨F, rfl, ⟨B, rfl, hB, h'⟩, fun k hk => ⟨.inl hk, Nat.lt_of_lt_of_le (hF k hk) st.size⟩, still_of hB st⟩
end Go.Proofs.YtbicfhilehllnaaGreatDoor
