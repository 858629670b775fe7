/-
  The law VarintTexts returns true for every list of strings: texts with their counts, one behind the other, are taken one by one. The card ties the table of sizes to the program's text.
-/
import Derived.Test.YtbfbfghajdhopaaDoorVarBack
import Derived.SliceStrings
import Derived.Test.YtbfbfghajdhopaaDoorVarTab
import Derived.Test.YtbfbfghajdhopaaDoorCards
namespace Go.Proofs.YtbfbfghajdhopaaDoor.varintTexts
open Go.ChangeShapes Go.WideShapes Go.ChangeAt Go.RowKit
open Go.ChangeMaps (open_string shut_string)
theorem cl_small (s : ByteArray) (h : s.size ≤ 140737488351232) : ∃ m k, Cl s.size m k := by
  rcases cl_or_no s.size with h' | h'
  · exact h'
  · unfold No at h'; omega
/-- A text with its count in front. -/
def tx (s : ByteArray) : ByteArray :=
  if s.size < 64 then strOfNums (puts s.size 0 1) ++ s else if s.size < 16384 then strOfNums (puts s.size 1 2) ++ s else if s.size < 1073741824 then strOfNums (puts s.size 2 4) ++ s else strOfNums (puts s.size 3 8) ++ s
theorem tx_eq (s : ByteArray) (m k : Nat) (h : Cl s.size m k) : tx s = strOfNums (puts s.size m k) ++ s := by
  unfold tx
  rcases h with ⟨rfl, rfl, a, b⟩ | ⟨rfl, rfl, a, b⟩ | ⟨rfl, rfl, a, b⟩ | ⟨rfl, rfl, a, b⟩
  · rw [if_pos (by omega)]
  · rw [if_neg (by omega), if_pos (by omega)]
  · rw [if_neg (by omega), if_neg (by omega), if_pos (by omega)]
  · rw [if_neg (by omega), if_neg (by omega), if_neg (by omega)]
theorem tx_size (s : ByteArray) (h : s.size ≤ 140737488351232) : s.size < (tx s).size ∧ (tx s).size ≤ 140737488351240 := by
  obtain ⟨m, k, hc⟩ := cl_small s h
  have := hc.lo
  rw [tx_eq s m k hc, ByteArray.size_append, strOfNums_size, puts_length]
  omega
def up (f : Nat → ByteArray) : Nat → ByteArray
  | 0 => ⟨#[]⟩
  | n + 1 => up f n ++ tx (f n)
def dn (f : Nat → ByteArray) (i : Nat) : Nat → ByteArray
  | 0 => ⟨#[]⟩
  | n + 1 => tx (f i) ++ dn f (i + 1) n
theorem dn_snoc (f : Nat → ByteArray) : ∀ (n i : Nat), dn f i (n + 1) = dn f i n ++ tx (f (i + n))
  | 0, i => by apply ByteArray.ext; simp [dn, ByteArray.data_append]
  | n + 1, i => by
    show tx (f i) ++ dn f (i + 1) (n + 1) = (tx (f i) ++ dn f (i + 1) n) ++ tx (f (i + (n + 1)))
    rw [dn_snoc f n (i + 1), ba_append_assoc, show i + 1 + n = i + (n + 1) by omega]
theorem up_dn (f : Nat → ByteArray) : ∀ n, up f n = dn f 0 n
  | 0 => rfl
  | n + 1 => by rw [dn_snoc, ← up_dn f n, Nat.zero_add]; rfl
theorem up_size (f : Nat → ByteArray) (M : Nat) (h : ∀ i, i < M → (f i).size ≤ 140737488351232) : ∀ n, n ≤ M → (up f n).size ≤ n * 140737488351240
  | 0, _ => Nat.le_of_eq (by show (0 : Nat) = _; omega)
  | n + 1, hn => by
    have := up_size f M h n (by omega)
    have := (tx_size (f n) (h n (by omega))).2
    show (up f n ++ tx (f n)).size ≤ _
    rw [ByteArray.size_append]
    omega
theorem dn_size (f : Nat → ByteArray) (M : Nat) (h : ∀ i, i < M → (f i).size ≤ 140737488351232) : ∀ n i, i + n ≤ M → (dn f i n).size ≤ n * 140737488351240
  | 0, _, _ => Nat.le_of_eq (by show (0 : Nat) = _; omega)
  | n + 1, i, hn => by
    have := dn_size f M h n (i + 1) (by omega)
    have := (tx_size (f i) (h i (by omega))).2
    show (tx (f i) ++ dn f (i + 1) n).size ≤ _
    rw [ByteArray.size_append]
    omega
theorem text_tx (s : ByteArray) (w : World) (t : Tab w) (h : s.size ≤ 140737488351232) :
    Calls Tryd.prog 18 #[.string s] w fun e w' => e = .returned (.string (tx s)) ∧ Below w.heap.size w w' := by
  obtain ⟨m, k, hc⟩ := cl_small s h
  rw [tx_eq s m k hc]
  exact text_any s w t m k hc
theorem take_tx (s more : ByteArray) (w : World) (t : Tab w) (h : s.size ≤ 140737488351232) (hm : more.size ≤ 4611686018427387904) :
    Calls Tryd.prog 15 #[.string (tx s ++ more)] w fun e w' => e = .returned (.tuple #[.string s, .int .i64 (tx s).size, .int .i64 0]) ∧ w = w' := by
  obtain ⟨m, k, hc⟩ := cl_small s h
  have hk := hc.lo
  have e : ((tx s).size : Int) = (k : Int) + s.size := by rw [tx_eq s m k hc, ByteArray.size_append, strOfNums_size, puts_length]; omega
  rw [e, tx_eq s m k hc]
  exact text_take s more w t m k hc (by omega)
theorem tail_extract (a b : ByteArray) : (a ++ b).extract a.size (a.size + b.size) = b := by
  have := mid_extract a b ByteArray.empty
  rwa [show a ++ b ++ ByteArray.empty = a ++ b by simp] at this

set_option maxHeartbeats 1000000 in
theorem walk_some (f : Nat → ByteArray) (b off len cap M : Nat) (w : World) (t : Tab w) (hb : b < w.heap.size) (hlen : len ≤ 140737488351232) (hM : (M = len ∧ len ≤ 30) ∨ (M = 30 ∧ 30 < len))
    (hc : ∀ i, i < len → w.cell? ⟨b, off + i, none⟩ = some (.string (f i))) (hz : ∀ i, i < len → (f i).size ≤ 140737488351232) :
    Calls Tryd.prog 8 #[.slice (some ⟨b, off, none⟩) len cap] w fun e w' => e = .returned (.bool true) ∧ Below w.heap.size w w' := by
  have hMl : M ≤ len ∧ M ≤ 30 := by omega
  have hu : Hid (∀ n, n ≤ M → (up f n).size ≤ n * 140737488351240) := up_size f M (fun i hi => hz i (by omega))
  have hd : Hid (∀ n i, i + n ≤ M → (dn f i n).size ≤ n * 140737488351240) := dn_size f M (fun i hi => hz i (by omega))
  have hcH : Hid (∀ i, i < len → w.cell? ⟨b, off + i, none⟩ = some (.string (f i))) := hc
  have hzH : Hid (∀ i, i < len → (f i).size ≤ 140737488351232) := hz
  clear hc hz
  go_enter Tryd.func8, Tryd.ntmps8
  go_wp2_with (go_at_call 17; refine (works _ t).mono ?_; rintro e w1 ⟨rfl, hb1⟩)
  go_loopw [3, 4] (fun s i w' => ∃ k : Nat, k ≤ M ∧ i = .int .i64 k ∧ s = .string (up f k) ∧ Below w.heap.size w w') (fun _ i _ => M - (intOf i).toNat)
  case atStart => exact ⟨0, Nat.zero_le _, rfl, rfl, hb1⟩
  case round =>
    obtain ⟨k, hk, rfl, rfl, hbw⟩ := hrel
    by_cases hlt : k < M
    · have hck : wr.cell? ⟨b, off + k, none⟩ = some (.string (f k)) := (hbw.cell hb).trans (hcH.out k (by omega))
      have hzk := hzH.out k (by omega)
      have hs1 := hu.out k hk
      have hs2 := (tx_size (f k) hzk).2
      go_wp2_with (go_at_call 18; refine (text_tx (f k) _ (t.below hbw) hzk).mono ?_; rintro e w2 ⟨rfl, hb2⟩)
      go_roundw
      case rel => exact ⟨k + 1, by omega, by go_num, rfl, hbw.trans (hb2.mono hbw.size)⟩
      case measure => simp [intOf]; omega
    · obtain rfl : k = M := by omega
      have hub : Hid (up f k = dn f 0 k) := up_dn f k
      rcases hM with ⟨rfl, hM⟩ | ⟨rfl, hM⟩
      · go_wp2_with fail
        go_loopw [3, 5] (fun s i w' => ∃ q r : Nat, q + r = k ∧ i = .int .i64 q ∧ s = .string (dn f q r) ∧ Below w.heap.size w w') (fun _ i _ => k - (intOf i).toNat)
        case atStart => exact ⟨0, k, by omega, rfl, by rw [hub.out], hbw⟩
        case round =>
          obtain ⟨q, r, hqr, rfl, hs, hbw2⟩ := hrel
          cases r with
          | zero =>
            have hs' := hs.trans (show Value.string (dn f q 0) = .string ⟨#[]⟩ from rfl)
            subst hs'
            obtain rfl : q = k := by omega
            clear hs
            go_wp2_with fail
            go_ret
            exact ⟨rfl, hbw2⟩
          | succ r =>
            have hs' := hs.trans (show Value.string (dn f q (r + 1)) = .string (tx (f q) ++ dn f (q + 1) r) from rfl)
            subst hs'
            clear hs
            have hck := (hbw2.cell hb).trans (hcH.out q (by omega))
            have hzk := hzH.out q (by omega)
            have hs2 := (tx_size (f q) hzk).2
            have hs3 := hd.out r (q + 1) (by omega)
            go_wp2_with (go_at_call 15; refine (take_tx (f q) (dn f (q + 1) r) _ (t.below hbw2) hzk (by omega)).mono ?_; rintro e w' ⟨rfl, rfl⟩)
            go_roundw
            case rel => exact ⟨q + 1, r, by omega, by go_num, by rw [tail_extract], hbw2⟩
            case measure => simp [intOf]; omega
      · go_wp2_with fail
        go_loopw [3, 5] (fun s i w' => ∃ q r : Nat, q + r = 30 ∧ i = .int .i64 q ∧ s = .string (dn f q r) ∧ Below w.heap.size w w') (fun _ i _ => 30 - (intOf i).toNat)
        case atStart => exact ⟨0, 30, by omega, rfl, by rw [hub.out], hbw⟩
        case round =>
          obtain ⟨q, r, hqr, rfl, hs, hbw2⟩ := hrel
          cases r with
          | zero =>
            have hs' := hs.trans (show Value.string (dn f q 0) = .string ⟨#[]⟩ from rfl)
            subst hs'
            obtain rfl : q = 30 := by omega
            clear hs
            go_wp2_with fail
            go_ret
            exact ⟨rfl, hbw2⟩
          | succ r =>
            have hs' := hs.trans (show Value.string (dn f q (r + 1)) = .string (tx (f q) ++ dn f (q + 1) r) from rfl)
            subst hs'
            clear hs
            have hck := (hbw2.cell hb).trans (hcH.out q (by omega))
            have hzk := hzH.out q (by omega)
            have hs2 := (tx_size (f q) hzk).2
            have hs3 := hd.out r (q + 1) (by omega)
            go_wp2_with (go_at_call 15; refine (take_tx (f q) (dn f (q + 1) r) _ (t.below hbw2) hzk (by omega)).mono ?_; rintro e w' ⟨rfl, rfl⟩)
            go_roundw
            case rel => exact ⟨q + 1, r, by omega, by go_num, by rw [tail_extract], hbw2⟩
            case measure => simp [intOf]; omega

set_option maxHeartbeats 1000000 in
theorem walk_none (a : Option Addr) (cap : Nat) (w : World) (t : Tab w) :
    Calls Tryd.prog 8 #[.slice a 0 cap] w fun e w' => e = .returned (.bool true) ∧ Below w.heap.size w w' := by
  go_enter Tryd.func8, Tryd.ntmps8
  go_wp2_with (go_at_call 17; refine (works _ t).mono ?_; rintro e w1 ⟨rfl, hb1⟩)
  go_rounds 1
  go_rounds 1
  go_ret
  exact ⟨rfl, hb1⟩

theorem walk (f : Nat → ByteArray) (a : Option Addr) (len cap : Nat) (w : World) (t : Tab w) (hlen : len ≤ 140737488351232) (hz : ∀ i, i < len → (f i).size ≤ 140737488351232)
    (hc : len = 0 ∨ ∃ b off, a = some ⟨b, off, none⟩ ∧ b < w.heap.size ∧ ∀ i, i < len → w.cell? ⟨b, off + i, none⟩ = some (.string (f i))) :
    Calls Tryd.prog 8 #[.slice a len cap] w fun e w' => e = .returned (.bool true) ∧ Below w.heap.size w w' := by
  rcases hc with rfl | ⟨b, off, rfl, hb, hc⟩
  · exact walk_none a cap w t
  · by_cases h : len ≤ 30
    · exact walk_some f b off len cap len w t hb hlen (.inl ⟨rfl, h⟩) hc hz
    · exact walk_some f b off len cap 30 w t hb hlen (.inr ⟨rfl, by omega⟩) hc hz
theorem laidOut : laidOutB Tryd.prog = true := by kernel_rfl
theorem cells9 : Tryd.prog.cellsOf 9 = 1 := by kernel_rfl
theorem bytes9 : Tryd.prog.bytesOf 9 = 16 := by kernel_rfl
theorem weights_strs {H : Type} (P : Program) (e : TypeId) : ∀ (l : List ByteArray) (s : ByteArray), s ∈ l → s.size ∈ DataW.weightsAll (H := H) P e (strs l)
  | [], _, h => by cases h
  | x :: l, s, h => by
    show s.size ∈ DataW.weights P e (.lit (.string x.data.toList)) ++ DataW.weightsAll P e (strs l)
    rcases List.mem_cons.1 h with rfl | h
    · exact List.mem_append_left _ (by simp [DataW.weights])
    · exact List.mem_append_right _ (weights_strs P e l s h)
theorem cell_block {W : World} {b o : Nat} {v : Value} (h : W.cell? ⟨b, o, none⟩ = some v) : b < W.heap.size := by
  rcases Nat.lt_or_ge b W.heap.size with hp | hp
  · exact hp
  · have e : W.heap[b]? = none := Array.getElem?_eq_none hp
    simp [World.cell?, e] at h

theorem contract (H : Type) (enc : TypeId × Value → H) (W : World) (base : Nat) (args : Array Value) (ds gs : List (DataW H)) (before : List MemPlace)
    (hval : ∀ (j : Nat) t v, Tryd.f8.params[j]? = some t → args[j]? = some v → Value.okWide Tryd.prog W .any base t v)
    (hW : DataW.Whole enc Tryd.prog Tryd.f8.params.toList Rows.varintTextsSpec.vars false W args.toList ds gs before) (hL : laidMetH Tryd.prog Rows.varintTextsRow.laid W)
    (hsz : (DataW.weightsEach Tryd.prog (Tryd.f8.params.toList ++ (OpenSpec.ofChange Rows.varintTextsSpec).bare.plain.varTypes Tryd.prog) (ds ++ gs)).all (· ≤ reachBytes) = true) :
    Calls Tryd.prog 8 args W fun e W' => ∃ v, e = .returned v ∧ Rows.varintTextsSpec.post enc Tryd.prog Tryd.f8 false true false false W args v W' := by
  have hW' := hW
  obtain ⟨p, q, hA0, hV, rfl, hfz, hnd⟩ := hW
  have hA : DataW.TrodAll enc Tryd.prog W 0 (fun _ => true) true Tryd.f8.params.toList args.toList ds p := hA0
  rw [Tryd.params8] at hA hval hsz
  obtain ⟨v0, vs0, d0, ds0, p0, q0, hargs, rfl, rfl, h0, r0⟩ := trodAll_cons hA
  obtain ⟨rfl, rfl, rfl⟩ := trodAll_nil r0
  obtain rfl : args = #[v0] := by cases args; simp_all
  obtain ⟨rfl, rfl⟩ := trodVars_none hV
  obtain ⟨a0, len0, cap0, rfl⟩ := okWide_slice Tryd.underlying40 (hval 0 40 v0 rfl rfl)
  have k0 := h0
  have lt0 : ∀ x ∈ p0, x.block < W.heap.size := by obtain ⟨m, hm⟩ := k0; exact DataW.trod_lt m _ _ _ hm
  obtain ⟨f0, hlen0, hz0, hc0⟩ : ∃ f : Nat → ByteArray, len0 ≤ 140737488351232 ∧ (∀ i, i < len0 → (f i).size ≤ 140737488351232) ∧ (len0 = 0 ∨ ∃ b off, a0 = some ⟨b, off, none⟩ ∧ b < W.heap.size ∧ ∀ i, i < len0 → W.cell? ⟨b, off + i, none⟩ = some (.string (f i))) := by
    obtain ⟨fuel, hf⟩ := h0
    rcases open_strings Tryd.underlying40 Tryd.underlying9 cells9 hf with ⟨hcs, _⟩ | ⟨x, l, c, ss, hcs, _, hl, hm, hz, hx, hcell, _⟩
    · simp [Value.cells] at hcs
      obtain ⟨rfl, rfl, rfl⟩ := hcs
      exact ⟨fun _ => ByteArray.empty, by omega, fun i hi => by omega, .inl rfl⟩
    · simp [Value.cells] at hcs
      obtain ⟨rfl, rfl, rfl⟩ := hcs
      have hss : ss.length = cap0 := by simpa using hz
      have hd : d0 = .slice (strs (ss.take len0)) (strs (ss.drop len0)) := congrArg Prod.fst hx
      rw [hd] at hsz
      have hw := sized_slice hsz (j := 0) (t := 40) rfl rfl Tryd.underlying40
      rw [bytes9] at hw
      have hle : (strs (H := H) (ss.take len0)).length = len0 := by simp [strs]; omega
      refine ⟨fun i => ss.getD i ByteArray.empty, by unfold reachBytes at hw; omega, fun i hi => ?_, ?_⟩
      · have hi' : i < ss.length := by omega
        have hmem : ss.getD i ByteArray.empty ∈ ss.take len0 := by
          simp only [List.getD, List.getElem?_eq_getElem hi', Option.getD_some]
          exact List.mem_take_iff_getElem.2 ⟨i, by omega, rfl⟩
        have := List.all_eq_true.1 hsz _ (DataW.weights_mem_each (j := 0) (t := 40) rfl rfl _ (by
          simp only [DataW.weights, Tryd.underlying40]
          exact List.mem_cons_of_mem _ (List.mem_append_left _ (weights_strs Tryd.prog 9 _ _ hmem))))
        simpa [reachBytes] using this
      · rcases Nat.eq_zero_or_pos len0 with h0 | h0
        · exact .inl h0
        · right
          obtain ⟨b, off, spot⟩ := x
          have hc := hcell 0 (by omega)
          have hspot : spot = none := by simpa [Addr.add] using World.cell?_spot hc
          subst hspot
          refine ⟨b, off, rfl, ?_, fun i hi => ?_⟩
          · exact cell_block (o := off) (by simpa [Addr.add] using hc)
          · have hadd : (⟨b, off, none⟩ : Addr).add i = ⟨b, off + i, none⟩ := by unfold Addr.add; split <;> simp_all
            rw [← hadd]
            exact hcell i (by omega)
  clear hA0
  simp only [List.append_nil] at hW'
  refine (walk f0 a0 len0 cap0 W (tabOf hL) hlen0 hz0 hc0).mono fun e W' ⟨he, bel⟩ => ?_
  subst he
  exact ⟨_, rfl, _, _, _, [], _, [], hW', trodAll_mk1 (shut_bool Tryd.underlying4 _), (trodAll_cons_mk (Below.trod laidOut (by kernel_rfl) (of_decide_eq_true (by kernel_rfl)) k0 bel lt0) trodAll_mk0), rfl, bel.frame _, fun h => by cases h⟩

theorem laid_met (os : Os) : laidMet Tryd.prog Rows.varintTextsRow.laid ((laidWorld Tryd.prog os).forCall (fun _ _ => 0) ⟨#[], #[.slice none 0 0], []⟩).memory :=
  laidMet_of_run' 8 (by kernel_rfl) (by kernel_rfl)
theorem reads (os : Os) {H : Type} (enc : TypeId × Value → H) : ∃ places, DataW.whole enc Tryd.prog ((laidWorld Tryd.prog os).forCall (fun _ _ => 0) ⟨#[], #[.slice none 0 0], []⟩).memory Tryd.f8.params.toList Rows.varintTextsSpec.vars false #[Value.slice none 0 0].toList 8 = some ([.nil], [], places) :=
  ⟨[], by kernel_rfl⟩

set_option maxRecDepth 100000 in
theorem lifted (os : Os) (started : os.Started) (H : Type) (enc : TypeId × Value → H) (F : Stop.Interp) :
    ReturnsInHanded {} Tryd.checked os 8 .any ((OpenSpec.ofChange Rows.varintTextsSpec).preRow enc Tryd.prog Tryd.f8 Rows.varintTextsRow.domain false Rows.varintTextsRow.laid) (((OpenSpec.ofChange Rows.varintTextsSpec).at F).post enc Tryd.prog Tryd.f8 false true false false) := by
  obtain ⟨places, hx⟩ := reads os enc
  refine returnsInHanded_of_row (C := Tryd.checked) (s := OpenSpec.ofChange Rows.varintTextsSpec) own started (by kernel_rfl) Tryd.func8
    (witness_row_at (enc := enc) (C := Tryd.checked) false (laidWorld Tryd.prog os) #[.slice none 0 0] rfl (by kernel_rfl) (by kernel_rfl) (by kernel_rfl)
      (OpenSpec.preRow_of_cond 8 hx (by kernel_rfl) (fun k hk => by cases hk) (by kernel_rfl) (laid_met os))) ?_
  intro W base args ds gs before hval hW _ _ hsz hL _ _
  exact contract H enc W base args ds gs before hval hW hL hsz

theorem said : Rows.VarintTextsSaid :=
  OpenClaim.holds_of_cond 8 Tryd.f8 rfl rfl rfl rfl rfl rfl rfl ⟨rfl, rfl, rfl, rfl, rfl⟩ rfl rfl rfl rfl rfl (by kernel_rfl) Tryd.func8 (by kernel_rfl)
    (of_decide_eq_true (by kernel_rfl)) (by unfold Func.isWrapper; first | (rw [if_pos (by decide +kernel)]; kernel_rfl) | (rw [if_neg (by decide +kernel)]; exact ⟨rfl, rfl⟩))
    (fun os started H enc _ F => by rw [OpenClaim.pre_eq_preRow]; exact lifted os started H enc F)

theorem plain (f : FuncId) (fn : Func) (hf : Tryd.pinned.checked.prog.funcNamed Rows.varintTextsRow.func = some f) (hfn : Tryd.pinned.checked.prog.funcs[f]? = some fn) :
    false = Tryd.pinned.checked.prog.looks [] ∧ ∀ (j : Nat) t, fn.params[j]? = some t → Tryd.pinned.checked.prog.wantsStandIn t = false := by
  obtain rfl : f = 8 := Option.some.inj ((show Tryd.prog.funcNamed Rows.varintTextsRow.func = some 8 by kernel_rfl).symm.trans hf) |>.symm
  obtain rfl : fn = Tryd.f8 := (Option.some.inj (Tryd.func8.symm.trans hfn)).symm
  refine ⟨by kernel_rfl, fun j t ht => ?_⟩
  rw [Tryd.params8] at ht
  have hm : t ∈ #[40] := Array.mem_of_getElem? ht
  obtain rfl : t = 40 := by simpa using hm
  exact (show Tryd.prog.wantsStandIn 40 = false by kernel_rfl)

theorem card : Rows.VarintTextsCardSaid :=
  Claim7.holds_tied_plain_at .later [] _ _ _ _ said (fun _ h => by cases h) (by kernel_rfl) (fun _ h => by cases h) varintTexts_row_tie rfl ⟨rfl, rfl⟩ (by kernel_rfl) rfl plain (by kernel_rfl)
end Go.Proofs.YtbfbfghajdhopaaDoor.varintTexts
namespace Go.Proofs.YtbfbfghajdhopaaDoor
theorem varintTexts_card : Rows.VarintTextsCardSaid := varintTexts.card
end Go.Proofs.YtbfbfghajdhopaaDoor
