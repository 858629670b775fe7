/-
  What Parse answers of requests that Fields has written, of such with more behind, with a value changed, with one missing, or in another order; that works is true. The tables of Go's library lie as the row's list gives them.
-/
import Derived.Test.YtojfcflkanohoaaDoorTgFace
import Derived.Test.YtojfcflkanohoaaDoorTgFlds
namespace Go.Proofs.YtojfcflkanohoaaDoor
set_option maxRecDepth 100000
open Go.RowKit Go.Sort

theorem pth_val (ip : Bool) (a n : Int) (a0 : 0 ≤ a) (a1 : a < 4294967296) : (pthT ip a n).length ≤ 256 ∧ (pthT ip a n).all okV = true := by
  unfold pthT
  split
  · rename_i h
    split
    · exact ⟨by decide, by decide⟩
    · rename_i q
      rcases right_of h with ⟨_, h1, h2⟩ | ⟨h1, _⟩
      · unfold pthU
        have t1 := txt_len a
        have t2 := itoa_len (n := n) (by omega) h2
        refine ⟨by simp only [List.length_append, List.length_cons, List.length_nil]; omega, ?_⟩
        have e1 : frontL.all okV = true := by decide
        have e2 : (toL (txt a)).all okV = true := by
          rw [List.all_eq_true]
          intro c hc
          have hb := tl_bd a a0 a1
          have : c.toNat < 58 ∧ 46 ≤ c.toNat := by
            have hm : (c.toNat : Int) ∈ pbl (txt a) := List.mem_map.2 ⟨c, hc, rfl⟩
            rw [pbl_txt a a0 a1] at hm
            have := hb _ hm
            omega
          unfold okV
          rw [Bool.and_eq_true, decide_eq_true_eq, decide_eq_true_eq]
          omega
        have e3 : (Lib.itoa n).all okV = true := by
          rw [List.all_eq_true]
          intro c hc
          rw [itoa_dec n (by omega)] at hc
          have := dec_bd _ c hc
          unfold okV
          rw [Bool.and_eq_true, decide_eq_true_eq, decide_eq_true_eq]
          omega
        rw [List.all_append, e1, List.all_append, e2, List.all_cons, List.all_append, e3]
        decide
      · exact absurd h1 q
  · exact ⟨by decide, by decide⟩
theorem rt_val {nm v : L} (h1 : nm.length ≤ 256) (h2 : nm ≠ []) (h3 : nm.all okN = true) (h4 : v.length ≤ 256) (h5 : v.all okV = true) : rtE (nm, v) = 0 := by
  unfold rtE
  rw [if_neg (by simp only; omega), if_neg h2, if_pos ⟨h3, h5⟩]
theorem rt_path (ip : Bool) (a n : Int) (a0 : 0 ≤ a) (a1 : a < 4294967296) : rtE (nPath, pthT ip a n) = 0 := rt_val (by decide) (by decide) (by decide) (pth_val ip a n a0 a1).1 (pth_val ip a n a0 a1).2
/-- What a right request gets. -/
theorem asks_ok {l : List Fd} {ip : Bool} {a n : Int} {au : L} (hc : chkS l = 0) (hm : marked l = true) (h1 : getS l nMeth = some cConn) (h2 : getS l nSchm = some cHttps) (h3 : getS l nAuth = some au) (hau : au ≠ []) (h4 : getS l nPath = some (pthT ip a n)) (h5 : getS l nProt = some (if ip = true then cIp else cUdp)) (h6 : getS l nCaps = some cYes)
    (hr : rightT ip a n = true) (a0 : 0 ≤ a) (a1 : a < 4294967296) {ip' : Bool} {b m st : Int} (h : Asks l ip' b m st) : ip' = ip ∧ b = a ∧ m = n ∧ st = 200 := by
  refine h.one (.inr ⟨?_, .inl ⟨rfl, ?_⟩⟩)
  · rw [pre_all hc hm h1 h2 h3 h4, if_pos rfl, h5]
    simp only
    rw [if_pos (by cases ip <;> decide), if_pos ⟨trivial, hau, h6⟩]
  · rw [h4, h5]
    simp only [Option.getD_some, Option.some.injEq]
    rcases right_of hr with ⟨rfl, r1, r2⟩ | ⟨rfl, rfl, rfl⟩
    · refine ⟨by decide, fun _ => ?_, fun c => absurd c (by decide)⟩
      exact ⟨a0, a1, r1, r2, by unfold pthT; rw [if_pos hr, if_neg (by decide)]⟩
    · exact ⟨by decide, fun c => absurd c (by decide), fun _ => ⟨rfl, rfl, rfl⟩⟩
theorem asks_bad {l : List Fd} {x : Int} (hp : pre l = x) (hx : x ≠ 0) {ip' : Bool} {b m st : Int} (h : Asks l ip' b m st) : ip' = false ∧ b = 0 ∧ m = 0 ∧ st = x :=
  h.one (.inl ⟨by rw [hp]; exact hx, hp.symm, rfl, rfl, rfl⟩)
theorem Flds0 {w' : World} {g : Nat} {l : List Fd} (hl : l.length = 6) (h : Lies w' g (fCells l)) : FdsAt w' (.slice (some ⟨g, 0, none⟩) 6 6) l := by
  refine ⟨some ⟨g, 0, none⟩, 6, by rw [hl], .inr ⟨g, 0, rfl, fun k hk => ?_⟩⟩
  obtain ⟨c1, c2⟩ := fCells_get l k hk
  rw [Nat.zero_add]
  exact ⟨h.cell _ c1, h.cell _ c2⟩
abbrev cProxy : L := [112, 114, 111, 120, 121]
theorem rt_mid (ip : Bool) : rtE (nProt, if ip = true then cIp else cUdp) = 0 := by cases ip <;> decide
theorem fld6_chk (ip : Bool) (a n : Int) (a0 : 0 ≤ a) (a1 : a < 4294967296) : chkS (fld6 cProxy ip a n) = 0 := by
  unfold chkS fld6
  rw [if_neg (by simp)]
  simp only [fstE]
  rw [if_pos (show rtE (nMeth, cConn) = 0 by decide), if_pos (rt_mid ip), if_pos (show rtE (nSchm, cHttps) = 0 by decide), if_pos (show rtE (nAuth, cProxy) = 0 by decide), if_pos (rt_path ip a n a0 a1), if_pos (show rtE (nCaps, cYes) = 0 by decide)]
theorem fld6_asks (ip : Bool) (a n : Int) (a0 : 0 ≤ a) (a1 : a < 4294967296) (hr : rightT ip a n = true) {ip' : Bool} {b m st : Int} (h : Asks (fld6 cProxy ip a n) ip' b m st) : ip' = ip ∧ b = a ∧ m = n ∧ st = 200 :=
  asks_ok (au := cProxy) (fld6_chk ip a n a0 a1) rfl rfl rfl rfl (by decide) rfl rfl rfl hr a0 a1 h
theorem path443 : pthT false 3221225990 443 = [47, 46, 119, 101, 108, 108, 45, 107, 110, 111, 119, 110, 47, 109, 97, 115, 113, 117, 101, 47, 117, 100, 112, 47, 49, 57, 50, 46, 48, 46, 50, 46, 54, 47, 52, 52, 51, 47] := by kernel_rfl
set_option maxHeartbeats 4000000 in
theorem works_ok (w : World) (t : Tab w) : Calls Tryd.prog 15 #[] w fun e w' => e = .returned (.bool true) ∧ Below w.heap.size w w' := by
  have F : Hid (∀ _ : Unit, Calls Tryd.prog 13 #[.string ⟨#[112, 114, 111, 120, 121]⟩, tgV false 3221225990 443] w fun e w' => Flds w w' e (fld6 cProxy false 3221225990 443)) := fun _ => flds_udp cProxy 3221225990 443 w t.p (by decide) (by decide) (by decide) (by decide)
  have PS : Hid (∀ w' v, Below w.heap.size w w' → FdsAt w' v (fld6 cProxy false 3221225990 443) → Calls Tryd.prog 8 #[v] w' fun e w'' => e = .returned (.tuple #[tgV false 3221225990 443, .int .i64 200]) ∧ Below w'.heap.size w' w'') := fun w' v b h => by
    refine (parse17_ok _ v w' (t.keep b) h (by decide)).mono ?_
    rintro e w'' ⟨⟨ip, a, n, st, hA, rfl⟩, b2⟩
    obtain ⟨rfl, rfl, rfl, rfl⟩ := fld6_asks false 3221225990 443 (by decide) (by decide) (by decide) hA
    exact ⟨rfl, b2⟩
  have PT : Hid (∀ w', Below w.heap.size w w' → Calls Tryd.prog 11 #[tgV false 3221225990 443] w' fun e w'' => e = .returned (.string ⟨#[47, 46, 119, 101, 108, 108, 45, 107, 110, 111, 119, 110, 47, 109, 97, 115, 113, 117, 101, 47, 117, 100, 112, 47, 49, 57, 50, 46, 48, 46, 50, 46, 54, 47, 52, 52, 51, 47]⟩) ∧ Below w'.heap.size w' w'') := fun w' b => by
    have := path_ok false 3221225990 443 w' (t.keep b).p (by decide) (by decide)
    rw [path443] at this
    exact this
  clear t
  unfold tgV at F PS PT
  go_enter Tryd.func15, Tryd.ntmps15
  go_wp2_with fail
  refine (F.out ()).mono ?_
  rintro e w1 ⟨g, rfl, l1, hg, b1⟩
  have F1 := Lib.hid (Flds0 rfl l1)
  replace b1 := Lib.hid b1
  clear l1 F
  go_wp2_with fail
  refine (PS.out w1 _ b1.out F1.out).mono ?_
  rintro e w2 ⟨rfl, b2⟩
  have B2 := Lib.hid (b1.out.trans (b2.mono b1.out.size))
  clear b2 b1 F1 PS
  have lA := Lies.new w2 [.bool false, .int .u32 3221225990, .int .i64 443] 25
  have bA := bx w2 (.cells #[.bool false, .int .u32 3221225990, .int .i64 443] 25)
  obtain ⟨wa, hwa⟩ : ∃ wa, wa = w2.alloc (.cells #[.bool false, .int .u32 3221225990, .int .i64 443] 25) := ⟨_, rfl⟩
  have lA' : Lies wa w2.heap.size [.bool false, .int .u32 3221225990, .int .i64 443] := by rw [hwa]; exact lA
  rw [← hwa] at bA
  have B3 := Lib.hid (B2.out.trans (bA.mono B2.out.size))
  have c0 := lA'.cell 0 (v := .bool false) rfl
  have c1 := lA'.cell 1 (v := .int .u32 3221225990) rfl
  have c2 := lA'.cell 2 (v := .int .i64 443) rfl
  obtain ⟨K, hK⟩ : ∃ K, K = w2.heap.size := ⟨_, rfl⟩
  rw [← hK] at c0 c1 c2
  clear lA lA' bA B2
  go_upto_region 2 with fail
  rw [← hwa, ← hK]
  clear hwa
  replace hK := Lib.hid hK
  go_wp2_with fail
  refine (PT.out wa B3.out).mono ?_
  rintro e w3 ⟨rfl, b3⟩
  have B4 := Lib.hid (B3.out.trans (b3.mono B3.out.size))
  clear b3 B3 PT
  go_wp2_with fail
  go_ret
  exact ⟨rfl, B4.out⟩
end Go.Proofs.YtojfcflkanohoaaDoor
