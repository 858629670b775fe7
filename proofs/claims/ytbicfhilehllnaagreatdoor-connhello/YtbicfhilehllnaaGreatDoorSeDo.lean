/-
  What a Once leaves that is asked to make a key's two parts: they are made, once. One goroutine; secrets below 2^36 bytes; the tables lie where the program's text lays them. No other condition.
-/
import Derived.Test.YtbicfhilehllnaaGreatDoorSeKey
namespace Go.Proofs.YtbicfhilehllnaaGreatDoor
set_option maxRecDepth 100000
open Go.RowKit Go.Sort

theorem flag_no (a : Addr) (w : World) (hc : w.cell? a = some (.int .u32 0)) :
    Calls Tryz.prog 214 #[.pointer (some a)] w fun e w' => e = .returned (.bool false) ∧ w = w' := flag_ok a 0 w hc
theorem flag_yes (a : Addr) (w : World) (hc : w.cell? a = some (.int .u32 1)) :
    Calls Tryz.prog 214 #[.pointer (some a)] w fun e w' => e = .returned (.bool true) ∧ w = w' := flag_ok a 1 w hc
/-- The function that the Once calls. -/
abbrev mk (B : Nat) : Value := .func (.func 154) #[.pointer (some ⟨B, 0, none⟩)] #[]
set_option maxHeartbeats 4000000 in
theorem slow_ok (B : Nat) (s : ByteArray) (a b : Nat) (w : World) (tb : STab w) (h : Cs w B (kv 0 0 s ⟨#[]⟩ ⟨#[]⟩ a b)) (hs : s.size < 68719476736) :
    Calls Tryz.prog 215 #[.pointer (some ⟨B, 0, none⟩), mk B] w fun e w' => e = .returned (.tuple #[]) ∧ Cs w' B (kv 1 0 ⟨#[]⟩ (ckey s) (tkey s) a b) ∧ Still (fun k => k = B) w w' := by
  have hnot : ∀ (x : Bool) (w : World), (Op.unary .not (.bool x)).run Tryz.prog w = .ok (.bool (!x)) w := fun _ _ => rfl
  have c1 := h.cell 1 (v := .int .i32 0) rfl
  have f1 := h.free 1 (by show 1 < 8; decide)
  have H1 : Hid (Cs (w.setCell ⟨B, 1, none⟩ (.int .i32 1)) B (kv 0 1 s ⟨#[]⟩ ⟨#[]⟩ a b)) := h.put 1 (by show 1 < 8; decide) (.int .i32 1)
  have S1 : Hid (Still (fun k => k = B) w (w.setCell ⟨B, 1, none⟩ (.int .i32 1))) := Still.set (F := fun k => k = B) (Still.refl _ w) ⟨B, 1, none⟩ rfl _
  have T1 : Hid (STab (w.setCell ⟨B, 1, none⟩ (.int .i32 1))) := tb.still h S1.out
  have L : Hid (∀ _ : Unit, _) := fun _ => lock_now ⟨B, 1, none⟩ w c1 f1
  have d0 := H1.out.cell 0 (v := .int .u32 0) rfl
  have FL : Hid (∀ _ : Unit, _) := fun _ => flag_no ⟨B, 0, none⟩ _ d0
  have PT : Hid (∀ _ : Unit, _) := fun _ => parts_ok B 0 1 s ⟨#[]⟩ ⟨#[]⟩ a b _ T1.out H1.out hs
  generalize ckey s = ck at *
  generalize tkey s = tk at *
  clear h tb T1 H1 c1 f1 d0
  go_enter_defers Tryz.func215, Tryz.ntmps215
  go_wp2_with fail
  refine (L.out ()).mono ?_
  rintro e w1 ⟨rfl, rfl⟩
  clear L
  generalize w.setCell ⟨B, 1, none⟩ (.int .i32 1) = w1 at *
  go_wp2_with fail
  refine (FL.out ()).mono ?_
  rintro e w2 ⟨rfl, rfl⟩
  clear FL
  go_wp2_with fail
  refine (PT.out ()).mono ?_
  rintro e w2 ⟨rfl, h2, s2⟩
  have S2 : Hid (Still (fun k => k = B) w w2) := S1.out.trans s2
  have H2 : Hid (Cs w2 B (kv 0 1 ⟨#[]⟩ ck tk a b)) := h2
  clear PT S1 s2 h2
  go_wp2_with fail
  refine leaves_cons (f := 270) (args := #[.pointer (some ⟨B, 0, none⟩), .bool true]) (by simp) (by simp [go_sem]) ?_
  refine (flag_deferred ⟨B, 0, none⟩ (.int .u32 0) .returning _ (H2.out.cell 0 rfl) (H2.out.free 0 (by show 0 < 8; decide))).mono ?_
  rintro e u' w3 ⟨rfl, rfl, rfl⟩
  have H3 : Hid (Cs (w2.drew.setCell ⟨B, 0, none⟩ (.int .u32 1)) B (kv 1 1 ⟨#[]⟩ ck tk a b)) := (H2.out.of_block (w' := w2.drew) rfl).put 0 (by show 0 < 8; decide) (.int .u32 1)
  have S3 : Hid (Still (fun k => k = B) w (w2.drew.setCell ⟨B, 0, none⟩ (.int .u32 1))) := S2.out.drew.set _ rfl _
  clear H2 S2
  generalize w2.drew.setCell ⟨B, 0, none⟩ (.int .u32 1) = w3 at *
  refine leaves_cons (f := 269) (args := #[.pointer (some ⟨B, 1, none⟩)]) (by simp [settle]) (by simp [go_sem]) ?_
  refine (unlock_late ⟨B, 1, none⟩ _ _ (H3.out.cell 1 rfl) (H3.out.free 1 (by show 1 < 8; decide))).mono ?_
  rintro e u' w4 ⟨rfl, rfl, rfl⟩
  have H4 : Hid (Cs (w3.setCell ⟨B, 1, none⟩ (.int .i32 0)) B (kv 1 0 ⟨#[]⟩ ck tk a b)) := H3.out.put 1 (by show 1 < 8; decide) (.int .i32 0)
  have S4 : Hid (Still (fun k => k = B) w (w3.setCell ⟨B, 1, none⟩ (.int .i32 0))) := S3.out.set _ rfl _
  clear H3 S3
  generalize w3.setCell ⟨B, 1, none⟩ (.int .i32 0) = w4 at *
  simp [Leaves, settle, results, Tryz.results215]
  exact ⟨H4.out, S4.out⟩
/-- A key lies in a block: its parts are not made, or are. -/
def KD (w : World) (B : Nat) (s : ByteArray) (a b : Nat) : Prop := Cs w B (kv 0 0 s ⟨#[]⟩ ⟨#[]⟩ a b) ∨ Cs w B (kv 1 0 ⟨#[]⟩ (ckey s) (tkey s) a b)
set_option maxHeartbeats 2000000 in
theorem do_ok (B : Nat) (s : ByteArray) (a b : Nat) (w : World) (tb : STab w) (h : KD w B s a b) (hs : s.size < 68719476736) :
    Calls Tryz.prog 153 #[.pointer (some ⟨B, 0, none⟩), mk B] w fun e w' => e = .returned (.tuple #[]) ∧ Cs w' B (kv 1 0 ⟨#[]⟩ (ckey s) (tkey s) a b) ∧ Still (fun k => k = B) w w' := by
  have hnot : ∀ (x : Bool) (w : World), (Op.unary .not (.bool x)).run Tryz.prog w = .ok (.bool (!x)) w := fun _ _ => rfl
  rcases h with h | h
  · have FL : Hid (∀ _ : Unit, _) := fun _ => flag_no ⟨B, 0, none⟩ _ (h.cell 0 rfl)
    have SL : Hid (∀ _ : Unit, _) := fun _ => slow_ok B s a b w tb h hs
    generalize ckey s = ck at *
    generalize tkey s = tk at *
    clear h tb
    go_enter Tryz.func153, Tryz.ntmps153
    go_wp2_with fail
    refine (FL.out ()).mono ?_
    rintro e w1 ⟨rfl, rfl⟩
    clear FL
    go_wp2_with fail
    refine (SL.out ()).mono ?_
    rintro e w2 ⟨rfl, h2, s2⟩
    have H2 : Hid _ := h2
    have S2 : Hid _ := s2
    clear h2 s2 SL
    go_wp2_with fail
    go_end0
    exact ⟨rfl, H2.out, S2.out⟩
  · have FL : Hid (∀ _ : Unit, _) := fun _ => flag_yes ⟨B, 0, none⟩ _ (h.cell 0 rfl)
    have H2 : Hid _ := h
    clear h tb
    go_enter Tryz.func153, Tryz.ntmps153
    go_wp2_with fail
    refine (FL.out ()).mono ?_
    rintro e w1 ⟨rfl, rfl⟩
    clear FL
    go_wp2_with fail
    go_end0
    exact ⟨rfl, H2.out, Still.refl _ _⟩
end Go.Proofs.YtbicfhilehllnaaGreatDoor
