/-
  All that the laws of stage 15 ask of the program. No condition but the table of sizes.
-/
import Derived.LaidMore
import Derived.Lay
import Derived.Lib.LaidTab
import Derived.OpenShut
import Derived.ProofKit
import Derived.ShutString
import Derived.Stop.LaidErr
import Derived.Test.YtnngdlleicjegaaDoorCards
import Derived.Test.YtnngdlleicjegaaDoorTie
import Derived.WalkKit
import Derived.Test.YtnngdlleicjegaaDoorH3RdF
import Derived.Test.YtnngdlleicjegaaDoorH3Wr
import Derived.Test.YtnngdlleicjegaaDoorH3Bool
import Derived.Test.YtnngdlleicjegaaDoorH3PgH
namespace Go.Proofs.YtnngdlleicjegaaDoor
set_option maxRecDepth 100000
open Go.RowKit

def T15 (w : World) : Prop := VTab w
/-- The reader v in the blocks F, that was fed these pieces. -/
def PR15 (F : Nat → Prop) (w : World) (v : Value) (c : Bool) (ts : List L) : Prop :=
  ∃ R, v = rp R ∧ (∀ k, F k ↔ k = R) ∧ Lies w R (pcs R (pm c ts) (.slice none 0 0)) ∧ 0 ≠ R
theorem evp_at {base : Nat} {w : World} {v : Value} {l : List Ev} (h : EvP base w v l) : EvAt w v l := by
  obtain ⟨h1, h2⟩ := h.row
  rcases h2 with ⟨rfl, e⟩ | ⟨g, cap, cur, rfl, e2, e3, e4, e5, e6, e7⟩
  · have : l = [] := List.eq_nil_of_length_eq_zero e
    subst this
    exact ⟨_, _, rfl, .inl rfl⟩
  · have get : ∀ i x, (evv l)[i]? = some x → w.cell? ⟨g, i, none⟩ = some x := fun i x hx => by
      rw [← e7, List.getElem?_take] at hx
      split at hx
      · rw [Array.getElem?_toList] at hx
        simp [World.cell?, e3, hx]
      · cases hx
    refine ⟨_, _, rfl, .inr ⟨g, 0, rfl, fun k hk => ?_⟩⟩
    have := evv_get l k hk
    rw [Nat.zero_add]
    exact ⟨get _ _ this.1, get _ _ this.2⟩
theorem face15 : H3Face T15 PR15 where
  keep := fun t b => VTab.below t b
  still := fun t h k => by
    obtain ⟨R, rfl, hF, hL, hn⟩ := h
    have e := k.block _ t.pos fun c => hn ((hF _).1 c)
    exact ⟨Nat.lt_of_lt_of_le t.pos k.size, (World.cell?_of_block e).trans t.c0, (World.cell?_of_block e).trans t.c1, (World.cell?_of_block e).trans t.c2, (World.cell?_of_block e).trans t.c3⟩
  of := fun h e => by
    obtain ⟨R, rfl, hF, hL, hn⟩ := h
    exact ⟨R, rfl, hF, hL.of_block (e R ((hF R).2 rfl)), hn⟩
  lt := fun h k hk => by
    obtain ⟨R, rfl, hF, hL, hn⟩ := h
    rw [(hF k).1 hk]
    exact hL.lt (by show 0 < 9; decide)
  new := fun c w t => by
    refine (pnew_ok c w).mono ?_
    rintro e w' ⟨rfl, hL, b⟩
    exact ⟨_, fun k => k = w.heap.size, rfl, ⟨w.heap.size, rfl, fun _ => Iff.rfl, hL, Nat.ne_of_lt t.pos⟩, fun k hk => Nat.le_of_eq hk.symm, b⟩
  feed := fun {F w v c ts} t tb h hz => by
    obtain ⟨R, rfl, hF, hL, hn⟩ := h
    have hR : R < w.heap.size := hL.lt (by show 0 < 9; decide)
    have P := pfeed_ok w R (pm c ts) _ (toL t) ⟨⟨_, hL, EvP.nil _ _⟩, Kept.refl _ _, hR, tb, hn⟩ (rel_more (pm_rel c ts) (toL t)) (pm_bd c ts) (by rw [toL_len]; omega)
    obtain ⟨fe, fr⟩ := feed_rel (pm_rel c ts) (toL t)
    rw [strL_toL] at P
    refine P.mono ?_
    rintro e w' ⟨tv, rfl, hL', he, hk⟩
    refine ⟨fun k => k = R, tv, by rw [rel_code fr], ⟨R, rfl, fun _ => Iff.rfl, by rw [pm_snoc]; exact hL', hn⟩, fun k hk => .inl ((hF k).2 hk), hk.mono fun k _ e => (hF k).2 e, by rw [← fe]; exact evp_at he, fun k hk => ?_⟩
    have := he.row.lt k hk
    exact ⟨this.1, this.2, by omega⟩
  fin := fun {F w v c ts} tb h => by
    obtain ⟨R, rfl, hF, hL, hn⟩ := h
    refine (pfin_ok w R (pm c ts) _ hL).mono ?_
    rintro e w' ⟨rfl, rfl⟩
    exact ⟨F, by rw [fin_rel (pm_rel c ts)], ⟨R, rfl, hF, hL, hn⟩, fun k hk => .inl hk, Kept.refl _ _⟩
  frame := fun k d w t hs => pframe15_ok k d w t hs
  pairs := fun s w t hs => ppairs_ok s w t hs
theorem gSiz : Tryd.prog.globalNamed "vizard/varint.sizes" = some 0 := by kernel_rfl
theorem tSiz : (Tryd.prog.globals[0]?).map (·.type) = some 78 := by kernel_rfl
theorem cellsSiz : Tryd.prog.cellsOf 78 = 4 := by kernel_rfl
theorem cellsInt : Tryd.prog.cellsOf 3 = 1 := by kernel_rfl
theorem tabOf15 {H : List (String × DataW Unit)} {W : World} (e : H = [("vizard/varint.sizes", Rows.laid_vizard_varint_sizes)]) (h : laidMet Tryd.prog H W) : T15 W := by
  subst e
  have h1 : Lib.TabIs Tryd.prog W "vizard/varint.sizes" .i64 [1, 2, 4, 8] := Lib.tabIs_of_head (zs := [1, 2, 4, 8]) gSiz tSiz Tryd.underlying78 Tryd.underlying3 cellsInt cellsSiz h
  have c0 : W.cell? ⟨0, 0, none⟩ = some (.int .i64 1) := h1.cell gSiz 0 (by decide)
  have c1 : W.cell? ⟨0, 1, none⟩ = some (.int .i64 2) := h1.cell gSiz 1 (by decide)
  have c2 : W.cell? ⟨0, 2, none⟩ = some (.int .i64 4) := h1.cell gSiz 2 (by decide)
  have c3 : W.cell? ⟨0, 3, none⟩ = some (.int .i64 8) := h1.cell gSiz 3 (by decide)
  exact ⟨World.block_lt_of_cell? W _ c0, c0, c1, c2, c3⟩
end Go.Proofs.YtnngdlleicjegaaDoor
