/-
  The program's own stream meets what the laws ask of it. No condition.
-/
import Derived.Test.YtdmoaeegjjenmaaInPgC
namespace Go.Proofs.Ytdmoaeegjjenmaa.ib
set_option maxRecDepth 100000
open Go.RowKit Go.Sort

/-- The program's own stream, with the blocks that it lies in. -/
def LS : BSt := fun w B F d => ∃ m, PX w B m d ∧ ∀ k, F k ↔ (k = B ∨ k = m)
theorem ls_step {w w' : World} {B m : Nat} {F : Nat → Prop} {d' : Bx} (hF : ∀ k, F k ↔ (k = B ∨ k = m)) (h : PX w' B m d') (k : Kept (fun k => k = B ∨ k = m) w w') : ∃ F', LS w' B F' d' ∧ (∀ k, F' k → F k ∨ w.heap.size ≤ k) ∧ Kept F w w' :=
  ⟨F, ⟨m, h, hF⟩, fun _ q => .inl q, k.mono fun j _ q => (hF j).2 q⟩
theorem face : InFace LS where
  lt := fun {w B F d} h k hk => by
    obtain ⟨m, h, hF⟩ := h
    rcases (hF k).1 hk with e | e
    · rw [e]; exact h.lt.1
    · rw [e]; exact h.lt.2
  keep := fun {w w' B F d} h q => by
    obtain ⟨m, h, hF⟩ := h
    exact ⟨m, h.of (q B ((hF B).2 (.inl rfl))) (q m ((hF m).2 (.inr rfl))), hF⟩
  new := fun w => (pnew_ok w).mono (by
    rintro e w' ⟨R, m, rfl, h, g1, g2, b⟩
    exact ⟨R, fun k => k = R ∨ k = m, rfl, ⟨m, h, fun _ => Iff.rfl⟩, fun k q => by rcases q with e | e <;> omega, b⟩)
  put := fun w B F d off s fin h hd _ hs => by
    obtain ⟨m, h, hF⟩ := h
    refine (pput_ok B m d off s fin w h hd hs).mono ?_
    rintro e w' ⟨rfl, h', k⟩
    exact ⟨rfl, ls_step hF h' k⟩
  read := fun w B F d n h hd _ => by
    obtain ⟨m, h, hF⟩ := h
    refine (pread_ok B m d n w h hd).mono ?_
    rintro e w' ⟨rfl, h', k⟩
    exact ⟨rfl, ls_step hF h' k⟩
  state := fun w B F d h hd => by
    obtain ⟨m, h, hF⟩ := h
    exact pstate_ok B m d w h hd
end Go.Proofs.Ytdmoaeegjjenmaa.ib
