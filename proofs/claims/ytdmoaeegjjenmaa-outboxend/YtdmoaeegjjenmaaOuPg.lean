/-
  The program's own stream meets all that the laws ask of it. No condition.
-/
import Derived.Test.YtdmoaeegjjenmaaOuPgN
namespace Go.Proofs.Ytdmoaeegjjenmaa
set_option maxRecDepth 100000
open Go.RowKit Go.Sort

/-- The program's stream in memory, and the document's that it stands for. -/
def LS : OSt := fun w B F d => ∃ tv fv, MM w B tv fv (mOf d) ∧ ∀ k, F k ↔ Fm B tv fv k
theorem LS.kept {w w' : World} {F G : Nat → Prop} (e : ∀ k, F k ↔ G k) (h : Kept G w w') : Kept F w w' := h.mono fun k _ q => (e k).2 q
theorem face : OuFace LS where
  lt := fun ⟨_, _, h, e⟩ k q => h.old k ((e k).1 q)
  keep := fun ⟨tv, fv, h, e⟩ b => ⟨tv, fv, h.of fun k q => b k ((e k).2 q), e⟩
  new := fun w => by
    refine (new_ok w).mono ?_
    rintro e w' ⟨rfl, h, b⟩
    refine ⟨w.heap.size, Fm w.heap.size (.slice none 0 0) (.slice none 0 0), rfl, ⟨_, _, by rw [mOf_new]; exact h, fun _ => Iff.rfl⟩, fun k q => ?_, b⟩
    rcases q with rfl | q | q
    · exact Nat.le_refl _
    · cases q
    · cases q
  write := fun w B F d s f ⟨tv, fv, h, e⟩ ok hd hs => by
    refine (write_ok w B tv fv (mOf d) s f h (mOf_ok ok (by omega)) hs).mono ?_
    rintro x w' ⟨rfl, tv', fv', h', k', f'⟩
    exact ⟨by rw [mOf_wrE ok], Fm B tv' fv', ⟨tv', fv', by rw [mOf_write ok]; exact h', fun _ => Iff.rfl⟩, fun k q => (f' k q).elim (fun c => .inl ((e k).2 c)) .inr, LS.kept e k'⟩
  allow := fun w B F d l ⟨tv, fv, h, e⟩ _ _ _ => by
    refine (allow_ok w B tv fv (mOf d) l h).mono ?_
    rintro x w' ⟨rfl, h', k'⟩
    exact ⟨rfl, F, ⟨tv, fv, by rw [mOf_allow]; exact h', e⟩, fun k q => .inl q, LS.kept e k'⟩
  next := fun w B F d most ⟨tv, fv, h, e⟩ ok hd hm => by
    obtain ⟨e1, e2⟩ := mOf_next ok most
    refine (next_ok w B tv fv (mOf d) (txM d) most h (mOf_ok ok (by omega)) rfl hm).mono ?_
    rintro x w' ⟨rfl, h', k'⟩
    exact ⟨by rw [e1], F, ⟨tv, fv, by rw [e2]; exact h', e⟩, fun k q => .inl q, LS.kept e k'⟩
  acked := fun w B F d p data ⟨tv, fv, h, e⟩ ok hd hp => by
    have h1 := hp.inn
    have h2 := hp.size
    unfold PcIn at h1
    have := mOf_acked ok p h1 (fun q => (hp.fin q).1)
    refine (acked_ok w B tv fv (mOf d) p.off data p.fin h (mOf_ok ok (by omega)) ⟨by omega, by omega⟩ ⟨by omega, by omega⟩).mono ?_
    rintro x w' ⟨rfl, tv', fv', h', o1, o2, k'⟩
    rw [h2, ← this] at h'
    exact ⟨rfl, F, ⟨tv', fv', h', fun k => by rw [e k]; unfold Fm; rw [o1, o2]⟩, fun k q => .inl q, LS.kept e k'⟩
  lost := fun w B F d p data ⟨tv, fv, h, e⟩ ok hd hp => by
    have h1 := hp.inn
    have h2 := hp.size
    unfold PcIn at h1
    have := mOf_lost ok p h1 (fun q => (hp.fin q).1)
    refine (lost_ok w B tv fv (mOf d) p.off data p.fin h (mOf_ok ok (by omega)) ⟨by omega, by omega⟩ ⟨by omega, by omega⟩).mono ?_
    rintro x w' ⟨rfl, h', k'⟩
    rw [h2, ← this] at h'
    exact ⟨rfl, F, ⟨tv, fv, h', e⟩, fun k q => .inl q, LS.kept e k'⟩
  state := fun w B F d ⟨tv, fv, h, _⟩ ok hd => by
    have h1 := there_size d ok
    have h2 : (mOf d).front + (mOf d).fs.length = d.s.size := by
      rw [mOf_len d ok]
      show thereN d + (d.s.size - thereN d) = _
      omega
    refine (state_ok w B tv fv (mOf d) h (mOf_ok ok (by omega))).mono ?_
    rintro x w' ⟨rfl, b⟩
    refine ⟨?_, b⟩
    rw [h2, mOf_all ok]
    rfl
end Go.Proofs.Ytdmoaeegjjenmaa
