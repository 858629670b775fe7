/-
  Steps of a reader put together: what the fields of a kind, and a frame, come to. Plain facts; no condition.
-/
import Derived.Test.YtmngpkkpkjnejaaDoorFrAny
namespace Go.Proofs.YtmngpkkpkjnejaaDoor
set_option maxRecDepth 100000

theorem Stp.bind {α β : Type} {p : Rd α} {q : α → Rd β} {s s1 s2 : ByteArray} {x x1 x2 : Int} {a : α} {b : β} (h1 : Stp p s x a s1 x1) (h2 : Stp (q a) s1 x1 b s2 x2) : Stp (p.bind q) s x b s2 x2 := by
  rcases h1 with ⟨h0, hp, rfl⟩ | ⟨h0, hp, hn⟩ | ⟨hx, rfl⟩
  · rcases h2 with ⟨_, hq, rfl⟩ | ⟨_, hq, hn⟩ | ⟨hx, _⟩
    · exact .inl ⟨h0, by rw [bind_ok hp, hq], rfl⟩
    · exact .inr (.inl ⟨h0, by rw [bind_ok hp, hq], hn⟩)
    · exact absurd rfl hx
  · rcases h2 with ⟨hx, _⟩ | ⟨hx, _⟩ | ⟨_, rfl⟩
    · exact absurd hx hn
    · exact absurd hx hn
    · exact .inr (.inl ⟨h0, by unfold Rd.bind; rw [hp], hn⟩)
  · rcases h2 with ⟨h0, _⟩ | ⟨h0, _⟩ | ⟨_, rfl⟩
    · exact absurd h0 hx
    · exact absurd h0 hx
    · exact .inr (.inr ⟨hx, rfl⟩)
theorem Stp.pure {α : Type} {a b : α} (s : ByteArray) (x : Int) (h : a = b) : Stp (Rd.pure a) s x b s x := by
  subst h
  by_cases hx : x = 0
  · exact .inl ⟨hx, rfl, hx⟩
  · exact .inr (.inr ⟨hx, rfl⟩)
theorem fields2 {s s1 : ByteArray} {x1 : Int} {l : List Rg} (h : Stp rRanges s 0 l s1 x1) : Stp (rFields 2) s 0 ⟨2, 0, 0, false, 0, [], l⟩ s1 x1 := h.bind (Stp.pure _ _ rfl)
theorem fields4 {s s1 s2 s3 : ByteArray} {x1 x2 x3 i c o : Int} (h1 : Stp rInt s 0 i s1 x1) (h2 : Stp rInt s1 x1 c s2 x2) (h3 : Stp rInt s2 x2 o s3 x3) : Stp (rFields 4) s 0 ⟨4, i, o, false, c, [], []⟩ s3 x3 := h1.bind (h2.bind (h3.bind (Stp.pure _ _ rfl)))
theorem fields8 {s s1 s2 s3 s4 : ByteArray} {x1 x2 x3 x4 i o : Int} {b : Bool} {d : L} (h1 : Stp rInt s 0 i s1 x1) (h2 : Stp rInt s1 x1 o s2 x2) (h3 : Stp rFin s2 x2 b s3 x3) (h4 : Stp rText s3 x3 d s4 x4) : Stp (rFields 8) s 0 ⟨8, i, o, b, 0, d, []⟩ s4 x4 := h1.bind (h2.bind (h3.bind (h4.bind (Stp.pure _ _ rfl))))
theorem fields17 {s s1 s2 : ByteArray} {x1 x2 i o : Int} (h1 : Stp rInt s 0 i s1 x1) (h2 : Stp rInt s1 x1 o s2 x2) : Stp (rFields 17) s 0 ⟨17, i, o, false, 0, [], []⟩ s2 x2 := h1.bind (h2.bind (Stp.pure _ _ rfl))
theorem fields28 {s s1 : ByteArray} {x1 c : Int} (h1 : Stp rInt s 0 c s1 x1) : Stp (rFields 28) s 0 ⟨28, 0, 0, false, c, [], []⟩ s1 x1 := h1.bind (Stp.pure _ _ rfl)
theorem fields48 {s s1 : ByteArray} {x1 : Int} {d : L} (h1 : Stp rText s 0 d s1 x1) : Stp (rFields 48) s 0 ⟨48, 0, 0, false, 0, d, []⟩ s1 x1 := h1.bind (Stp.pure _ _ rfl)
theorem fields0 {k : Int} (hk : k = 0 ∨ k = 1) (s : ByteArray) : Stp (rFields k) s 0 ⟨k, 0, 0, false, 0, [], []⟩ s 0 := by
  rcases hk with rfl | rfl <;> exact Stp.pure _ _ rfl
theorem frame_of {s s1 s2 : ByteArray} {k x : Int} {f : Fr} (hk : rInt (toL s) = .ok (k, toL s1)) (hb : kindB k = true) (hF : Stp (rFields k) s1 0 f s2 x) :
    (x ≠ 0 → rFrame (toL s) = .error x) ∧ (x = 0 → chkF f = 0 → rFrame (toL s) = .ok (f, toL s2)) ∧ (x = 0 → chkF f ≠ 0 → rFrame (toL s) = .error (chkF f)) := by
  have e : rFrame (toL s) = ((rFields k).bind fun f => (Rd.test (chkF f)).bind fun _ => Rd.pure f) (toL s1) := by
    unfold rFrame
    rw [bind_ok hk, hb]
    rfl
  rw [e]
  rcases hF with ⟨-, h, rfl⟩ | ⟨-, h, hx⟩ | ⟨h, -⟩
  · rw [bind_ok h]
    refine ⟨fun q => absurd rfl q, fun _ q => ?_, fun _ q => ?_⟩
    · unfold Rd.bind Rd.test Rd.pure
      rw [if_pos q]
    · unfold Rd.bind Rd.test Rd.pure
      rw [if_neg q]
  · refine ⟨fun _ => ?_, fun q => absurd q hx, fun q => absurd q hx⟩
    unfold Rd.bind
    rw [h]
  · exact absurd rfl h
theorem frame_no {s : ByteArray} {x : Int} (h : rInt (toL s) = .error x) : rFrame (toL s) = .error x := by
  unfold rFrame Rd.bind
  rw [h]
theorem frame_bad {s s1 : ByteArray} {k : Int} (h : rInt (toL s) = .ok (k, toL s1)) (hb : kindB k = false) : rFrame (toL s) = .error 5 := by
  unfold rFrame
  rw [bind_ok h, hb]
  rfl
end Go.Proofs.YtmngpkkpkjnejaaDoor
