/-
  What the bound on the arguments' bulk says of a row of frames that is handed in: how many there are. Plain facts; no condition.
-/
import Derived.Test.YtmngpkkpkjnejaaDoorFrOpen
namespace Go.Proofs.YtmngpkkpkjnejaaDoor
set_option maxRecDepth 100000
open Go.RowKit Go.Sort

theorem bulk_pos {H : Type} (d : DataW H) : 0 < Rows.uptoBulk d := by
  cases d with
  | lit l => cases l <;> simp [Rows.uptoBulk]
  | _ => simp [Rows.uptoBulk]
theorem bulk_len {H : Type} : ∀ l : List (DataW H), l.length ≤ Rows.uptoBulkAll l
  | [] => Nat.zero_le _
  | d :: l => by
    have q1 := bulk_pos d
    have q2 := bulk_len l
    rw [Rows.uptoBulkAll, List.length_cons]
    omega
theorem bulk_of {H : Type} {d : DataW H} : ∀ {l : List (DataW H)}, d ∈ l → Rows.uptoBulk d ≤ Rows.uptoBulkAll l
  | [], h => by cases h
  | x :: l, h => by
    rw [Rows.uptoBulkAll]
    rcases List.mem_cons.1 h with rfl | h
    · omega
    · have := bulk_of h
      omega
theorem frs_len {H : Type} {enc : TypeId × Value → H} {W : World} {v : Value} {d : DataW H} {p : List MemPlace} {fs : List Fr} (hF : FrsAt W v fs)
    (h : DataW.Trod enc Tryd.prog W 0 (fun _ => true) true 29 v d p) {l : List (DataW H)} (hk : Rows.uptoSmall H l = true) (hd : d ∈ l) : fs.length ≤ 1048576 := by
  have hb : Rows.uptoBulkAll l ≤ 1048576 := of_decide_eq_true hk
  have hd' := bulk_of hd
  obtain ⟨a, cap, rfl, -⟩ := hF
  obtain ⟨fuel, hf⟩ := h
  rcases Go.Deep.open_slice Tryd.underlying29 hf with ⟨hcs, _⟩ | ⟨x, n, c, m, k, D, Pl, hcs, _, hl, hm, hmm, hx0, hx⟩
  · simp [Value.cells] at hcs
    simp [hcs.2.1]
  · simp [Value.cells] at hcs
    obtain ⟨rfl, rfl, rfl⟩ := hcs
    have e : d = .slice ((List.range fs.length).map D) ((List.range (m - fs.length)).map fun j => D (fs.length + j)) := congrArg Prod.fst hx0
    have q := bulk_len ((List.range fs.length).map D)
    rw [List.length_map, List.length_range] at q
    rw [e, Rows.uptoBulk] at hd'
    omega
end Go.Proofs.YtmngpkkpkjnejaaDoor
