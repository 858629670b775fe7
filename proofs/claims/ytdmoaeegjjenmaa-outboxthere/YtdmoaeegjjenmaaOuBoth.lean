/-
  A stream that is sent and one that is read, side by side: what the calls of each leave of the other. A row of bools that is handed in. No condition.
-/
import Derived.Test.YtdmoaeegjjenmaaOuMore
import Derived.Test.YtdmoaeegjjenmaaOuOpen
import Derived.Test.YtdmoaeegjjenmaaInFaceP
namespace Go.Proofs.Ytdmoaeegjjenmaa
set_option maxRecDepth 100000
open Go.RowKit Go.Sort Go.ChangeShapes Go.WideShapes Go.ChangeAt

/-- The n bools of a row, where they stand. -/
def Flags (w : World) (a : Option Addr) (n : Nat) (f : Nat → Bool) : Prop :=
  n = 0 ∨ ∃ b off, a = some ⟨b, off, none⟩ ∧ b < w.heap.size ∧ ∀ i, i < n → w.cell? ⟨b, off + i, none⟩ = some (.bool (f i))
theorem open_flags {H : Type} {enc : TypeId × Value → H} {W : World} {base : Nat} {v : Value} {d : DataW H} {p : List MemPlace} (hv : Value.okWide Try.prog W .any base 48 v)
    (h : DataW.Trod enc Try.prog W 0 (fun _ => true) true 48 v d p) :
    ∃ (a : Option Addr) (n cap : Nat) (f : Nat → Bool), v = .slice a n cap ∧ n ≤ maxLen ∧ Flags W a n f := by
  obtain ⟨a, len, cap, rfl⟩ := okWide_slice Try.underlying48 hv
  obtain ⟨fuel, hf⟩ := h
  rcases Go.Deep.open_slice Try.underlying48 hf with ⟨hcs, _⟩ | ⟨x, l, c, m, n, D, Pl, hcs, _, hl, hm, hmm, hx0, hx⟩
  · simp [Value.cells] at hcs
    obtain ⟨rfl, rfl, rfl⟩ := hcs
    exact ⟨_, _, _, fun _ => false, rfl, Nat.zero_le _, .inl rfl⟩
  · simp [Value.cells] at hcs
    obtain ⟨rfl, rfl, rfl⟩ := hcs
    have hmc : m = cap := by simpa using hmm
    have ce : Try.prog.cellsOf 4 = 1 := by kernel_rfl
    have each : ∀ i, i < len → ∃ q : Bool, W.cell? (x.add i) = some (.bool q) := fun i hi => by
      obtain ⟨cs', h1, h2⟩ := hx i (by omega)
      rw [ce] at h1
      obtain ⟨_, hlen, hcell⟩ := World.cells?_some h1
      obtain ⟨b, e, _⟩ := DataW.trod_bool Try.underlying4 h2
      have := hcell 0 (by omega)
      rw [Go.Deep.add_add, e] at this
      exact ⟨b, by simpa using this⟩
    obtain ⟨q, hq⟩ := Go.Deep.choose_lt each
    refine ⟨_, _, _, q, rfl, by omega, ?_⟩
    rcases Nat.eq_zero_or_pos len with h0 | h0
    · exact .inl h0
    · right
      obtain ⟨b, off, spot⟩ := x
      have hc := hq 0 (by omega)
      have hspot : spot = none := by simpa [Addr.add] using World.cell?_spot hc
      subst hspot
      refine ⟨b, off, rfl, cell_block (o := off) (v := .bool (q 0)) (by simpa [Addr.add] using hc), fun i hi => ?_⟩
      have := hq i hi
      rw [Addr.add_mid] at this
      exact this
theorem at_flags (B o N cap i : Nat) (w : World) (h : i < N) (z : Int) (hz : z = i) (p : Nat) (hp : p = o + i) :
    (Instr.indexAt 48 (.slice (some ⟨B, o, none⟩) N cap) (.int .i64 z)).run Try.prog w = .ok (.pointer (some ⟨B, p, none⟩)) w := by
  subst hz hp
  have e : Try.prog.elem 48 = 4 := by kernel_rfl
  rw [run_indexAt_slice (P := Try.prog) w 48 ⟨B, o, none⟩ N cap .i64 i (by rw [e]; exact Try.underlying48), if_pos (by omega), e]
  have s : (sizeOf 4).run Try.prog w = .ok 1 w := Try.sizeOf4 w
  rw [s]
  simp [Addr.add_mid]
/-- Both streams; the blocks Y belong to neither. -/
structure TH (LS : OSt) (LI : ib.BSt) (Y : Nat → Prop) (w0 w : World) (B : Nat) (F : Nat → Prop) (d : Ox) (I : Nat) (G : Nat → Prop) (e : ib.Bx) : Prop where
  o : PO LS (fun k => Y k ∨ G k) w0 w B F d
  i : ib.PI LI w0 w I G e
  nY : ∀ k, Y k → ¬ G k
section
variable {LS : OSt} {LI : ib.BSt} {Y Z : Nat → Prop} {w0 w w' : World} {B I : Nat} {F G : Nat → Prop} {d : Ox} {e : ib.Bx}
theorem TH.keep (fc : OuFace LS) (gc : ib.InFace LI) (h : TH LS LI Y w0 w B F d I G e) (b : Below w.heap.size w w') : TH LS LI Y w0 w' B F d I G e := ⟨h.o.keep fc b, h.i.keep gc b, h.nY⟩
theorem TH.sub (h : TH LS LI Y w0 w B F d I G e) (z : ∀ k, Z k → Y k) : TH LS LI Z w0 w B F d I G e := ⟨h.o.sub fun k q => q.elim (fun q => .inl (z k q)) .inr, h.i, fun k q => h.nY k (z k q)⟩
theorem TH.fresh (fc : OuFace LS) (gc : ib.InFace LI) (h : TH LS LI Y w0 w B F d I G e) (b : Below w.heap.size w w') (z : ∀ k, Z k → Y k ∨ (w.heap.size ≤ k ∧ k < w'.heap.size)) : TH LS LI Z w0 w' B F d I G e := by
  refine ⟨h.o.fresh fc b fun k q => ?_, h.i.keep gc b, fun k q c => ?_⟩
  · rcases q with q | q
    · rcases z k q with r | r
      · exact .inl (.inl r)
      · exact .inr r
    · exact .inl (.inr q)
  · rcases z k q with r | r
    · exact h.nY k r c
    · have := gc.lt h.i.s k c
      omega
theorem TH.ostep (gc : ib.InFace LI) {F' : Nat → Prop} {d' : Ox} (h : TH LS LI Y w0 w B F d I G e) (q : PO LS (fun k => Y k ∨ G k) w0 w' B F' d' ∧ SameX (fun k => Y k ∨ G k) w w') (hk : Kept F w w') : TH LS LI Y w0 w' B F' d' I G e ∧ SameX Y w w' :=
  ⟨⟨q.1, h.i.keepK gc hk (fun k g f => (h.o.nX k (.inr g)).1 f) h.o.ge, h.nY⟩, fun k r => q.2 k (.inl r)⟩
theorem TH.istep (fc : OuFace LS) (gc : ib.InFace LI) {G' : Nat → Prop} {e' : ib.Bx} (h : TH LS LI Y w0 w B F d I G e) (q : ib.PI LI w0 w' I G' e') (hg : ∀ k, G' k → G k ∨ w.heap.size ≤ k) (hk : Kept G w w') : TH LS LI Y w0 w' B F d I G' e' ∧ SameX Y w w' := by
  have P := h.o.keepK fc hk (fun k f g => (h.o.nX k (.inr g)).1 f) h.i.ge
  refine ⟨⟨⟨P.s, P.ok, P.ge, P.bel, fun k r => ?_⟩, q, fun k r c => ?_⟩, fun k r => hk.block k (h.o.nX k (.inl r)).2 (h.nY k r)⟩
  · rcases r with r | r
    · exact P.nX k (.inl r)
    · refine ⟨fun c => ?_, gc.lt q.s k r⟩
      rcases hg k r with g | g
      · exact (P.nX k (.inr g)).1 c
      · have := fc.lt h.o.s k c
        omega
  · rcases hg k c with g | g
    · exact h.nY k r g
    · have := (h.o.nX k (.inl r)).2
      omega
theorem th_new (fc : OuFace LS) (gc : ib.InFace LI) (h : PO LS (fun _ => False) w0 w B F d) :
    Calls Try.prog 23 #[] w fun x w' => ∃ I G, x = .returned (ptr I) ∧ TH LS LI (fun _ => False) w0 w' B F d I G ib.bx0 := by
  refine (gc.new w).mono ?_
  rintro x w' ⟨I, G, rfl, hs, hg, b⟩
  have z := h.bel.size
  refine ⟨I, G, rfl, h.fresh fc b fun k q => ?_, ⟨hs, ib.Bw.new, fun k q => Nat.le_trans z (hg k q), h.bel.trans (b.mono z)⟩, fun _ q => q.elim⟩
  rcases q with q | q
  · exact q.elim
  · exact .inr ⟨hg k q, gc.lt hs k q⟩
theorem th_write (fc : OuFace LS) (gc : ib.InFace LI) (s : ByteArray) (f : Bool) (h : TH LS LI Y w0 w B F d I G e) (h1 : d.s.size < 50000000) (h2 : s.size < 50000000) :
    Calls Try.prog 9 #[ptr B, .string s, .bool f] w fun x w' => x = .returned (.int .i64 (wrE d s.size)) ∧ ∃ F', TH LS LI Y w0 w' B F' (wrO d s f) I G e ∧ SameX Y w w' := by
  refine (po_write fc s f h.o h1 h2).mono ?_
  rintro x w' ⟨rfl, F', q, -, hk⟩
  exact ⟨rfl, F', h.ostep gc q hk⟩
theorem th_next (fc : OuFace LS) (gc : ib.InFace LI) (most : Int) (h : TH LS LI Y w0 w B F d I G e) (h1 : d.s.size < 50000000) (h2 : In64 most)(h3 : d.fin ≠ 2 ∨ nxt d most = none) :
    Calls Try.prog 11 #[ptr B, .int .i64 most] w fun x w' => x = .returned (nxtV d (nxt d most)) ∧ ∃ F', TH LS LI Y w0 w' B F' (nxtO d most) I G e ∧ SameX Y w w' := by
  refine (po_next fc most h.o h1 h2 h3).mono ?_
  rintro x w' ⟨rfl, F', q, -, hk⟩
  exact ⟨rfl, F', h.ostep gc q hk⟩
theorem th_acked (fc : OuFace LS) (gc : ib.InFace LI) (p : Pc) (data : ByteArray) (h : TH LS LI Y w0 w B F d I G e) (h1 : d.s.size < 50000000) (h2 : PcOk d p data) :
    Calls Try.prog 14 #[ptr B, pcV p data] w fun x w' => x = .returned (.tuple #[]) ∧ ∃ F', TH LS LI Y w0 w' B F' (ackO d p) I G e ∧ SameX Y w w' := by
  refine (po_acked fc p data h.o h1 h2).mono ?_
  rintro x w' ⟨rfl, F', q, -, hk⟩
  exact ⟨rfl, F', h.ostep gc q hk⟩
theorem th_lost (fc : OuFace LS) (gc : ib.InFace LI) (p : Pc) (data : ByteArray) (h : TH LS LI Y w0 w B F d I G e) (h1 : d.s.size < 50000000) (h2 : PcOk d p data) :
    Calls Try.prog 16 #[ptr B, pcV p data] w fun x w' => x = .returned (.tuple #[]) ∧ ∃ F', TH LS LI Y w0 w' B F' (lostO d p) I G e ∧ SameX Y w w' := by
  refine (po_lost fc p data h.o h1 h2).mono ?_
  rintro x w' ⟨rfl, F', q, -, hk⟩
  exact ⟨rfl, F', h.ostep gc q hk⟩
theorem th_put (fc : OuFace LS) (gc : ib.InFace LI) (off : Int) (s : ByteArray) (fin : Bool) (h : TH LS LI Y w0 w B F d I G e) (h1 : In64 off) (h2 : s.size ≤ 1000000000) (hc : e.cnt ≤ 1000000000) :
    Calls Try.prog 24 #[ptr I, .int .i64 off, .string s, .bool fin] w fun x w' => x = .returned (.int .i64 (ib.putE e off s.size fin)) ∧ ∃ G', TH LS LI Y w0 w' B F d I G' (ib.putB e off s fin) ∧ SameX Y w w' := by
  refine (ib.pi_put gc off s fin h.i h1 h2 hc).mono ?_
  rintro x w' ⟨rfl, G', q, hg, hk⟩
  exact ⟨rfl, G', h.istep fc gc q hg hk⟩
theorem th_read (fc : OuFace LS) (gc : ib.InFace LI) (n : Int) (h : TH LS LI Y w0 w B F d I G e) (h1 : In64 n) (hr : e.rd ≤ 1000000000) :
    Calls Try.prog 25 #[ptr I, .int .i64 n] w fun x w' => x = .returned (.string (strOfNums (ib.takeL e n))) ∧ ∃ G', TH LS LI Y w0 w' B F d I G' (ib.takeB e n) ∧ SameX Y w w' := by
  refine (ib.pi_read gc n h.i h1 hr).mono ?_
  rintro x w' ⟨rfl, G', q, hg, hk⟩
  exact ⟨rfl, G', h.istep fc gc q hg hk⟩
end
end Go.Proofs.Ytdmoaeegjjenmaa
