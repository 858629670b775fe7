/-
  Plain facts on the digest: its functions on numbers of thirty-two bits, as the chapter says them. No condition.
-/
import Derived.Test.YtbicfhilehllnaaGreatDoorRows
import Derived.WalkKit
import Derived.Laws.BytesArg
import Derived.Laws.BitsAllLaws
import Derived.WalkSpells
import Derived.WalkLawsBesides
import Derived.Handy
import Derived.BigQuiet
namespace Go.Proofs.YtbicfhilehllnaaGreatDoor
set_option maxRecDepth 100000
open Go.RowKit

/-- A number turned right. -/
def rot (x n : Nat) : Nat := (x / 2 ^ n) ||| (x * 2 ^ (32 - n) % 4294967296)
def bs0 (x : Nat) : Nat := rot x 2 ^^^ rot x 13 ^^^ rot x 22
def bs1 (x : Nat) : Nat := rot x 6 ^^^ rot x 11 ^^^ rot x 25
def ss0 (x : Nat) : Nat := rot x 7 ^^^ rot x 18 ^^^ x / 8
def ss1 (x : Nat) : Nat := rot x 17 ^^^ rot x 19 ^^^ x / 1024
def cho (x y z : Nat) : Nat := (x &&& y) ^^^ ((4294967295 - x) &&& z)
def maj (x y z : Nat) : Nat := (x &&& y) ^^^ (x &&& z) ^^^ (y &&& z)
theorem lt32 {x : Nat} (h : x < 4294967296) : x < 2 ^ 32 := h
theorem or_lt32 {x y : Nat} (hx : x < 4294967296) (hy : y < 4294967296) : x ||| y < 4294967296 := Nat.or_lt_two_pow (n := 32) hx hy
theorem xor_lt32 {x y : Nat} (hx : x < 4294967296) (hy : y < 4294967296) : x ^^^ y < 4294967296 := Nat.xor_lt_two_pow (n := 32) hx hy
theorem and_lt32 {x : Nat} (y : Nat) (hx : x < 4294967296) : x &&& y < 4294967296 := Nat.lt_of_le_of_lt Nat.and_le_left hx
theorem div_lt32 {x : Nat} (n : Nat) (hx : x < 4294967296) : x / n < 4294967296 := Nat.lt_of_le_of_lt (Nat.div_le_self _ _) hx
theorem rot_lt {x : Nat} (n : Nat) (hx : x < 4294967296) : rot x n < 4294967296 := or_lt32 (div_lt32 _ hx) (Nat.mod_lt _ (by decide))
theorem bs0_lt {x : Nat} (h : x < 4294967296) : bs0 x < 4294967296 := xor_lt32 (xor_lt32 (rot_lt _ h) (rot_lt _ h)) (rot_lt _ h)
theorem bs1_lt {x : Nat} (h : x < 4294967296) : bs1 x < 4294967296 := xor_lt32 (xor_lt32 (rot_lt _ h) (rot_lt _ h)) (rot_lt _ h)
theorem ss0_lt {x : Nat} (h : x < 4294967296) : ss0 x < 4294967296 := xor_lt32 (xor_lt32 (rot_lt _ h) (rot_lt _ h)) (div_lt32 _ h)
theorem ss1_lt {x : Nat} (h : x < 4294967296) : ss1 x < 4294967296 := xor_lt32 (xor_lt32 (rot_lt _ h) (rot_lt _ h)) (div_lt32 _ h)
theorem cho_lt {x : Nat} (y z : Nat) (h : x < 4294967296) : cho x y z < 4294967296 := xor_lt32 (and_lt32 _ h) (and_lt32 _ (by omega))
theorem maj_lt {x y : Nat} (z : Nat) (h : x < 4294967296) (h' : y < 4294967296) : maj x y z < 4294967296 := xor_lt32 (xor_lt32 (and_lt32 _ h) (and_lt32 _ h)) (and_lt32 _ h')
/-- Numbers of a block: the first sixteen, then what they make. -/
def nxt (l : List Nat) : Nat := (ss1 (l.getD (l.length - 2) 0) + l.getD (l.length - 7) 0 + ss0 (l.getD (l.length - 15) 0) + l.getD (l.length - 16) 0) % 4294967296
def ext (l : List Nat) : Nat → List Nat
  | 0 => l
  | k + 1 => ext l k ++ [nxt (ext l k)]
theorem ext_length (l : List Nat) (k : Nat) : (ext l k).length = l.length + k := by
  induction k with
  | zero => rfl
  | succ k ih => simp [ext, ih]; omega
/-- Sixteen numbers of four bytes. -/
def num4 (b : List Nat) (t : Nat) : Nat := b.getD (4 * t) 0 * 16777216 + b.getD (4 * t + 1) 0 * 65536 + b.getD (4 * t + 2) 0 * 256 + b.getD (4 * t + 3) 0
def heads (b : List Nat) (k : Nat) : List Nat := (List.range k).map (num4 b)
def wrds (b : List Nat) : List Nat := ext (heads b 16) 48
/-- All numbers are of thirty-two bits. -/
def W32 (l : List Nat) : Prop := ∀ x ∈ l, x < 4294967296
theorem w32_get {l : List Nat} (h : W32 l) (i : Nat) : l.getD i 0 < 4294967296 := by
  rw [List.getD]
  cases e : l[i]? with
  | none => decide
  | some x => exact h x (List.mem_of_getElem? e)
theorem nxt_lt (l : List Nat) : nxt l < 4294967296 := Nat.mod_lt _ (by decide)
theorem ext_w32 {l : List Nat} (h : W32 l) (k : Nat) : W32 (ext l k) := by
  induction k with
  | zero => exact h
  | succ k ih =>
    intro x hx
    rcases List.mem_append.1 hx with hx | hx
    · exact ih x hx
    · simp at hx; rw [hx]; exact nxt_lt _
theorem num4_lt {b : List Nat} (h : ∀ x ∈ b, x < 256) (t : Nat) : num4 b t < 4294967296 := by
  have g : ∀ i, b.getD i 0 < 256 := fun i => by
    rw [List.getD]
    cases e : b[i]? with
    | none => decide
    | some x => exact h x (List.mem_of_getElem? e)
  have h0 := g (4 * t)
  have h1 := g (4 * t + 1)
  have h2 := g (4 * t + 2)
  have h3 := g (4 * t + 3)
  unfold num4
  omega
theorem heads_w32 {b : List Nat} (h : ∀ x ∈ b, x < 256) (k : Nat) : W32 (heads b k) := by
  intro x hx
  obtain ⟨t, _, rfl⟩ := List.mem_map.1 hx
  exact num4_lt h t
theorem wrds_w32 {b : List Nat} (h : ∀ x ∈ b, x < 256) : W32 (wrds b) := ext_w32 (heads_w32 h 16) 48
theorem wrds_length (b : List Nat) : (wrds b).length = 64 := by unfold wrds heads; rw [ext_length]; simp
/-- Eight numbers. -/
structure St where
  a : Nat
  b : Nat
  c : Nat
  d : Nat
  e : Nat
  f : Nat
  g : Nat
  h : Nat
structure St.Ok (s : St) : Prop where
  a : s.a < 4294967296
  b : s.b < 4294967296
  c : s.c < 4294967296
  d : s.d < 4294967296
  e : s.e < 4294967296
  f : s.f < 4294967296
  g : s.g < 4294967296
  h : s.h < 4294967296
def t1 (s : St) (k w : Nat) : Nat := (s.h + bs1 s.e + cho s.e s.f s.g + k + w) % 4294967296
def t2 (s : St) : Nat := (bs0 s.a + maj s.a s.b s.c) % 4294967296
/-- One round. -/
def rnd (s : St) (k w : Nat) : St := ⟨(t1 s k w + t2 s) % 4294967296, s.a, s.b, s.c, (s.d + t1 s k w) % 4294967296, s.e, s.f, s.g⟩
theorem rnd_ok {s : St} (h : s.Ok) (k w : Nat) : (rnd s k w).Ok := ⟨Nat.mod_lt _ (by decide), h.a, h.b, h.c, Nat.mod_lt _ (by decide), h.e, h.f, h.g⟩
def rnds (s : St) (ks ws : List Nat) : Nat → St
  | 0 => s
  | t + 1 => rnd (rnds s ks ws t) (ks.getD t 0) (ws.getD t 0)
theorem rnds_ok {s : St} (h : s.Ok) (ks ws : List Nat) : ∀ t, (rnds s ks ws t).Ok
  | 0 => h
  | t + 1 => rnd_ok (rnds_ok h ks ws t) _ _
def plus (s o : St) : St := ⟨(o.a + s.a) % 4294967296, (o.b + s.b) % 4294967296, (o.c + s.c) % 4294967296, (o.d + s.d) % 4294967296, (o.e + s.e) % 4294967296, (o.f + s.f) % 4294967296, (o.g + s.g) % 4294967296, (o.h + s.h) % 4294967296⟩
theorem plus_ok (s o : St) : (plus s o).Ok := ⟨Nat.mod_lt _ (by decide), Nat.mod_lt _ (by decide), Nat.mod_lt _ (by decide), Nat.mod_lt _ (by decide), Nat.mod_lt _ (by decide), Nat.mod_lt _ (by decide), Nat.mod_lt _ (by decide), Nat.mod_lt _ (by decide)⟩
def ks : List Nat := [0x428a2f98, 0x71374491, 0xb5c0fbcf, 0xe9b5dba5, 0x3956c25b, 0x59f111f1, 0x923f82a4, 0xab1c5ed5, 0xd807aa98, 0x12835b01, 0x243185be, 0x550c7dc3, 0x72be5d74, 0x80deb1fe, 0x9bdc06a7, 0xc19bf174, 0xe49b69c1, 0xefbe4786, 0x0fc19dc6, 0x240ca1cc, 0x2de92c6f, 0x4a7484aa, 0x5cb0a9dc, 0x76f988da, 0x983e5152, 0xa831c66d, 0xb00327c8, 0xbf597fc7, 0xc6e00bf3, 0xd5a79147, 0x06ca6351, 0x14292967, 0x27b70a85, 0x2e1b2138, 0x4d2c6dfc, 0x53380d13, 0x650a7354, 0x766a0abb, 0x81c2c92e, 0x92722c85, 0xa2bfe8a1, 0xa81a664b, 0xc24b8b70, 0xc76c51a3, 0xd192e819, 0xd6990624, 0xf40e3585, 0x106aa070, 0x19a4c116, 0x1e376c08, 0x2748774c, 0x34b0bcb5, 0x391c0cb3, 0x4ed8aa4a, 0x5b9cca4f, 0x682e6ff3, 0x748f82ee, 0x78a5636f, 0x84c87814, 0x8cc70208, 0x90befffa, 0xa4506ceb, 0xbef9a3f7, 0xc67178f2]
theorem ks_length : ks.length = 64 := rfl
theorem ks_w32 : W32 ks := by unfold W32 ks; decide
/-- The first eight. -/
def st0 : St := ⟨0x6a09e667, 0xbb67ae85, 0x3c6ef372, 0xa54ff53a, 0x510e527f, 0x9b05688c, 0x1f83d9ab, 0x5be0cd19⟩
theorem st0_ok : st0.Ok := by refine ⟨?_, ?_, ?_, ?_, ?_, ?_, ?_, ?_⟩ <;> decide
/-- What a block of sixty-four bytes makes of eight numbers. -/
def blk (o : St) (b : List Nat) : St := plus (rnds o ks (wrds b) 64) o
theorem blk_ok (o : St) (b : List Nat) : (blk o b).Ok := plus_ok _ _
/-- What the first n blocks make. -/
def blks (b : List Nat) : Nat → St
  | 0 => st0
  | n + 1 => blk (blks b n) ((b.drop (64 * n)).take 64)
theorem blks_ok (b : List Nat) : ∀ n, (blks b n).Ok
  | 0 => st0_ok
  | _ + 1 => blk_ok _ _
def St.list (s : St) : List Nat := [s.a, s.b, s.c, s.d, s.e, s.f, s.g, s.h]
/-- A number in bytes, the highest first. -/
def be (n : Nat) : Nat → List Nat
  | 0 => []
  | k + 1 => be (n / 256) k ++ [n % 256]
/-- A text with what comes behind it. -/
def pad (l : List Nat) : List Nat := l ++ 128 :: (List.replicate ((119 - l.length % 64) % 64) 0 ++ be (8 * l.length) 8)
/-- The digest. -/
def dig (l : List Nat) : List Nat := (blks (pad l) ((pad l).length / 64)).list.flatMap fun x => be x 4
end Go.Proofs.YtbicfhilehllnaaGreatDoor
