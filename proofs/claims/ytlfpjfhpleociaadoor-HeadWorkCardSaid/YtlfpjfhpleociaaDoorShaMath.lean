/-
  Plain mathematics of SHA-256 on 32-bit words, as the chapter gives it, and how the model's integers of kind u32 compute with such words. No program is imported. No conditions.
-/
import Derived.WalkKit
import Derived.Test.YtlfpjfhpleociaaDoorBase
namespace Go.Proofs.YtlfpjfhpleociaaDoor.Sha
open Go
/-- A word as the model's integer. -/
def wv (x : UInt32) : Int := x.toNat
theorem wv_add (x y : UInt32) : IntKind.u32.wrap (wv x + wv y) = wv (x + y) := by
  unfold wv
  rw [IntKind.wrap_u32', UInt32.toNat_add]
  omega
theorem wv_sum (x y : UInt32) : (wv x + wv y) % 4294967296 = wv (x + y) := by
  rw [← wv_add, IntKind.wrap_u32']
theorem wv_xor (x y : UInt32) : bits .xor .u32 (wv x) (wv y) = wv (x ^^^ y) := by
  unfold wv
  rw [u32_xor_nat _ _ x.toNat_lt y.toNat_lt, UInt32.toNat_xor]
theorem wv_and (x y : UInt32) : bits .and .u32 (wv x) (wv y) = wv (x &&& y) := by
  unfold wv
  rw [u32_and_nat _ _ x.toNat_lt y.toNat_lt, UInt32.toNat_and]
theorem wv_andNot (x y : UInt32) : bits .andNot .u32 (wv x) (wv y) = wv (x &&& ~~~y) := by
  unfold wv
  rw [u32_andNot_nat _ _ x.toNat_lt y.toNat_lt, UInt32.toNat_and, UInt32.toNat_not]
  rfl
/-- A word turned right by n bits. -/
def rotr (x : UInt32) (n : Nat) : UInt32 := (x >>> UInt32.ofNat n) ||| (x <<< UInt32.ofNat (32 - n))
def sS0 (x : UInt32) : UInt32 := rotr x 7 ^^^ rotr x 18 ^^^ (x >>> UInt32.ofNat 3)
def sS1 (x : UInt32) : UInt32 := rotr x 17 ^^^ rotr x 19 ^^^ (x >>> UInt32.ofNat 10)
def bS0 (x : UInt32) : UInt32 := rotr x 2 ^^^ rotr x 13 ^^^ rotr x 22
def bS1 (x : UInt32) : UInt32 := rotr x 6 ^^^ rotr x 11 ^^^ rotr x 25
def wV (x : UInt32) : Value := .int .u32 (wv x)
/-- Four bytes read as a word, the highest first. -/
def rd (b : Nat → UInt8) (t : Nat) : UInt32 := ((b (4 * t)).toUInt32 <<< UInt32.ofNat 24) ||| ((b (4 * t + 1)).toUInt32 <<< UInt32.ofNat 16) ||| ((b (4 * t + 2)).toUInt32 <<< UInt32.ofNat 8) ||| (b (4 * t + 3)).toUInt32
def nextW (b : Nat → UInt8) (t : Nat) (l : List UInt32) : UInt32 :=
  if t < 16 then rd b t else sS1 (l.getD (t - 2) 0) + l.getD (t - 7) 0 + sS0 (l.getD (t - 15) 0) + l.getD (t - 16) 0
/-- The schedule's first t words. -/
def row (b : Nat → UInt8) : Nat → List UInt32
  | 0 => []
  | t + 1 => row b t ++ [nextW b t (row b t)]
/-- The eight words while a block is worked in. -/
structure St where
  a : UInt32
  b : UInt32
  c : UInt32
  d : UInt32
  e : UInt32
  f : UInt32
  g : UInt32
  h : UInt32
def St.cells (s : St) : List Value := [wV s.a, wV s.b, wV s.c, wV s.d, wV s.e, wV s.f, wV s.g, wV s.h]
def T1 (s : St) (k w : UInt32) : UInt32 := s.h + bS1 s.e + ((s.e &&& s.f) ^^^ (s.g &&& ~~~s.e)) + k + w
def T2 (s : St) : UInt32 := bS0 s.a + ((s.a &&& s.b) ^^^ (s.a &&& s.c) ^^^ (s.b &&& s.c))
def St.round (s : St) (k w : UInt32) : St := ⟨T1 s k w + T2 s, s.a, s.b, s.c, s.d + T1 s k w, s.e, s.f, s.g⟩
def kList : List UInt32 := [
  1116352408, 1899447441, 3049323471, 3921009573, 961987163, 1508970993, 2453635748, 2870763221,
  3624381080, 310598401, 607225278, 1426881987, 1925078388, 2162078206, 2614888103, 3248222580,
  3835390401, 4022224774, 264347078, 604807628, 770255983, 1249150122, 1555081692, 1996064986,
  2554220882, 2821834349, 2952996808, 3210313671, 3336571891, 3584528711, 113926993, 338241895,
  666307205, 773529912, 1294757372, 1396182291, 1695183700, 1986661051, 2177026350, 2456956037,
  2730485921, 2820302411, 3259730800, 3345764771, 3516065817, 3600352804, 4094571909, 275423344,
  430227734, 506948616, 659060556, 883997877, 958139571, 1322822218, 1537002063, 1747873779,
  1955562222, 2024104815, 2227730452, 2361852424, 2428436474, 2756734187, 3204031479, 3329325298]
def kW (t : Nat) : UInt32 := kList.getD t 0
/-- t rounds over a schedule. -/
def rounds (l : List UInt32) (s : St) : Nat → St
  | 0 => s
  | t + 1 => (rounds l s t).round (kW t) (l.getD t 0)
def St.plus (s r : St) : St := ⟨s.a + r.a, s.b + r.b, s.c + r.c, s.d + r.d, s.e + r.e, s.f + r.f, s.g + r.g, s.h + r.h⟩
/-- One block of 64 bytes worked in. -/
def compress (s : St) (b : Nat → UInt8) : St := s.plus (rounds (row b 64) s 64)
def start : St := ⟨0x6a09e667, 0xbb67ae85, 0x3c6ef372, 0xa54ff53a, 0x510e527f, 0x9b05688c, 0x1f83d9ab, 0x5be0cd19⟩
theorem St.cells_length (s : St) : s.cells.length = 8 := rfl
end Go.Proofs.YtlfpjfhpleociaaDoor.Sha
