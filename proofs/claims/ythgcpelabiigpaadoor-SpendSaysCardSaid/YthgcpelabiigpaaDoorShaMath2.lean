/-
  Plain mathematics: a message as a list of bytes, padded, cut into blocks, and its digest. No program is imported. No conditions.
-/
import Derived.Test.YthgcpelabiigpaaDoorShaMath
namespace Go.Proofs.YthgcpelabiigpaaDoor.Sha
open Go

/-- Block number i of a message. -/
def blk (l : List UInt8) (i : Nat) : Nat → UInt8 := fun j => l.getD (64 * i + j) 0
/-- What the first n blocks come to. -/
def blocks (l : List UInt8) : Nat → St
  | 0 => start
  | n + 1 => compress (blocks l n) (blk l n)
def padLen (n : Nat) : Nat := if n % 64 < 56 then 56 - n % 64 else 120 - n % 64
theorem padLen_bd (n : Nat) : 1 ≤ padLen n ∧ padLen n ≤ 64 ∧ (n + padLen n + 8) % 64 = 0 := by unfold padLen; split <;> omega
def pad (n : Nat) : List UInt8 := 0x80 :: List.replicate (padLen n - 1) 0
theorem pad_length (n : Nat) : (pad n).length = padLen n := by have := padLen_bd n; simp [pad]; omega
def lenByte (n k : Nat) : UInt8 := UInt8.ofNat (8 * n / 2 ^ (56 - 8 * k))
def len8 (n : Nat) : List UInt8 := [lenByte n 0, lenByte n 1, lenByte n 2, lenByte n 3, lenByte n 4, lenByte n 5, lenByte n 6, lenByte n 7]
theorem len8_length (n : Nat) : (len8 n).length = 8 := rfl
def wordBytes (x : UInt32) : List UInt8 := [(x >>> UInt32.ofNat 24).toUInt8, (x >>> UInt32.ofNat 16).toUInt8, (x >>> UInt32.ofNat 8).toUInt8, x.toUInt8]
def St.list (s : St) : List UInt32 := [s.a, s.b, s.c, s.d, s.e, s.f, s.g, s.h]
def St.bytes (s : St) : List UInt8 := s.list.flatMap wordBytes
/-- A message with all that stands behind it. -/
def padded (l : List UInt8) : List UInt8 := l ++ pad l.length ++ len8 l.length
theorem padded_length (l : List UInt8) : (padded l).length = l.length + padLen l.length + 8 := by simp [padded, pad_length, len8_length]; omega
/-- SHA-256. -/
def sha (l : List UInt8) : List UInt8 := (blocks (padded l) ((padded l).length / 64)).bytes
theorem St.list_length (s : St) : s.list.length = 8 := rfl
theorem St.cells_list (s : St) : s.cells = s.list.map wV := rfl
theorem bytes_length (s : St) : s.bytes.length = 32 := rfl
theorem sha_length (l : List UInt8) : (sha l).length = 32 := rfl

theorem rd_congr {b b' : Nat → UInt8} (h : ∀ j, j < 64 → b j = b' j) {t : Nat} (ht : t < 16) : rd b t = rd b' t := by
  unfold rd
  rw [h (4 * t) (by omega), h (4 * t + 1) (by omega), h (4 * t + 2) (by omega), h (4 * t + 3) (by omega)]
theorem row_congr {b b' : Nat → UInt8} (h : ∀ j, j < 64 → b j = b' j) : ∀ t, row b t = row b' t
  | 0 => rfl
  | t + 1 => by
    have ih := row_congr h t
    show row b t ++ [nextW b t (row b t)] = row b' t ++ [nextW b' t (row b' t)]
    rw [ih]
    unfold nextW
    split
    · rename_i ht; rw [rd_congr h ht]
    · rfl
theorem compress_congr {b b' : Nat → UInt8} (h : ∀ j, j < 64 → b j = b' j) (s : St) : compress s b = compress s b' := by
  unfold compress
  rw [row_congr h]
theorem blk_append (l r : List UInt8) (i j : Nat) (h : 64 * i + j < l.length) : blk (l ++ r) i j = blk l i j := by
  simp [blk, List.getD, List.getElem?_append_left h]
theorem blocks_append (l r : List UInt8) : ∀ n, 64 * n ≤ l.length → blocks (l ++ r) n = blocks l n
  | 0, _ => rfl
  | n + 1, h => by
    show compress (blocks (l ++ r) n) (blk (l ++ r) n) = compress (blocks l n) (blk l n)
    rw [blocks_append l r n (by omega), compress_congr (fun j hj => blk_append l r n j (by omega))]
/-- The next block, wherever its 64 bytes stand. -/
theorem blocks_next (l : List UInt8) (n : Nat) (b : Nat → UInt8) (h : ∀ j, j < 64 → b j = l.getD (64 * n + j) 0) : compress (blocks l n) b = blocks l (n + 1) :=
  compress_congr h _
theorem bv_wv (x : UInt32) : IntKind.u8.wrap (wv x) = bv x.toUInt8 := by
  unfold bv wv
  rw [IntKind.wrap_u8', UInt32.toNat_toUInt8]
  simp
theorem bv_wv' (x : UInt32) : wv x % 256 = bv x.toUInt8 := by rw [← bv_wv, IntKind.wrap_u8']
theorem wv_shr24 (x : UInt32) : wv x / 16777216 = wv (x >>> UInt32.ofNat 24) := wv_shr x 24 (by omega)
theorem wv_shr16 (x : UInt32) : wv x / 65536 = wv (x >>> UInt32.ofNat 16) := wv_shr x 16 (by omega)
theorem wv_shr8 (x : UInt32) : wv x / 256 = wv (x >>> UInt32.ofNat 8) := wv_shr x 8 (by omega)
/-- The bytes of the first k words. -/
def bytesTo (s : St) (k : Nat) : List UInt8 := (s.list.take k).flatMap wordBytes
theorem bytesTo_length (s : St) (k : Nat) (h : k ≤ 8) : (bytesTo s k).length = 4 * k := by
  match k, h with
  | 0, _ => rfl
  | 1, _ => rfl
  | 2, _ => rfl
  | 3, _ => rfl
  | 4, _ => rfl
  | 5, _ => rfl
  | 6, _ => rfl
  | 7, _ => rfl
  | 8, _ => rfl
theorem bytesTo_succ (s : St) (k : Nat) (h : k < 8) : bytesTo s (k + 1) = bytesTo s k ++ wordBytes (s.list.getD k 0) := by
  match k, h with
  | 0, _ => rfl
  | 1, _ => rfl
  | 2, _ => rfl
  | 3, _ => rfl
  | 4, _ => rfl
  | 5, _ => rfl
  | 6, _ => rfl
  | 7, _ => rfl
def outV (s : St) (k : Nat) : List Value := (bytesTo s k).map bV ++ List.replicate (32 - 4 * k) (bV 0)
theorem outV_split (s : St) (k : Nat) (h : k < 8) : outV s k = (bytesTo s k).map bV ++ (bV 0 :: bV 0 :: bV 0 :: bV 0 :: List.replicate (32 - 4 * (k + 1)) (bV 0)) := by
  unfold outV
  rw [show 32 - 4 * k = (32 - 4 * (k + 1)) + 4 by omega]
  rfl
theorem outV_next (s : St) (k : Nat) (h : k < 8) (x : UInt32) (hx : s.list.getD k 0 = x) : (bytesTo s k).map bV ++ ((wordBytes x).map bV ++ List.replicate (32 - 4 * (k + 1)) (bV 0)) = outV s (k + 1) := by
  unfold outV
  rw [bytesTo_succ s k h, hx, List.map_append, List.append_assoc]
theorem outV_all (s : St) : outV s 8 = s.bytes.map bV := by
  unfold outV
  simp
  rfl
end Go.Proofs.YthgcpelabiigpaaDoor.Sha
