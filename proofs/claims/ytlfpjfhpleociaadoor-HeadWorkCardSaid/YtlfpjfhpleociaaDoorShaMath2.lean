/-
  Plain mathematics: a message as a list of bytes, padded, cut into blocks, and its digest. No program is imported. No conditions.
-/
import Derived.Test.YtlfpjfhpleociaaDoorShaMath
namespace Go.Proofs.YtlfpjfhpleociaaDoor.Sha
open Go
/-- Block number i of a message. -/
def blk (l : List UInt8) (i : Nat) : Nat → UInt8 := fun j => l.getD (64 * i + j) 0
/-- What the first n blocks come to. -/
def blocks (l : List UInt8) : Nat → St
  | 0 => start
  | n + 1 => compress (blocks l n) (blk l n)
def wordBytes (x : UInt32) : List UInt8 := [(x >>> UInt32.ofNat 24).toUInt8, (x >>> UInt32.ofNat 16).toUInt8, (x >>> UInt32.ofNat 8).toUInt8, x.toUInt8]
def St.list (s : St) : List UInt32 := [s.a, s.b, s.c, s.d, s.e, s.f, s.g, s.h]
def St.bytes (s : St) : List UInt8 := s.list.flatMap wordBytes
end Go.Proofs.YtlfpjfhpleociaaDoor.Sha
