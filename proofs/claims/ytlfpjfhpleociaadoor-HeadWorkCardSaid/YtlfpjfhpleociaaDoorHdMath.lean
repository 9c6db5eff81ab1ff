/-
  Plain mathematics of a block's header: its bytes; read out of bytes it is what was written, cut off it ends too early, longer it has another shape; any 80 bytes are one header's. No conditions beyond those that each states.
-/
import Derived.Test.YtlfpjfhpleociaaDoorCmpHash
import Derived.Test.YtlfpjfhpleociaaDoorPar
namespace Go.Proofs.YtlfpjfhpleociaaDoor.Sha
open Go Go.RowKit
structure THd where
  ver : Nat
  prev : List UInt8
  root : List UInt8
  time : Nat
  work : Nat
  nonce : Nat
def HdOk (h : THd) : Prop := h.ver ≤ 4294967295 ∧ h.prev.length = 32 ∧ h.root.length = 32 ∧ h.time ≤ 4294967295 ∧ h.work ≤ 4294967295 ∧ h.nonce ≤ 4294967295
/-- A header's bytes. -/
def hdB (h : THd) : List UInt8 := leB h.ver 4 ++ h.prev ++ h.root ++ leB h.time 4 ++ leB h.work 4 ++ leB h.nonce 4
def hdP : Par THd := thenP (leP 4) fun v => thenP (takeL 32) fun p => thenP (takeL 32) fun r => thenP (leP 4) fun t => thenP (leP 4) fun w => mapP (fun n => ⟨v, padH p, padH r, t, w, n⟩) (leP 4)
def noHd : THd := ⟨0, List.replicate 32 0, List.replicate 32 0, 0, 0, 0⟩
/-- A header out of a Reader: none where an error was met. -/
def takeHd (bs : List UInt8) (c : Nat) : THd × List UInt8 × Nat := if (hdP bs c).2.2 = 0 then hdP bs c else (noHd, (hdP bs c).2)
/-- Bytes as a header, or what is amiss. -/
def readHd (bs : List UInt8) : THd × Nat := if (hdP bs 0).2.2 ≠ 0 then (noHd, (hdP bs 0).2.2) else if (hdP bs 0).2.1 ≠ [] then (noHd, 2) else ((hdP bs 0).1, 0)
theorem hdB_length {h : THd} (hh : HdOk h) : (hdB h).length = 80 := by
  simp only [hdB, List.length_append, leB_length, hh.2.1, hh.2.2.1]
end Go.Proofs.YtlfpjfhpleociaaDoor.Sha
