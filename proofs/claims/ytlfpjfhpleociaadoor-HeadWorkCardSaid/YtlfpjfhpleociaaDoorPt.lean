/-
  A place (api.Point) as the model has it: 32 bytes and a number, 33 cells; how two are held against each other. Conditions: digests of 32 bytes.
-/
import Derived.Deep.MidRow
import Derived.Stop.BytesEq
import Derived.Test.YtlfpjfhpleociaaDoorBase
namespace Go.Proofs.YtlfpjfhpleociaaDoor.Sha
open Go Go.RowKit
/-- A number of 32 bits as a cell. -/
def nV (n : Nat) : Value := .int .u32 (n : Int)
/-- A place: its transaction's digest, its number. -/
def ptL (h : List UInt8) (n : Nat) : List Value := h.map bV ++ [nV n]
/-- A part of a block is read, in a list, where its guard asks for it. -/
theorem wpList_load_midG {P : Program} {ops : Array Oper} {rest : List Oper} {o : Oper} {a : Act} {w : World} {Q : Exit → Act → World → Prop} (ty : TypeId) (x : Operand) (ho : o.op = .load ty x)
    (b off : Nat) (hx : a.eval x = .pointer (some ⟨b, off, none⟩)) (cs : List Value) (d : TypeDesc) (hc : w.rangeAt b off cs)
    (hu : P.underlying ty = some d) (hd : d.isRow = true) (hi : (P.info? ty).map (·.size) = some cs.length) (hw : Region.wanted o (yielded ops a.tmps) = true)
    (h : wpList P ops Q rest (a.put o.dst (.agg cs.toArray)) w) : wpList P ops Q (o :: rest) a w :=
  wpList_step fun _ hK => by
    rw [if_pos hw]
    exact wp_load_mid ty x ho b off hx cs d hc hu hd hi (hK _ _ h)
end Go.Proofs.YtlfpjfhpleociaaDoor.Sha
