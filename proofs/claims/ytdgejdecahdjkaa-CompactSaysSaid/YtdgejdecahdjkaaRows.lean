/-
  No cell of these rows narrows 'for every input' (looked for: loops, veiled, ifaces, maps, wideKeys, modest, calm, conditions, laid).
  DERIVED. THE GIVEN ROWS OF THIS SEAT. 2 by the template 'for every input the law returns true; each argument reads behind the call as it read before'; 0 by the template 'total and deterministic' (their statements: YtdgejdecahdjkaaTotals.lean).
  GIVEN WITH THE SEED: the statements are not yours to turn. If you find one false, say at which input.
  Laid BY PROGRAM, IN A SANDBOX (cutbox-rows.mjs): the forced cells as the released guide's own fill.sh prints them over the translation a891d071bcf659f1… (all of the seat's roots in one cut). By AI agents, Wed Nov 11 2026. No macro, syntax, notation, axiom, sorry.
-/
import Derived.Test.YtdgejdecahdjkaaChecked
import GoSem.Claim
import GoSem.ClaimJoined
import GoSem.ClaimMapViews
import Derived.JoinedTies
import Derived.KernelRfl
namespace Go.Proofs.Ytdgejdecahdjkaa
/- THE CELL 'sum', in the pinned program and in every row, IS THE sha256 OF THE DUMP (.gsa) THAT YtdgejdecahdjkaaProg.lean LOADS. Nothing in Lean hashes anything: it is a label: what it is worth is what the hold of that sum in a sandbox is worth. -/
noncomputable def Try.pinned : Pinned := { name := "ytdgejdecahdjkaa", sum := "a891d071bcf659f15531e364e0d08afaff4960d9d86c85ec9475264c33929bdf", checked := Try.checked }
namespace Rows
def none {H : Type} : Left H := { results := [], args := [] }

/-- 'sargassolaw2.CompactSays': WHATEVER THE INPUT: true; the input reads as it did. -/
def compactSaysSpec : ChangeSpec := { name := "compactSays", fn := fun _ => fun
  | [d1, d2, d3] => { results := [.lit (.bool true)], args := [d1, d2, d3] }
  | _ => none }
def compactSaysRow : OpenClaim := { program := "ytdgejdecahdjkaa", sum := "a891d071bcf659f15531e364e0d08afaff4960d9d86c85ec9475264c33929bdf", func := "sargasso/sargassolaw2.CompactSays", spec := "compactSays", apart := false }
def CompactSaysSaid : Prop := compactSaysRow.holds Try.pinned (OpenSpec.ofChange compactSaysSpec)

/-- ITS FALSE NEIGHBOUR: 'it returns false'. Refute it at one input. -/
def compactSaysWrong : ChangeSpec := { name := "compactSays", fn := fun _ => fun
  | [d1, d2, d3] => { results := [.lit (.bool false)], args := [d1, d2, d3] }
  | _ => none }
def CompactSaysWrongFalsely : Prop := compactSaysRow.holds Try.pinned (OpenSpec.ofChange compactSaysWrong)

/-- 'sargassolaw2.CompactSums': WHATEVER THE INPUT: true; the input reads as it did. -/
def compactSumsSpec : ChangeSpec := { name := "compactSums", fn := fun _ => fun
  | [d1, d2] => { results := [.lit (.bool true)], args := [d1, d2] }
  | _ => none }
def compactSumsRow : OpenClaim := { program := "ytdgejdecahdjkaa", sum := "a891d071bcf659f15531e364e0d08afaff4960d9d86c85ec9475264c33929bdf", func := "sargasso/sargassolaw2.CompactSums", spec := "compactSums", apart := false }
def CompactSumsSaid : Prop := compactSumsRow.holds Try.pinned (OpenSpec.ofChange compactSumsSpec)

/-- ITS FALSE NEIGHBOUR: 'it returns false'. Refute it at one input. -/
def compactSumsWrong : ChangeSpec := { name := "compactSums", fn := fun _ => fun
  | [d1, d2] => { results := [.lit (.bool false)], args := [d1, d2] }
  | _ => none }
def CompactSumsWrongFalsely : Prop := compactSumsRow.holds Try.pinned (OpenSpec.ofChange compactSumsWrong)

/- THE SECOND FORM. 'bulk': how many values and letters a reading holds, each counted each time it is reached (what is shared counts as often as it is met; a slice's spare places count too). A statement '..UptoSaid' is the law's where the arguments, and the package variables that the reading takes, are together of bulk at most 1048576: NARROWER than '..Said'. Prove '..Said' where nothing that the law and all that it calls make is longer than what came in: it says more and counts as full. Else prove '..UptoSaid'. A law counts once. -/
mutual
def uptoBulk {H : Type} : DataW H → Nat
  | .lit (.string bytes) => bytes.length + 1
  | .lit _ => 1
  | .nil => 1
  | .ptr d => uptoBulk d + 1
  | .slice elems spare => uptoBulkAll elems + uptoBulkAll spare + 1
  | .agg parts => uptoBulkAll parts + 1
  | .iface _ d => uptoBulk d + 1
  | .map entries => uptoBulkEntries entries + 1
  | .held _ => 1
def uptoBulkAll {H : Type} : List (DataW H) → Nat
  | [] => 0
  | d :: r => uptoBulk d + uptoBulkAll r
def uptoBulkEntries {H : Type} : List (Lit × DataW H) → Nat
  | [] => 0
  | x :: r => uptoBulkEntry x + uptoBulkEntries r
def uptoBulkEntry {H : Type} : Lit × DataW H → Nat
  | (.string bytes, d) => bytes.length + uptoBulk d + 1
  | (_, d) => uptoBulk d + 1
 end
def uptoSmall : (H : Type) → List (DataW H) → Bool := fun _ ds => decide (uptoBulkAll ds ≤ 1048576)
def OpenSpec.upto (s : _root_.Go.ChangeSpec) : _root_.Go.OpenSpec := { _root_.Go.OpenSpec.ofChange s with cond := some uptoSmall }

/-- 'sargassolaw2.CompactSays', WHERE WHAT IT READS IS OF BULK AT MOST 1048576: true; the input reads as it did. -/
def compactSaysUptoRow : OpenClaim := { program := "ytdgejdecahdjkaa", sum := "a891d071bcf659f15531e364e0d08afaff4960d9d86c85ec9475264c33929bdf", func := "sargasso/sargassolaw2.CompactSays", spec := "compactSays", apart := false, narrowed := true }
def CompactSaysUptoSaid : Prop := compactSaysUptoRow.holds Try.pinned (OpenSpec.upto compactSaysSpec)

/-- 'sargassolaw2.CompactSums', WHERE WHAT IT READS IS OF BULK AT MOST 1048576: true; the input reads as it did. -/
def compactSumsUptoRow : OpenClaim := { program := "ytdgejdecahdjkaa", sum := "a891d071bcf659f15531e364e0d08afaff4960d9d86c85ec9475264c33929bdf", func := "sargasso/sargassolaw2.CompactSums", spec := "compactSums", apart := false, narrowed := true }
def CompactSumsUptoSaid : Prop := compactSumsUptoRow.holds Try.pinned (OpenSpec.upto compactSumsSpec)

end Rows
end Go.Proofs.Ytdgejdecahdjkaa
