/-
  NARROWER THAN 'FOR EVERY INPUT', by the rows' own cells (each row's printed sentence says how): BestPlays: laid · BestOver: laid · BestGoes: laid.
  DERIVED. THE GIVEN ROWS OF THIS SEAT. 3 by the template 'for every input the law returns true; each argument reads behind the call as it read before'; 0 by the template 'total and deterministic' (their statements: YtdhcjaflbfpalaaGreatDoorTotals.lean).
  GIVEN WITH THE SEED: the statements are not yours to turn. If you find one false, say at which input.
  Laid BY PROGRAM, IN A SANDBOX (cutbox-rows.mjs): the forced cells as the released guide's own fill.sh prints them over the translation ad4ed546017948e8… (all of the seat's roots in one cut). By AI agents, Wed Nov 11 2026. No macro, syntax, notation, axiom, sorry.
-/
import Derived.Test.YtdhcjaflbfpalaaGreatDoorChecked
import GoSem.Claim
import GoSem.ClaimJoined
import GoSem.ClaimMapViews
import Derived.JoinedTies
import Derived.KernelRfl
namespace Go.Proofs.YtdhcjaflbfpalaaGreatDoor
/- THE CELL 'sum', in the pinned program and in every row, IS THE sha256 OF THE DUMP (.gsa) THAT YtdhcjaflbfpalaaGreatDoorProg.lean LOADS. Nothing in Lean hashes anything: it is a label: what it is worth is what the hold of that sum in a sandbox is worth. -/
noncomputable def Tryz.pinned : Pinned := { name := "ytdhcjaflbfpalaagreatdoor", sum := "ad4ed546017948e8ad82f90be14885c11565ec35de383bf3c0d71e8bca04c221", checked := Tryz.checked }
namespace Rows
def none {H : Type} : Left H := { results := [], args := [] }

/- WHAT THE LISTED PACKAGE-LEVEL VARIABLES READ AS WHEN THE CALL BEGINS. Each datum BY PROGRAM (the guide's laid-datum.mjs) off the statement by which the dump's own 'gosem.cut.vars' lays the variable. In a bare row this is a premise. The card (YtdhcjaflbfpalaaGreatDoorCards.lean) ties it to the program's text. -/
def laid_sargasso_api_ErrKnown {H : Type} : DataW H := .iface "*errors.errorString" (.ptr (.agg [.lit (.string [107, 110, 111, 119, 110, 32, 97, 108, 114, 101, 97, 100, 121])]))
def laid_sargasso_api_ErrParent {H : Type} : DataW H := .iface "*errors.errorString" (.ptr (.agg [.lit (.string [110, 111, 32, 115, 117, 99, 104, 32, 112, 97, 114, 101, 110, 116])]))
def laid_sargasso_api_ErrFull {H : Type} : DataW H := .iface "*errors.errorString" (.ptr (.agg [.lit (.string [116, 104, 101, 114, 101, 32, 105, 115, 32, 110, 111, 32, 114, 111, 111, 109])]))
def laid_sargasso_digest_roundWords {H : Type} : DataW H := .agg [.lit (.int .u32 1116352408), .lit (.int .u32 1899447441), .lit (.int .u32 3049323471), .lit (.int .u32 3921009573), .lit (.int .u32 961987163), .lit (.int .u32 1508970993), .lit (.int .u32 2453635748), .lit (.int .u32 2870763221), .lit (.int .u32 3624381080), .lit (.int .u32 310598401), .lit (.int .u32 607225278), .lit (.int .u32 1426881987), .lit (.int .u32 1925078388), .lit (.int .u32 2162078206), .lit (.int .u32 2614888103), .lit (.int .u32 3248222580), .lit (.int .u32 3835390401), .lit (.int .u32 4022224774), .lit (.int .u32 264347078), .lit (.int .u32 604807628), .lit (.int .u32 770255983), .lit (.int .u32 1249150122), .lit (.int .u32 1555081692), .lit (.int .u32 1996064986), .lit (.int .u32 2554220882), .lit (.int .u32 2821834349), .lit (.int .u32 2952996808), .lit (.int .u32 3210313671), .lit (.int .u32 3336571891), .lit (.int .u32 3584528711), .lit (.int .u32 113926993), .lit (.int .u32 338241895), .lit (.int .u32 666307205), .lit (.int .u32 773529912), .lit (.int .u32 1294757372), .lit (.int .u32 1396182291), .lit (.int .u32 1695183700), .lit (.int .u32 1986661051), .lit (.int .u32 2177026350), .lit (.int .u32 2456956037), .lit (.int .u32 2730485921), .lit (.int .u32 2820302411), .lit (.int .u32 3259730800), .lit (.int .u32 3345764771), .lit (.int .u32 3516065817), .lit (.int .u32 3600352804), .lit (.int .u32 4094571909), .lit (.int .u32 275423344), .lit (.int .u32 430227734), .lit (.int .u32 506948616), .lit (.int .u32 659060556), .lit (.int .u32 883997877), .lit (.int .u32 958139571), .lit (.int .u32 1322822218), .lit (.int .u32 1537002063), .lit (.int .u32 1747873779), .lit (.int .u32 1955562222), .lit (.int .u32 2024104815), .lit (.int .u32 2227730452), .lit (.int .u32 2361852424), .lit (.int .u32 2428436474), .lit (.int .u32 2756734187), .lit (.int .u32 3204031479), .lit (.int .u32 3329325298)]

/-- 'sargassolaw13.BestPlays': WHATEVER THE INPUT: true; the input reads as it did. -/
def bestPlaysSpec : ChangeSpec := { name := "bestPlays", fn := fun _ => fun
  | [d] => { results := [.lit (.bool true)], args := [d] }
  | _ => none }
def bestPlaysRow : OpenClaim := { program := "ytdhcjaflbfpalaagreatdoor", sum := "ad4ed546017948e8ad82f90be14885c11565ec35de383bf3c0d71e8bca04c221", func := "sargasso/sargassolaw13.BestPlays", spec := "bestPlays", inPlace := ["internal/bytealg.Compare", "internal/reflectlite.ValueOf", "internal/reflectlite.Swapper", "(internal/reflectlite.Value).Len"], unfollowed := true, recurses := true, named := ["sargasso/digest.roundWords", "sargasso/api.ErrKnown", "sargasso/api.ErrParent", "sargasso/api.ErrFull"], plainKeys := false, apart := false, laid := [("sargasso/api.ErrKnown", laid_sargasso_api_ErrKnown), ("sargasso/api.ErrParent", laid_sargasso_api_ErrParent), ("sargasso/api.ErrFull", laid_sargasso_api_ErrFull), ("sargasso/digest.roundWords", laid_sargasso_digest_roundWords)] }
def BestPlaysSaid : Prop := bestPlaysRow.holds Tryz.pinned (OpenSpec.ofChange bestPlaysSpec)

/-- ITS FALSE NEIGHBOUR: 'it returns false'. Refute it at one input. -/
def bestPlaysWrong : ChangeSpec := { name := "bestPlays", fn := fun _ => fun
  | [d] => { results := [.lit (.bool false)], args := [d] }
  | _ => none }
def BestPlaysWrongFalsely : Prop := bestPlaysRow.holds Tryz.pinned (OpenSpec.ofChange bestPlaysWrong)

/-- 'sargassolaw13.BestOver': WHATEVER THE INPUT: true; the input reads as it did. -/
def bestOverSpec : ChangeSpec := { name := "bestOver", fn := fun _ => fun
  | [d1, d2, d3] => { results := [.lit (.bool true)], args := [d1, d2, d3] }
  | _ => none }
def bestOverRow : OpenClaim := { program := "ytdhcjaflbfpalaagreatdoor", sum := "ad4ed546017948e8ad82f90be14885c11565ec35de383bf3c0d71e8bca04c221", func := "sargasso/sargassolaw13.BestOver", spec := "bestOver", inPlace := ["internal/bytealg.Compare", "internal/reflectlite.ValueOf", "internal/reflectlite.Swapper", "(internal/reflectlite.Value).Len"], unfollowed := true, recurses := true, named := ["sargasso/digest.roundWords", "sargasso/api.ErrKnown", "sargasso/api.ErrParent", "sargasso/api.ErrFull"], plainKeys := false, apart := false, laid := [("sargasso/api.ErrKnown", laid_sargasso_api_ErrKnown), ("sargasso/api.ErrParent", laid_sargasso_api_ErrParent), ("sargasso/api.ErrFull", laid_sargasso_api_ErrFull), ("sargasso/digest.roundWords", laid_sargasso_digest_roundWords)] }
def BestOverSaid : Prop := bestOverRow.holds Tryz.pinned (OpenSpec.ofChange bestOverSpec)

/-- ITS FALSE NEIGHBOUR: 'it returns false'. Refute it at one input. -/
def bestOverWrong : ChangeSpec := { name := "bestOver", fn := fun _ => fun
  | [d1, d2, d3] => { results := [.lit (.bool false)], args := [d1, d2, d3] }
  | _ => none }
def BestOverWrongFalsely : Prop := bestOverRow.holds Tryz.pinned (OpenSpec.ofChange bestOverWrong)

/-- 'sargassolaw13.BestGoes': WHATEVER THE INPUT: true; the input reads as it did. -/
def bestGoesSpec : ChangeSpec := { name := "bestGoes", fn := fun _ => fun
  | [d] => { results := [.lit (.bool true)], args := [d] }
  | _ => none }
def bestGoesRow : OpenClaim := { program := "ytdhcjaflbfpalaagreatdoor", sum := "ad4ed546017948e8ad82f90be14885c11565ec35de383bf3c0d71e8bca04c221", func := "sargasso/sargassolaw13.BestGoes", spec := "bestGoes", inPlace := ["internal/bytealg.Compare", "internal/reflectlite.ValueOf", "internal/reflectlite.Swapper", "(internal/reflectlite.Value).Len"], unfollowed := true, recurses := true, named := ["sargasso/digest.roundWords", "sargasso/api.ErrKnown", "sargasso/api.ErrParent", "sargasso/api.ErrFull"], plainKeys := false, apart := false, laid := [("sargasso/api.ErrKnown", laid_sargasso_api_ErrKnown), ("sargasso/api.ErrParent", laid_sargasso_api_ErrParent), ("sargasso/api.ErrFull", laid_sargasso_api_ErrFull), ("sargasso/digest.roundWords", laid_sargasso_digest_roundWords)] }
def BestGoesSaid : Prop := bestGoesRow.holds Tryz.pinned (OpenSpec.ofChange bestGoesSpec)

/-- ITS FALSE NEIGHBOUR: 'it returns false'. Refute it at one input. -/
def bestGoesWrong : ChangeSpec := { name := "bestGoes", fn := fun _ => fun
  | [d] => { results := [.lit (.bool false)], args := [d] }
  | _ => none }
def BestGoesWrongFalsely : Prop := bestGoesRow.holds Tryz.pinned (OpenSpec.ofChange bestGoesWrong)

/- THE SECOND FORM. 'bulk': how many values and letters a reading holds, each counted each time it is reached (what is shared counts as often as it is met; a slice's spare places count too). A statement '..UptoSaid' is the law's where the arguments, and the package variables that the reading takes, are together of bulk at most 1048576: NARROWER than '..Said'. Prove '..Said' where nothing that the law and all that it calls make is longer than what came in: it says more and counts as full. Else prove '..UptoSaid'. A law counts once. -/
mutual
def uptoBulk {H : Type} : DataW H → Nat
  | .lit (.string bytes) => bytes.length + 1
  | .lit _ => 1
  | .nil => 1
  | .ptr d => uptoBulk d + 1
  | .slice elems spare => uptoBulkAll elems + uptoBulkAll spare + 1
  | .agg parts => uptoBulkAll parts + 1
  | .iface _ d => uptoBulk d + 1
  | .map entries => uptoBulkEntries entries + 1
  | .held _ => 1
def uptoBulkAll {H : Type} : List (DataW H) → Nat
  | [] => 0
  | d :: r => uptoBulk d + uptoBulkAll r
def uptoBulkEntries {H : Type} : List (Lit × DataW H) → Nat
  | [] => 0
  | x :: r => uptoBulkEntry x + uptoBulkEntries r
def uptoBulkEntry {H : Type} : Lit × DataW H → Nat
  | (.string bytes, d) => bytes.length + uptoBulk d + 1
  | (_, d) => uptoBulk d + 1
 end
def uptoSmall : (H : Type) → List (DataW H) → Bool := fun _ ds => decide (uptoBulkAll ds ≤ 1048576)
def OpenSpec.upto (s : _root_.Go.ChangeSpec) : _root_.Go.OpenSpec := { _root_.Go.OpenSpec.ofChange s with cond := some uptoSmall }

/-- 'sargassolaw13.BestPlays', WHERE WHAT IT READS IS OF BULK AT MOST 1048576: true; the input reads as it did. -/
def bestPlaysUptoRow : OpenClaim := { program := "ytdhcjaflbfpalaagreatdoor", sum := "ad4ed546017948e8ad82f90be14885c11565ec35de383bf3c0d71e8bca04c221", func := "sargasso/sargassolaw13.BestPlays", spec := "bestPlays", inPlace := ["internal/bytealg.Compare", "internal/reflectlite.ValueOf", "internal/reflectlite.Swapper", "(internal/reflectlite.Value).Len"], unfollowed := true, recurses := true, named := ["sargasso/digest.roundWords", "sargasso/api.ErrKnown", "sargasso/api.ErrParent", "sargasso/api.ErrFull"], plainKeys := false, apart := false, laid := [("sargasso/api.ErrKnown", laid_sargasso_api_ErrKnown), ("sargasso/api.ErrParent", laid_sargasso_api_ErrParent), ("sargasso/api.ErrFull", laid_sargasso_api_ErrFull), ("sargasso/digest.roundWords", laid_sargasso_digest_roundWords)], narrowed := true }
def BestPlaysUptoSaid : Prop := bestPlaysUptoRow.holds Tryz.pinned (OpenSpec.upto bestPlaysSpec)

/-- 'sargassolaw13.BestOver', WHERE WHAT IT READS IS OF BULK AT MOST 1048576: true; the input reads as it did. -/
def bestOverUptoRow : OpenClaim := { program := "ytdhcjaflbfpalaagreatdoor", sum := "ad4ed546017948e8ad82f90be14885c11565ec35de383bf3c0d71e8bca04c221", func := "sargasso/sargassolaw13.BestOver", spec := "bestOver", inPlace := ["internal/bytealg.Compare", "internal/reflectlite.ValueOf", "internal/reflectlite.Swapper", "(internal/reflectlite.Value).Len"], unfollowed := true, recurses := true, named := ["sargasso/digest.roundWords", "sargasso/api.ErrKnown", "sargasso/api.ErrParent", "sargasso/api.ErrFull"], plainKeys := false, apart := false, laid := [("sargasso/api.ErrKnown", laid_sargasso_api_ErrKnown), ("sargasso/api.ErrParent", laid_sargasso_api_ErrParent), ("sargasso/api.ErrFull", laid_sargasso_api_ErrFull), ("sargasso/digest.roundWords", laid_sargasso_digest_roundWords)], narrowed := true }
def BestOverUptoSaid : Prop := bestOverUptoRow.holds Tryz.pinned (OpenSpec.upto bestOverSpec)

/-- 'sargassolaw13.BestGoes', WHERE WHAT IT READS IS OF BULK AT MOST 1048576: true; the input reads as it did. -/
def bestGoesUptoRow : OpenClaim := { program := "ytdhcjaflbfpalaagreatdoor", sum := "ad4ed546017948e8ad82f90be14885c11565ec35de383bf3c0d71e8bca04c221", func := "sargasso/sargassolaw13.BestGoes", spec := "bestGoes", inPlace := ["internal/bytealg.Compare", "internal/reflectlite.ValueOf", "internal/reflectlite.Swapper", "(internal/reflectlite.Value).Len"], unfollowed := true, recurses := true, named := ["sargasso/digest.roundWords", "sargasso/api.ErrKnown", "sargasso/api.ErrParent", "sargasso/api.ErrFull"], plainKeys := false, apart := false, laid := [("sargasso/api.ErrKnown", laid_sargasso_api_ErrKnown), ("sargasso/api.ErrParent", laid_sargasso_api_ErrParent), ("sargasso/api.ErrFull", laid_sargasso_api_ErrFull), ("sargasso/digest.roundWords", laid_sargasso_digest_roundWords)], narrowed := true }
def BestGoesUptoSaid : Prop := bestGoesUptoRow.holds Tryz.pinned (OpenSpec.upto bestGoesSpec)

end Rows
end Go.Proofs.YtdhcjaflbfpalaaGreatDoor
