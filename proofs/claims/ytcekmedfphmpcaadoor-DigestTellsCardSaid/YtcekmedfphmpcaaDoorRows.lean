/-
  NARROWER THAN 'FOR EVERY INPUT', by the rows' own cells (each row's printed sentence says how): DigestTells: laid · DigestHexes: laid · DigestDetects: laid · DigestResidue: laid · DigestXors: laid · DigestShorts: laid.
  DERIVED. THE GIVEN ROWS OF THIS SEAT. 6 by the template 'for every input the law returns true; each argument reads behind the call as it read before'; 0 by the template 'total and deterministic' (their statements: YtcekmedfphmpcaaDoorTotals.lean).
  GIVEN WITH THE SEED: the statements are not yours to turn. If you find one false, say at which input.
  Laid BY PROGRAM, IN A SANDBOX (cutbox-rows.mjs): the forced cells as the released guide's own fill.sh prints them over the translation 3f2164697b89a4fb… (all of the seat's roots in one cut). By AI agents, Wed Nov 11 2026. No macro, syntax, notation, axiom, sorry.
-/
import Derived.Test.YtcekmedfphmpcaaDoorChecked
import GoSem.Claim
import GoSem.ClaimJoined
import GoSem.ClaimMapViews
import Derived.JoinedTies
import Derived.KernelRfl
namespace Go.Proofs.YtcekmedfphmpcaaDoor
/- THE CELL 'sum', in the pinned program and in every row, IS THE sha256 OF THE DUMP (.gsa) THAT YtcekmedfphmpcaaDoorProg.lean LOADS. Nothing in Lean hashes anything: it is a label: what it is worth is what the hold of that sum in a sandbox is worth. -/
noncomputable def Tryd.pinned : Pinned := { name := "ytcekmedfphmpcaadoor", sum := "3f2164697b89a4fb123065f5e47ba256efe11e86248ca7ecb3644ab28cf1bf58", checked := Tryd.checked }
namespace Rows
def none {H : Type} : Left H := { results := [], args := [] }

/- WHAT THE LISTED PACKAGE-LEVEL VARIABLES READ AS WHEN THE CALL BEGINS. Each datum BY PROGRAM (the guide's laid-datum.mjs) off the statement by which the dump's own 'gosem.cut.vars' lays the variable. In a bare row this is a premise. The card (YtcekmedfphmpcaaDoorCards.lean) ties it to the program's text. -/
def laid_linchpin_digest_rotations {H : Type} : DataW H := .agg [.lit (.int .i64 0), .lit (.int .i64 1), .lit (.int .i64 62), .lit (.int .i64 28), .lit (.int .i64 27), .lit (.int .i64 36), .lit (.int .i64 44), .lit (.int .i64 6), .lit (.int .i64 55), .lit (.int .i64 20), .lit (.int .i64 3), .lit (.int .i64 10), .lit (.int .i64 43), .lit (.int .i64 25), .lit (.int .i64 39), .lit (.int .i64 41), .lit (.int .i64 45), .lit (.int .i64 15), .lit (.int .i64 21), .lit (.int .i64 8), .lit (.int .i64 18), .lit (.int .i64 2), .lit (.int .i64 61), .lit (.int .i64 56), .lit (.int .i64 14)]
def laid_linchpin_digest_constants {H : Type} : DataW H := .agg [.lit (.int .u64 1), .lit (.int .u64 32898), .lit (.int .u64 9223372036854808714), .lit (.int .u64 9223372039002292224), .lit (.int .u64 32907), .lit (.int .u64 2147483649), .lit (.int .u64 9223372039002292353), .lit (.int .u64 9223372036854808585), .lit (.int .u64 138), .lit (.int .u64 136), .lit (.int .u64 2147516425), .lit (.int .u64 2147483658), .lit (.int .u64 2147516555), .lit (.int .u64 9223372036854775947), .lit (.int .u64 9223372036854808713), .lit (.int .u64 9223372036854808579), .lit (.int .u64 9223372036854808578), .lit (.int .u64 9223372036854775936), .lit (.int .u64 32778), .lit (.int .u64 9223372039002259466), .lit (.int .u64 9223372039002292353), .lit (.int .u64 9223372036854808704), .lit (.int .u64 2147483649), .lit (.int .u64 9223372039002292232)]

/-- 'linchpinlaw03.DigestTells': WHATEVER THE INPUT: true; the input reads as it did. -/
def digestTellsSpec : ChangeSpec := { name := "digestTells", fn := fun _ => fun
  | [d1, d2] => { results := [.lit (.bool true)], args := [d1, d2] }
  | _ => none }
def digestTellsRow : OpenClaim := { program := "ytcekmedfphmpcaadoor", sum := "3f2164697b89a4fb123065f5e47ba256efe11e86248ca7ecb3644ab28cf1bf58", func := "linchpin/linchpinlaw03.DigestTells", spec := "digestTells", inPlace := ["internal/bytealg.IndexByteString"], named := ["linchpin/digest.constants", "linchpin/digest.rotations"], apart := false, laid := [("linchpin/digest.rotations", laid_linchpin_digest_rotations), ("linchpin/digest.constants", laid_linchpin_digest_constants)] }
def DigestTellsSaid : Prop := digestTellsRow.holds Tryd.pinned (OpenSpec.ofChange digestTellsSpec)

/-- ITS FALSE NEIGHBOUR: 'it returns false'. Refute it at one input. -/
def digestTellsWrong : ChangeSpec := { name := "digestTells", fn := fun _ => fun
  | [d1, d2] => { results := [.lit (.bool false)], args := [d1, d2] }
  | _ => none }
def DigestTellsWrongFalsely : Prop := digestTellsRow.holds Tryd.pinned (OpenSpec.ofChange digestTellsWrong)

/-- 'linchpinlaw03.DigestHexes': WHATEVER THE INPUT: true; the input reads as it did. -/
def digestHexesSpec : ChangeSpec := { name := "digestHexes", fn := fun _ => fun
  | [d1, d2] => { results := [.lit (.bool true)], args := [d1, d2] }
  | _ => none }
def digestHexesRow : OpenClaim := { program := "ytcekmedfphmpcaadoor", sum := "3f2164697b89a4fb123065f5e47ba256efe11e86248ca7ecb3644ab28cf1bf58", func := "linchpin/linchpinlaw03.DigestHexes", spec := "digestHexes", inPlace := ["internal/bytealg.IndexByteString"], named := ["linchpin/digest.constants", "linchpin/digest.rotations"], apart := false, laid := [("linchpin/digest.rotations", laid_linchpin_digest_rotations), ("linchpin/digest.constants", laid_linchpin_digest_constants)] }
def DigestHexesSaid : Prop := digestHexesRow.holds Tryd.pinned (OpenSpec.ofChange digestHexesSpec)

/-- ITS FALSE NEIGHBOUR: 'it returns false'. Refute it at one input. -/
def digestHexesWrong : ChangeSpec := { name := "digestHexes", fn := fun _ => fun
  | [d1, d2] => { results := [.lit (.bool false)], args := [d1, d2] }
  | _ => none }
def DigestHexesWrongFalsely : Prop := digestHexesRow.holds Tryd.pinned (OpenSpec.ofChange digestHexesWrong)

/-- 'linchpinlaw03.DigestDetects': WHATEVER THE INPUT: true; the input reads as it did. -/
def digestDetectsSpec : ChangeSpec := { name := "digestDetects", fn := fun _ => fun
  | [d1, d2, d3] => { results := [.lit (.bool true)], args := [d1, d2, d3] }
  | _ => none }
def digestDetectsRow : OpenClaim := { program := "ytcekmedfphmpcaadoor", sum := "3f2164697b89a4fb123065f5e47ba256efe11e86248ca7ecb3644ab28cf1bf58", func := "linchpin/linchpinlaw03.DigestDetects", spec := "digestDetects", inPlace := ["internal/bytealg.IndexByteString"], named := ["linchpin/digest.constants", "linchpin/digest.rotations"], apart := false, laid := [("linchpin/digest.rotations", laid_linchpin_digest_rotations), ("linchpin/digest.constants", laid_linchpin_digest_constants)] }
def DigestDetectsSaid : Prop := digestDetectsRow.holds Tryd.pinned (OpenSpec.ofChange digestDetectsSpec)

/-- ITS FALSE NEIGHBOUR: 'it returns false'. Refute it at one input. -/
def digestDetectsWrong : ChangeSpec := { name := "digestDetects", fn := fun _ => fun
  | [d1, d2, d3] => { results := [.lit (.bool false)], args := [d1, d2, d3] }
  | _ => none }
def DigestDetectsWrongFalsely : Prop := digestDetectsRow.holds Tryd.pinned (OpenSpec.ofChange digestDetectsWrong)

/-- 'linchpinlaw03.DigestResidue': WHATEVER THE INPUT: true; the input reads as it did. -/
def digestResidueSpec : ChangeSpec := { name := "digestResidue", fn := fun _ => fun
  | [d] => { results := [.lit (.bool true)], args := [d] }
  | _ => none }
def digestResidueRow : OpenClaim := { program := "ytcekmedfphmpcaadoor", sum := "3f2164697b89a4fb123065f5e47ba256efe11e86248ca7ecb3644ab28cf1bf58", func := "linchpin/linchpinlaw03.DigestResidue", spec := "digestResidue", inPlace := ["internal/bytealg.IndexByteString"], named := ["linchpin/digest.constants", "linchpin/digest.rotations"], apart := false, laid := [("linchpin/digest.rotations", laid_linchpin_digest_rotations), ("linchpin/digest.constants", laid_linchpin_digest_constants)] }
def DigestResidueSaid : Prop := digestResidueRow.holds Tryd.pinned (OpenSpec.ofChange digestResidueSpec)

/-- ITS FALSE NEIGHBOUR: 'it returns false'. Refute it at one input. -/
def digestResidueWrong : ChangeSpec := { name := "digestResidue", fn := fun _ => fun
  | [d] => { results := [.lit (.bool false)], args := [d] }
  | _ => none }
def DigestResidueWrongFalsely : Prop := digestResidueRow.holds Tryd.pinned (OpenSpec.ofChange digestResidueWrong)

/-- 'linchpinlaw03.DigestXors': WHATEVER THE INPUT: true; the input reads as it did. -/
def digestXorsSpec : ChangeSpec := { name := "digestXors", fn := fun _ => fun
  | [d1, d2, d3] => { results := [.lit (.bool true)], args := [d1, d2, d3] }
  | _ => none }
def digestXorsRow : OpenClaim := { program := "ytcekmedfphmpcaadoor", sum := "3f2164697b89a4fb123065f5e47ba256efe11e86248ca7ecb3644ab28cf1bf58", func := "linchpin/linchpinlaw03.DigestXors", spec := "digestXors", inPlace := ["internal/bytealg.IndexByteString"], named := ["linchpin/digest.constants", "linchpin/digest.rotations"], apart := false, laid := [("linchpin/digest.rotations", laid_linchpin_digest_rotations), ("linchpin/digest.constants", laid_linchpin_digest_constants)] }
def DigestXorsSaid : Prop := digestXorsRow.holds Tryd.pinned (OpenSpec.ofChange digestXorsSpec)

/-- ITS FALSE NEIGHBOUR: 'it returns false'. Refute it at one input. -/
def digestXorsWrong : ChangeSpec := { name := "digestXors", fn := fun _ => fun
  | [d1, d2, d3] => { results := [.lit (.bool false)], args := [d1, d2, d3] }
  | _ => none }
def DigestXorsWrongFalsely : Prop := digestXorsRow.holds Tryd.pinned (OpenSpec.ofChange digestXorsWrong)

/-- 'linchpinlaw03.DigestShorts': WHATEVER THE INPUT: true; the input reads as it did. -/
def digestShortsSpec : ChangeSpec := { name := "digestShorts", fn := fun _ => fun
  | [d] => { results := [.lit (.bool true)], args := [d] }
  | _ => none }
def digestShortsRow : OpenClaim := { program := "ytcekmedfphmpcaadoor", sum := "3f2164697b89a4fb123065f5e47ba256efe11e86248ca7ecb3644ab28cf1bf58", func := "linchpin/linchpinlaw03.DigestShorts", spec := "digestShorts", inPlace := ["internal/bytealg.IndexByteString"], named := ["linchpin/digest.constants", "linchpin/digest.rotations"], apart := false, laid := [("linchpin/digest.rotations", laid_linchpin_digest_rotations), ("linchpin/digest.constants", laid_linchpin_digest_constants)] }
def DigestShortsSaid : Prop := digestShortsRow.holds Tryd.pinned (OpenSpec.ofChange digestShortsSpec)

/-- ITS FALSE NEIGHBOUR: 'it returns false'. Refute it at one input. -/
def digestShortsWrong : ChangeSpec := { name := "digestShorts", fn := fun _ => fun
  | [d] => { results := [.lit (.bool false)], args := [d] }
  | _ => none }
def DigestShortsWrongFalsely : Prop := digestShortsRow.holds Tryd.pinned (OpenSpec.ofChange digestShortsWrong)

/- THE SECOND FORM. 'bulk': how many values and letters a reading holds, each counted each time it is reached (what is shared counts as often as it is met; a slice's spare places count too). A statement '..UptoSaid' is the law's where the arguments, and the package variables that the reading takes, are together of bulk at most 1048576: NARROWER than '..Said'. Prove '..Said' where nothing that the law and all that it calls make is longer than what came in: it says more and counts as full. Else prove '..UptoSaid'. A law counts once. -/
mutual
def uptoBulk {H : Type} : DataW H → Nat
  | .lit (.string bytes) => bytes.length + 1
  | .lit _ => 1
  | .nil => 1
  | .ptr d => uptoBulk d + 1
  | .slice elems spare => uptoBulkAll elems + uptoBulkAll spare + 1
  | .agg parts => uptoBulkAll parts + 1
  | .iface _ d => uptoBulk d + 1
  | .map entries => uptoBulkEntries entries + 1
  | .held _ => 1
def uptoBulkAll {H : Type} : List (DataW H) → Nat
  | [] => 0
  | d :: r => uptoBulk d + uptoBulkAll r
def uptoBulkEntries {H : Type} : List (Lit × DataW H) → Nat
  | [] => 0
  | x :: r => uptoBulkEntry x + uptoBulkEntries r
def uptoBulkEntry {H : Type} : Lit × DataW H → Nat
  | (.string bytes, d) => bytes.length + uptoBulk d + 1
  | (_, d) => uptoBulk d + 1
 end
def uptoSmall : (H : Type) → List (DataW H) → Bool := fun _ ds => decide (uptoBulkAll ds ≤ 1048576)
def OpenSpec.upto (s : _root_.Go.ChangeSpec) : _root_.Go.OpenSpec := { _root_.Go.OpenSpec.ofChange s with cond := some uptoSmall }

/-- 'linchpinlaw03.DigestTells', WHERE WHAT IT READS IS OF BULK AT MOST 1048576: true; the input reads as it did. -/
def digestTellsUptoRow : OpenClaim := { program := "ytcekmedfphmpcaadoor", sum := "3f2164697b89a4fb123065f5e47ba256efe11e86248ca7ecb3644ab28cf1bf58", func := "linchpin/linchpinlaw03.DigestTells", spec := "digestTells", inPlace := ["internal/bytealg.IndexByteString"], named := ["linchpin/digest.constants", "linchpin/digest.rotations"], apart := false, laid := [("linchpin/digest.rotations", laid_linchpin_digest_rotations), ("linchpin/digest.constants", laid_linchpin_digest_constants)], narrowed := true }
def DigestTellsUptoSaid : Prop := digestTellsUptoRow.holds Tryd.pinned (OpenSpec.upto digestTellsSpec)

/-- 'linchpinlaw03.DigestHexes', WHERE WHAT IT READS IS OF BULK AT MOST 1048576: true; the input reads as it did. -/
def digestHexesUptoRow : OpenClaim := { program := "ytcekmedfphmpcaadoor", sum := "3f2164697b89a4fb123065f5e47ba256efe11e86248ca7ecb3644ab28cf1bf58", func := "linchpin/linchpinlaw03.DigestHexes", spec := "digestHexes", inPlace := ["internal/bytealg.IndexByteString"], named := ["linchpin/digest.constants", "linchpin/digest.rotations"], apart := false, laid := [("linchpin/digest.rotations", laid_linchpin_digest_rotations), ("linchpin/digest.constants", laid_linchpin_digest_constants)], narrowed := true }
def DigestHexesUptoSaid : Prop := digestHexesUptoRow.holds Tryd.pinned (OpenSpec.upto digestHexesSpec)

/-- 'linchpinlaw03.DigestDetects', WHERE WHAT IT READS IS OF BULK AT MOST 1048576: true; the input reads as it did. -/
def digestDetectsUptoRow : OpenClaim := { program := "ytcekmedfphmpcaadoor", sum := "3f2164697b89a4fb123065f5e47ba256efe11e86248ca7ecb3644ab28cf1bf58", func := "linchpin/linchpinlaw03.DigestDetects", spec := "digestDetects", inPlace := ["internal/bytealg.IndexByteString"], named := ["linchpin/digest.constants", "linchpin/digest.rotations"], apart := false, laid := [("linchpin/digest.rotations", laid_linchpin_digest_rotations), ("linchpin/digest.constants", laid_linchpin_digest_constants)], narrowed := true }
def DigestDetectsUptoSaid : Prop := digestDetectsUptoRow.holds Tryd.pinned (OpenSpec.upto digestDetectsSpec)

/-- 'linchpinlaw03.DigestResidue', WHERE WHAT IT READS IS OF BULK AT MOST 1048576: true; the input reads as it did. -/
def digestResidueUptoRow : OpenClaim := { program := "ytcekmedfphmpcaadoor", sum := "3f2164697b89a4fb123065f5e47ba256efe11e86248ca7ecb3644ab28cf1bf58", func := "linchpin/linchpinlaw03.DigestResidue", spec := "digestResidue", inPlace := ["internal/bytealg.IndexByteString"], named := ["linchpin/digest.constants", "linchpin/digest.rotations"], apart := false, laid := [("linchpin/digest.rotations", laid_linchpin_digest_rotations), ("linchpin/digest.constants", laid_linchpin_digest_constants)], narrowed := true }
def DigestResidueUptoSaid : Prop := digestResidueUptoRow.holds Tryd.pinned (OpenSpec.upto digestResidueSpec)

/-- 'linchpinlaw03.DigestXors', WHERE WHAT IT READS IS OF BULK AT MOST 1048576: true; the input reads as it did. -/
def digestXorsUptoRow : OpenClaim := { program := "ytcekmedfphmpcaadoor", sum := "3f2164697b89a4fb123065f5e47ba256efe11e86248ca7ecb3644ab28cf1bf58", func := "linchpin/linchpinlaw03.DigestXors", spec := "digestXors", inPlace := ["internal/bytealg.IndexByteString"], named := ["linchpin/digest.constants", "linchpin/digest.rotations"], apart := false, laid := [("linchpin/digest.rotations", laid_linchpin_digest_rotations), ("linchpin/digest.constants", laid_linchpin_digest_constants)], narrowed := true }
def DigestXorsUptoSaid : Prop := digestXorsUptoRow.holds Tryd.pinned (OpenSpec.upto digestXorsSpec)

/-- 'linchpinlaw03.DigestShorts', WHERE WHAT IT READS IS OF BULK AT MOST 1048576: true; the input reads as it did. -/
def digestShortsUptoRow : OpenClaim := { program := "ytcekmedfphmpcaadoor", sum := "3f2164697b89a4fb123065f5e47ba256efe11e86248ca7ecb3644ab28cf1bf58", func := "linchpin/linchpinlaw03.DigestShorts", spec := "digestShorts", inPlace := ["internal/bytealg.IndexByteString"], named := ["linchpin/digest.constants", "linchpin/digest.rotations"], apart := false, laid := [("linchpin/digest.rotations", laid_linchpin_digest_rotations), ("linchpin/digest.constants", laid_linchpin_digest_constants)], narrowed := true }
def DigestShortsUptoSaid : Prop := digestShortsUptoRow.holds Tryd.pinned (OpenSpec.upto digestShortsSpec)

end Rows
end Go.Proofs.YtcekmedfphmpcaaDoor
