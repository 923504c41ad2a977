/-
  No cell of these rows narrows 'for every input' (looked for: loops, veiled, ifaces, maps, wideKeys, modest, calm, conditions, laid).
  DERIVED. THE GIVEN ROWS OF THIS SEAT. 4 by the template 'for every input the law returns true; each argument reads behind the call as it read before'; 0 by the template 'total and deterministic' (their statements: YteojbdchekgooaaTotals.lean).
  GIVEN WITH THE SEED: the statements are not yours to turn. If you find one false, say at which input.
  Laid BY PROGRAM, IN A SANDBOX (cutbox-rows.mjs): the forced cells as the released guide's own fill.sh prints them over the translation f10cc607545a7b0c… (all of the seat's roots in one cut). By AI agents, Wed Nov 11 2026. No macro, syntax, notation, axiom, sorry.
-/
import Derived.Test.YteojbdchekgooaaChecked
import GoSem.Claim
import GoSem.ClaimJoined
import GoSem.ClaimMapViews
import Derived.JoinedTies
import Derived.KernelRfl
namespace Go.Proofs.Yteojbdchekgooaa
/- THE CELL 'sum', in the pinned program and in every row, IS THE sha256 OF THE DUMP (.gsa) THAT YteojbdchekgooaaProg.lean LOADS. Nothing in Lean hashes anything: it is a label: what it is worth is what the hold of that sum in a sandbox is worth. -/
noncomputable def Try.pinned : Pinned := { name := "yteojbdchekgooaa", sum := "f10cc607545a7b0c7aff0bddbeb0cf7e52e97ee875dcf72abcbabaf29dc3abe8", checked := Try.checked }
namespace Rows
def none {H : Type} : Left H := { results := [], args := [] }

/-- 'harrierlaw02.CksumSums': WHATEVER THE INPUT: true; the input reads as it did. -/
def cksumSumsSpec : ChangeSpec := { name := "cksumSums", fn := fun _ => fun
  | [d1, d2] => { results := [.lit (.bool true)], args := [d1, d2] }
  | _ => none }
def cksumSumsRow : OpenClaim := { program := "yteojbdchekgooaa", sum := "f10cc607545a7b0c7aff0bddbeb0cf7e52e97ee875dcf72abcbabaf29dc3abe8", func := "harrier/harrierlaw02.CksumSums", spec := "cksumSums", apart := false }
def CksumSumsSaid : Prop := cksumSumsRow.holds Try.pinned (OpenSpec.ofChange cksumSumsSpec)

/-- ITS FALSE NEIGHBOUR: 'it returns false'. Refute it at one input. -/
def cksumSumsWrong : ChangeSpec := { name := "cksumSums", fn := fun _ => fun
  | [d1, d2] => { results := [.lit (.bool false)], args := [d1, d2] }
  | _ => none }
def CksumSumsWrongFalsely : Prop := cksumSumsRow.holds Try.pinned (OpenSpec.ofChange cksumSumsWrong)

/-- 'harrierlaw02.CksumChecks': WHATEVER THE INPUT: true; the input reads as it did. -/
def cksumChecksSpec : ChangeSpec := { name := "cksumChecks", fn := fun _ => fun
  | [d1, d2, d3] => { results := [.lit (.bool true)], args := [d1, d2, d3] }
  | _ => none }
def cksumChecksRow : OpenClaim := { program := "yteojbdchekgooaa", sum := "f10cc607545a7b0c7aff0bddbeb0cf7e52e97ee875dcf72abcbabaf29dc3abe8", func := "harrier/harrierlaw02.CksumChecks", spec := "cksumChecks", apart := false }
def CksumChecksSaid : Prop := cksumChecksRow.holds Try.pinned (OpenSpec.ofChange cksumChecksSpec)

/-- ITS FALSE NEIGHBOUR: 'it returns false'. Refute it at one input. -/
def cksumChecksWrong : ChangeSpec := { name := "cksumChecks", fn := fun _ => fun
  | [d1, d2, d3] => { results := [.lit (.bool false)], args := [d1, d2, d3] }
  | _ => none }
def CksumChecksWrongFalsely : Prop := cksumChecksRow.holds Try.pinned (OpenSpec.ofChange cksumChecksWrong)

/-- 'harrierlaw02.CksumFine': WHATEVER THE INPUT: true; the input reads as it did. -/
def cksumFineSpec : ChangeSpec := { name := "cksumFine", fn := fun _ => fun
  | [d1, d2, d3] => { results := [.lit (.bool true)], args := [d1, d2, d3] }
  | _ => none }
def cksumFineRow : OpenClaim := { program := "yteojbdchekgooaa", sum := "f10cc607545a7b0c7aff0bddbeb0cf7e52e97ee875dcf72abcbabaf29dc3abe8", func := "harrier/harrierlaw02.CksumFine", spec := "cksumFine", apart := false }
def CksumFineSaid : Prop := cksumFineRow.holds Try.pinned (OpenSpec.ofChange cksumFineSpec)

/-- ITS FALSE NEIGHBOUR: 'it returns false'. Refute it at one input. -/
def cksumFineWrong : ChangeSpec := { name := "cksumFine", fn := fun _ => fun
  | [d1, d2, d3] => { results := [.lit (.bool false)], args := [d1, d2, d3] }
  | _ => none }
def CksumFineWrongFalsely : Prop := cksumFineRow.holds Try.pinned (OpenSpec.ofChange cksumFineWrong)

/-- 'harrierlaw02.CksumUpdates': WHATEVER THE INPUT: true; the input reads as it did. -/
def cksumUpdatesSpec : ChangeSpec := { name := "cksumUpdates", fn := fun _ => fun
  | [d1, d2, d3] => { results := [.lit (.bool true)], args := [d1, d2, d3] }
  | _ => none }
def cksumUpdatesRow : OpenClaim := { program := "yteojbdchekgooaa", sum := "f10cc607545a7b0c7aff0bddbeb0cf7e52e97ee875dcf72abcbabaf29dc3abe8", func := "harrier/harrierlaw02.CksumUpdates", spec := "cksumUpdates", apart := false }
def CksumUpdatesSaid : Prop := cksumUpdatesRow.holds Try.pinned (OpenSpec.ofChange cksumUpdatesSpec)

/-- ITS FALSE NEIGHBOUR: 'it returns false'. Refute it at one input. -/
def cksumUpdatesWrong : ChangeSpec := { name := "cksumUpdates", fn := fun _ => fun
  | [d1, d2, d3] => { results := [.lit (.bool false)], args := [d1, d2, d3] }
  | _ => none }
def CksumUpdatesWrongFalsely : Prop := cksumUpdatesRow.holds Try.pinned (OpenSpec.ofChange cksumUpdatesWrong)

/- THE SECOND FORM. 'bulk': how many values and letters a reading holds, each counted each time it is reached (what is shared counts as often as it is met; a slice's spare places count too). A statement '..UptoSaid' is the law's where the arguments, and the package variables that the reading takes, are together of bulk at most 1048576: NARROWER than '..Said'. Prove '..Said' where nothing that the law and all that it calls make is longer than what came in: it says more and counts as full. Else prove '..UptoSaid'. A law counts once. -/
mutual
def uptoBulk {H : Type} : DataW H → Nat
  | .lit (.string bytes) => bytes.length + 1
  | .lit _ => 1
  | .nil => 1
  | .ptr d => uptoBulk d + 1
  | .slice elems spare => uptoBulkAll elems + uptoBulkAll spare + 1
  | .agg parts => uptoBulkAll parts + 1
  | .iface _ d => uptoBulk d + 1
  | .map entries => uptoBulkEntries entries + 1
  | .held _ => 1
def uptoBulkAll {H : Type} : List (DataW H) → Nat
  | [] => 0
  | d :: r => uptoBulk d + uptoBulkAll r
def uptoBulkEntries {H : Type} : List (Lit × DataW H) → Nat
  | [] => 0
  | x :: r => uptoBulkEntry x + uptoBulkEntries r
def uptoBulkEntry {H : Type} : Lit × DataW H → Nat
  | (.string bytes, d) => bytes.length + uptoBulk d + 1
  | (_, d) => uptoBulk d + 1
 end
def uptoSmall : (H : Type) → List (DataW H) → Bool := fun _ ds => decide (uptoBulkAll ds ≤ 1048576)
def OpenSpec.upto (s : _root_.Go.ChangeSpec) : _root_.Go.OpenSpec := { _root_.Go.OpenSpec.ofChange s with cond := some uptoSmall }

/-- 'harrierlaw02.CksumSums', WHERE WHAT IT READS IS OF BULK AT MOST 1048576: true; the input reads as it did. -/
def cksumSumsUptoRow : OpenClaim := { program := "yteojbdchekgooaa", sum := "f10cc607545a7b0c7aff0bddbeb0cf7e52e97ee875dcf72abcbabaf29dc3abe8", func := "harrier/harrierlaw02.CksumSums", spec := "cksumSums", apart := false, narrowed := true }
def CksumSumsUptoSaid : Prop := cksumSumsUptoRow.holds Try.pinned (OpenSpec.upto cksumSumsSpec)

/-- 'harrierlaw02.CksumChecks', WHERE WHAT IT READS IS OF BULK AT MOST 1048576: true; the input reads as it did. -/
def cksumChecksUptoRow : OpenClaim := { program := "yteojbdchekgooaa", sum := "f10cc607545a7b0c7aff0bddbeb0cf7e52e97ee875dcf72abcbabaf29dc3abe8", func := "harrier/harrierlaw02.CksumChecks", spec := "cksumChecks", apart := false, narrowed := true }
def CksumChecksUptoSaid : Prop := cksumChecksUptoRow.holds Try.pinned (OpenSpec.upto cksumChecksSpec)

/-- 'harrierlaw02.CksumFine', WHERE WHAT IT READS IS OF BULK AT MOST 1048576: true; the input reads as it did. -/
def cksumFineUptoRow : OpenClaim := { program := "yteojbdchekgooaa", sum := "f10cc607545a7b0c7aff0bddbeb0cf7e52e97ee875dcf72abcbabaf29dc3abe8", func := "harrier/harrierlaw02.CksumFine", spec := "cksumFine", apart := false, narrowed := true }
def CksumFineUptoSaid : Prop := cksumFineUptoRow.holds Try.pinned (OpenSpec.upto cksumFineSpec)

/-- 'harrierlaw02.CksumUpdates', WHERE WHAT IT READS IS OF BULK AT MOST 1048576: true; the input reads as it did. -/
def cksumUpdatesUptoRow : OpenClaim := { program := "yteojbdchekgooaa", sum := "f10cc607545a7b0c7aff0bddbeb0cf7e52e97ee875dcf72abcbabaf29dc3abe8", func := "harrier/harrierlaw02.CksumUpdates", spec := "cksumUpdates", apart := false, narrowed := true }
def CksumUpdatesUptoSaid : Prop := cksumUpdatesUptoRow.holds Try.pinned (OpenSpec.upto cksumUpdatesSpec)

end Rows
end Go.Proofs.Yteojbdchekgooaa
