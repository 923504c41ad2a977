/-
  No cell of these rows narrows 'for every input' (looked for: loops, veiled, ifaces, maps, wideKeys, modest, calm, conditions, laid).
  DERIVED. THE GIVEN ROWS OF THIS SEAT. 4 by the template 'for every input the law returns true; each argument reads behind the call as it read before'; 0 by the template 'total and deterministic' (their statements: YtliceelneoelcaaTotals.lean).
  GIVEN WITH THE SEED: the statements are not yours to turn. If you find one false, say at which input.
  Laid BY PROGRAM, IN A SANDBOX (cutbox-rows.mjs): the forced cells as the released guide's own fill.sh prints them over the translation e10038ea44fc40d7… (all of the seat's roots in one cut). By AI agents, Wed Nov 11 2026. No macro, syntax, notation, axiom, sorry.
-/
import Derived.Test.YtliceelneoelcaaChecked
import GoSem.Claim
import GoSem.ClaimJoined
import GoSem.ClaimMapViews
import Derived.JoinedTies
import Derived.KernelRfl
namespace Go.Proofs.Ytliceelneoelcaa
/- THE CELL 'sum', in the pinned program and in every row, IS THE sha256 OF THE DUMP (.gsa) THAT YtliceelneoelcaaProg.lean LOADS. Nothing in Lean hashes anything: it is a label: what it is worth is what the hold of that sum in a sandbox is worth. -/
noncomputable def Try.pinned : Pinned := { name := "ytliceelneoelcaa", sum := "e10038ea44fc40d7dc077a282494b747833f9b4576dff7360868d393518f407a", checked := Try.checked }
namespace Rows
def none {H : Type} : Left H := { results := [], args := [] }

/-- 'harrierlaw01.OctetsReads': WHATEVER THE INPUT: true; the input reads as it did. -/
def octetsReadsSpec : ChangeSpec := { name := "octetsReads", fn := fun _ => fun
  | [d1, d2, d3] => { results := [.lit (.bool true)], args := [d1, d2, d3] }
  | _ => none }
def octetsReadsRow : OpenClaim := { program := "ytliceelneoelcaa", sum := "e10038ea44fc40d7dc077a282494b747833f9b4576dff7360868d393518f407a", func := "harrier/harrierlaw01.OctetsReads", spec := "octetsReads", apart := false }
def OctetsReadsSaid : Prop := octetsReadsRow.holds Try.pinned (OpenSpec.ofChange octetsReadsSpec)

/-- ITS FALSE NEIGHBOUR: 'it returns false'. Refute it at one input. -/
def octetsReadsWrong : ChangeSpec := { name := "octetsReads", fn := fun _ => fun
  | [d1, d2, d3] => { results := [.lit (.bool false)], args := [d1, d2, d3] }
  | _ => none }
def OctetsReadsWrongFalsely : Prop := octetsReadsRow.holds Try.pinned (OpenSpec.ofChange octetsReadsWrong)

/-- 'harrierlaw01.OctetsLays': WHATEVER THE INPUT: true; the input reads as it did. -/
def octetsLaysSpec : ChangeSpec := { name := "octetsLays", fn := fun _ => fun
  | [d1, d2, d3] => { results := [.lit (.bool true)], args := [d1, d2, d3] }
  | _ => none }
def octetsLaysRow : OpenClaim := { program := "ytliceelneoelcaa", sum := "e10038ea44fc40d7dc077a282494b747833f9b4576dff7360868d393518f407a", func := "harrier/harrierlaw01.OctetsLays", spec := "octetsLays", apart := false }
def OctetsLaysSaid : Prop := octetsLaysRow.holds Try.pinned (OpenSpec.ofChange octetsLaysSpec)

/-- ITS FALSE NEIGHBOUR: 'it returns false'. Refute it at one input. -/
def octetsLaysWrong : ChangeSpec := { name := "octetsLays", fn := fun _ => fun
  | [d1, d2, d3] => { results := [.lit (.bool false)], args := [d1, d2, d3] }
  | _ => none }
def OctetsLaysWrongFalsely : Prop := octetsLaysRow.holds Try.pinned (OpenSpec.ofChange octetsLaysWrong)

/-- 'harrierlaw01.OctetsBack': WHATEVER THE INPUT: true; the input reads as it did. -/
def octetsBackSpec : ChangeSpec := { name := "octetsBack", fn := fun _ => fun
  | [d1, d2, d3] => { results := [.lit (.bool true)], args := [d1, d2, d3] }
  | _ => none }
def octetsBackRow : OpenClaim := { program := "ytliceelneoelcaa", sum := "e10038ea44fc40d7dc077a282494b747833f9b4576dff7360868d393518f407a", func := "harrier/harrierlaw01.OctetsBack", spec := "octetsBack", apart := false }
def OctetsBackSaid : Prop := octetsBackRow.holds Try.pinned (OpenSpec.ofChange octetsBackSpec)

/-- ITS FALSE NEIGHBOUR: 'it returns false'. Refute it at one input. -/
def octetsBackWrong : ChangeSpec := { name := "octetsBack", fn := fun _ => fun
  | [d1, d2, d3] => { results := [.lit (.bool false)], args := [d1, d2, d3] }
  | _ => none }
def OctetsBackWrongFalsely : Prop := octetsBackRow.holds Try.pinned (OpenSpec.ofChange octetsBackWrong)

/-- 'harrierlaw01.OctetsNew': WHATEVER THE INPUT: true; the input reads as it did. -/
def octetsNewSpec : ChangeSpec := { name := "octetsNew", fn := fun _ => fun
  | [d1, d2, d3] => { results := [.lit (.bool true)], args := [d1, d2, d3] }
  | _ => none }
def octetsNewRow : OpenClaim := { program := "ytliceelneoelcaa", sum := "e10038ea44fc40d7dc077a282494b747833f9b4576dff7360868d393518f407a", func := "harrier/harrierlaw01.OctetsNew", spec := "octetsNew", apart := false }
def OctetsNewSaid : Prop := octetsNewRow.holds Try.pinned (OpenSpec.ofChange octetsNewSpec)

/-- ITS FALSE NEIGHBOUR: 'it returns false'. Refute it at one input. -/
def octetsNewWrong : ChangeSpec := { name := "octetsNew", fn := fun _ => fun
  | [d1, d2, d3] => { results := [.lit (.bool false)], args := [d1, d2, d3] }
  | _ => none }
def OctetsNewWrongFalsely : Prop := octetsNewRow.holds Try.pinned (OpenSpec.ofChange octetsNewWrong)

/- THE SECOND FORM. 'bulk': how many values and letters a reading holds, each counted each time it is reached (what is shared counts as often as it is met; a slice's spare places count too). A statement '..UptoSaid' is the law's where the arguments, and the package variables that the reading takes, are together of bulk at most 1048576: NARROWER than '..Said'. Prove '..Said' where nothing that the law and all that it calls make is longer than what came in: it says more and counts as full. Else prove '..UptoSaid'. A law counts once. -/
mutual
def uptoBulk {H : Type} : DataW H → Nat
  | .lit (.string bytes) => bytes.length + 1
  | .lit _ => 1
  | .nil => 1
  | .ptr d => uptoBulk d + 1
  | .slice elems spare => uptoBulkAll elems + uptoBulkAll spare + 1
  | .agg parts => uptoBulkAll parts + 1
  | .iface _ d => uptoBulk d + 1
  | .map entries => uptoBulkEntries entries + 1
  | .held _ => 1
def uptoBulkAll {H : Type} : List (DataW H) → Nat
  | [] => 0
  | d :: r => uptoBulk d + uptoBulkAll r
def uptoBulkEntries {H : Type} : List (Lit × DataW H) → Nat
  | [] => 0
  | x :: r => uptoBulkEntry x + uptoBulkEntries r
def uptoBulkEntry {H : Type} : Lit × DataW H → Nat
  | (.string bytes, d) => bytes.length + uptoBulk d + 1
  | (_, d) => uptoBulk d + 1
 end
def uptoSmall : (H : Type) → List (DataW H) → Bool := fun _ ds => decide (uptoBulkAll ds ≤ 1048576)
def OpenSpec.upto (s : _root_.Go.ChangeSpec) : _root_.Go.OpenSpec := { _root_.Go.OpenSpec.ofChange s with cond := some uptoSmall }

/-- 'harrierlaw01.OctetsReads', WHERE WHAT IT READS IS OF BULK AT MOST 1048576: true; the input reads as it did. -/
def octetsReadsUptoRow : OpenClaim := { program := "ytliceelneoelcaa", sum := "e10038ea44fc40d7dc077a282494b747833f9b4576dff7360868d393518f407a", func := "harrier/harrierlaw01.OctetsReads", spec := "octetsReads", apart := false, narrowed := true }
def OctetsReadsUptoSaid : Prop := octetsReadsUptoRow.holds Try.pinned (OpenSpec.upto octetsReadsSpec)

/-- 'harrierlaw01.OctetsLays', WHERE WHAT IT READS IS OF BULK AT MOST 1048576: true; the input reads as it did. -/
def octetsLaysUptoRow : OpenClaim := { program := "ytliceelneoelcaa", sum := "e10038ea44fc40d7dc077a282494b747833f9b4576dff7360868d393518f407a", func := "harrier/harrierlaw01.OctetsLays", spec := "octetsLays", apart := false, narrowed := true }
def OctetsLaysUptoSaid : Prop := octetsLaysUptoRow.holds Try.pinned (OpenSpec.upto octetsLaysSpec)

/-- 'harrierlaw01.OctetsBack', WHERE WHAT IT READS IS OF BULK AT MOST 1048576: true; the input reads as it did. -/
def octetsBackUptoRow : OpenClaim := { program := "ytliceelneoelcaa", sum := "e10038ea44fc40d7dc077a282494b747833f9b4576dff7360868d393518f407a", func := "harrier/harrierlaw01.OctetsBack", spec := "octetsBack", apart := false, narrowed := true }
def OctetsBackUptoSaid : Prop := octetsBackUptoRow.holds Try.pinned (OpenSpec.upto octetsBackSpec)

/-- 'harrierlaw01.OctetsNew', WHERE WHAT IT READS IS OF BULK AT MOST 1048576: true; the input reads as it did. -/
def octetsNewUptoRow : OpenClaim := { program := "ytliceelneoelcaa", sum := "e10038ea44fc40d7dc077a282494b747833f9b4576dff7360868d393518f407a", func := "harrier/harrierlaw01.OctetsNew", spec := "octetsNew", apart := false, narrowed := true }
def OctetsNewUptoSaid : Prop := octetsNewUptoRow.holds Try.pinned (OpenSpec.upto octetsNewSpec)

end Rows
end Go.Proofs.Ytliceelneoelcaa
