/-
  No cell of these rows narrows 'for every input' (looked for: loops, veiled, ifaces, maps, wideKeys, modest, calm, conditions, laid).
  DERIVED. THE GIVEN ROWS OF THIS SEAT. 4 by the template 'for every input the law returns true; each argument reads behind the call as it read before'; 0 by the template 'total and deterministic' (their statements: YtnfiijbnfmcpjaaTotals.lean).
  GIVEN WITH THE SEED: the statements are not yours to turn. If you find one false, say at which input.
  Laid BY PROGRAM, IN A SANDBOX (cutbox-rows.mjs): the forced cells as the released guide's own fill.sh prints them over the translation 8a5ea30de2979cc9… (all of the seat's roots in one cut). By AI agents, Wed Nov 11 2026. No macro, syntax, notation, axiom, sorry.
-/
import Derived.Test.YtnfiijbnfmcpjaaChecked
import GoSem.Claim
import GoSem.ClaimJoined
import GoSem.ClaimMapViews
import Derived.JoinedTies
import Derived.KernelRfl
namespace Go.Proofs.Ytnfiijbnfmcpjaa
/- THE CELL 'sum', in the pinned program and in every row, IS THE sha256 OF THE DUMP (.gsa) THAT YtnfiijbnfmcpjaaProg.lean LOADS. Nothing in Lean hashes anything: it is a label: what it is worth is what the hold of that sum in a sandbox is worth. -/
noncomputable def Try.pinned : Pinned := { name := "ytnfiijbnfmcpjaa", sum := "8a5ea30de2979cc9aa42a93093eeac3dccfa963ed73fc2102d8f12cc66e312cc", checked := Try.checked }
namespace Rows
def none {H : Type} : Left H := { results := [], args := [] }

/-- 'harrierlaw10.SrhPuts': WHATEVER THE INPUT: true; the input reads as it did. -/
def srhPutsSpec : ChangeSpec := { name := "srhPuts", fn := fun _ => fun
  | [d] => { results := [.lit (.bool true)], args := [d] }
  | _ => none }
def srhPutsRow : OpenClaim := { program := "ytnfiijbnfmcpjaa", sum := "8a5ea30de2979cc9aa42a93093eeac3dccfa963ed73fc2102d8f12cc66e312cc", func := "harrier/harrierlaw10.SrhPuts", spec := "srhPuts", apart := false }
def SrhPutsSaid : Prop := srhPutsRow.holds Try.pinned (OpenSpec.ofChange srhPutsSpec)

/-- ITS FALSE NEIGHBOUR: 'it returns false'. Refute it at one input. -/
def srhPutsWrong : ChangeSpec := { name := "srhPuts", fn := fun _ => fun
  | [d] => { results := [.lit (.bool false)], args := [d] }
  | _ => none }
def SrhPutsWrongFalsely : Prop := srhPutsRow.holds Try.pinned (OpenSpec.ofChange srhPutsWrong)

/-- 'harrierlaw10.SrhParses': WHATEVER THE INPUT: true; the input reads as it did. -/
def srhParsesSpec : ChangeSpec := { name := "srhParses", fn := fun _ => fun
  | [d] => { results := [.lit (.bool true)], args := [d] }
  | _ => none }
def srhParsesRow : OpenClaim := { program := "ytnfiijbnfmcpjaa", sum := "8a5ea30de2979cc9aa42a93093eeac3dccfa963ed73fc2102d8f12cc66e312cc", func := "harrier/harrierlaw10.SrhParses", spec := "srhParses", apart := false }
def SrhParsesSaid : Prop := srhParsesRow.holds Try.pinned (OpenSpec.ofChange srhParsesSpec)

/-- ITS FALSE NEIGHBOUR: 'it returns false'. Refute it at one input. -/
def srhParsesWrong : ChangeSpec := { name := "srhParses", fn := fun _ => fun
  | [d] => { results := [.lit (.bool false)], args := [d] }
  | _ => none }
def SrhParsesWrongFalsely : Prop := srhParsesRow.holds Try.pinned (OpenSpec.ofChange srhParsesWrong)

/-- 'harrierlaw10.SrhTells': WHATEVER THE INPUT: true; the input reads as it did. -/
def srhTellsSpec : ChangeSpec := { name := "srhTells", fn := fun _ => fun
  | [d] => { results := [.lit (.bool true)], args := [d] }
  | _ => none }
def srhTellsRow : OpenClaim := { program := "ytnfiijbnfmcpjaa", sum := "8a5ea30de2979cc9aa42a93093eeac3dccfa963ed73fc2102d8f12cc66e312cc", func := "harrier/harrierlaw10.SrhTells", spec := "srhTells", apart := false }
def SrhTellsSaid : Prop := srhTellsRow.holds Try.pinned (OpenSpec.ofChange srhTellsSpec)

/-- ITS FALSE NEIGHBOUR: 'it returns false'. Refute it at one input. -/
def srhTellsWrong : ChangeSpec := { name := "srhTells", fn := fun _ => fun
  | [d] => { results := [.lit (.bool false)], args := [d] }
  | _ => none }
def SrhTellsWrongFalsely : Prop := srhTellsRow.holds Try.pinned (OpenSpec.ofChange srhTellsWrong)

/-- 'harrierlaw10.SrhBack': WHATEVER THE INPUT: true; the input reads as it did. -/
def srhBackSpec : ChangeSpec := { name := "srhBack", fn := fun _ => fun
  | [d1, d2] => { results := [.lit (.bool true)], args := [d1, d2] }
  | _ => none }
def srhBackRow : OpenClaim := { program := "ytnfiijbnfmcpjaa", sum := "8a5ea30de2979cc9aa42a93093eeac3dccfa963ed73fc2102d8f12cc66e312cc", func := "harrier/harrierlaw10.SrhBack", spec := "srhBack", apart := false }
def SrhBackSaid : Prop := srhBackRow.holds Try.pinned (OpenSpec.ofChange srhBackSpec)

/-- ITS FALSE NEIGHBOUR: 'it returns false'. Refute it at one input. -/
def srhBackWrong : ChangeSpec := { name := "srhBack", fn := fun _ => fun
  | [d1, d2] => { results := [.lit (.bool false)], args := [d1, d2] }
  | _ => none }
def SrhBackWrongFalsely : Prop := srhBackRow.holds Try.pinned (OpenSpec.ofChange srhBackWrong)

/- THE SECOND FORM. 'bulk': how many values and letters a reading holds, each counted each time it is reached (what is shared counts as often as it is met; a slice's spare places count too). A statement '..UptoSaid' is the law's where the arguments, and the package variables that the reading takes, are together of bulk at most 1048576: NARROWER than '..Said'. Prove '..Said' where nothing that the law and all that it calls make is longer than what came in: it says more and counts as full. Else prove '..UptoSaid'. A law counts once. -/
mutual
def uptoBulk {H : Type} : DataW H → Nat
  | .lit (.string bytes) => bytes.length + 1
  | .lit _ => 1
  | .nil => 1
  | .ptr d => uptoBulk d + 1
  | .slice elems spare => uptoBulkAll elems + uptoBulkAll spare + 1
  | .agg parts => uptoBulkAll parts + 1
  | .iface _ d => uptoBulk d + 1
  | .map entries => uptoBulkEntries entries + 1
  | .held _ => 1
def uptoBulkAll {H : Type} : List (DataW H) → Nat
  | [] => 0
  | d :: r => uptoBulk d + uptoBulkAll r
def uptoBulkEntries {H : Type} : List (Lit × DataW H) → Nat
  | [] => 0
  | x :: r => uptoBulkEntry x + uptoBulkEntries r
def uptoBulkEntry {H : Type} : Lit × DataW H → Nat
  | (.string bytes, d) => bytes.length + uptoBulk d + 1
  | (_, d) => uptoBulk d + 1
 end
def uptoSmall : (H : Type) → List (DataW H) → Bool := fun _ ds => decide (uptoBulkAll ds ≤ 1048576)
def OpenSpec.upto (s : _root_.Go.ChangeSpec) : _root_.Go.OpenSpec := { _root_.Go.OpenSpec.ofChange s with cond := some uptoSmall }

/-- 'harrierlaw10.SrhPuts', WHERE WHAT IT READS IS OF BULK AT MOST 1048576: true; the input reads as it did. -/
def srhPutsUptoRow : OpenClaim := { program := "ytnfiijbnfmcpjaa", sum := "8a5ea30de2979cc9aa42a93093eeac3dccfa963ed73fc2102d8f12cc66e312cc", func := "harrier/harrierlaw10.SrhPuts", spec := "srhPuts", apart := false, narrowed := true }
def SrhPutsUptoSaid : Prop := srhPutsUptoRow.holds Try.pinned (OpenSpec.upto srhPutsSpec)

/-- 'harrierlaw10.SrhParses', WHERE WHAT IT READS IS OF BULK AT MOST 1048576: true; the input reads as it did. -/
def srhParsesUptoRow : OpenClaim := { program := "ytnfiijbnfmcpjaa", sum := "8a5ea30de2979cc9aa42a93093eeac3dccfa963ed73fc2102d8f12cc66e312cc", func := "harrier/harrierlaw10.SrhParses", spec := "srhParses", apart := false, narrowed := true }
def SrhParsesUptoSaid : Prop := srhParsesUptoRow.holds Try.pinned (OpenSpec.upto srhParsesSpec)

/-- 'harrierlaw10.SrhTells', WHERE WHAT IT READS IS OF BULK AT MOST 1048576: true; the input reads as it did. -/
def srhTellsUptoRow : OpenClaim := { program := "ytnfiijbnfmcpjaa", sum := "8a5ea30de2979cc9aa42a93093eeac3dccfa963ed73fc2102d8f12cc66e312cc", func := "harrier/harrierlaw10.SrhTells", spec := "srhTells", apart := false, narrowed := true }
def SrhTellsUptoSaid : Prop := srhTellsUptoRow.holds Try.pinned (OpenSpec.upto srhTellsSpec)

/-- 'harrierlaw10.SrhBack', WHERE WHAT IT READS IS OF BULK AT MOST 1048576: true; the input reads as it did. -/
def srhBackUptoRow : OpenClaim := { program := "ytnfiijbnfmcpjaa", sum := "8a5ea30de2979cc9aa42a93093eeac3dccfa963ed73fc2102d8f12cc66e312cc", func := "harrier/harrierlaw10.SrhBack", spec := "srhBack", apart := false, narrowed := true }
def SrhBackUptoSaid : Prop := srhBackUptoRow.holds Try.pinned (OpenSpec.upto srhBackSpec)

end Rows
end Go.Proofs.Ytnfiijbnfmcpjaa
