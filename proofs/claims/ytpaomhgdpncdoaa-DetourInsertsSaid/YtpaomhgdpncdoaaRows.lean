/-
  No cell of these rows narrows 'for every input' (looked for: loops, veiled, ifaces, maps, wideKeys, modest, calm, conditions, laid).
  DERIVED. THE GIVEN ROWS OF THIS SEAT. 4 by the template 'for every input the law returns true; each argument reads behind the call as it read before'; 0 by the template 'total and deterministic' (their statements: YtpaomhgdpncdoaaTotals.lean).
  GIVEN WITH THE SEED: the statements are not yours to turn. If you find one false, say at which input.
  Laid BY PROGRAM, IN A SANDBOX (cutbox-rows.mjs): the forced cells as the released guide's own fill.sh prints them over the translation 3b88d43f8add2ab4… (all of the seat's roots in one cut). By AI agents, Wed Nov 11 2026. No macro, syntax, notation, axiom, sorry.
-/
import Derived.Test.YtpaomhgdpncdoaaChecked
import GoSem.Claim
import GoSem.ClaimJoined
import GoSem.ClaimMapViews
import Derived.JoinedTies
import Derived.KernelRfl
namespace Go.Proofs.Ytpaomhgdpncdoaa
/- THE CELL 'sum', in the pinned program and in every row, IS THE sha256 OF THE DUMP (.gsa) THAT YtpaomhgdpncdoaaProg.lean LOADS. Nothing in Lean hashes anything: it is a label: what it is worth is what the hold of that sum in a sandbox is worth. -/
noncomputable def Try.pinned : Pinned := { name := "ytpaomhgdpncdoaa", sum := "3b88d43f8add2ab41720cc7f7c6af9e543b67bfc28016360cce47a3c27925a4e", checked := Try.checked }
namespace Rows
def none {H : Type} : Left H := { results := [], args := [] }

/-- 'harrierlaw11.DetourTakes': WHATEVER THE INPUT: true; the input reads as it did. -/
def detourTakesSpec : ChangeSpec := { name := "detourTakes", fn := fun _ => fun
  | [d] => { results := [.lit (.bool true)], args := [d] }
  | _ => none }
def detourTakesRow : OpenClaim := { program := "ytpaomhgdpncdoaa", sum := "3b88d43f8add2ab41720cc7f7c6af9e543b67bfc28016360cce47a3c27925a4e", func := "harrier/harrierlaw11.DetourTakes", spec := "detourTakes", unfollowed := true, recurses := true, apart := false }
def DetourTakesSaid : Prop := detourTakesRow.holds Try.pinned (OpenSpec.ofChange detourTakesSpec)

/-- ITS FALSE NEIGHBOUR: 'it returns false'. Refute it at one input. -/
def detourTakesWrong : ChangeSpec := { name := "detourTakes", fn := fun _ => fun
  | [d] => { results := [.lit (.bool false)], args := [d] }
  | _ => none }
def DetourTakesWrongFalsely : Prop := detourTakesRow.holds Try.pinned (OpenSpec.ofChange detourTakesWrong)

/-- 'harrierlaw11.DetourInserts': WHATEVER THE INPUT: true; the input reads as it did. -/
def detourInsertsSpec : ChangeSpec := { name := "detourInserts", fn := fun _ => fun
  | [d1, d2, d3] => { results := [.lit (.bool true)], args := [d1, d2, d3] }
  | _ => none }
def detourInsertsRow : OpenClaim := { program := "ytpaomhgdpncdoaa", sum := "3b88d43f8add2ab41720cc7f7c6af9e543b67bfc28016360cce47a3c27925a4e", func := "harrier/harrierlaw11.DetourInserts", spec := "detourInserts", unfollowed := true, recurses := true, apart := false }
def DetourInsertsSaid : Prop := detourInsertsRow.holds Try.pinned (OpenSpec.ofChange detourInsertsSpec)

/-- ITS FALSE NEIGHBOUR: 'it returns false'. Refute it at one input. -/
def detourInsertsWrong : ChangeSpec := { name := "detourInserts", fn := fun _ => fun
  | [d1, d2, d3] => { results := [.lit (.bool false)], args := [d1, d2, d3] }
  | _ => none }
def DetourInsertsWrongFalsely : Prop := detourInsertsRow.holds Try.pinned (OpenSpec.ofChange detourInsertsWrong)

/-- 'harrierlaw11.DetourBack': WHATEVER THE INPUT: true; the input reads as it did. -/
def detourBackSpec : ChangeSpec := { name := "detourBack", fn := fun _ => fun
  | [d1, d2] => { results := [.lit (.bool true)], args := [d1, d2] }
  | _ => none }
def detourBackRow : OpenClaim := { program := "ytpaomhgdpncdoaa", sum := "3b88d43f8add2ab41720cc7f7c6af9e543b67bfc28016360cce47a3c27925a4e", func := "harrier/harrierlaw11.DetourBack", spec := "detourBack", unfollowed := true, recurses := true, apart := false }
def DetourBackSaid : Prop := detourBackRow.holds Try.pinned (OpenSpec.ofChange detourBackSpec)

/-- ITS FALSE NEIGHBOUR: 'it returns false'. Refute it at one input. -/
def detourBackWrong : ChangeSpec := { name := "detourBack", fn := fun _ => fun
  | [d1, d2] => { results := [.lit (.bool false)], args := [d1, d2] }
  | _ => none }
def DetourBackWrongFalsely : Prop := detourBackRow.holds Try.pinned (OpenSpec.ofChange detourBackWrong)

/-- 'harrierlaw11.DetourGoes': WHATEVER THE INPUT: true; the input reads as it did. -/
def detourGoesSpec : ChangeSpec := { name := "detourGoes", fn := fun _ => fun
  | [d1, d2] => { results := [.lit (.bool true)], args := [d1, d2] }
  | _ => none }
def detourGoesRow : OpenClaim := { program := "ytpaomhgdpncdoaa", sum := "3b88d43f8add2ab41720cc7f7c6af9e543b67bfc28016360cce47a3c27925a4e", func := "harrier/harrierlaw11.DetourGoes", spec := "detourGoes", unfollowed := true, recurses := true, apart := false }
def DetourGoesSaid : Prop := detourGoesRow.holds Try.pinned (OpenSpec.ofChange detourGoesSpec)

/-- ITS FALSE NEIGHBOUR: 'it returns false'. Refute it at one input. -/
def detourGoesWrong : ChangeSpec := { name := "detourGoes", fn := fun _ => fun
  | [d1, d2] => { results := [.lit (.bool false)], args := [d1, d2] }
  | _ => none }
def DetourGoesWrongFalsely : Prop := detourGoesRow.holds Try.pinned (OpenSpec.ofChange detourGoesWrong)

/- THE SECOND FORM. 'bulk': how many values and letters a reading holds, each counted each time it is reached (what is shared counts as often as it is met; a slice's spare places count too). A statement '..UptoSaid' is the law's where the arguments, and the package variables that the reading takes, are together of bulk at most 1048576: NARROWER than '..Said'. Prove '..Said' where nothing that the law and all that it calls make is longer than what came in: it says more and counts as full. Else prove '..UptoSaid'. A law counts once. -/
mutual
def uptoBulk {H : Type} : DataW H → Nat
  | .lit (.string bytes) => bytes.length + 1
  | .lit _ => 1
  | .nil => 1
  | .ptr d => uptoBulk d + 1
  | .slice elems spare => uptoBulkAll elems + uptoBulkAll spare + 1
  | .agg parts => uptoBulkAll parts + 1
  | .iface _ d => uptoBulk d + 1
  | .map entries => uptoBulkEntries entries + 1
  | .held _ => 1
def uptoBulkAll {H : Type} : List (DataW H) → Nat
  | [] => 0
  | d :: r => uptoBulk d + uptoBulkAll r
def uptoBulkEntries {H : Type} : List (Lit × DataW H) → Nat
  | [] => 0
  | x :: r => uptoBulkEntry x + uptoBulkEntries r
def uptoBulkEntry {H : Type} : Lit × DataW H → Nat
  | (.string bytes, d) => bytes.length + uptoBulk d + 1
  | (_, d) => uptoBulk d + 1
 end
def uptoSmall : (H : Type) → List (DataW H) → Bool := fun _ ds => decide (uptoBulkAll ds ≤ 1048576)
def OpenSpec.upto (s : _root_.Go.ChangeSpec) : _root_.Go.OpenSpec := { _root_.Go.OpenSpec.ofChange s with cond := some uptoSmall }

/-- 'harrierlaw11.DetourTakes', WHERE WHAT IT READS IS OF BULK AT MOST 1048576: true; the input reads as it did. -/
def detourTakesUptoRow : OpenClaim := { program := "ytpaomhgdpncdoaa", sum := "3b88d43f8add2ab41720cc7f7c6af9e543b67bfc28016360cce47a3c27925a4e", func := "harrier/harrierlaw11.DetourTakes", spec := "detourTakes", unfollowed := true, recurses := true, apart := false, narrowed := true }
def DetourTakesUptoSaid : Prop := detourTakesUptoRow.holds Try.pinned (OpenSpec.upto detourTakesSpec)

/-- 'harrierlaw11.DetourInserts', WHERE WHAT IT READS IS OF BULK AT MOST 1048576: true; the input reads as it did. -/
def detourInsertsUptoRow : OpenClaim := { program := "ytpaomhgdpncdoaa", sum := "3b88d43f8add2ab41720cc7f7c6af9e543b67bfc28016360cce47a3c27925a4e", func := "harrier/harrierlaw11.DetourInserts", spec := "detourInserts", unfollowed := true, recurses := true, apart := false, narrowed := true }
def DetourInsertsUptoSaid : Prop := detourInsertsUptoRow.holds Try.pinned (OpenSpec.upto detourInsertsSpec)

/-- 'harrierlaw11.DetourBack', WHERE WHAT IT READS IS OF BULK AT MOST 1048576: true; the input reads as it did. -/
def detourBackUptoRow : OpenClaim := { program := "ytpaomhgdpncdoaa", sum := "3b88d43f8add2ab41720cc7f7c6af9e543b67bfc28016360cce47a3c27925a4e", func := "harrier/harrierlaw11.DetourBack", spec := "detourBack", unfollowed := true, recurses := true, apart := false, narrowed := true }
def DetourBackUptoSaid : Prop := detourBackUptoRow.holds Try.pinned (OpenSpec.upto detourBackSpec)

/-- 'harrierlaw11.DetourGoes', WHERE WHAT IT READS IS OF BULK AT MOST 1048576: true; the input reads as it did. -/
def detourGoesUptoRow : OpenClaim := { program := "ytpaomhgdpncdoaa", sum := "3b88d43f8add2ab41720cc7f7c6af9e543b67bfc28016360cce47a3c27925a4e", func := "harrier/harrierlaw11.DetourGoes", spec := "detourGoes", unfollowed := true, recurses := true, apart := false, narrowed := true }
def DetourGoesUptoSaid : Prop := detourGoesUptoRow.holds Try.pinned (OpenSpec.upto detourGoesSpec)

end Rows
end Go.Proofs.Ytpaomhgdpncdoaa
