/-
  No cell of these rows narrows 'for every input' (looked for: loops, veiled, ifaces, maps, wideKeys, modest, calm, conditions, laid).
  DERIVED. THE GIVEN ROWS OF THIS SEAT. 3 by the template 'for every input the law returns true; each argument reads behind the call as it read before'; 0 by the template 'total and deterministic' (their statements: YthcigbkionnmjaaTotals.lean).
  GIVEN WITH THE SEED: the statements are not yours to turn. If you find one false, say at which input.
  Laid BY PROGRAM, IN A SANDBOX (cutbox-rows.mjs): the forced cells as the released guide's own fill.sh prints them over the translation c0b52ee59f319bde… (all of the seat's roots in one cut). By AI agents, Wed Nov 11 2026. No macro, syntax, notation, axiom, sorry.
-/
import Derived.Test.YthcigbkionnmjaaChecked
import GoSem.Claim
import GoSem.ClaimJoined
import GoSem.ClaimMapViews
import Derived.JoinedTies
import Derived.KernelRfl
namespace Go.Proofs.Ythcigbkionnmjaa
/- THE CELL 'sum', in the pinned program and in every row, IS THE sha256 OF THE DUMP (.gsa) THAT YthcigbkionnmjaaProg.lean LOADS. Nothing in Lean hashes anything: it is a label: what it is worth is what the hold of that sum in a sandbox is worth. -/
noncomputable def Try.pinned : Pinned := { name := "ythcigbkionnmjaa", sum := "c0b52ee59f319bde7b560faab551eea406acad1b721baebdd46e41884a1e71ed", checked := Try.checked }
namespace Rows
def none {H : Type} : Left H := { results := [], args := [] }

/-- 'harrierlaw18.PickTwo': WHATEVER THE INPUT: true; the input reads as it did. -/
def pickTwoSpec : ChangeSpec := { name := "pickTwo", fn := fun _ => fun
  | [d1, d2] => { results := [.lit (.bool true)], args := [d1, d2] }
  | _ => none }
def pickTwoRow : OpenClaim := { program := "ythcigbkionnmjaa", sum := "c0b52ee59f319bde7b560faab551eea406acad1b721baebdd46e41884a1e71ed", func := "harrier/harrierlaw18.PickTwo", spec := "pickTwo", unfollowed := true, recurses := true, apart := false }
def PickTwoSaid : Prop := pickTwoRow.holds Try.pinned (OpenSpec.ofChange pickTwoSpec)

/-- ITS FALSE NEIGHBOUR: 'it returns false'. Refute it at one input. -/
def pickTwoWrong : ChangeSpec := { name := "pickTwo", fn := fun _ => fun
  | [d1, d2] => { results := [.lit (.bool false)], args := [d1, d2] }
  | _ => none }
def PickTwoWrongFalsely : Prop := pickTwoRow.holds Try.pinned (OpenSpec.ofChange pickTwoWrong)

/-- 'harrierlaw18.PickNodes': WHATEVER THE INPUT: true; the input reads as it did. -/
def pickNodesSpec : ChangeSpec := { name := "pickNodes", fn := fun _ => fun
  | [d1, d2] => { results := [.lit (.bool true)], args := [d1, d2] }
  | _ => none }
def pickNodesRow : OpenClaim := { program := "ythcigbkionnmjaa", sum := "c0b52ee59f319bde7b560faab551eea406acad1b721baebdd46e41884a1e71ed", func := "harrier/harrierlaw18.PickNodes", spec := "pickNodes", unfollowed := true, recurses := true, apart := false }
def PickNodesSaid : Prop := pickNodesRow.holds Try.pinned (OpenSpec.ofChange pickNodesSpec)

/-- ITS FALSE NEIGHBOUR: 'it returns false'. Refute it at one input. -/
def pickNodesWrong : ChangeSpec := { name := "pickNodes", fn := fun _ => fun
  | [d1, d2] => { results := [.lit (.bool false)], args := [d1, d2] }
  | _ => none }
def PickNodesWrongFalsely : Prop := pickNodesRow.holds Try.pinned (OpenSpec.ofChange pickNodesWrong)

/-- 'harrierlaw18.PickApart': WHATEVER THE INPUT: true; the input reads as it did. -/
def pickApartSpec : ChangeSpec := { name := "pickApart", fn := fun _ => fun
  | [d1, d2] => { results := [.lit (.bool true)], args := [d1, d2] }
  | _ => none }
def pickApartRow : OpenClaim := { program := "ythcigbkionnmjaa", sum := "c0b52ee59f319bde7b560faab551eea406acad1b721baebdd46e41884a1e71ed", func := "harrier/harrierlaw18.PickApart", spec := "pickApart", unfollowed := true, recurses := true, apart := false }
def PickApartSaid : Prop := pickApartRow.holds Try.pinned (OpenSpec.ofChange pickApartSpec)

/-- ITS FALSE NEIGHBOUR: 'it returns false'. Refute it at one input. -/
def pickApartWrong : ChangeSpec := { name := "pickApart", fn := fun _ => fun
  | [d1, d2] => { results := [.lit (.bool false)], args := [d1, d2] }
  | _ => none }
def PickApartWrongFalsely : Prop := pickApartRow.holds Try.pinned (OpenSpec.ofChange pickApartWrong)

/- THE SECOND FORM. 'bulk': how many values and letters a reading holds, each counted each time it is reached (what is shared counts as often as it is met; a slice's spare places count too). A statement '..UptoSaid' is the law's where the arguments, and the package variables that the reading takes, are together of bulk at most 1048576: NARROWER than '..Said'. Prove '..Said' where nothing that the law and all that it calls make is longer than what came in: it says more and counts as full. Else prove '..UptoSaid'. A law counts once. -/
mutual
def uptoBulk {H : Type} : DataW H → Nat
  | .lit (.string bytes) => bytes.length + 1
  | .lit _ => 1
  | .nil => 1
  | .ptr d => uptoBulk d + 1
  | .slice elems spare => uptoBulkAll elems + uptoBulkAll spare + 1
  | .agg parts => uptoBulkAll parts + 1
  | .iface _ d => uptoBulk d + 1
  | .map entries => uptoBulkEntries entries + 1
  | .held _ => 1
def uptoBulkAll {H : Type} : List (DataW H) → Nat
  | [] => 0
  | d :: r => uptoBulk d + uptoBulkAll r
def uptoBulkEntries {H : Type} : List (Lit × DataW H) → Nat
  | [] => 0
  | x :: r => uptoBulkEntry x + uptoBulkEntries r
def uptoBulkEntry {H : Type} : Lit × DataW H → Nat
  | (.string bytes, d) => bytes.length + uptoBulk d + 1
  | (_, d) => uptoBulk d + 1
 end
def uptoSmall : (H : Type) → List (DataW H) → Bool := fun _ ds => decide (uptoBulkAll ds ≤ 1048576)
def OpenSpec.upto (s : _root_.Go.ChangeSpec) : _root_.Go.OpenSpec := { _root_.Go.OpenSpec.ofChange s with cond := some uptoSmall }

/-- 'harrierlaw18.PickTwo', WHERE WHAT IT READS IS OF BULK AT MOST 1048576: true; the input reads as it did. -/
def pickTwoUptoRow : OpenClaim := { program := "ythcigbkionnmjaa", sum := "c0b52ee59f319bde7b560faab551eea406acad1b721baebdd46e41884a1e71ed", func := "harrier/harrierlaw18.PickTwo", spec := "pickTwo", unfollowed := true, recurses := true, apart := false, narrowed := true }
def PickTwoUptoSaid : Prop := pickTwoUptoRow.holds Try.pinned (OpenSpec.upto pickTwoSpec)

/-- 'harrierlaw18.PickNodes', WHERE WHAT IT READS IS OF BULK AT MOST 1048576: true; the input reads as it did. -/
def pickNodesUptoRow : OpenClaim := { program := "ythcigbkionnmjaa", sum := "c0b52ee59f319bde7b560faab551eea406acad1b721baebdd46e41884a1e71ed", func := "harrier/harrierlaw18.PickNodes", spec := "pickNodes", unfollowed := true, recurses := true, apart := false, narrowed := true }
def PickNodesUptoSaid : Prop := pickNodesUptoRow.holds Try.pinned (OpenSpec.upto pickNodesSpec)

/-- 'harrierlaw18.PickApart', WHERE WHAT IT READS IS OF BULK AT MOST 1048576: true; the input reads as it did. -/
def pickApartUptoRow : OpenClaim := { program := "ythcigbkionnmjaa", sum := "c0b52ee59f319bde7b560faab551eea406acad1b721baebdd46e41884a1e71ed", func := "harrier/harrierlaw18.PickApart", spec := "pickApart", unfollowed := true, recurses := true, apart := false, narrowed := true }
def PickApartUptoSaid : Prop := pickApartUptoRow.holds Try.pinned (OpenSpec.upto pickApartSpec)

end Rows
end Go.Proofs.Ythcigbkionnmjaa
