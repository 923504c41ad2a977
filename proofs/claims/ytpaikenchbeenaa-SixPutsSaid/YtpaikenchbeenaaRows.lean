/-
  No cell of these rows narrows 'for every input' (looked for: loops, veiled, ifaces, maps, wideKeys, modest, calm, conditions, laid).
  DERIVED. THE GIVEN ROWS OF THIS SEAT. 4 by the template 'for every input the law returns true; each argument reads behind the call as it read before'; 0 by the template 'total and deterministic' (their statements: YtpaikenchbeenaaTotals.lean).
  GIVEN WITH THE SEED: the statements are not yours to turn. If you find one false, say at which input.
  Laid BY PROGRAM, IN A SANDBOX (cutbox-rows.mjs): the forced cells as the released guide's own fill.sh prints them over the translation b64a0348fa91dc0e… (all of the seat's roots in one cut). By AI agents, Wed Nov 11 2026. No macro, syntax, notation, axiom, sorry.
-/
import Derived.Test.YtpaikenchbeenaaChecked
import GoSem.Claim
import GoSem.ClaimJoined
import GoSem.ClaimMapViews
import Derived.JoinedTies
import Derived.KernelRfl
namespace Go.Proofs.Ytpaikenchbeenaa
/- THE CELL 'sum', in the pinned program and in every row, IS THE sha256 OF THE DUMP (.gsa) THAT YtpaikenchbeenaaProg.lean LOADS. Nothing in Lean hashes anything: it is a label: what it is worth is what the hold of that sum in a sandbox is worth. -/
noncomputable def Try.pinned : Pinned := { name := "ytpaikenchbeenaa", sum := "b64a0348fa91dc0e0d138c552a78230ee1f259e0dbb21cae39573ddaf05396af", checked := Try.checked }
namespace Rows
def none {H : Type} : Left H := { results := [], args := [] }

/-- 'harrierlaw04.SixPuts': WHATEVER THE INPUT: true; the input reads as it did. -/
def sixPutsSpec : ChangeSpec := { name := "sixPuts", fn := fun _ => fun
  | [d1, d2] => { results := [.lit (.bool true)], args := [d1, d2] }
  | _ => none }
def sixPutsRow : OpenClaim := { program := "ytpaikenchbeenaa", sum := "b64a0348fa91dc0e0d138c552a78230ee1f259e0dbb21cae39573ddaf05396af", func := "harrier/harrierlaw04.SixPuts", spec := "sixPuts", unfollowed := true, recurses := true, apart := false }
def SixPutsSaid : Prop := sixPutsRow.holds Try.pinned (OpenSpec.ofChange sixPutsSpec)

/-- ITS FALSE NEIGHBOUR: 'it returns false'. Refute it at one input. -/
def sixPutsWrong : ChangeSpec := { name := "sixPuts", fn := fun _ => fun
  | [d1, d2] => { results := [.lit (.bool false)], args := [d1, d2] }
  | _ => none }
def SixPutsWrongFalsely : Prop := sixPutsRow.holds Try.pinned (OpenSpec.ofChange sixPutsWrong)

/-- 'harrierlaw04.SixGets': WHATEVER THE INPUT: true; the input reads as it did. -/
def sixGetsSpec : ChangeSpec := { name := "sixGets", fn := fun _ => fun
  | [d] => { results := [.lit (.bool true)], args := [d] }
  | _ => none }
def sixGetsRow : OpenClaim := { program := "ytpaikenchbeenaa", sum := "b64a0348fa91dc0e0d138c552a78230ee1f259e0dbb21cae39573ddaf05396af", func := "harrier/harrierlaw04.SixGets", spec := "sixGets", unfollowed := true, recurses := true, apart := false }
def SixGetsSaid : Prop := sixGetsRow.holds Try.pinned (OpenSpec.ofChange sixGetsSpec)

/-- ITS FALSE NEIGHBOUR: 'it returns false'. Refute it at one input. -/
def sixGetsWrong : ChangeSpec := { name := "sixGets", fn := fun _ => fun
  | [d] => { results := [.lit (.bool false)], args := [d] }
  | _ => none }
def SixGetsWrongFalsely : Prop := sixGetsRow.holds Try.pinned (OpenSpec.ofChange sixGetsWrong)

/-- 'harrierlaw04.SixChanges': WHATEVER THE INPUT: true; the input reads as it did. -/
def sixChangesSpec : ChangeSpec := { name := "sixChanges", fn := fun _ => fun
  | [d1, d2] => { results := [.lit (.bool true)], args := [d1, d2] }
  | _ => none }
def sixChangesRow : OpenClaim := { program := "ytpaikenchbeenaa", sum := "b64a0348fa91dc0e0d138c552a78230ee1f259e0dbb21cae39573ddaf05396af", func := "harrier/harrierlaw04.SixChanges", spec := "sixChanges", unfollowed := true, recurses := true, apart := false }
def SixChangesSaid : Prop := sixChangesRow.holds Try.pinned (OpenSpec.ofChange sixChangesSpec)

/-- ITS FALSE NEIGHBOUR: 'it returns false'. Refute it at one input. -/
def sixChangesWrong : ChangeSpec := { name := "sixChanges", fn := fun _ => fun
  | [d1, d2] => { results := [.lit (.bool false)], args := [d1, d2] }
  | _ => none }
def SixChangesWrongFalsely : Prop := sixChangesRow.holds Try.pinned (OpenSpec.ofChange sixChangesWrong)

/-- 'harrierlaw04.SixBack': WHATEVER THE INPUT: true; the input reads as it did. -/
def sixBackSpec : ChangeSpec := { name := "sixBack", fn := fun _ => fun
  | [d1, d2] => { results := [.lit (.bool true)], args := [d1, d2] }
  | _ => none }
def sixBackRow : OpenClaim := { program := "ytpaikenchbeenaa", sum := "b64a0348fa91dc0e0d138c552a78230ee1f259e0dbb21cae39573ddaf05396af", func := "harrier/harrierlaw04.SixBack", spec := "sixBack", unfollowed := true, recurses := true, apart := false }
def SixBackSaid : Prop := sixBackRow.holds Try.pinned (OpenSpec.ofChange sixBackSpec)

/-- ITS FALSE NEIGHBOUR: 'it returns false'. Refute it at one input. -/
def sixBackWrong : ChangeSpec := { name := "sixBack", fn := fun _ => fun
  | [d1, d2] => { results := [.lit (.bool false)], args := [d1, d2] }
  | _ => none }
def SixBackWrongFalsely : Prop := sixBackRow.holds Try.pinned (OpenSpec.ofChange sixBackWrong)

/- THE SECOND FORM. 'bulk': how many values and letters a reading holds, each counted each time it is reached (what is shared counts as often as it is met; a slice's spare places count too). A statement '..UptoSaid' is the law's where the arguments, and the package variables that the reading takes, are together of bulk at most 1048576: NARROWER than '..Said'. Prove '..Said' where nothing that the law and all that it calls make is longer than what came in: it says more and counts as full. Else prove '..UptoSaid'. A law counts once. -/
mutual
def uptoBulk {H : Type} : DataW H → Nat
  | .lit (.string bytes) => bytes.length + 1
  | .lit _ => 1
  | .nil => 1
  | .ptr d => uptoBulk d + 1
  | .slice elems spare => uptoBulkAll elems + uptoBulkAll spare + 1
  | .agg parts => uptoBulkAll parts + 1
  | .iface _ d => uptoBulk d + 1
  | .map entries => uptoBulkEntries entries + 1
  | .held _ => 1
def uptoBulkAll {H : Type} : List (DataW H) → Nat
  | [] => 0
  | d :: r => uptoBulk d + uptoBulkAll r
def uptoBulkEntries {H : Type} : List (Lit × DataW H) → Nat
  | [] => 0
  | x :: r => uptoBulkEntry x + uptoBulkEntries r
def uptoBulkEntry {H : Type} : Lit × DataW H → Nat
  | (.string bytes, d) => bytes.length + uptoBulk d + 1
  | (_, d) => uptoBulk d + 1
 end
def uptoSmall : (H : Type) → List (DataW H) → Bool := fun _ ds => decide (uptoBulkAll ds ≤ 1048576)
def OpenSpec.upto (s : _root_.Go.ChangeSpec) : _root_.Go.OpenSpec := { _root_.Go.OpenSpec.ofChange s with cond := some uptoSmall }

/-- 'harrierlaw04.SixPuts', WHERE WHAT IT READS IS OF BULK AT MOST 1048576: true; the input reads as it did. -/
def sixPutsUptoRow : OpenClaim := { program := "ytpaikenchbeenaa", sum := "b64a0348fa91dc0e0d138c552a78230ee1f259e0dbb21cae39573ddaf05396af", func := "harrier/harrierlaw04.SixPuts", spec := "sixPuts", unfollowed := true, recurses := true, apart := false, narrowed := true }
def SixPutsUptoSaid : Prop := sixPutsUptoRow.holds Try.pinned (OpenSpec.upto sixPutsSpec)

/-- 'harrierlaw04.SixGets', WHERE WHAT IT READS IS OF BULK AT MOST 1048576: true; the input reads as it did. -/
def sixGetsUptoRow : OpenClaim := { program := "ytpaikenchbeenaa", sum := "b64a0348fa91dc0e0d138c552a78230ee1f259e0dbb21cae39573ddaf05396af", func := "harrier/harrierlaw04.SixGets", spec := "sixGets", unfollowed := true, recurses := true, apart := false, narrowed := true }
def SixGetsUptoSaid : Prop := sixGetsUptoRow.holds Try.pinned (OpenSpec.upto sixGetsSpec)

/-- 'harrierlaw04.SixChanges', WHERE WHAT IT READS IS OF BULK AT MOST 1048576: true; the input reads as it did. -/
def sixChangesUptoRow : OpenClaim := { program := "ytpaikenchbeenaa", sum := "b64a0348fa91dc0e0d138c552a78230ee1f259e0dbb21cae39573ddaf05396af", func := "harrier/harrierlaw04.SixChanges", spec := "sixChanges", unfollowed := true, recurses := true, apart := false, narrowed := true }
def SixChangesUptoSaid : Prop := sixChangesUptoRow.holds Try.pinned (OpenSpec.upto sixChangesSpec)

/-- 'harrierlaw04.SixBack', WHERE WHAT IT READS IS OF BULK AT MOST 1048576: true; the input reads as it did. -/
def sixBackUptoRow : OpenClaim := { program := "ytpaikenchbeenaa", sum := "b64a0348fa91dc0e0d138c552a78230ee1f259e0dbb21cae39573ddaf05396af", func := "harrier/harrierlaw04.SixBack", spec := "sixBack", unfollowed := true, recurses := true, apart := false, narrowed := true }
def SixBackUptoSaid : Prop := sixBackUptoRow.holds Try.pinned (OpenSpec.upto sixBackSpec)

end Rows
end Go.Proofs.Ytpaikenchbeenaa
