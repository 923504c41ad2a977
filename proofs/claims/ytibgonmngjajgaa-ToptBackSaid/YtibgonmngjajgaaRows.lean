/-
  No cell of these rows narrows 'for every input' (looked for: loops, veiled, ifaces, maps, wideKeys, modest, calm, conditions, laid).
  DERIVED. THE GIVEN ROWS OF THIS SEAT. 4 by the template 'for every input the law returns true; each argument reads behind the call as it read before'; 0 by the template 'total and deterministic' (their statements: YtibgonmngjajgaaTotals.lean).
  GIVEN WITH THE SEED: the statements are not yours to turn. If you find one false, say at which input.
  Laid BY PROGRAM, IN A SANDBOX (cutbox-rows.mjs): the forced cells as the released guide's own fill.sh prints them over the translation 5e2c924a45c0f052… (all of the seat's roots in one cut). By AI agents, Wed Nov 11 2026. No macro, syntax, notation, axiom, sorry.
-/
import Derived.Test.YtibgonmngjajgaaChecked
import GoSem.Claim
import GoSem.ClaimJoined
import GoSem.ClaimMapViews
import Derived.JoinedTies
import Derived.KernelRfl
namespace Go.Proofs.Ytibgonmngjajgaa
/- THE CELL 'sum', in the pinned program and in every row, IS THE sha256 OF THE DUMP (.gsa) THAT YtibgonmngjajgaaProg.lean LOADS. Nothing in Lean hashes anything: it is a label: what it is worth is what the hold of that sum in a sandbox is worth. -/
noncomputable def Try.pinned : Pinned := { name := "ytibgonmngjajgaa", sum := "5e2c924a45c0f052d3364fc6f430ccb1a488345644f617b784899da1ebe1c521", checked := Try.checked }
namespace Rows
def none {H : Type} : Left H := { results := [], args := [] }

/-- 'harrierlaw06.ToptPuts': WHATEVER THE INPUT: true; the input reads as it did. -/
def toptPutsSpec : ChangeSpec := { name := "toptPuts", fn := fun _ => fun
  | [d] => { results := [.lit (.bool true)], args := [d] }
  | _ => none }
def toptPutsRow : OpenClaim := { program := "ytibgonmngjajgaa", sum := "5e2c924a45c0f052d3364fc6f430ccb1a488345644f617b784899da1ebe1c521", func := "harrier/harrierlaw06.ToptPuts", spec := "toptPuts", unfollowed := true, recurses := true, apart := false }
def ToptPutsSaid : Prop := toptPutsRow.holds Try.pinned (OpenSpec.ofChange toptPutsSpec)

/-- ITS FALSE NEIGHBOUR: 'it returns false'. Refute it at one input. -/
def toptPutsWrong : ChangeSpec := { name := "toptPuts", fn := fun _ => fun
  | [d] => { results := [.lit (.bool false)], args := [d] }
  | _ => none }
def ToptPutsWrongFalsely : Prop := toptPutsRow.holds Try.pinned (OpenSpec.ofChange toptPutsWrong)

/-- 'harrierlaw06.ToptParses': WHATEVER THE INPUT: true; the input reads as it did. -/
def toptParsesSpec : ChangeSpec := { name := "toptParses", fn := fun _ => fun
  | [d] => { results := [.lit (.bool true)], args := [d] }
  | _ => none }
def toptParsesRow : OpenClaim := { program := "ytibgonmngjajgaa", sum := "5e2c924a45c0f052d3364fc6f430ccb1a488345644f617b784899da1ebe1c521", func := "harrier/harrierlaw06.ToptParses", spec := "toptParses", unfollowed := true, recurses := true, apart := false }
def ToptParsesSaid : Prop := toptParsesRow.holds Try.pinned (OpenSpec.ofChange toptParsesSpec)

/-- ITS FALSE NEIGHBOUR: 'it returns false'. Refute it at one input. -/
def toptParsesWrong : ChangeSpec := { name := "toptParses", fn := fun _ => fun
  | [d] => { results := [.lit (.bool false)], args := [d] }
  | _ => none }
def ToptParsesWrongFalsely : Prop := toptParsesRow.holds Try.pinned (OpenSpec.ofChange toptParsesWrong)

/-- 'harrierlaw06.ToptFinds': WHATEVER THE INPUT: true; the input reads as it did. -/
def toptFindsSpec : ChangeSpec := { name := "toptFinds", fn := fun _ => fun
  | [d1, d2] => { results := [.lit (.bool true)], args := [d1, d2] }
  | _ => none }
def toptFindsRow : OpenClaim := { program := "ytibgonmngjajgaa", sum := "5e2c924a45c0f052d3364fc6f430ccb1a488345644f617b784899da1ebe1c521", func := "harrier/harrierlaw06.ToptFinds", spec := "toptFinds", unfollowed := true, recurses := true, apart := false }
def ToptFindsSaid : Prop := toptFindsRow.holds Try.pinned (OpenSpec.ofChange toptFindsSpec)

/-- ITS FALSE NEIGHBOUR: 'it returns false'. Refute it at one input. -/
def toptFindsWrong : ChangeSpec := { name := "toptFinds", fn := fun _ => fun
  | [d1, d2] => { results := [.lit (.bool false)], args := [d1, d2] }
  | _ => none }
def ToptFindsWrongFalsely : Prop := toptFindsRow.holds Try.pinned (OpenSpec.ofChange toptFindsWrong)

/-- 'harrierlaw06.ToptBack': WHATEVER THE INPUT: true; the input reads as it did. -/
def toptBackSpec : ChangeSpec := { name := "toptBack", fn := fun _ => fun
  | [d] => { results := [.lit (.bool true)], args := [d] }
  | _ => none }
def toptBackRow : OpenClaim := { program := "ytibgonmngjajgaa", sum := "5e2c924a45c0f052d3364fc6f430ccb1a488345644f617b784899da1ebe1c521", func := "harrier/harrierlaw06.ToptBack", spec := "toptBack", unfollowed := true, recurses := true, apart := false }
def ToptBackSaid : Prop := toptBackRow.holds Try.pinned (OpenSpec.ofChange toptBackSpec)

/-- ITS FALSE NEIGHBOUR: 'it returns false'. Refute it at one input. -/
def toptBackWrong : ChangeSpec := { name := "toptBack", fn := fun _ => fun
  | [d] => { results := [.lit (.bool false)], args := [d] }
  | _ => none }
def ToptBackWrongFalsely : Prop := toptBackRow.holds Try.pinned (OpenSpec.ofChange toptBackWrong)

/- THE SECOND FORM. 'bulk': how many values and letters a reading holds, each counted each time it is reached (what is shared counts as often as it is met; a slice's spare places count too). A statement '..UptoSaid' is the law's where the arguments, and the package variables that the reading takes, are together of bulk at most 1048576: NARROWER than '..Said'. Prove '..Said' where nothing that the law and all that it calls make is longer than what came in: it says more and counts as full. Else prove '..UptoSaid'. A law counts once. -/
mutual
def uptoBulk {H : Type} : DataW H → Nat
  | .lit (.string bytes) => bytes.length + 1
  | .lit _ => 1
  | .nil => 1
  | .ptr d => uptoBulk d + 1
  | .slice elems spare => uptoBulkAll elems + uptoBulkAll spare + 1
  | .agg parts => uptoBulkAll parts + 1
  | .iface _ d => uptoBulk d + 1
  | .map entries => uptoBulkEntries entries + 1
  | .held _ => 1
def uptoBulkAll {H : Type} : List (DataW H) → Nat
  | [] => 0
  | d :: r => uptoBulk d + uptoBulkAll r
def uptoBulkEntries {H : Type} : List (Lit × DataW H) → Nat
  | [] => 0
  | x :: r => uptoBulkEntry x + uptoBulkEntries r
def uptoBulkEntry {H : Type} : Lit × DataW H → Nat
  | (.string bytes, d) => bytes.length + uptoBulk d + 1
  | (_, d) => uptoBulk d + 1
 end
def uptoSmall : (H : Type) → List (DataW H) → Bool := fun _ ds => decide (uptoBulkAll ds ≤ 1048576)
def OpenSpec.upto (s : _root_.Go.ChangeSpec) : _root_.Go.OpenSpec := { _root_.Go.OpenSpec.ofChange s with cond := some uptoSmall }

/-- 'harrierlaw06.ToptPuts', WHERE WHAT IT READS IS OF BULK AT MOST 1048576: true; the input reads as it did. -/
def toptPutsUptoRow : OpenClaim := { program := "ytibgonmngjajgaa", sum := "5e2c924a45c0f052d3364fc6f430ccb1a488345644f617b784899da1ebe1c521", func := "harrier/harrierlaw06.ToptPuts", spec := "toptPuts", unfollowed := true, recurses := true, apart := false, narrowed := true }
def ToptPutsUptoSaid : Prop := toptPutsUptoRow.holds Try.pinned (OpenSpec.upto toptPutsSpec)

/-- 'harrierlaw06.ToptParses', WHERE WHAT IT READS IS OF BULK AT MOST 1048576: true; the input reads as it did. -/
def toptParsesUptoRow : OpenClaim := { program := "ytibgonmngjajgaa", sum := "5e2c924a45c0f052d3364fc6f430ccb1a488345644f617b784899da1ebe1c521", func := "harrier/harrierlaw06.ToptParses", spec := "toptParses", unfollowed := true, recurses := true, apart := false, narrowed := true }
def ToptParsesUptoSaid : Prop := toptParsesUptoRow.holds Try.pinned (OpenSpec.upto toptParsesSpec)

/-- 'harrierlaw06.ToptFinds', WHERE WHAT IT READS IS OF BULK AT MOST 1048576: true; the input reads as it did. -/
def toptFindsUptoRow : OpenClaim := { program := "ytibgonmngjajgaa", sum := "5e2c924a45c0f052d3364fc6f430ccb1a488345644f617b784899da1ebe1c521", func := "harrier/harrierlaw06.ToptFinds", spec := "toptFinds", unfollowed := true, recurses := true, apart := false, narrowed := true }
def ToptFindsUptoSaid : Prop := toptFindsUptoRow.holds Try.pinned (OpenSpec.upto toptFindsSpec)

/-- 'harrierlaw06.ToptBack', WHERE WHAT IT READS IS OF BULK AT MOST 1048576: true; the input reads as it did. -/
def toptBackUptoRow : OpenClaim := { program := "ytibgonmngjajgaa", sum := "5e2c924a45c0f052d3364fc6f430ccb1a488345644f617b784899da1ebe1c521", func := "harrier/harrierlaw06.ToptBack", spec := "toptBack", unfollowed := true, recurses := true, apart := false, narrowed := true }
def ToptBackUptoSaid : Prop := toptBackUptoRow.holds Try.pinned (OpenSpec.upto toptBackSpec)

end Rows
end Go.Proofs.Ytibgonmngjajgaa
