/-
  No cell of these rows narrows 'for every input' (looked for: loops, veiled, ifaces, maps, wideKeys, modest, calm, conditions, laid).
  DERIVED. THE GIVEN ROWS OF THIS SEAT. 3 by the template 'for every input the law returns true; each argument reads behind the call as it read before'; 0 by the template 'total and deterministic' (their statements: YtdpbhhoabnmbpaaGreatTotals.lean).
  GIVEN WITH THE SEED: the statements are not yours to turn. If you find one false, say at which input.
  Laid BY PROGRAM, IN A SANDBOX (cutbox-rows.mjs): the forced cells as the released guide's own fill.sh prints them over the translation 6519aaba24fd6c30… (all of the seat's roots in one cut). By AI agents, Wed Nov 11 2026. No macro, syntax, notation, axiom, sorry.
-/
import Derived.Test.YtdpbhhoabnmbpaaGreatChecked
import GoSem.Claim
import GoSem.ClaimJoined
import GoSem.ClaimMapViews
import Derived.JoinedTies
import Derived.KernelRfl
namespace Go.Proofs.YtdpbhhoabnmbpaaGreat
/- THE CELL 'sum', in the pinned program and in every row, IS THE sha256 OF THE DUMP (.gsa) THAT YtdpbhhoabnmbpaaGreatProg.lean LOADS. Nothing in Lean hashes anything: it is a label: what it is worth is what the hold of that sum in a sandbox is worth. -/
noncomputable def Tryz.pinned : Pinned := { name := "ytdpbhhoabnmbpaagreat", sum := "6519aaba24fd6c30716fb4426063d9a1cc217ecaf2f3a780d5209c4894b37b15", checked := Tryz.checked }
namespace Rows
def none {H : Type} : Left H := { results := [], args := [] }

/-- 'harrierlaw13.PacketParses': WHATEVER THE INPUT: true; the input reads as it did. -/
def packetParsesSpec : ChangeSpec := { name := "packetParses", fn := fun _ => fun
  | [d] => { results := [.lit (.bool true)], args := [d] }
  | _ => none }
def packetParsesRow : OpenClaim := { program := "ytdpbhhoabnmbpaagreat", sum := "6519aaba24fd6c30716fb4426063d9a1cc217ecaf2f3a780d5209c4894b37b15", func := "harrier/harrierlaw13.PacketParses", spec := "packetParses", unfollowed := true, recurses := true, apart := false }
def PacketParsesSaid : Prop := packetParsesRow.holds Tryz.pinned (OpenSpec.ofChange packetParsesSpec)

/-- ITS FALSE NEIGHBOUR: 'it returns false'. Refute it at one input. -/
def packetParsesWrong : ChangeSpec := { name := "packetParses", fn := fun _ => fun
  | [d] => { results := [.lit (.bool false)], args := [d] }
  | _ => none }
def PacketParsesWrongFalsely : Prop := packetParsesRow.holds Tryz.pinned (OpenSpec.ofChange packetParsesWrong)

/-- 'harrierlaw13.PacketMakes': WHATEVER THE INPUT: true; the input reads as it did. -/
def packetMakesSpec : ChangeSpec := { name := "packetMakes", fn := fun _ => fun
  | [d1, d2, d3] => { results := [.lit (.bool true)], args := [d1, d2, d3] }
  | _ => none }
def packetMakesRow : OpenClaim := { program := "ytdpbhhoabnmbpaagreat", sum := "6519aaba24fd6c30716fb4426063d9a1cc217ecaf2f3a780d5209c4894b37b15", func := "harrier/harrierlaw13.PacketMakes", spec := "packetMakes", unfollowed := true, recurses := true, apart := false }
def PacketMakesSaid : Prop := packetMakesRow.holds Tryz.pinned (OpenSpec.ofChange packetMakesSpec)

/-- ITS FALSE NEIGHBOUR: 'it returns false'. Refute it at one input. -/
def packetMakesWrong : ChangeSpec := { name := "packetMakes", fn := fun _ => fun
  | [d1, d2, d3] => { results := [.lit (.bool false)], args := [d1, d2, d3] }
  | _ => none }
def PacketMakesWrongFalsely : Prop := packetMakesRow.holds Tryz.pinned (OpenSpec.ofChange packetMakesWrong)

/-- 'harrierlaw13.PacketVia': WHATEVER THE INPUT: true; the input reads as it did. -/
def packetViaSpec : ChangeSpec := { name := "packetVia", fn := fun _ => fun
  | [d1, d2] => { results := [.lit (.bool true)], args := [d1, d2] }
  | _ => none }
def packetViaRow : OpenClaim := { program := "ytdpbhhoabnmbpaagreat", sum := "6519aaba24fd6c30716fb4426063d9a1cc217ecaf2f3a780d5209c4894b37b15", func := "harrier/harrierlaw13.PacketVia", spec := "packetVia", unfollowed := true, recurses := true, apart := false }
def PacketViaSaid : Prop := packetViaRow.holds Tryz.pinned (OpenSpec.ofChange packetViaSpec)

/-- ITS FALSE NEIGHBOUR: 'it returns false'. Refute it at one input. -/
def packetViaWrong : ChangeSpec := { name := "packetVia", fn := fun _ => fun
  | [d1, d2] => { results := [.lit (.bool false)], args := [d1, d2] }
  | _ => none }
def PacketViaWrongFalsely : Prop := packetViaRow.holds Tryz.pinned (OpenSpec.ofChange packetViaWrong)

/- THE SECOND FORM. 'bulk': how many values and letters a reading holds, each counted each time it is reached (what is shared counts as often as it is met; a slice's spare places count too). A statement '..UptoSaid' is the law's where the arguments, and the package variables that the reading takes, are together of bulk at most 1048576: NARROWER than '..Said'. Prove '..Said' where nothing that the law and all that it calls make is longer than what came in: it says more and counts as full. Else prove '..UptoSaid'. A law counts once. -/
mutual
def uptoBulk {H : Type} : DataW H → Nat
  | .lit (.string bytes) => bytes.length + 1
  | .lit _ => 1
  | .nil => 1
  | .ptr d => uptoBulk d + 1
  | .slice elems spare => uptoBulkAll elems + uptoBulkAll spare + 1
  | .agg parts => uptoBulkAll parts + 1
  | .iface _ d => uptoBulk d + 1
  | .map entries => uptoBulkEntries entries + 1
  | .held _ => 1
def uptoBulkAll {H : Type} : List (DataW H) → Nat
  | [] => 0
  | d :: r => uptoBulk d + uptoBulkAll r
def uptoBulkEntries {H : Type} : List (Lit × DataW H) → Nat
  | [] => 0
  | x :: r => uptoBulkEntry x + uptoBulkEntries r
def uptoBulkEntry {H : Type} : Lit × DataW H → Nat
  | (.string bytes, d) => bytes.length + uptoBulk d + 1
  | (_, d) => uptoBulk d + 1
 end
def uptoSmall : (H : Type) → List (DataW H) → Bool := fun _ ds => decide (uptoBulkAll ds ≤ 1048576)
def OpenSpec.upto (s : _root_.Go.ChangeSpec) : _root_.Go.OpenSpec := { _root_.Go.OpenSpec.ofChange s with cond := some uptoSmall }

/-- 'harrierlaw13.PacketParses', WHERE WHAT IT READS IS OF BULK AT MOST 1048576: true; the input reads as it did. -/
def packetParsesUptoRow : OpenClaim := { program := "ytdpbhhoabnmbpaagreat", sum := "6519aaba24fd6c30716fb4426063d9a1cc217ecaf2f3a780d5209c4894b37b15", func := "harrier/harrierlaw13.PacketParses", spec := "packetParses", unfollowed := true, recurses := true, apart := false, narrowed := true }
def PacketParsesUptoSaid : Prop := packetParsesUptoRow.holds Tryz.pinned (OpenSpec.upto packetParsesSpec)

/-- 'harrierlaw13.PacketMakes', WHERE WHAT IT READS IS OF BULK AT MOST 1048576: true; the input reads as it did. -/
def packetMakesUptoRow : OpenClaim := { program := "ytdpbhhoabnmbpaagreat", sum := "6519aaba24fd6c30716fb4426063d9a1cc217ecaf2f3a780d5209c4894b37b15", func := "harrier/harrierlaw13.PacketMakes", spec := "packetMakes", unfollowed := true, recurses := true, apart := false, narrowed := true }
def PacketMakesUptoSaid : Prop := packetMakesUptoRow.holds Tryz.pinned (OpenSpec.upto packetMakesSpec)

/-- 'harrierlaw13.PacketVia', WHERE WHAT IT READS IS OF BULK AT MOST 1048576: true; the input reads as it did. -/
def packetViaUptoRow : OpenClaim := { program := "ytdpbhhoabnmbpaagreat", sum := "6519aaba24fd6c30716fb4426063d9a1cc217ecaf2f3a780d5209c4894b37b15", func := "harrier/harrierlaw13.PacketVia", spec := "packetVia", unfollowed := true, recurses := true, apart := false, narrowed := true }
def PacketViaUptoSaid : Prop := packetViaUptoRow.holds Tryz.pinned (OpenSpec.upto packetViaSpec)

end Rows
end Go.Proofs.YtdpbhhoabnmbpaaGreat
