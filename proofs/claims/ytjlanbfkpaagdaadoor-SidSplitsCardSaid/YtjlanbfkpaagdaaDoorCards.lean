/-
  DERIVED. GIVEN WITH THE SEED: THE CARDS: each row of YtjlanbfkpaagdaaDoorRows.lean that lists a variable, with what it lists TIED to the program's text (the seventh form; the later family's looks); each row that meets fmt, with fmt's text TOLD by the authors' own Lean function (tested against real Go, not proved from fmt's source: count such statements apart). THE CARD IS WHAT COUNTS. Prove the row's statement (the work); the ties are given (YtjlanbfkpaagdaaDoorTie.lean); close each card by the builder's one call (the guide's Derived/Test/ToyasCard.lean, 'card_holds'). Laid BY PROGRAM, IN A SANDBOX (cutbox-door.mjs). By AI agents, Wed Nov 11 2026. No macro, syntax, notation, axiom, sorry.
-/
import Derived.Test.YtjlanbfkpaagdaaDoorRows
import GoSem.ClaimSeven
namespace Go.Proofs.YtjlanbfkpaagdaaDoor
namespace Rows

/-- THE TIED CARD OF 'harrierlaw12.SidMakes'. -/
def sidMakesCard : Claim7 := { stood := { row := sidMakesRow, standIns := [], harness := (true, "b1915341578a8aa75baa65287ade3ffc0b4e8df4b0245e155c03c81b4b7a9625"), looks := false }, kinds := [], alts := [], laidByText := true, laidKinds := [.data, .data, .data], laidTests := true, laidLooks := .later }
def SidMakesCardSaid : Prop := Claim7.holds Tryd.pinned (.plain (OpenSpec.ofChange sidMakesSpec)) sidMakesCard

/-- THE TIED CARD OF 'harrierlaw12.SidSplits'. -/
def sidSplitsCard : Claim7 := { stood := { row := sidSplitsRow, standIns := [], harness := (true, "b1915341578a8aa75baa65287ade3ffc0b4e8df4b0245e155c03c81b4b7a9625"), looks := false }, kinds := [], alts := [], laidByText := true, laidKinds := [.data, .data, .data], laidTests := true, laidLooks := .later }
def SidSplitsCardSaid : Prop := Claim7.holds Tryd.pinned (.plain (OpenSpec.ofChange sidSplitsSpec)) sidSplitsCard

/-- THE TIED CARD OF 'harrierlaw12.SidBack'. -/
def sidBackCard : Claim7 := { stood := { row := sidBackRow, standIns := [], harness := (true, "b1915341578a8aa75baa65287ade3ffc0b4e8df4b0245e155c03c81b4b7a9625"), looks := false }, kinds := [], alts := [], laidByText := true, laidKinds := [.data, .data, .data], laidTests := true, laidLooks := .later }
def SidBackCardSaid : Prop := Claim7.holds Tryd.pinned (.plain (OpenSpec.ofChange sidBackSpec)) sidBackCard

/-- THE SECOND FORM's CARD OF 'harrierlaw12.SidMakes'. -/
def sidMakesUptoCard : Claim7 := { stood := { row := sidMakesUptoRow, standIns := [], harness := (true, "b1915341578a8aa75baa65287ade3ffc0b4e8df4b0245e155c03c81b4b7a9625"), looks := false }, kinds := [], alts := [], laidByText := true, laidKinds := [.data, .data, .data], laidTests := true, laidLooks := .later }
def SidMakesUptoCardSaid : Prop := Claim7.holds Tryd.pinned (.plain (OpenSpec.upto sidMakesSpec)) sidMakesUptoCard

/-- THE SECOND FORM's CARD OF 'harrierlaw12.SidSplits'. -/
def sidSplitsUptoCard : Claim7 := { stood := { row := sidSplitsUptoRow, standIns := [], harness := (true, "b1915341578a8aa75baa65287ade3ffc0b4e8df4b0245e155c03c81b4b7a9625"), looks := false }, kinds := [], alts := [], laidByText := true, laidKinds := [.data, .data, .data], laidTests := true, laidLooks := .later }
def SidSplitsUptoCardSaid : Prop := Claim7.holds Tryd.pinned (.plain (OpenSpec.upto sidSplitsSpec)) sidSplitsUptoCard

/-- THE SECOND FORM's CARD OF 'harrierlaw12.SidBack'. -/
def sidBackUptoCard : Claim7 := { stood := { row := sidBackUptoRow, standIns := [], harness := (true, "b1915341578a8aa75baa65287ade3ffc0b4e8df4b0245e155c03c81b4b7a9625"), looks := false }, kinds := [], alts := [], laidByText := true, laidKinds := [.data, .data, .data], laidTests := true, laidLooks := .later }
def SidBackUptoCardSaid : Prop := Claim7.holds Tryd.pinned (.plain (OpenSpec.upto sidBackSpec)) sidBackUptoCard
end Rows
end Go.Proofs.YtjlanbfkpaagdaaDoor
