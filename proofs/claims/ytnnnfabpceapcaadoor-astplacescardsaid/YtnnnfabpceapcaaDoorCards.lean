/-
  DERIVED. GIVEN WITH THE SEED: THE CARDS: each row of YtnnnfabpceapcaaDoorRows.lean that lists a variable, with what it lists TIED to the program's text (the seventh form; the later family's looks); each row that meets fmt, with fmt's text TOLD by the authors' own Lean function (tested against real Go, not proved from fmt's source: count such statements apart). THE CARD IS WHAT COUNTS. Prove the row's statement (the work); the ties are given (YtnnnfabpceapcaaDoorTie.lean); close each card by the builder's one call (the guide's Derived/Test/ToyasCard.lean, 'card_holds'). Laid BY PROGRAM, IN A SANDBOX (cutbox-door.mjs). By AI agents, Wed Nov 11 2026. No macro, syntax, notation, axiom, sorry.
-/
import Derived.Test.YtnnnfabpceapcaaDoorRows
import GoSem.ClaimSeven
namespace Go.Proofs.YtnnnfabpceapcaaDoor
namespace Rows

/-- THE TIED CARD OF 'cruciblelaw08.AstSizes'. -/
def astSizesCard : Claim7 := { stood := { row := astSizesRow, standIns := [], harness := (true, "30733af215893e93395ab22b5321d54ac6988dc34f37be9ec6d43a2b17fb96c8"), looks := false }, kinds := [], alts := [], laidByText := true, laidKinds := [.data, .data, .data], laidTests := true, laidLooks := .later }
def AstSizesCardSaid : Prop := Claim7.holds Tryd.pinned (.plain (OpenSpec.ofChange astSizesSpec)) astSizesCard

/-- THE TIED CARD OF 'cruciblelaw08.AstSame'. -/
def astSameCard : Claim7 := { stood := { row := astSameRow, standIns := [], harness := (true, "30733af215893e93395ab22b5321d54ac6988dc34f37be9ec6d43a2b17fb96c8"), looks := false }, kinds := [], alts := [], laidByText := true, laidKinds := [.data, .data, .data], laidTests := true, laidLooks := .later }
def AstSameCardSaid : Prop := Claim7.holds Tryd.pinned (.plain (OpenSpec.ofChange astSameSpec)) astSameCard

/-- THE TIED CARD OF 'cruciblelaw08.AstPlaces'. -/
def astPlacesCard : Claim7 := { stood := { row := astPlacesRow, standIns := [], harness := (true, "30733af215893e93395ab22b5321d54ac6988dc34f37be9ec6d43a2b17fb96c8"), looks := false }, kinds := [], alts := [], laidByText := true, laidKinds := [.data, .data, .data], laidTests := true, laidLooks := .later }
def AstPlacesCardSaid : Prop := Claim7.holds Tryd.pinned (.plain (OpenSpec.ofChange astPlacesSpec)) astPlacesCard

/-- THE SECOND FORM's CARD OF 'cruciblelaw08.AstSizes'. -/
def astSizesUptoCard : Claim7 := { stood := { row := astSizesUptoRow, standIns := [], harness := (true, "30733af215893e93395ab22b5321d54ac6988dc34f37be9ec6d43a2b17fb96c8"), looks := false }, kinds := [], alts := [], laidByText := true, laidKinds := [.data, .data, .data], laidTests := true, laidLooks := .later }
def AstSizesUptoCardSaid : Prop := Claim7.holds Tryd.pinned (.plain (OpenSpec.upto astSizesSpec)) astSizesUptoCard

/-- THE SECOND FORM's CARD OF 'cruciblelaw08.AstSame'. -/
def astSameUptoCard : Claim7 := { stood := { row := astSameUptoRow, standIns := [], harness := (true, "30733af215893e93395ab22b5321d54ac6988dc34f37be9ec6d43a2b17fb96c8"), looks := false }, kinds := [], alts := [], laidByText := true, laidKinds := [.data, .data, .data], laidTests := true, laidLooks := .later }
def AstSameUptoCardSaid : Prop := Claim7.holds Tryd.pinned (.plain (OpenSpec.upto astSameSpec)) astSameUptoCard

/-- THE SECOND FORM's CARD OF 'cruciblelaw08.AstPlaces'. -/
def astPlacesUptoCard : Claim7 := { stood := { row := astPlacesUptoRow, standIns := [], harness := (true, "30733af215893e93395ab22b5321d54ac6988dc34f37be9ec6d43a2b17fb96c8"), looks := false }, kinds := [], alts := [], laidByText := true, laidKinds := [.data, .data, .data], laidTests := true, laidLooks := .later }
def AstPlacesUptoCardSaid : Prop := Claim7.holds Tryd.pinned (.plain (OpenSpec.upto astPlacesSpec)) astPlacesUptoCard
end Rows
end Go.Proofs.YtnnnfabpceapcaaDoor
