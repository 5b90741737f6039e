/-
  DERIVED. GIVEN WITH THE SEED: THE CARDS: each row of YtjhndnhldhmjnaaDoorRows.lean that lists a variable, with what it lists TIED to the program's text (the seventh form; the later family's looks); each row that meets fmt, with fmt's text TOLD by the authors' own Lean function (tested against real Go, not proved from fmt's source: count such statements apart). THE CARD IS WHAT COUNTS. Prove the row's statement (the work); the ties are given (YtjhndnhldhmjnaaDoorTie.lean); close each card by the builder's one call (the guide's Derived/Test/ToyasCard.lean, 'card_holds'). Laid BY PROGRAM, IN A SANDBOX (cutbox-door.mjs). By AI agents, Wed Nov 11 2026. No macro, syntax, notation, axiom, sorry.
-/
import Derived.Test.YtjhndnhldhmjnaaDoorRows
import GoSem.ClaimSeven
namespace Go.Proofs.YtjhndnhldhmjnaaDoor
namespace Rows

/-- THE TIED CARD OF 'cruciblelaw19.LatticeSolves'. -/
def latticeSolvesCard : Claim7 := { stood := { row := latticeSolvesRow, standIns := [], harness := (true, "4eeb07dceaa71660d9d62ac60804f7ce135ed456b95403fa6008fba6b48cedcd"), looks := false }, kinds := [], alts := [], laidByText := true, laidKinds := [.data], laidTests := true, laidLooks := .later }
def LatticeSolvesCardSaid : Prop := Claim7.holds Tryd.pinned (.plain (OpenSpec.ofChange latticeSolvesSpec)) latticeSolvesCard

/-- THE TIED CARD OF 'cruciblelaw19.LatticeMust'. -/
def latticeMustCard : Claim7 := { stood := { row := latticeMustRow, standIns := [], harness := (true, "4eeb07dceaa71660d9d62ac60804f7ce135ed456b95403fa6008fba6b48cedcd"), looks := false }, kinds := [], alts := [], laidByText := true, laidKinds := [.data], laidTests := true, laidLooks := .later }
def LatticeMustCardSaid : Prop := Claim7.holds Tryd.pinned (.plain (OpenSpec.ofChange latticeMustSpec)) latticeMustCard

/-- THE TIED CARD OF 'cruciblelaw19.LatticeFixed'. -/
def latticeFixedCard : Claim7 := { stood := { row := latticeFixedRow, standIns := [], harness := (true, "4eeb07dceaa71660d9d62ac60804f7ce135ed456b95403fa6008fba6b48cedcd"), looks := false }, kinds := [], alts := [], laidByText := true, laidKinds := [.data], laidTests := true, laidLooks := .later }
def LatticeFixedCardSaid : Prop := Claim7.holds Tryd.pinned (.plain (OpenSpec.ofChange latticeFixedSpec)) latticeFixedCard

/-- THE TIED CARD OF 'cruciblelaw19.LatticeOrder'. -/
def latticeOrderCard : Claim7 := { stood := { row := latticeOrderRow, standIns := [], harness := (true, "4eeb07dceaa71660d9d62ac60804f7ce135ed456b95403fa6008fba6b48cedcd"), looks := false }, kinds := [], alts := [], laidByText := true, laidKinds := [.data], laidTests := true, laidLooks := .later }
def LatticeOrderCardSaid : Prop := Claim7.holds Tryd.pinned (.plain (OpenSpec.ofChange latticeOrderSpec)) latticeOrderCard

/-- THE TIED CARD OF 'cruciblelaw19.LatticeRefuses'. -/
def latticeRefusesCard : Claim7 := { stood := { row := latticeRefusesRow, standIns := [], harness := (true, "4eeb07dceaa71660d9d62ac60804f7ce135ed456b95403fa6008fba6b48cedcd"), looks := false }, kinds := [], alts := [], laidByText := true, laidKinds := [.data], laidTests := true, laidLooks := .later }
def LatticeRefusesCardSaid : Prop := Claim7.holds Tryd.pinned (.plain (OpenSpec.ofChange latticeRefusesSpec)) latticeRefusesCard

/-- THE TIED CARD OF 'cruciblelaw19.LatticeSets'. -/
def latticeSetsCard : Claim7 := { stood := { row := latticeSetsRow, standIns := [], harness := (true, "4eeb07dceaa71660d9d62ac60804f7ce135ed456b95403fa6008fba6b48cedcd"), looks := false }, kinds := [], alts := [], laidByText := true, laidKinds := [.data], laidTests := true, laidLooks := .later }
def LatticeSetsCardSaid : Prop := Claim7.holds Tryd.pinned (.plain (OpenSpec.ofChange latticeSetsSpec)) latticeSetsCard

/-- THE SECOND FORM's CARD OF 'cruciblelaw19.LatticeSolves'. -/
def latticeSolvesUptoCard : Claim7 := { stood := { row := latticeSolvesUptoRow, standIns := [], harness := (true, "4eeb07dceaa71660d9d62ac60804f7ce135ed456b95403fa6008fba6b48cedcd"), looks := false }, kinds := [], alts := [], laidByText := true, laidKinds := [.data], laidTests := true, laidLooks := .later }
def LatticeSolvesUptoCardSaid : Prop := Claim7.holds Tryd.pinned (.plain (OpenSpec.upto latticeSolvesSpec)) latticeSolvesUptoCard

/-- THE SECOND FORM's CARD OF 'cruciblelaw19.LatticeMust'. -/
def latticeMustUptoCard : Claim7 := { stood := { row := latticeMustUptoRow, standIns := [], harness := (true, "4eeb07dceaa71660d9d62ac60804f7ce135ed456b95403fa6008fba6b48cedcd"), looks := false }, kinds := [], alts := [], laidByText := true, laidKinds := [.data], laidTests := true, laidLooks := .later }
def LatticeMustUptoCardSaid : Prop := Claim7.holds Tryd.pinned (.plain (OpenSpec.upto latticeMustSpec)) latticeMustUptoCard

/-- THE SECOND FORM's CARD OF 'cruciblelaw19.LatticeFixed'. -/
def latticeFixedUptoCard : Claim7 := { stood := { row := latticeFixedUptoRow, standIns := [], harness := (true, "4eeb07dceaa71660d9d62ac60804f7ce135ed456b95403fa6008fba6b48cedcd"), looks := false }, kinds := [], alts := [], laidByText := true, laidKinds := [.data], laidTests := true, laidLooks := .later }
def LatticeFixedUptoCardSaid : Prop := Claim7.holds Tryd.pinned (.plain (OpenSpec.upto latticeFixedSpec)) latticeFixedUptoCard

/-- THE SECOND FORM's CARD OF 'cruciblelaw19.LatticeOrder'. -/
def latticeOrderUptoCard : Claim7 := { stood := { row := latticeOrderUptoRow, standIns := [], harness := (true, "4eeb07dceaa71660d9d62ac60804f7ce135ed456b95403fa6008fba6b48cedcd"), looks := false }, kinds := [], alts := [], laidByText := true, laidKinds := [.data], laidTests := true, laidLooks := .later }
def LatticeOrderUptoCardSaid : Prop := Claim7.holds Tryd.pinned (.plain (OpenSpec.upto latticeOrderSpec)) latticeOrderUptoCard

/-- THE SECOND FORM's CARD OF 'cruciblelaw19.LatticeRefuses'. -/
def latticeRefusesUptoCard : Claim7 := { stood := { row := latticeRefusesUptoRow, standIns := [], harness := (true, "4eeb07dceaa71660d9d62ac60804f7ce135ed456b95403fa6008fba6b48cedcd"), looks := false }, kinds := [], alts := [], laidByText := true, laidKinds := [.data], laidTests := true, laidLooks := .later }
def LatticeRefusesUptoCardSaid : Prop := Claim7.holds Tryd.pinned (.plain (OpenSpec.upto latticeRefusesSpec)) latticeRefusesUptoCard

/-- THE SECOND FORM's CARD OF 'cruciblelaw19.LatticeSets'. -/
def latticeSetsUptoCard : Claim7 := { stood := { row := latticeSetsUptoRow, standIns := [], harness := (true, "4eeb07dceaa71660d9d62ac60804f7ce135ed456b95403fa6008fba6b48cedcd"), looks := false }, kinds := [], alts := [], laidByText := true, laidKinds := [.data], laidTests := true, laidLooks := .later }
def LatticeSetsUptoCardSaid : Prop := Claim7.holds Tryd.pinned (.plain (OpenSpec.upto latticeSetsSpec)) latticeSetsUptoCard
end Rows
end Go.Proofs.YtjhndnhldhmjnaaDoor
