/-
  DERIVED. GIVEN WITH THE SEED: THE CARDS: each row of YtjeioblhpfogfaaGreatDoorRows.lean that lists a variable, with what it lists TIED to the program's text (the seventh form; the later family's looks); each row that meets fmt, with fmt's text TOLD by the authors' own Lean function (tested against real Go, not proved from fmt's source: count such statements apart). THE CARD IS WHAT COUNTS. Prove the row's statement (the work); the ties are given (YtjeioblhpfogfaaGreatDoorTie.lean); close each card by the builder's one call (the guide's Derived/Test/ToyasCard.lean, 'card_holds'). Laid BY PROGRAM, IN A SANDBOX (cutbox-door.mjs). By AI agents, Wed Nov 11 2026. No macro, syntax, notation, axiom, sorry.
-/
import Derived.Test.YtjeioblhpfogfaaGreatDoorRows
import GoSem.ClaimSeven
namespace Go.Proofs.YtjeioblhpfogfaaGreatDoor
namespace Rows

/-- THE TIED CARD OF 'cruciblelaw09.ParserParses'. -/
def parserParsesCard : Claim7 := { stood := { row := parserParsesRow, standIns := [], harness := (true, "77a630e487bb10014cf4b5b85eaf1ebb5f59b76c62ad4e78c26702fa1ac703fb"), looks := true }, kinds := [], alts := [], laidByText := true, laidKinds := [.data], laidTests := true, laidLooks := .later }
def ParserParsesCardSaid : Prop := Claim7.holds Tryz.pinned (.plain (OpenSpec.ofChange parserParsesSpec)) parserParsesCard

/-- THE TIED CARD OF 'cruciblelaw09.ParserExpressions'. -/
def parserExpressionsCard : Claim7 := { stood := { row := parserExpressionsRow, standIns := [], harness := (true, "77a630e487bb10014cf4b5b85eaf1ebb5f59b76c62ad4e78c26702fa1ac703fb"), looks := true }, kinds := [], alts := [], laidByText := true, laidKinds := [.data], laidTests := true, laidLooks := .later }
def ParserExpressionsCardSaid : Prop := Claim7.holds Tryz.pinned (.plain (OpenSpec.ofChange parserExpressionsSpec)) parserExpressionsCard

/-- THE TIED CARD OF 'cruciblelaw09.ParserBack'. -/
def parserBackCard : Claim7 := { stood := { row := parserBackRow, standIns := [], harness := (true, "77a630e487bb10014cf4b5b85eaf1ebb5f59b76c62ad4e78c26702fa1ac703fb"), looks := true }, kinds := [], alts := [], laidByText := true, laidKinds := [.data, .data, .data, .data], laidTests := true, laidLooks := .later }
def ParserBackCardSaid : Prop := Claim7.holds Tryz.pinned (.plain (OpenSpec.ofChange parserBackSpec)) parserBackCard

/-- THE TIED CARD OF 'cruciblelaw09.ParserTwice'. -/
def parserTwiceCard : Claim7 := { stood := { row := parserTwiceRow, standIns := [], harness := (true, "77a630e487bb10014cf4b5b85eaf1ebb5f59b76c62ad4e78c26702fa1ac703fb"), looks := true }, kinds := [], alts := [], laidByText := true, laidKinds := [.data, .data, .data, .data], laidTests := true, laidLooks := .later }
def ParserTwiceCardSaid : Prop := Claim7.holds Tryz.pinned (.plain (OpenSpec.ofChange parserTwiceSpec)) parserTwiceCard

/-- THE TIED CARD OF 'cruciblelaw09.ParserApart'. -/
def parserApartCard : Claim7 := { stood := { row := parserApartRow, standIns := [], harness := (true, "77a630e487bb10014cf4b5b85eaf1ebb5f59b76c62ad4e78c26702fa1ac703fb"), looks := true }, kinds := [], alts := [], laidByText := true, laidKinds := [.data], laidTests := true, laidLooks := .later }
def ParserApartCardSaid : Prop := Claim7.holds Tryz.pinned (.plain (OpenSpec.ofChange parserApartSpec)) parserApartCard

/-- THE SECOND FORM's CARD OF 'cruciblelaw09.ParserParses'. -/
def parserParsesUptoCard : Claim7 := { stood := { row := parserParsesUptoRow, standIns := [], harness := (true, "77a630e487bb10014cf4b5b85eaf1ebb5f59b76c62ad4e78c26702fa1ac703fb"), looks := true }, kinds := [], alts := [], laidByText := true, laidKinds := [.data], laidTests := true, laidLooks := .later }
def ParserParsesUptoCardSaid : Prop := Claim7.holds Tryz.pinned (.plain (OpenSpec.upto parserParsesSpec)) parserParsesUptoCard

/-- THE SECOND FORM's CARD OF 'cruciblelaw09.ParserExpressions'. -/
def parserExpressionsUptoCard : Claim7 := { stood := { row := parserExpressionsUptoRow, standIns := [], harness := (true, "77a630e487bb10014cf4b5b85eaf1ebb5f59b76c62ad4e78c26702fa1ac703fb"), looks := true }, kinds := [], alts := [], laidByText := true, laidKinds := [.data], laidTests := true, laidLooks := .later }
def ParserExpressionsUptoCardSaid : Prop := Claim7.holds Tryz.pinned (.plain (OpenSpec.upto parserExpressionsSpec)) parserExpressionsUptoCard

/-- THE SECOND FORM's CARD OF 'cruciblelaw09.ParserBack'. -/
def parserBackUptoCard : Claim7 := { stood := { row := parserBackUptoRow, standIns := [], harness := (true, "77a630e487bb10014cf4b5b85eaf1ebb5f59b76c62ad4e78c26702fa1ac703fb"), looks := true }, kinds := [], alts := [], laidByText := true, laidKinds := [.data, .data, .data, .data], laidTests := true, laidLooks := .later }
def ParserBackUptoCardSaid : Prop := Claim7.holds Tryz.pinned (.plain (OpenSpec.upto parserBackSpec)) parserBackUptoCard

/-- THE SECOND FORM's CARD OF 'cruciblelaw09.ParserTwice'. -/
def parserTwiceUptoCard : Claim7 := { stood := { row := parserTwiceUptoRow, standIns := [], harness := (true, "77a630e487bb10014cf4b5b85eaf1ebb5f59b76c62ad4e78c26702fa1ac703fb"), looks := true }, kinds := [], alts := [], laidByText := true, laidKinds := [.data, .data, .data, .data], laidTests := true, laidLooks := .later }
def ParserTwiceUptoCardSaid : Prop := Claim7.holds Tryz.pinned (.plain (OpenSpec.upto parserTwiceSpec)) parserTwiceUptoCard

/-- THE SECOND FORM's CARD OF 'cruciblelaw09.ParserApart'. -/
def parserApartUptoCard : Claim7 := { stood := { row := parserApartUptoRow, standIns := [], harness := (true, "77a630e487bb10014cf4b5b85eaf1ebb5f59b76c62ad4e78c26702fa1ac703fb"), looks := true }, kinds := [], alts := [], laidByText := true, laidKinds := [.data], laidTests := true, laidLooks := .later }
def ParserApartUptoCardSaid : Prop := Claim7.holds Tryz.pinned (.plain (OpenSpec.upto parserApartSpec)) parserApartUptoCard
end Rows
end Go.Proofs.YtjeioblhpfogfaaGreatDoor
