/-
  NARROWER THAN 'FOR EVERY INPUT', by the rows' own cells (each row's printed sentence says how): ParserParses: laid · ParserExpressions: laid · ParserBack: loops, laid · ParserTwice: laid · ParserApart: laid.
  DERIVED. THE GIVEN ROWS OF THIS SEAT. 5 by the template 'for every input the law returns true; each argument reads behind the call as it read before'; 0 by the template 'total and deterministic' (their statements: YtjeioblhpfogfaaGreatDoorTotals.lean).
  GIVEN WITH THE SEED: the statements are not yours to turn. If you find one false, say at which input.
  Laid BY PROGRAM, IN A SANDBOX (cutbox-rows.mjs): the forced cells as the released guide's own fill.sh prints them over the translation 6aa18ef8b74e466d… (all of the seat's roots in one cut). By AI agents, Wed Nov 11 2026. No macro, syntax, notation, axiom, sorry.
-/
import Derived.Test.YtjeioblhpfogfaaGreatDoorChecked
import GoSem.Claim
import GoSem.ClaimJoined
import GoSem.ClaimMapViews
import Derived.JoinedTies
import Derived.KernelRfl
namespace Go.Proofs.YtjeioblhpfogfaaGreatDoor
/- THE CELL 'sum', in the pinned program and in every row, IS THE sha256 OF THE DUMP (.gsa) THAT YtjeioblhpfogfaaGreatDoorProg.lean LOADS. Nothing in Lean hashes anything: it is a label: what it is worth is what the hold of that sum in a sandbox is worth. -/
noncomputable def Tryz.pinned : Pinned := { name := "ytjeioblhpfogfaagreatdoor", sum := "6aa18ef8b74e466d2e4a1b1dc8d78f818c87965641cabef865aac2fb9f075999", checked := Tryz.checked }
namespace Rows
def none {H : Type} : Left H := { results := [], args := [] }

/- WHAT THE LISTED PACKAGE-LEVEL VARIABLES READ AS WHEN THE CALL BEGINS. Each datum BY PROGRAM (the guide's laid-datum.mjs) off the statement by which the dump's own 'gosem.cut.vars' lays the variable. In a bare row this is a premise. The card (YtjeioblhpfogfaaGreatDoorCards.lean) ties it to the program's text. -/
def laid_crucible_parser_operators {H : Type} : DataW H := .agg [.agg [.lit (.string [124, 124]), .lit (.int .i64 2)], .agg [.lit (.string [38, 38]), .lit (.int .i64 3)], .agg [.lit (.string [124]), .lit (.int .i64 4)], .agg [.lit (.string [94]), .lit (.int .i64 5)], .agg [.lit (.string [38]), .lit (.int .i64 6)], .agg [.lit (.string [61, 61]), .lit (.int .i64 7)], .agg [.lit (.string [33, 61]), .lit (.int .i64 7)], .agg [.lit (.string [60]), .lit (.int .i64 8)], .agg [.lit (.string [62]), .lit (.int .i64 8)], .agg [.lit (.string [60, 61]), .lit (.int .i64 8)], .agg [.lit (.string [62, 61]), .lit (.int .i64 8)], .agg [.lit (.string [60, 60]), .lit (.int .i64 9)], .agg [.lit (.string [62, 62]), .lit (.int .i64 9)], .agg [.lit (.string [43]), .lit (.int .i64 10)], .agg [.lit (.string [45]), .lit (.int .i64 10)], .agg [.lit (.string [42]), .lit (.int .i64 11)], .agg [.lit (.string [47]), .lit (.int .i64 11)], .agg [.lit (.string [37]), .lit (.int .i64 11)]]
def laid_math_bits_deBruijn32tab {H : Type} : DataW H := .agg [.lit (.int .u8 0), .lit (.int .u8 1), .lit (.int .u8 28), .lit (.int .u8 2), .lit (.int .u8 29), .lit (.int .u8 14), .lit (.int .u8 24), .lit (.int .u8 3), .lit (.int .u8 30), .lit (.int .u8 22), .lit (.int .u8 20), .lit (.int .u8 15), .lit (.int .u8 25), .lit (.int .u8 17), .lit (.int .u8 4), .lit (.int .u8 8), .lit (.int .u8 31), .lit (.int .u8 27), .lit (.int .u8 13), .lit (.int .u8 23), .lit (.int .u8 21), .lit (.int .u8 19), .lit (.int .u8 16), .lit (.int .u8 7), .lit (.int .u8 26), .lit (.int .u8 12), .lit (.int .u8 18), .lit (.int .u8 6), .lit (.int .u8 11), .lit (.int .u8 5), .lit (.int .u8 10), .lit (.int .u8 9)]
def laid_math_bits_deBruijn64tab {H : Type} : DataW H := .agg [.lit (.int .u8 0), .lit (.int .u8 1), .lit (.int .u8 56), .lit (.int .u8 2), .lit (.int .u8 57), .lit (.int .u8 49), .lit (.int .u8 28), .lit (.int .u8 3), .lit (.int .u8 61), .lit (.int .u8 58), .lit (.int .u8 42), .lit (.int .u8 50), .lit (.int .u8 38), .lit (.int .u8 29), .lit (.int .u8 17), .lit (.int .u8 4), .lit (.int .u8 62), .lit (.int .u8 47), .lit (.int .u8 59), .lit (.int .u8 36), .lit (.int .u8 45), .lit (.int .u8 43), .lit (.int .u8 51), .lit (.int .u8 22), .lit (.int .u8 53), .lit (.int .u8 39), .lit (.int .u8 33), .lit (.int .u8 30), .lit (.int .u8 24), .lit (.int .u8 18), .lit (.int .u8 12), .lit (.int .u8 5), .lit (.int .u8 63), .lit (.int .u8 55), .lit (.int .u8 48), .lit (.int .u8 27), .lit (.int .u8 60), .lit (.int .u8 41), .lit (.int .u8 37), .lit (.int .u8 16), .lit (.int .u8 46), .lit (.int .u8 35), .lit (.int .u8 44), .lit (.int .u8 21), .lit (.int .u8 52), .lit (.int .u8 32), .lit (.int .u8 23), .lit (.int .u8 11), .lit (.int .u8 54), .lit (.int .u8 26), .lit (.int .u8 40), .lit (.int .u8 15), .lit (.int .u8 34), .lit (.int .u8 20), .lit (.int .u8 31), .lit (.int .u8 10), .lit (.int .u8 25), .lit (.int .u8 14), .lit (.int .u8 19), .lit (.int .u8 9), .lit (.int .u8 13), .lit (.int .u8 8), .lit (.int .u8 7), .lit (.int .u8 6)]
def laid_internal_strconv_uint64pow10 {H : Type} : DataW H := .agg [.lit (.int .u64 1), .lit (.int .u64 10), .lit (.int .u64 100), .lit (.int .u64 1000), .lit (.int .u64 10000), .lit (.int .u64 100000), .lit (.int .u64 1000000), .lit (.int .u64 10000000), .lit (.int .u64 100000000), .lit (.int .u64 1000000000), .lit (.int .u64 10000000000), .lit (.int .u64 100000000000), .lit (.int .u64 1000000000000), .lit (.int .u64 10000000000000), .lit (.int .u64 100000000000000), .lit (.int .u64 1000000000000000), .lit (.int .u64 10000000000000000), .lit (.int .u64 100000000000000000), .lit (.int .u64 1000000000000000000), .lit (.int .u64 10000000000000000000)]

/-- 'cruciblelaw09.ParserParses': WHATEVER THE INPUT: true; the input reads as it did. -/
def parserParsesSpec : ChangeSpec := { name := "parserParses", fn := fun _ => fun
  | [d] => { results := [.lit (.bool true)], args := [d] }
  | _ => none }
def parserParsesRow : OpenClaim := { program := "ytjeioblhpfogfaagreatdoor", sum := "6aa18ef8b74e466d2e4a1b1dc8d78f818c87965641cabef865aac2fb9f075999", func := "crucible/cruciblelaw09.ParserParses", spec := "parserParses", inPlace := ["internal/bytealg.IndexByteString", "internal/bytealg.IndexString"], unfollowed := true, recurses := true, named := ["internal/bytealg.MaxLen", "crucible/parser.operators"], apart := false, laid := [("crucible/parser.operators", laid_crucible_parser_operators)] }
def ParserParsesSaid : Prop := parserParsesRow.holds Tryz.pinned (OpenSpec.ofChange parserParsesSpec)

/-- ITS FALSE NEIGHBOUR: 'it returns false'. Refute it at one input. -/
def parserParsesWrong : ChangeSpec := { name := "parserParses", fn := fun _ => fun
  | [d] => { results := [.lit (.bool false)], args := [d] }
  | _ => none }
def ParserParsesWrongFalsely : Prop := parserParsesRow.holds Tryz.pinned (OpenSpec.ofChange parserParsesWrong)

/-- 'cruciblelaw09.ParserExpressions': WHATEVER THE INPUT: true; the input reads as it did. -/
def parserExpressionsSpec : ChangeSpec := { name := "parserExpressions", fn := fun _ => fun
  | [d] => { results := [.lit (.bool true)], args := [d] }
  | _ => none }
def parserExpressionsRow : OpenClaim := { program := "ytjeioblhpfogfaagreatdoor", sum := "6aa18ef8b74e466d2e4a1b1dc8d78f818c87965641cabef865aac2fb9f075999", func := "crucible/cruciblelaw09.ParserExpressions", spec := "parserExpressions", inPlace := ["internal/bytealg.IndexByteString", "internal/bytealg.IndexString"], unfollowed := true, recurses := true, named := ["internal/bytealg.MaxLen", "crucible/parser.operators"], apart := false, laid := [("crucible/parser.operators", laid_crucible_parser_operators)] }
def ParserExpressionsSaid : Prop := parserExpressionsRow.holds Tryz.pinned (OpenSpec.ofChange parserExpressionsSpec)

/-- ITS FALSE NEIGHBOUR: 'it returns false'. Refute it at one input. -/
def parserExpressionsWrong : ChangeSpec := { name := "parserExpressions", fn := fun _ => fun
  | [d] => { results := [.lit (.bool false)], args := [d] }
  | _ => none }
def ParserExpressionsWrongFalsely : Prop := parserExpressionsRow.holds Tryz.pinned (OpenSpec.ofChange parserExpressionsWrong)

/-- 'cruciblelaw09.ParserBack': WHATEVER THE INPUT: true; the input reads as it did. -/
def parserBackSpec : ChangeSpec := { name := "parserBack", fn := fun _ => fun
  | [d] => { results := [.lit (.bool true)], args := [d] }
  | _ => none }
def parserBackRow : OpenClaim := { program := "ytjeioblhpfogfaagreatdoor", sum := "6aa18ef8b74e466d2e4a1b1dc8d78f818c87965641cabef865aac2fb9f075999", func := "crucible/cruciblelaw09.ParserBack", spec := "parserBack", inPlace := ["internal/abi.NoEscape", "internal/bytealg.MakeNoZero", "internal/bytealg.IndexByteString", "internal/bytealg.IndexString"], unfollowed := true, recurses := true, named := ["internal/strconv.uint64pow10", "math/bits.deBruijn32tab", "math/bits.deBruijn64tab", "internal/bytealg.MaxLen", "crucible/parser.operators"], loops := true, apart := false, laid := [("math/bits.deBruijn32tab", laid_math_bits_deBruijn32tab), ("math/bits.deBruijn64tab", laid_math_bits_deBruijn64tab), ("internal/strconv.uint64pow10", laid_internal_strconv_uint64pow10), ("crucible/parser.operators", laid_crucible_parser_operators)] }
def ParserBackSaid : Prop := parserBackRow.holds Tryz.pinned (OpenSpec.ofChange parserBackSpec)

/-- ITS FALSE NEIGHBOUR: 'it returns false'. Refute it at one input. -/
def parserBackWrong : ChangeSpec := { name := "parserBack", fn := fun _ => fun
  | [d] => { results := [.lit (.bool false)], args := [d] }
  | _ => none }
def ParserBackWrongFalsely : Prop := parserBackRow.holds Tryz.pinned (OpenSpec.ofChange parserBackWrong)

/-- 'cruciblelaw09.ParserTwice': WHATEVER THE INPUT: true; the input reads as it did. -/
def parserTwiceSpec : ChangeSpec := { name := "parserTwice", fn := fun _ => fun
  | [d] => { results := [.lit (.bool true)], args := [d] }
  | _ => none }
def parserTwiceRow : OpenClaim := { program := "ytjeioblhpfogfaagreatdoor", sum := "6aa18ef8b74e466d2e4a1b1dc8d78f818c87965641cabef865aac2fb9f075999", func := "crucible/cruciblelaw09.ParserTwice", spec := "parserTwice", inPlace := ["internal/bytealg.IndexByteString", "internal/bytealg.IndexString", "internal/abi.NoEscape", "internal/bytealg.MakeNoZero"], unfollowed := true, recurses := true, named := ["internal/bytealg.MaxLen", "crucible/parser.operators", "internal/strconv.uint64pow10", "math/bits.deBruijn32tab", "math/bits.deBruijn64tab"], apart := false, laid := [("math/bits.deBruijn32tab", laid_math_bits_deBruijn32tab), ("math/bits.deBruijn64tab", laid_math_bits_deBruijn64tab), ("internal/strconv.uint64pow10", laid_internal_strconv_uint64pow10), ("crucible/parser.operators", laid_crucible_parser_operators)] }
def ParserTwiceSaid : Prop := parserTwiceRow.holds Tryz.pinned (OpenSpec.ofChange parserTwiceSpec)

/-- ITS FALSE NEIGHBOUR: 'it returns false'. Refute it at one input. -/
def parserTwiceWrong : ChangeSpec := { name := "parserTwice", fn := fun _ => fun
  | [d] => { results := [.lit (.bool false)], args := [d] }
  | _ => none }
def ParserTwiceWrongFalsely : Prop := parserTwiceRow.holds Tryz.pinned (OpenSpec.ofChange parserTwiceWrong)

/-- 'cruciblelaw09.ParserApart': WHATEVER THE INPUT: true; the input reads as it did. -/
def parserApartSpec : ChangeSpec := { name := "parserApart", fn := fun _ => fun
  | [d1, d2] => { results := [.lit (.bool true)], args := [d1, d2] }
  | _ => none }
def parserApartRow : OpenClaim := { program := "ytjeioblhpfogfaagreatdoor", sum := "6aa18ef8b74e466d2e4a1b1dc8d78f818c87965641cabef865aac2fb9f075999", func := "crucible/cruciblelaw09.ParserApart", spec := "parserApart", inPlace := ["internal/bytealg.IndexByteString", "internal/bytealg.IndexString"], unfollowed := true, recurses := true, named := ["internal/bytealg.MaxLen", "crucible/parser.operators"], apart := false, laid := [("crucible/parser.operators", laid_crucible_parser_operators)] }
def ParserApartSaid : Prop := parserApartRow.holds Tryz.pinned (OpenSpec.ofChange parserApartSpec)

/-- ITS FALSE NEIGHBOUR: 'it returns false'. Refute it at one input. -/
def parserApartWrong : ChangeSpec := { name := "parserApart", fn := fun _ => fun
  | [d1, d2] => { results := [.lit (.bool false)], args := [d1, d2] }
  | _ => none }
def ParserApartWrongFalsely : Prop := parserApartRow.holds Tryz.pinned (OpenSpec.ofChange parserApartWrong)

/- THE SECOND FORM. 'bulk': how many values and letters a reading holds, each counted each time it is reached (what is shared counts as often as it is met; a slice's spare places count too). A statement '..UptoSaid' is the law's where the arguments, and the package variables that the reading takes, are together of bulk at most 1048576: NARROWER than '..Said'. Prove '..Said' where nothing that the law and all that it calls make is longer than what came in: it says more and counts as full. Else prove '..UptoSaid'. A law counts once. -/
mutual
def uptoBulk {H : Type} : DataW H → Nat
  | .lit (.string bytes) => bytes.length + 1
  | .lit _ => 1
  | .nil => 1
  | .ptr d => uptoBulk d + 1
  | .slice elems spare => uptoBulkAll elems + uptoBulkAll spare + 1
  | .agg parts => uptoBulkAll parts + 1
  | .iface _ d => uptoBulk d + 1
  | .map entries => uptoBulkEntries entries + 1
  | .held _ => 1
def uptoBulkAll {H : Type} : List (DataW H) → Nat
  | [] => 0
  | d :: r => uptoBulk d + uptoBulkAll r
def uptoBulkEntries {H : Type} : List (Lit × DataW H) → Nat
  | [] => 0
  | x :: r => uptoBulkEntry x + uptoBulkEntries r
def uptoBulkEntry {H : Type} : Lit × DataW H → Nat
  | (.string bytes, d) => bytes.length + uptoBulk d + 1
  | (_, d) => uptoBulk d + 1
 end
def uptoSmall : (H : Type) → List (DataW H) → Bool := fun _ ds => decide (uptoBulkAll ds ≤ 1048576)
def OpenSpec.upto (s : _root_.Go.ChangeSpec) : _root_.Go.OpenSpec := { _root_.Go.OpenSpec.ofChange s with cond := some uptoSmall }

/-- 'cruciblelaw09.ParserParses', WHERE WHAT IT READS IS OF BULK AT MOST 1048576: true; the input reads as it did. -/
def parserParsesUptoRow : OpenClaim := { program := "ytjeioblhpfogfaagreatdoor", sum := "6aa18ef8b74e466d2e4a1b1dc8d78f818c87965641cabef865aac2fb9f075999", func := "crucible/cruciblelaw09.ParserParses", spec := "parserParses", inPlace := ["internal/bytealg.IndexByteString", "internal/bytealg.IndexString"], unfollowed := true, recurses := true, named := ["internal/bytealg.MaxLen", "crucible/parser.operators"], apart := false, laid := [("crucible/parser.operators", laid_crucible_parser_operators)], narrowed := true }
def ParserParsesUptoSaid : Prop := parserParsesUptoRow.holds Tryz.pinned (OpenSpec.upto parserParsesSpec)

/-- 'cruciblelaw09.ParserExpressions', WHERE WHAT IT READS IS OF BULK AT MOST 1048576: true; the input reads as it did. -/
def parserExpressionsUptoRow : OpenClaim := { program := "ytjeioblhpfogfaagreatdoor", sum := "6aa18ef8b74e466d2e4a1b1dc8d78f818c87965641cabef865aac2fb9f075999", func := "crucible/cruciblelaw09.ParserExpressions", spec := "parserExpressions", inPlace := ["internal/bytealg.IndexByteString", "internal/bytealg.IndexString"], unfollowed := true, recurses := true, named := ["internal/bytealg.MaxLen", "crucible/parser.operators"], apart := false, laid := [("crucible/parser.operators", laid_crucible_parser_operators)], narrowed := true }
def ParserExpressionsUptoSaid : Prop := parserExpressionsUptoRow.holds Tryz.pinned (OpenSpec.upto parserExpressionsSpec)

/-- 'cruciblelaw09.ParserBack', WHERE WHAT IT READS IS OF BULK AT MOST 1048576: true; the input reads as it did. -/
def parserBackUptoRow : OpenClaim := { program := "ytjeioblhpfogfaagreatdoor", sum := "6aa18ef8b74e466d2e4a1b1dc8d78f818c87965641cabef865aac2fb9f075999", func := "crucible/cruciblelaw09.ParserBack", spec := "parserBack", inPlace := ["internal/abi.NoEscape", "internal/bytealg.MakeNoZero", "internal/bytealg.IndexByteString", "internal/bytealg.IndexString"], unfollowed := true, recurses := true, named := ["internal/strconv.uint64pow10", "math/bits.deBruijn32tab", "math/bits.deBruijn64tab", "internal/bytealg.MaxLen", "crucible/parser.operators"], loops := true, apart := false, laid := [("math/bits.deBruijn32tab", laid_math_bits_deBruijn32tab), ("math/bits.deBruijn64tab", laid_math_bits_deBruijn64tab), ("internal/strconv.uint64pow10", laid_internal_strconv_uint64pow10), ("crucible/parser.operators", laid_crucible_parser_operators)], narrowed := true }
def ParserBackUptoSaid : Prop := parserBackUptoRow.holds Tryz.pinned (OpenSpec.upto parserBackSpec)

/-- 'cruciblelaw09.ParserTwice', WHERE WHAT IT READS IS OF BULK AT MOST 1048576: true; the input reads as it did. -/
def parserTwiceUptoRow : OpenClaim := { program := "ytjeioblhpfogfaagreatdoor", sum := "6aa18ef8b74e466d2e4a1b1dc8d78f818c87965641cabef865aac2fb9f075999", func := "crucible/cruciblelaw09.ParserTwice", spec := "parserTwice", inPlace := ["internal/bytealg.IndexByteString", "internal/bytealg.IndexString", "internal/abi.NoEscape", "internal/bytealg.MakeNoZero"], unfollowed := true, recurses := true, named := ["internal/bytealg.MaxLen", "crucible/parser.operators", "internal/strconv.uint64pow10", "math/bits.deBruijn32tab", "math/bits.deBruijn64tab"], apart := false, laid := [("math/bits.deBruijn32tab", laid_math_bits_deBruijn32tab), ("math/bits.deBruijn64tab", laid_math_bits_deBruijn64tab), ("internal/strconv.uint64pow10", laid_internal_strconv_uint64pow10), ("crucible/parser.operators", laid_crucible_parser_operators)], narrowed := true }
def ParserTwiceUptoSaid : Prop := parserTwiceUptoRow.holds Tryz.pinned (OpenSpec.upto parserTwiceSpec)

/-- 'cruciblelaw09.ParserApart', WHERE WHAT IT READS IS OF BULK AT MOST 1048576: true; the input reads as it did. -/
def parserApartUptoRow : OpenClaim := { program := "ytjeioblhpfogfaagreatdoor", sum := "6aa18ef8b74e466d2e4a1b1dc8d78f818c87965641cabef865aac2fb9f075999", func := "crucible/cruciblelaw09.ParserApart", spec := "parserApart", inPlace := ["internal/bytealg.IndexByteString", "internal/bytealg.IndexString"], unfollowed := true, recurses := true, named := ["internal/bytealg.MaxLen", "crucible/parser.operators"], apart := false, laid := [("crucible/parser.operators", laid_crucible_parser_operators)], narrowed := true }
def ParserApartUptoSaid : Prop := parserApartUptoRow.holds Tryz.pinned (OpenSpec.upto parserApartSpec)

end Rows
end Go.Proofs.YtjeioblhpfogfaaGreatDoor
