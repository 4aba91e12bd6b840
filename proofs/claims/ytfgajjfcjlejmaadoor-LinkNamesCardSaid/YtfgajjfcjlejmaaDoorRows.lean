/-
  NARROWER THAN 'FOR EVERY INPUT', by the rows' own cells (each row's printed sentence says how): LinkPlays: laid · LinkNames: laid · LinkOrder: laid · LinkComes: laid · LinkQuiet: laid.
  DERIVED. THE GIVEN ROWS OF THIS SEAT. 5 by the template 'for every input the law returns true; each argument reads behind the call as it read before'; 0 by the template 'total and deterministic' (their statements: YtfgajjfcjlejmaaDoorTotals.lean).
  GIVEN WITH THE SEED: the statements are not yours to turn. If you find one false, say at which input.
  Laid BY PROGRAM, IN A SANDBOX (cutbox-rows.mjs): the forced cells as the released guide's own fill.sh prints them over the translation f6049e9cd190ce60… (all of the seat's roots in one cut). By AI agents, Wed Nov 11 2026. No macro, syntax, notation, axiom, sorry.
-/
import Derived.Test.YtfgajjfcjlejmaaDoorChecked
import GoSem.Claim
import GoSem.ClaimJoined
import GoSem.ClaimMapViews
import Derived.JoinedTies
import Derived.KernelRfl
namespace Go.Proofs.YtfgajjfcjlejmaaDoor
/- THE CELL 'sum', in the pinned program and in every row, IS THE sha256 OF THE DUMP (.gsa) THAT YtfgajjfcjlejmaaDoorProg.lean LOADS. Nothing in Lean hashes anything: it is a label: what it is worth is what the hold of that sum in a sandbox is worth. -/
noncomputable def Tryd.pinned : Pinned := { name := "ytfgajjfcjlejmaadoor", sum := "f6049e9cd190ce6062f05289533f20c45136e492c587bb8eda26ad461d2fe652", checked := Tryd.checked }
namespace Rows
def none {H : Type} : Left H := { results := [], args := [] }

/- WHAT THE LISTED PACKAGE-LEVEL VARIABLES READ AS WHEN THE CALL BEGINS. Each datum BY PROGRAM (the guide's laid-datum.mjs) off the statement by which the dump's own 'gosem.cut.vars' lays the variable. In a bare row this is a premise. The card (YtfgajjfcjlejmaaDoorCards.lean) ties it to the program's text. -/
def laid_math_bits_deBruijn64tab {H : Type} : DataW H := .agg [.lit (.int .u8 0), .lit (.int .u8 1), .lit (.int .u8 56), .lit (.int .u8 2), .lit (.int .u8 57), .lit (.int .u8 49), .lit (.int .u8 28), .lit (.int .u8 3), .lit (.int .u8 61), .lit (.int .u8 58), .lit (.int .u8 42), .lit (.int .u8 50), .lit (.int .u8 38), .lit (.int .u8 29), .lit (.int .u8 17), .lit (.int .u8 4), .lit (.int .u8 62), .lit (.int .u8 47), .lit (.int .u8 59), .lit (.int .u8 36), .lit (.int .u8 45), .lit (.int .u8 43), .lit (.int .u8 51), .lit (.int .u8 22), .lit (.int .u8 53), .lit (.int .u8 39), .lit (.int .u8 33), .lit (.int .u8 30), .lit (.int .u8 24), .lit (.int .u8 18), .lit (.int .u8 12), .lit (.int .u8 5), .lit (.int .u8 63), .lit (.int .u8 55), .lit (.int .u8 48), .lit (.int .u8 27), .lit (.int .u8 60), .lit (.int .u8 41), .lit (.int .u8 37), .lit (.int .u8 16), .lit (.int .u8 46), .lit (.int .u8 35), .lit (.int .u8 44), .lit (.int .u8 21), .lit (.int .u8 52), .lit (.int .u8 32), .lit (.int .u8 23), .lit (.int .u8 11), .lit (.int .u8 54), .lit (.int .u8 26), .lit (.int .u8 40), .lit (.int .u8 15), .lit (.int .u8 34), .lit (.int .u8 20), .lit (.int .u8 31), .lit (.int .u8 10), .lit (.int .u8 25), .lit (.int .u8 14), .lit (.int .u8 19), .lit (.int .u8 9), .lit (.int .u8 13), .lit (.int .u8 8), .lit (.int .u8 7), .lit (.int .u8 6)]
def laid_wagonway_wire_rules {H : Type} : DataW H := .agg [.agg [.lit (.int .i64 0), .lit (.int .i64 0), .lit (.int .i64 0)], .agg [.lit (.int .i64 2), .lit (.int .i64 0), .lit (.int .i64 1023)], .agg [.lit (.int .i64 4), .lit (.int .i64 0), .lit (.int .i64 4294967295)], .agg [.lit (.int .i64 8), .lit (.int .i64 (-9223372036854775808)), .lit (.int .i64 9223372036854775807)], .agg [.lit (.int .i64 1), .lit (.int .i64 0), .lit (.int .i64 15)], .agg [.lit (.int .i64 1), .lit (.int .i64 0), .lit (.int .i64 64)], .agg [.lit (.int .i64 1), .lit (.int .i64 0), .lit (.int .i64 63)], .agg [.lit (.int .i64 1), .lit (.int .i64 (-1)), .lit (.int .i64 63)], .agg [.lit (.int .i64 1), .lit (.int .i64 0), .lit (.int .i64 16)]]
def laid_wagonway_wire_kinds {H : Type} : DataW H := .agg [.agg [.lit (.string []), .agg [.lit (.int .i64 0), .lit (.int .i64 0), .lit (.int .i64 0), .lit (.int .i64 0), .lit (.int .i64 0)]], .agg [.lit (.string [114, 101, 113, 117, 101, 115, 116]), .agg [.lit (.int .i64 1), .lit (.int .i64 3), .lit (.int .i64 4), .lit (.int .i64 0), .lit (.int .i64 0)]], .agg [.lit (.string [103, 114, 97, 110, 116]), .agg [.lit (.int .i64 1), .lit (.int .i64 2), .lit (.int .i64 3), .lit (.int .i64 0), .lit (.int .i64 0)]], .agg [.lit (.string [114, 101, 108, 101, 97, 115, 101]), .agg [.lit (.int .i64 1), .lit (.int .i64 2), .lit (.int .i64 0), .lit (.int .i64 0), .lit (.int .i64 0)]], .agg [.lit (.string [97, 99, 107]), .agg [.lit (.int .i64 0), .lit (.int .i64 0), .lit (.int .i64 0), .lit (.int .i64 0), .lit (.int .i64 0)]], .agg [.lit (.string [100, 101, 110, 121]), .agg [.lit (.int .i64 1), .lit (.int .i64 3), .lit (.int .i64 7), .lit (.int .i64 0), .lit (.int .i64 0)]], .agg [.lit (.string [112, 114, 111, 98, 101]), .agg [.lit (.int .i64 1), .lit (.int .i64 6), .lit (.int .i64 7), .lit (.int .i64 4), .lit (.int .i64 5)]], .agg [.lit (.string [97, 98, 111, 114, 116]), .agg [.lit (.int .i64 6), .lit (.int .i64 7), .lit (.int .i64 0), .lit (.int .i64 0), .lit (.int .i64 0)]], .agg [.lit (.string [105, 110, 104, 101, 114, 105, 116]), .agg [.lit (.int .i64 1), .lit (.int .i64 4), .lit (.int .i64 0), .lit (.int .i64 0), .lit (.int .i64 0)]], .agg [.lit (.string [104, 101, 108, 108, 111]), .agg [.lit (.int .i64 0), .lit (.int .i64 0), .lit (.int .i64 0), .lit (.int .i64 0), .lit (.int .i64 0)]], .agg [.lit (.string [114, 101, 99, 97, 108, 108]), .agg [.lit (.int .i64 1), .lit (.int .i64 2), .lit (.int .i64 0), .lit (.int .i64 0), .lit (.int .i64 0)]], .agg [.lit (.string [115, 116, 97, 116, 117, 115]), .agg [.lit (.int .i64 8), .lit (.int .i64 0), .lit (.int .i64 0), .lit (.int .i64 0), .lit (.int .i64 0)]]]

/-- 'wagonwaylaw11.LinkPlays': WHATEVER THE INPUT: true; the input reads as it did. -/
def linkPlaysSpec : ChangeSpec := { name := "linkPlays", fn := fun _ => fun
  | [d1, d2, d3, d4, d5] => { results := [.lit (.bool true)], args := [d1, d2, d3, d4, d5] }
  | _ => none }
def linkPlaysRow : OpenClaim := { program := "ytfgajjfcjlejmaadoor", sum := "f6049e9cd190ce6062f05289533f20c45136e492c587bb8eda26ad461d2fe652", func := "wagonway/wagonwaylaw11.LinkPlays", spec := "linkPlays", unfollowed := true, recurses := true, named := ["wagonway/wire.rules", "wagonway/wire.kinds", "math/bits.deBruijn64tab"], plainKeys := false, apart := false, laid := [("math/bits.deBruijn64tab", laid_math_bits_deBruijn64tab), ("wagonway/wire.rules", laid_wagonway_wire_rules), ("wagonway/wire.kinds", laid_wagonway_wire_kinds)] }
def LinkPlaysSaid : Prop := linkPlaysRow.holds Tryd.pinned (OpenSpec.ofChange linkPlaysSpec)

/-- ITS FALSE NEIGHBOUR: 'it returns false'. Refute it at one input. -/
def linkPlaysWrong : ChangeSpec := { name := "linkPlays", fn := fun _ => fun
  | [d1, d2, d3, d4, d5] => { results := [.lit (.bool false)], args := [d1, d2, d3, d4, d5] }
  | _ => none }
def LinkPlaysWrongFalsely : Prop := linkPlaysRow.holds Tryd.pinned (OpenSpec.ofChange linkPlaysWrong)

/-- 'wagonwaylaw11.LinkNames': WHATEVER THE INPUT: true; the input reads as it did. -/
def linkNamesSpec : ChangeSpec := { name := "linkNames", fn := fun _ => fun
  | [] => { results := [.lit (.bool true)], args := [] }
  | _ => none }
def linkNamesRow : OpenClaim := { program := "ytfgajjfcjlejmaadoor", sum := "f6049e9cd190ce6062f05289533f20c45136e492c587bb8eda26ad461d2fe652", func := "wagonway/wagonwaylaw11.LinkNames", spec := "linkNames", unfollowed := true, recurses := true, named := ["wagonway/wire.rules", "wagonway/wire.kinds", "math/bits.deBruijn64tab"], plainKeys := false, apart := false, laid := [("math/bits.deBruijn64tab", laid_math_bits_deBruijn64tab), ("wagonway/wire.rules", laid_wagonway_wire_rules), ("wagonway/wire.kinds", laid_wagonway_wire_kinds)] }
def LinkNamesSaid : Prop := linkNamesRow.holds Tryd.pinned (OpenSpec.ofChange linkNamesSpec)

/-- ITS FALSE NEIGHBOUR: 'it returns false'. Refute it at one input. -/
def linkNamesWrong : ChangeSpec := { name := "linkNames", fn := fun _ => fun
  | [] => { results := [.lit (.bool false)], args := [] }
  | _ => none }
def LinkNamesWrongFalsely : Prop := linkNamesRow.holds Tryd.pinned (OpenSpec.ofChange linkNamesWrong)

/-- 'wagonwaylaw11.LinkOrder': WHATEVER THE INPUT: true; the input reads as it did. -/
def linkOrderSpec : ChangeSpec := { name := "linkOrder", fn := fun _ => fun
  | [d] => { results := [.lit (.bool true)], args := [d] }
  | _ => none }
def linkOrderRow : OpenClaim := { program := "ytfgajjfcjlejmaadoor", sum := "f6049e9cd190ce6062f05289533f20c45136e492c587bb8eda26ad461d2fe652", func := "wagonway/wagonwaylaw11.LinkOrder", spec := "linkOrder", unfollowed := true, recurses := true, named := ["wagonway/wire.rules", "wagonway/wire.kinds", "math/bits.deBruijn64tab"], plainKeys := false, apart := false, laid := [("math/bits.deBruijn64tab", laid_math_bits_deBruijn64tab), ("wagonway/wire.rules", laid_wagonway_wire_rules), ("wagonway/wire.kinds", laid_wagonway_wire_kinds)] }
def LinkOrderSaid : Prop := linkOrderRow.holds Tryd.pinned (OpenSpec.ofChange linkOrderSpec)

/-- ITS FALSE NEIGHBOUR: 'it returns false'. Refute it at one input. -/
def linkOrderWrong : ChangeSpec := { name := "linkOrder", fn := fun _ => fun
  | [d] => { results := [.lit (.bool false)], args := [d] }
  | _ => none }
def LinkOrderWrongFalsely : Prop := linkOrderRow.holds Tryd.pinned (OpenSpec.ofChange linkOrderWrong)

/-- 'wagonwaylaw11.LinkComes': WHATEVER THE INPUT: true; the input reads as it did. -/
def linkComesSpec : ChangeSpec := { name := "linkComes", fn := fun _ => fun
  | [d1, d2] => { results := [.lit (.bool true)], args := [d1, d2] }
  | _ => none }
def linkComesRow : OpenClaim := { program := "ytfgajjfcjlejmaadoor", sum := "f6049e9cd190ce6062f05289533f20c45136e492c587bb8eda26ad461d2fe652", func := "wagonway/wagonwaylaw11.LinkComes", spec := "linkComes", unfollowed := true, recurses := true, named := ["wagonway/wire.rules", "wagonway/wire.kinds", "math/bits.deBruijn64tab"], plainKeys := false, apart := false, laid := [("math/bits.deBruijn64tab", laid_math_bits_deBruijn64tab), ("wagonway/wire.rules", laid_wagonway_wire_rules), ("wagonway/wire.kinds", laid_wagonway_wire_kinds)] }
def LinkComesSaid : Prop := linkComesRow.holds Tryd.pinned (OpenSpec.ofChange linkComesSpec)

/-- ITS FALSE NEIGHBOUR: 'it returns false'. Refute it at one input. -/
def linkComesWrong : ChangeSpec := { name := "linkComes", fn := fun _ => fun
  | [d1, d2] => { results := [.lit (.bool false)], args := [d1, d2] }
  | _ => none }
def LinkComesWrongFalsely : Prop := linkComesRow.holds Tryd.pinned (OpenSpec.ofChange linkComesWrong)

/-- 'wagonwaylaw11.LinkQuiet': WHATEVER THE INPUT: true; the input reads as it did. -/
def linkQuietSpec : ChangeSpec := { name := "linkQuiet", fn := fun _ => fun
  | [d1, d2] => { results := [.lit (.bool true)], args := [d1, d2] }
  | _ => none }
def linkQuietRow : OpenClaim := { program := "ytfgajjfcjlejmaadoor", sum := "f6049e9cd190ce6062f05289533f20c45136e492c587bb8eda26ad461d2fe652", func := "wagonway/wagonwaylaw11.LinkQuiet", spec := "linkQuiet", unfollowed := true, recurses := true, named := ["wagonway/wire.rules", "wagonway/wire.kinds", "math/bits.deBruijn64tab"], plainKeys := false, apart := false, laid := [("math/bits.deBruijn64tab", laid_math_bits_deBruijn64tab), ("wagonway/wire.rules", laid_wagonway_wire_rules), ("wagonway/wire.kinds", laid_wagonway_wire_kinds)] }
def LinkQuietSaid : Prop := linkQuietRow.holds Tryd.pinned (OpenSpec.ofChange linkQuietSpec)

/-- ITS FALSE NEIGHBOUR: 'it returns false'. Refute it at one input. -/
def linkQuietWrong : ChangeSpec := { name := "linkQuiet", fn := fun _ => fun
  | [d1, d2] => { results := [.lit (.bool false)], args := [d1, d2] }
  | _ => none }
def LinkQuietWrongFalsely : Prop := linkQuietRow.holds Tryd.pinned (OpenSpec.ofChange linkQuietWrong)

/- THE SECOND FORM. 'bulk': how many values and letters a reading holds, each counted each time it is reached (what is shared counts as often as it is met; a slice's spare places count too). A statement '..UptoSaid' is the law's where the arguments, and the package variables that the reading takes, are together of bulk at most 1048576: NARROWER than '..Said'. Prove '..Said' where nothing that the law and all that it calls make is longer than what came in: it says more and counts as full. Else prove '..UptoSaid'. A law counts once. -/
mutual
def uptoBulk {H : Type} : DataW H → Nat
  | .lit (.string bytes) => bytes.length + 1
  | .lit _ => 1
  | .nil => 1
  | .ptr d => uptoBulk d + 1
  | .slice elems spare => uptoBulkAll elems + uptoBulkAll spare + 1
  | .agg parts => uptoBulkAll parts + 1
  | .iface _ d => uptoBulk d + 1
  | .map entries => uptoBulkEntries entries + 1
  | .held _ => 1
def uptoBulkAll {H : Type} : List (DataW H) → Nat
  | [] => 0
  | d :: r => uptoBulk d + uptoBulkAll r
def uptoBulkEntries {H : Type} : List (Lit × DataW H) → Nat
  | [] => 0
  | x :: r => uptoBulkEntry x + uptoBulkEntries r
def uptoBulkEntry {H : Type} : Lit × DataW H → Nat
  | (.string bytes, d) => bytes.length + uptoBulk d + 1
  | (_, d) => uptoBulk d + 1
 end
def uptoSmall : (H : Type) → List (DataW H) → Bool := fun _ ds => decide (uptoBulkAll ds ≤ 1048576)
def OpenSpec.upto (s : _root_.Go.ChangeSpec) : _root_.Go.OpenSpec := { _root_.Go.OpenSpec.ofChange s with cond := some uptoSmall }

/-- 'wagonwaylaw11.LinkPlays', WHERE WHAT IT READS IS OF BULK AT MOST 1048576: true; the input reads as it did. -/
def linkPlaysUptoRow : OpenClaim := { program := "ytfgajjfcjlejmaadoor", sum := "f6049e9cd190ce6062f05289533f20c45136e492c587bb8eda26ad461d2fe652", func := "wagonway/wagonwaylaw11.LinkPlays", spec := "linkPlays", unfollowed := true, recurses := true, named := ["wagonway/wire.rules", "wagonway/wire.kinds", "math/bits.deBruijn64tab"], plainKeys := false, apart := false, laid := [("math/bits.deBruijn64tab", laid_math_bits_deBruijn64tab), ("wagonway/wire.rules", laid_wagonway_wire_rules), ("wagonway/wire.kinds", laid_wagonway_wire_kinds)], narrowed := true }
def LinkPlaysUptoSaid : Prop := linkPlaysUptoRow.holds Tryd.pinned (OpenSpec.upto linkPlaysSpec)

/-- 'wagonwaylaw11.LinkNames', WHERE WHAT IT READS IS OF BULK AT MOST 1048576: true; the input reads as it did. -/
def linkNamesUptoRow : OpenClaim := { program := "ytfgajjfcjlejmaadoor", sum := "f6049e9cd190ce6062f05289533f20c45136e492c587bb8eda26ad461d2fe652", func := "wagonway/wagonwaylaw11.LinkNames", spec := "linkNames", unfollowed := true, recurses := true, named := ["wagonway/wire.rules", "wagonway/wire.kinds", "math/bits.deBruijn64tab"], plainKeys := false, apart := false, laid := [("math/bits.deBruijn64tab", laid_math_bits_deBruijn64tab), ("wagonway/wire.rules", laid_wagonway_wire_rules), ("wagonway/wire.kinds", laid_wagonway_wire_kinds)], narrowed := true }
def LinkNamesUptoSaid : Prop := linkNamesUptoRow.holds Tryd.pinned (OpenSpec.upto linkNamesSpec)

/-- 'wagonwaylaw11.LinkOrder', WHERE WHAT IT READS IS OF BULK AT MOST 1048576: true; the input reads as it did. -/
def linkOrderUptoRow : OpenClaim := { program := "ytfgajjfcjlejmaadoor", sum := "f6049e9cd190ce6062f05289533f20c45136e492c587bb8eda26ad461d2fe652", func := "wagonway/wagonwaylaw11.LinkOrder", spec := "linkOrder", unfollowed := true, recurses := true, named := ["wagonway/wire.rules", "wagonway/wire.kinds", "math/bits.deBruijn64tab"], plainKeys := false, apart := false, laid := [("math/bits.deBruijn64tab", laid_math_bits_deBruijn64tab), ("wagonway/wire.rules", laid_wagonway_wire_rules), ("wagonway/wire.kinds", laid_wagonway_wire_kinds)], narrowed := true }
def LinkOrderUptoSaid : Prop := linkOrderUptoRow.holds Tryd.pinned (OpenSpec.upto linkOrderSpec)

/-- 'wagonwaylaw11.LinkComes', WHERE WHAT IT READS IS OF BULK AT MOST 1048576: true; the input reads as it did. -/
def linkComesUptoRow : OpenClaim := { program := "ytfgajjfcjlejmaadoor", sum := "f6049e9cd190ce6062f05289533f20c45136e492c587bb8eda26ad461d2fe652", func := "wagonway/wagonwaylaw11.LinkComes", spec := "linkComes", unfollowed := true, recurses := true, named := ["wagonway/wire.rules", "wagonway/wire.kinds", "math/bits.deBruijn64tab"], plainKeys := false, apart := false, laid := [("math/bits.deBruijn64tab", laid_math_bits_deBruijn64tab), ("wagonway/wire.rules", laid_wagonway_wire_rules), ("wagonway/wire.kinds", laid_wagonway_wire_kinds)], narrowed := true }
def LinkComesUptoSaid : Prop := linkComesUptoRow.holds Tryd.pinned (OpenSpec.upto linkComesSpec)

/-- 'wagonwaylaw11.LinkQuiet', WHERE WHAT IT READS IS OF BULK AT MOST 1048576: true; the input reads as it did. -/
def linkQuietUptoRow : OpenClaim := { program := "ytfgajjfcjlejmaadoor", sum := "f6049e9cd190ce6062f05289533f20c45136e492c587bb8eda26ad461d2fe652", func := "wagonway/wagonwaylaw11.LinkQuiet", spec := "linkQuiet", unfollowed := true, recurses := true, named := ["wagonway/wire.rules", "wagonway/wire.kinds", "math/bits.deBruijn64tab"], plainKeys := false, apart := false, laid := [("math/bits.deBruijn64tab", laid_math_bits_deBruijn64tab), ("wagonway/wire.rules", laid_wagonway_wire_rules), ("wagonway/wire.kinds", laid_wagonway_wire_kinds)], narrowed := true }
def LinkQuietUptoSaid : Prop := linkQuietUptoRow.holds Tryd.pinned (OpenSpec.upto linkQuietSpec)

end Rows
end Go.Proofs.YtfgajjfcjlejmaaDoor
