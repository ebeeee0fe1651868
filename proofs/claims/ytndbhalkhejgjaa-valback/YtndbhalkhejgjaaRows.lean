/-
  No cell of these rows narrows 'for every input' (looked for: loops, veiled, ifaces, maps, wideKeys, modest, calm, conditions, laid).
  DERIVED. THE GIVEN ROWS OF THIS SEAT. 6 by the template 'for every input the law returns true; each argument reads behind the call as it read before'; 0 by the template 'total and deterministic' (their statements: YtndbhalkhejgjaaTotals.lean).
  GIVEN WITH THE SEED: the statements are not yours to turn. If you find one false, say at which input.
  Laid BY PROGRAM, IN A SANDBOX (cutbox-rows.mjs): the forced cells as the released guide's own fill.sh prints them over the translation 951c42ce27caa453… (all of the seat's roots in one cut). By AI agents, Wed Nov 11 2026. No macro, syntax, notation, axiom, sorry.
-/
import Derived.Test.YtndbhalkhejgjaaChecked
import GoSem.Claim
import GoSem.ClaimJoined
import GoSem.ClaimMapViews
import Derived.JoinedTies
import Derived.KernelRfl
namespace Go.Proofs.Ytndbhalkhejgjaa
/- THE CELL 'sum', in the pinned program and in every row, IS THE sha256 OF THE DUMP (.gsa) THAT YtndbhalkhejgjaaProg.lean LOADS. Nothing in Lean hashes anything: it is a label: what it is worth is what the hold of that sum in a sandbox is worth. -/
noncomputable def Try.pinned : Pinned := { name := "ytndbhalkhejgjaa", sum := "951c42ce27caa453b609fbf77da71e893c02413dd67322299a6262f9e3d404d1", checked := Try.checked }
namespace Rows
def none {H : Type} : Left H := { results := [], args := [] }

/-- 'hedgerowlaw02.ValTells': WHATEVER THE INPUT: true; the input reads as it did. -/
def valTellsSpec : ChangeSpec := { name := "valTells", fn := fun _ => fun
  | [d1, d2, d3] => { results := [.lit (.bool true)], args := [d1, d2, d3] }
  | _ => none }
def valTellsRow : OpenClaim := { program := "ytndbhalkhejgjaa", sum := "951c42ce27caa453b609fbf77da71e893c02413dd67322299a6262f9e3d404d1", func := "hedgerow/hedgerowlaw02.ValTells", spec := "valTells", unfollowed := true, recurses := true, apart := false }
def ValTellsSaid : Prop := valTellsRow.holds Try.pinned (OpenSpec.ofChange valTellsSpec)

/-- ITS FALSE NEIGHBOUR: 'it returns false'. Refute it at one input. -/
def valTellsWrong : ChangeSpec := { name := "valTells", fn := fun _ => fun
  | [d1, d2, d3] => { results := [.lit (.bool false)], args := [d1, d2, d3] }
  | _ => none }
def ValTellsWrongFalsely : Prop := valTellsRow.holds Try.pinned (OpenSpec.ofChange valTellsWrong)

/-- 'hedgerowlaw02.ValCodes': WHATEVER THE INPUT: true; the input reads as it did. -/
def valCodesSpec : ChangeSpec := { name := "valCodes", fn := fun _ => fun
  | [d1, d2, d3] => { results := [.lit (.bool true)], args := [d1, d2, d3] }
  | _ => none }
def valCodesRow : OpenClaim := { program := "ytndbhalkhejgjaa", sum := "951c42ce27caa453b609fbf77da71e893c02413dd67322299a6262f9e3d404d1", func := "hedgerow/hedgerowlaw02.ValCodes", spec := "valCodes", unfollowed := true, recurses := true, apart := false }
def ValCodesSaid : Prop := valCodesRow.holds Try.pinned (OpenSpec.ofChange valCodesSpec)

/-- ITS FALSE NEIGHBOUR: 'it returns false'. Refute it at one input. -/
def valCodesWrong : ChangeSpec := { name := "valCodes", fn := fun _ => fun
  | [d1, d2, d3] => { results := [.lit (.bool false)], args := [d1, d2, d3] }
  | _ => none }
def ValCodesWrongFalsely : Prop := valCodesRow.holds Try.pinned (OpenSpec.ofChange valCodesWrong)

/-- 'hedgerowlaw02.ValProps': WHATEVER THE INPUT: true; the input reads as it did. -/
def valPropsSpec : ChangeSpec := { name := "valProps", fn := fun _ => fun
  | [d1, d2, d3] => { results := [.lit (.bool true)], args := [d1, d2, d3] }
  | _ => none }
def valPropsRow : OpenClaim := { program := "ytndbhalkhejgjaa", sum := "951c42ce27caa453b609fbf77da71e893c02413dd67322299a6262f9e3d404d1", func := "hedgerow/hedgerowlaw02.ValProps", spec := "valProps", unfollowed := true, recurses := true, apart := false }
def ValPropsSaid : Prop := valPropsRow.holds Try.pinned (OpenSpec.ofChange valPropsSpec)

/-- ITS FALSE NEIGHBOUR: 'it returns false'. Refute it at one input. -/
def valPropsWrong : ChangeSpec := { name := "valProps", fn := fun _ => fun
  | [d1, d2, d3] => { results := [.lit (.bool false)], args := [d1, d2, d3] }
  | _ => none }
def ValPropsWrongFalsely : Prop := valPropsRow.holds Try.pinned (OpenSpec.ofChange valPropsWrong)

/-- 'hedgerowlaw02.ValSets': WHATEVER THE INPUT: true; the input reads as it did. -/
def valSetsSpec : ChangeSpec := { name := "valSets", fn := fun _ => fun
  | [d1, d2, d3] => { results := [.lit (.bool true)], args := [d1, d2, d3] }
  | _ => none }
def valSetsRow : OpenClaim := { program := "ytndbhalkhejgjaa", sum := "951c42ce27caa453b609fbf77da71e893c02413dd67322299a6262f9e3d404d1", func := "hedgerow/hedgerowlaw02.ValSets", spec := "valSets", unfollowed := true, recurses := true, apart := false }
def ValSetsSaid : Prop := valSetsRow.holds Try.pinned (OpenSpec.ofChange valSetsSpec)

/-- ITS FALSE NEIGHBOUR: 'it returns false'. Refute it at one input. -/
def valSetsWrong : ChangeSpec := { name := "valSets", fn := fun _ => fun
  | [d1, d2, d3] => { results := [.lit (.bool false)], args := [d1, d2, d3] }
  | _ => none }
def ValSetsWrongFalsely : Prop := valSetsRow.holds Try.pinned (OpenSpec.ofChange valSetsWrong)

/-- 'hedgerowlaw02.ValBack': WHATEVER THE INPUT: true; the input reads as it did. -/
def valBackSpec : ChangeSpec := { name := "valBack", fn := fun _ => fun
  | [d1, d2, d3] => { results := [.lit (.bool true)], args := [d1, d2, d3] }
  | _ => none }
def valBackRow : OpenClaim := { program := "ytndbhalkhejgjaa", sum := "951c42ce27caa453b609fbf77da71e893c02413dd67322299a6262f9e3d404d1", func := "hedgerow/hedgerowlaw02.ValBack", spec := "valBack", unfollowed := true, recurses := true, apart := false }
def ValBackSaid : Prop := valBackRow.holds Try.pinned (OpenSpec.ofChange valBackSpec)

/-- ITS FALSE NEIGHBOUR: 'it returns false'. Refute it at one input. -/
def valBackWrong : ChangeSpec := { name := "valBack", fn := fun _ => fun
  | [d1, d2, d3] => { results := [.lit (.bool false)], args := [d1, d2, d3] }
  | _ => none }
def ValBackWrongFalsely : Prop := valBackRow.holds Try.pinned (OpenSpec.ofChange valBackWrong)

/-- 'hedgerowlaw02.ValOrder': WHATEVER THE INPUT: true; the input reads as it did. -/
def valOrderSpec : ChangeSpec := { name := "valOrder", fn := fun _ => fun
  | [d1, d2, d3] => { results := [.lit (.bool true)], args := [d1, d2, d3] }
  | _ => none }
def valOrderRow : OpenClaim := { program := "ytndbhalkhejgjaa", sum := "951c42ce27caa453b609fbf77da71e893c02413dd67322299a6262f9e3d404d1", func := "hedgerow/hedgerowlaw02.ValOrder", spec := "valOrder", unfollowed := true, recurses := true, apart := false }
def ValOrderSaid : Prop := valOrderRow.holds Try.pinned (OpenSpec.ofChange valOrderSpec)

/-- ITS FALSE NEIGHBOUR: 'it returns false'. Refute it at one input. -/
def valOrderWrong : ChangeSpec := { name := "valOrder", fn := fun _ => fun
  | [d1, d2, d3] => { results := [.lit (.bool false)], args := [d1, d2, d3] }
  | _ => none }
def ValOrderWrongFalsely : Prop := valOrderRow.holds Try.pinned (OpenSpec.ofChange valOrderWrong)

/- THE SECOND FORM. 'bulk': how many values and letters a reading holds, each counted each time it is reached (what is shared counts as often as it is met; a slice's spare places count too). A statement '..UptoSaid' is the law's where the arguments, and the package variables that the reading takes, are together of bulk at most 1048576: NARROWER than '..Said'. Prove '..Said' where nothing that the law and all that it calls make is longer than what came in: it says more and counts as full. Else prove '..UptoSaid'. A law counts once. -/
mutual
def uptoBulk {H : Type} : DataW H → Nat
  | .lit (.string bytes) => bytes.length + 1
  | .lit _ => 1
  | .nil => 1
  | .ptr d => uptoBulk d + 1
  | .slice elems spare => uptoBulkAll elems + uptoBulkAll spare + 1
  | .agg parts => uptoBulkAll parts + 1
  | .iface _ d => uptoBulk d + 1
  | .map entries => uptoBulkEntries entries + 1
  | .held _ => 1
def uptoBulkAll {H : Type} : List (DataW H) → Nat
  | [] => 0
  | d :: r => uptoBulk d + uptoBulkAll r
def uptoBulkEntries {H : Type} : List (Lit × DataW H) → Nat
  | [] => 0
  | x :: r => uptoBulkEntry x + uptoBulkEntries r
def uptoBulkEntry {H : Type} : Lit × DataW H → Nat
  | (.string bytes, d) => bytes.length + uptoBulk d + 1
  | (_, d) => uptoBulk d + 1
 end
def uptoSmall : (H : Type) → List (DataW H) → Bool := fun _ ds => decide (uptoBulkAll ds ≤ 1048576)
def OpenSpec.upto (s : _root_.Go.ChangeSpec) : _root_.Go.OpenSpec := { _root_.Go.OpenSpec.ofChange s with cond := some uptoSmall }

/-- 'hedgerowlaw02.ValTells', WHERE WHAT IT READS IS OF BULK AT MOST 1048576: true; the input reads as it did. -/
def valTellsUptoRow : OpenClaim := { program := "ytndbhalkhejgjaa", sum := "951c42ce27caa453b609fbf77da71e893c02413dd67322299a6262f9e3d404d1", func := "hedgerow/hedgerowlaw02.ValTells", spec := "valTells", unfollowed := true, recurses := true, apart := false, narrowed := true }
def ValTellsUptoSaid : Prop := valTellsUptoRow.holds Try.pinned (OpenSpec.upto valTellsSpec)

/-- 'hedgerowlaw02.ValCodes', WHERE WHAT IT READS IS OF BULK AT MOST 1048576: true; the input reads as it did. -/
def valCodesUptoRow : OpenClaim := { program := "ytndbhalkhejgjaa", sum := "951c42ce27caa453b609fbf77da71e893c02413dd67322299a6262f9e3d404d1", func := "hedgerow/hedgerowlaw02.ValCodes", spec := "valCodes", unfollowed := true, recurses := true, apart := false, narrowed := true }
def ValCodesUptoSaid : Prop := valCodesUptoRow.holds Try.pinned (OpenSpec.upto valCodesSpec)

/-- 'hedgerowlaw02.ValProps', WHERE WHAT IT READS IS OF BULK AT MOST 1048576: true; the input reads as it did. -/
def valPropsUptoRow : OpenClaim := { program := "ytndbhalkhejgjaa", sum := "951c42ce27caa453b609fbf77da71e893c02413dd67322299a6262f9e3d404d1", func := "hedgerow/hedgerowlaw02.ValProps", spec := "valProps", unfollowed := true, recurses := true, apart := false, narrowed := true }
def ValPropsUptoSaid : Prop := valPropsUptoRow.holds Try.pinned (OpenSpec.upto valPropsSpec)

/-- 'hedgerowlaw02.ValSets', WHERE WHAT IT READS IS OF BULK AT MOST 1048576: true; the input reads as it did. -/
def valSetsUptoRow : OpenClaim := { program := "ytndbhalkhejgjaa", sum := "951c42ce27caa453b609fbf77da71e893c02413dd67322299a6262f9e3d404d1", func := "hedgerow/hedgerowlaw02.ValSets", spec := "valSets", unfollowed := true, recurses := true, apart := false, narrowed := true }
def ValSetsUptoSaid : Prop := valSetsUptoRow.holds Try.pinned (OpenSpec.upto valSetsSpec)

/-- 'hedgerowlaw02.ValBack', WHERE WHAT IT READS IS OF BULK AT MOST 1048576: true; the input reads as it did. -/
def valBackUptoRow : OpenClaim := { program := "ytndbhalkhejgjaa", sum := "951c42ce27caa453b609fbf77da71e893c02413dd67322299a6262f9e3d404d1", func := "hedgerow/hedgerowlaw02.ValBack", spec := "valBack", unfollowed := true, recurses := true, apart := false, narrowed := true }
def ValBackUptoSaid : Prop := valBackUptoRow.holds Try.pinned (OpenSpec.upto valBackSpec)

/-- 'hedgerowlaw02.ValOrder', WHERE WHAT IT READS IS OF BULK AT MOST 1048576: true; the input reads as it did. -/
def valOrderUptoRow : OpenClaim := { program := "ytndbhalkhejgjaa", sum := "951c42ce27caa453b609fbf77da71e893c02413dd67322299a6262f9e3d404d1", func := "hedgerow/hedgerowlaw02.ValOrder", spec := "valOrder", unfollowed := true, recurses := true, apart := false, narrowed := true }
def ValOrderUptoSaid : Prop := valOrderUptoRow.holds Try.pinned (OpenSpec.upto valOrderSpec)

end Rows
end Go.Proofs.Ytndbhalkhejgjaa
