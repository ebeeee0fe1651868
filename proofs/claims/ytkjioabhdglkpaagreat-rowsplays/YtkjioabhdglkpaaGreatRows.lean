/-
  No cell of these rows narrows 'for every input' (looked for: loops, veiled, ifaces, maps, wideKeys, modest, calm, conditions, laid).
  DERIVED. THE GIVEN ROWS OF THIS SEAT. 5 by the template 'for every input the law returns true; each argument reads behind the call as it read before'; 0 by the template 'total and deterministic' (their statements: YtkjioabhdglkpaaGreatTotals.lean).
  GIVEN WITH THE SEED: the statements are not yours to turn. If you find one false, say at which input.
  Laid BY PROGRAM, IN A SANDBOX (cutbox-rows.mjs): the forced cells as the released guide's own fill.sh prints them over the translation d8ab59d4570b6935… (all of the seat's roots in one cut). By AI agents, Wed Nov 11 2026. No macro, syntax, notation, axiom, sorry.
-/
import Derived.Test.YtkjioabhdglkpaaGreatChecked
import GoSem.Claim
import GoSem.ClaimJoined
import GoSem.ClaimMapViews
import Derived.JoinedTies
import Derived.KernelRfl
namespace Go.Proofs.YtkjioabhdglkpaaGreat
/- THE CELL 'sum', in the pinned program and in every row, IS THE sha256 OF THE DUMP (.gsa) THAT YtkjioabhdglkpaaGreatProg.lean LOADS. Nothing in Lean hashes anything: it is a label: what it is worth is what the hold of that sum in a sandbox is worth. -/
noncomputable def Tryz.pinned : Pinned := { name := "ytkjioabhdglkpaagreat", sum := "d8ab59d4570b6935f969a915bd0a6fd2ddfca204cbcb1e215b19cfbc590655a1", checked := Tryz.checked }
namespace Rows
def none {H : Type} : Left H := { results := [], args := [] }

/-- 'hedgerowlaw09.RowsPlays': WHATEVER THE INPUT: true; the input reads as it did. -/
def rowsPlaysSpec : ChangeSpec := { name := "rowsPlays", fn := fun _ => fun
  | [d1, d2] => { results := [.lit (.bool true)], args := [d1, d2] }
  | _ => none }
def rowsPlaysRow : OpenClaim := { program := "ytkjioabhdglkpaagreat", sum := "d8ab59d4570b6935f969a915bd0a6fd2ddfca204cbcb1e215b19cfbc590655a1", func := "hedgerow/hedgerowlaw09.RowsPlays", spec := "rowsPlays", inPlace := ["internal/abi.NoEscape", "internal/bytealg.MakeNoZero", "sync/atomic.StoreInt64", "sync/atomic.LoadInt64", "sync/atomic.AddInt64"], unfollowed := true, recurses := true, apart := false }
def RowsPlaysSaid : Prop := rowsPlaysRow.holds Tryz.pinned (OpenSpec.ofChange rowsPlaysSpec)

/-- ITS FALSE NEIGHBOUR: 'it returns false'. Refute it at one input. -/
def rowsPlaysWrong : ChangeSpec := { name := "rowsPlays", fn := fun _ => fun
  | [d1, d2] => { results := [.lit (.bool false)], args := [d1, d2] }
  | _ => none }
def RowsPlaysWrongFalsely : Prop := rowsPlaysRow.holds Tryz.pinned (OpenSpec.ofChange rowsPlaysWrong)

/-- 'hedgerowlaw09.RowsAgain': WHATEVER THE INPUT: true; the input reads as it did. -/
def rowsAgainSpec : ChangeSpec := { name := "rowsAgain", fn := fun _ => fun
  | [d] => { results := [.lit (.bool true)], args := [d] }
  | _ => none }
def rowsAgainRow : OpenClaim := { program := "ytkjioabhdglkpaagreat", sum := "d8ab59d4570b6935f969a915bd0a6fd2ddfca204cbcb1e215b19cfbc590655a1", func := "hedgerow/hedgerowlaw09.RowsAgain", spec := "rowsAgain", inPlace := ["internal/abi.NoEscape", "internal/bytealg.MakeNoZero", "sync/atomic.StoreInt64", "sync/atomic.LoadInt64", "sync/atomic.AddInt64"], unfollowed := true, recurses := true, apart := false }
def RowsAgainSaid : Prop := rowsAgainRow.holds Tryz.pinned (OpenSpec.ofChange rowsAgainSpec)

/-- ITS FALSE NEIGHBOUR: 'it returns false'. Refute it at one input. -/
def rowsAgainWrong : ChangeSpec := { name := "rowsAgain", fn := fun _ => fun
  | [d] => { results := [.lit (.bool false)], args := [d] }
  | _ => none }
def RowsAgainWrongFalsely : Prop := rowsAgainRow.holds Tryz.pinned (OpenSpec.ofChange rowsAgainWrong)

/-- 'hedgerowlaw09.RowsApart': WHATEVER THE INPUT: true; the input reads as it did. -/
def rowsApartSpec : ChangeSpec := { name := "rowsApart", fn := fun _ => fun
  | [d1, d2] => { results := [.lit (.bool true)], args := [d1, d2] }
  | _ => none }
def rowsApartRow : OpenClaim := { program := "ytkjioabhdglkpaagreat", sum := "d8ab59d4570b6935f969a915bd0a6fd2ddfca204cbcb1e215b19cfbc590655a1", func := "hedgerow/hedgerowlaw09.RowsApart", spec := "rowsApart", inPlace := ["internal/abi.NoEscape", "internal/bytealg.MakeNoZero", "sync/atomic.StoreInt64", "sync/atomic.LoadInt64", "sync/atomic.AddInt64"], unfollowed := true, recurses := true, apart := false }
def RowsApartSaid : Prop := rowsApartRow.holds Tryz.pinned (OpenSpec.ofChange rowsApartSpec)

/-- ITS FALSE NEIGHBOUR: 'it returns false'. Refute it at one input. -/
def rowsApartWrong : ChangeSpec := { name := "rowsApart", fn := fun _ => fun
  | [d1, d2] => { results := [.lit (.bool false)], args := [d1, d2] }
  | _ => none }
def RowsApartWrongFalsely : Prop := rowsApartRow.holds Tryz.pinned (OpenSpec.ofChange rowsApartWrong)

/-- 'hedgerowlaw09.RowsNone': WHATEVER THE INPUT: true; the input reads as it did. -/
def rowsNoneSpec : ChangeSpec := { name := "rowsNone", fn := fun _ => fun
  | [d] => { results := [.lit (.bool true)], args := [d] }
  | _ => none }
def rowsNoneRow : OpenClaim := { program := "ytkjioabhdglkpaagreat", sum := "d8ab59d4570b6935f969a915bd0a6fd2ddfca204cbcb1e215b19cfbc590655a1", func := "hedgerow/hedgerowlaw09.RowsNone", spec := "rowsNone", inPlace := ["sync/atomic.LoadInt64", "sync/atomic.AddInt64", "internal/abi.NoEscape", "internal/bytealg.MakeNoZero", "sync/atomic.StoreInt64"], unfollowed := true, recurses := true, apart := false }
def RowsNoneSaid : Prop := rowsNoneRow.holds Tryz.pinned (OpenSpec.ofChange rowsNoneSpec)

/-- ITS FALSE NEIGHBOUR: 'it returns false'. Refute it at one input. -/
def rowsNoneWrong : ChangeSpec := { name := "rowsNone", fn := fun _ => fun
  | [d] => { results := [.lit (.bool false)], args := [d] }
  | _ => none }
def RowsNoneWrongFalsely : Prop := rowsNoneRow.holds Tryz.pinned (OpenSpec.ofChange rowsNoneWrong)

/-- 'hedgerowlaw09.RowsSizes': WHATEVER THE INPUT: true; the input reads as it did. -/
def rowsSizesSpec : ChangeSpec := { name := "rowsSizes", fn := fun _ => fun
  | [d1, d2, d3] => { results := [.lit (.bool true)], args := [d1, d2, d3] }
  | _ => none }
def rowsSizesRow : OpenClaim := { program := "ytkjioabhdglkpaagreat", sum := "d8ab59d4570b6935f969a915bd0a6fd2ddfca204cbcb1e215b19cfbc590655a1", func := "hedgerow/hedgerowlaw09.RowsSizes", spec := "rowsSizes", inPlace := ["internal/abi.NoEscape", "internal/bytealg.MakeNoZero", "sync/atomic.StoreInt64", "sync/atomic.LoadInt64", "sync/atomic.AddInt64"], unfollowed := true, recurses := true, apart := false }
def RowsSizesSaid : Prop := rowsSizesRow.holds Tryz.pinned (OpenSpec.ofChange rowsSizesSpec)

/-- ITS FALSE NEIGHBOUR: 'it returns false'. Refute it at one input. -/
def rowsSizesWrong : ChangeSpec := { name := "rowsSizes", fn := fun _ => fun
  | [d1, d2, d3] => { results := [.lit (.bool false)], args := [d1, d2, d3] }
  | _ => none }
def RowsSizesWrongFalsely : Prop := rowsSizesRow.holds Tryz.pinned (OpenSpec.ofChange rowsSizesWrong)

/- THE SECOND FORM. 'bulk': how many values and letters a reading holds, each counted each time it is reached (what is shared counts as often as it is met; a slice's spare places count too). A statement '..UptoSaid' is the law's where the arguments, and the package variables that the reading takes, are together of bulk at most 1048576: NARROWER than '..Said'. Prove '..Said' where nothing that the law and all that it calls make is longer than what came in: it says more and counts as full. Else prove '..UptoSaid'. A law counts once. -/
mutual
def uptoBulk {H : Type} : DataW H → Nat
  | .lit (.string bytes) => bytes.length + 1
  | .lit _ => 1
  | .nil => 1
  | .ptr d => uptoBulk d + 1
  | .slice elems spare => uptoBulkAll elems + uptoBulkAll spare + 1
  | .agg parts => uptoBulkAll parts + 1
  | .iface _ d => uptoBulk d + 1
  | .map entries => uptoBulkEntries entries + 1
  | .held _ => 1
def uptoBulkAll {H : Type} : List (DataW H) → Nat
  | [] => 0
  | d :: r => uptoBulk d + uptoBulkAll r
def uptoBulkEntries {H : Type} : List (Lit × DataW H) → Nat
  | [] => 0
  | x :: r => uptoBulkEntry x + uptoBulkEntries r
def uptoBulkEntry {H : Type} : Lit × DataW H → Nat
  | (.string bytes, d) => bytes.length + uptoBulk d + 1
  | (_, d) => uptoBulk d + 1
 end
def uptoSmall : (H : Type) → List (DataW H) → Bool := fun _ ds => decide (uptoBulkAll ds ≤ 1048576)
def OpenSpec.upto (s : _root_.Go.ChangeSpec) : _root_.Go.OpenSpec := { _root_.Go.OpenSpec.ofChange s with cond := some uptoSmall }

/-- 'hedgerowlaw09.RowsPlays', WHERE WHAT IT READS IS OF BULK AT MOST 1048576: true; the input reads as it did. -/
def rowsPlaysUptoRow : OpenClaim := { program := "ytkjioabhdglkpaagreat", sum := "d8ab59d4570b6935f969a915bd0a6fd2ddfca204cbcb1e215b19cfbc590655a1", func := "hedgerow/hedgerowlaw09.RowsPlays", spec := "rowsPlays", inPlace := ["internal/abi.NoEscape", "internal/bytealg.MakeNoZero", "sync/atomic.StoreInt64", "sync/atomic.LoadInt64", "sync/atomic.AddInt64"], unfollowed := true, recurses := true, apart := false, narrowed := true }
def RowsPlaysUptoSaid : Prop := rowsPlaysUptoRow.holds Tryz.pinned (OpenSpec.upto rowsPlaysSpec)

/-- 'hedgerowlaw09.RowsAgain', WHERE WHAT IT READS IS OF BULK AT MOST 1048576: true; the input reads as it did. -/
def rowsAgainUptoRow : OpenClaim := { program := "ytkjioabhdglkpaagreat", sum := "d8ab59d4570b6935f969a915bd0a6fd2ddfca204cbcb1e215b19cfbc590655a1", func := "hedgerow/hedgerowlaw09.RowsAgain", spec := "rowsAgain", inPlace := ["internal/abi.NoEscape", "internal/bytealg.MakeNoZero", "sync/atomic.StoreInt64", "sync/atomic.LoadInt64", "sync/atomic.AddInt64"], unfollowed := true, recurses := true, apart := false, narrowed := true }
def RowsAgainUptoSaid : Prop := rowsAgainUptoRow.holds Tryz.pinned (OpenSpec.upto rowsAgainSpec)

/-- 'hedgerowlaw09.RowsApart', WHERE WHAT IT READS IS OF BULK AT MOST 1048576: true; the input reads as it did. -/
def rowsApartUptoRow : OpenClaim := { program := "ytkjioabhdglkpaagreat", sum := "d8ab59d4570b6935f969a915bd0a6fd2ddfca204cbcb1e215b19cfbc590655a1", func := "hedgerow/hedgerowlaw09.RowsApart", spec := "rowsApart", inPlace := ["internal/abi.NoEscape", "internal/bytealg.MakeNoZero", "sync/atomic.StoreInt64", "sync/atomic.LoadInt64", "sync/atomic.AddInt64"], unfollowed := true, recurses := true, apart := false, narrowed := true }
def RowsApartUptoSaid : Prop := rowsApartUptoRow.holds Tryz.pinned (OpenSpec.upto rowsApartSpec)

/-- 'hedgerowlaw09.RowsNone', WHERE WHAT IT READS IS OF BULK AT MOST 1048576: true; the input reads as it did. -/
def rowsNoneUptoRow : OpenClaim := { program := "ytkjioabhdglkpaagreat", sum := "d8ab59d4570b6935f969a915bd0a6fd2ddfca204cbcb1e215b19cfbc590655a1", func := "hedgerow/hedgerowlaw09.RowsNone", spec := "rowsNone", inPlace := ["sync/atomic.LoadInt64", "sync/atomic.AddInt64", "internal/abi.NoEscape", "internal/bytealg.MakeNoZero", "sync/atomic.StoreInt64"], unfollowed := true, recurses := true, apart := false, narrowed := true }
def RowsNoneUptoSaid : Prop := rowsNoneUptoRow.holds Tryz.pinned (OpenSpec.upto rowsNoneSpec)

/-- 'hedgerowlaw09.RowsSizes', WHERE WHAT IT READS IS OF BULK AT MOST 1048576: true; the input reads as it did. -/
def rowsSizesUptoRow : OpenClaim := { program := "ytkjioabhdglkpaagreat", sum := "d8ab59d4570b6935f969a915bd0a6fd2ddfca204cbcb1e215b19cfbc590655a1", func := "hedgerow/hedgerowlaw09.RowsSizes", spec := "rowsSizes", inPlace := ["internal/abi.NoEscape", "internal/bytealg.MakeNoZero", "sync/atomic.StoreInt64", "sync/atomic.LoadInt64", "sync/atomic.AddInt64"], unfollowed := true, recurses := true, apart := false, narrowed := true }
def RowsSizesUptoSaid : Prop := rowsSizesUptoRow.holds Tryz.pinned (OpenSpec.upto rowsSizesSpec)

end Rows
end Go.Proofs.YtkjioabhdglkpaaGreat
