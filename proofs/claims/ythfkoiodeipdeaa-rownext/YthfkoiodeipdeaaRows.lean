/-
  No cell of these rows narrows 'for every input' (looked for: loops, veiled, ifaces, maps, wideKeys, modest, calm, conditions, laid).
  DERIVED. THE GIVEN ROWS OF THIS SEAT. 5 by the template 'for every input the law returns true; each argument reads behind the call as it read before'; 0 by the template 'total and deterministic' (their statements: YthfkoiodeipdeaaTotals.lean).
  GIVEN WITH THE SEED: the statements are not yours to turn. If you find one false, say at which input.
  Laid BY PROGRAM, IN A SANDBOX (cutbox-rows.mjs): the forced cells as the released guide's own fill.sh prints them over the translation 7ee2baa1090bcc43… (all of the seat's roots in one cut). By AI agents, Wed Nov 11 2026. No macro, syntax, notation, axiom, sorry.
-/
import Derived.Test.YthfkoiodeipdeaaChecked
import GoSem.Claim
import GoSem.ClaimJoined
import GoSem.ClaimMapViews
import Derived.JoinedTies
import Derived.KernelRfl
namespace Go.Proofs.Ythfkoiodeipdeaa
/- THE CELL 'sum', in the pinned program and in every row, IS THE sha256 OF THE DUMP (.gsa) THAT YthfkoiodeipdeaaProg.lean LOADS. Nothing in Lean hashes anything: it is a label: what it is worth is what the hold of that sum in a sandbox is worth. -/
noncomputable def Try.pinned : Pinned := { name := "ythfkoiodeipdeaa", sum := "7ee2baa1090bcc430f0ac7c5877aff6011ed1c4af48d10d8dd221cee8cf99181", checked := Try.checked }
namespace Rows
def none {H : Type} : Left H := { results := [], args := [] }

/-- 'gimmallaw2.Rows': WHATEVER THE INPUT: true; the input reads as it did. -/
def rowsSpec : ChangeSpec := { name := "rows", fn := fun _ => fun
  | [d1, d2, d3] => { results := [.lit (.bool true)], args := [d1, d2, d3] }
  | _ => none }
def rowsRow : OpenClaim := { program := "ythfkoiodeipdeaa", sum := "7ee2baa1090bcc430f0ac7c5877aff6011ed1c4af48d10d8dd221cee8cf99181", func := "gimmal/gimmallaw2.Rows", spec := "rows", unfollowed := true, recurses := true, apart := false }
def RowsSaid : Prop := rowsRow.holds Try.pinned (OpenSpec.ofChange rowsSpec)

/-- ITS FALSE NEIGHBOUR: 'it returns false'. Refute it at one input. -/
def rowsWrong : ChangeSpec := { name := "rows", fn := fun _ => fun
  | [d1, d2, d3] => { results := [.lit (.bool false)], args := [d1, d2, d3] }
  | _ => none }
def RowsWrongFalsely : Prop := rowsRow.holds Try.pinned (OpenSpec.ofChange rowsWrong)

/-- 'gimmallaw2.RowForms': WHATEVER THE INPUT: true; the input reads as it did. -/
def rowFormsSpec : ChangeSpec := { name := "rowForms", fn := fun _ => fun
  | [d1, d2] => { results := [.lit (.bool true)], args := [d1, d2] }
  | _ => none }
def rowFormsRow : OpenClaim := { program := "ythfkoiodeipdeaa", sum := "7ee2baa1090bcc430f0ac7c5877aff6011ed1c4af48d10d8dd221cee8cf99181", func := "gimmal/gimmallaw2.RowForms", spec := "rowForms", unfollowed := true, recurses := true, apart := false }
def RowFormsSaid : Prop := rowFormsRow.holds Try.pinned (OpenSpec.ofChange rowFormsSpec)

/-- ITS FALSE NEIGHBOUR: 'it returns false'. Refute it at one input. -/
def rowFormsWrong : ChangeSpec := { name := "rowForms", fn := fun _ => fun
  | [d1, d2] => { results := [.lit (.bool false)], args := [d1, d2] }
  | _ => none }
def RowFormsWrongFalsely : Prop := rowFormsRow.holds Try.pinned (OpenSpec.ofChange rowFormsWrong)

/-- 'gimmallaw2.RowNext': WHATEVER THE INPUT: true; the input reads as it did. -/
def rowNextSpec : ChangeSpec := { name := "rowNext", fn := fun _ => fun
  | [d1, d2] => { results := [.lit (.bool true)], args := [d1, d2] }
  | _ => none }
def rowNextRow : OpenClaim := { program := "ythfkoiodeipdeaa", sum := "7ee2baa1090bcc430f0ac7c5877aff6011ed1c4af48d10d8dd221cee8cf99181", func := "gimmal/gimmallaw2.RowNext", spec := "rowNext", unfollowed := true, recurses := true, apart := false }
def RowNextSaid : Prop := rowNextRow.holds Try.pinned (OpenSpec.ofChange rowNextSpec)

/-- ITS FALSE NEIGHBOUR: 'it returns false'. Refute it at one input. -/
def rowNextWrong : ChangeSpec := { name := "rowNext", fn := fun _ => fun
  | [d1, d2] => { results := [.lit (.bool false)], args := [d1, d2] }
  | _ => none }
def RowNextWrongFalsely : Prop := rowNextRow.holds Try.pinned (OpenSpec.ofChange rowNextWrong)

/-- 'gimmallaw2.RowAny': WHATEVER THE INPUT: true; the input reads as it did. -/
def rowAnySpec : ChangeSpec := { name := "rowAny", fn := fun _ => fun
  | [d1, d2, d3, d4] => { results := [.lit (.bool true)], args := [d1, d2, d3, d4] }
  | _ => none }
def rowAnyRow : OpenClaim := { program := "ythfkoiodeipdeaa", sum := "7ee2baa1090bcc430f0ac7c5877aff6011ed1c4af48d10d8dd221cee8cf99181", func := "gimmal/gimmallaw2.RowAny", spec := "rowAny", unfollowed := true, recurses := true, apart := false }
def RowAnySaid : Prop := rowAnyRow.holds Try.pinned (OpenSpec.ofChange rowAnySpec)

/-- ITS FALSE NEIGHBOUR: 'it returns false'. Refute it at one input. -/
def rowAnyWrong : ChangeSpec := { name := "rowAny", fn := fun _ => fun
  | [d1, d2, d3, d4] => { results := [.lit (.bool false)], args := [d1, d2, d3, d4] }
  | _ => none }
def RowAnyWrongFalsely : Prop := rowAnyRow.holds Try.pinned (OpenSpec.ofChange rowAnyWrong)

/-- 'gimmallaw2.RowOne': WHATEVER THE INPUT: true; the input reads as it did. -/
def rowOneSpec : ChangeSpec := { name := "rowOne", fn := fun _ => fun
  | [d1, d2, d3] => { results := [.lit (.bool true)], args := [d1, d2, d3] }
  | _ => none }
def rowOneRow : OpenClaim := { program := "ythfkoiodeipdeaa", sum := "7ee2baa1090bcc430f0ac7c5877aff6011ed1c4af48d10d8dd221cee8cf99181", func := "gimmal/gimmallaw2.RowOne", spec := "rowOne", unfollowed := true, recurses := true, apart := false }
def RowOneSaid : Prop := rowOneRow.holds Try.pinned (OpenSpec.ofChange rowOneSpec)

/-- ITS FALSE NEIGHBOUR: 'it returns false'. Refute it at one input. -/
def rowOneWrong : ChangeSpec := { name := "rowOne", fn := fun _ => fun
  | [d1, d2, d3] => { results := [.lit (.bool false)], args := [d1, d2, d3] }
  | _ => none }
def RowOneWrongFalsely : Prop := rowOneRow.holds Try.pinned (OpenSpec.ofChange rowOneWrong)

/- THE SECOND FORM. 'bulk': how many values and letters a reading holds, each counted each time it is reached (what is shared counts as often as it is met; a slice's spare places count too). A statement '..UptoSaid' is the law's where the arguments, and the package variables that the reading takes, are together of bulk at most 1048576: NARROWER than '..Said'. Prove '..Said' where nothing that the law and all that it calls make is longer than what came in: it says more and counts as full. Else prove '..UptoSaid'. A law counts once. -/
mutual
def uptoBulk {H : Type} : DataW H → Nat
  | .lit (.string bytes) => bytes.length + 1
  | .lit _ => 1
  | .nil => 1
  | .ptr d => uptoBulk d + 1
  | .slice elems spare => uptoBulkAll elems + uptoBulkAll spare + 1
  | .agg parts => uptoBulkAll parts + 1
  | .iface _ d => uptoBulk d + 1
  | .map entries => uptoBulkEntries entries + 1
  | .held _ => 1
def uptoBulkAll {H : Type} : List (DataW H) → Nat
  | [] => 0
  | d :: r => uptoBulk d + uptoBulkAll r
def uptoBulkEntries {H : Type} : List (Lit × DataW H) → Nat
  | [] => 0
  | x :: r => uptoBulkEntry x + uptoBulkEntries r
def uptoBulkEntry {H : Type} : Lit × DataW H → Nat
  | (.string bytes, d) => bytes.length + uptoBulk d + 1
  | (_, d) => uptoBulk d + 1
 end
def uptoSmall : (H : Type) → List (DataW H) → Bool := fun _ ds => decide (uptoBulkAll ds ≤ 1048576)
def OpenSpec.upto (s : _root_.Go.ChangeSpec) : _root_.Go.OpenSpec := { _root_.Go.OpenSpec.ofChange s with cond := some uptoSmall }

/-- 'gimmallaw2.Rows', WHERE WHAT IT READS IS OF BULK AT MOST 1048576: true; the input reads as it did. -/
def rowsUptoRow : OpenClaim := { program := "ythfkoiodeipdeaa", sum := "7ee2baa1090bcc430f0ac7c5877aff6011ed1c4af48d10d8dd221cee8cf99181", func := "gimmal/gimmallaw2.Rows", spec := "rows", unfollowed := true, recurses := true, apart := false, narrowed := true }
def RowsUptoSaid : Prop := rowsUptoRow.holds Try.pinned (OpenSpec.upto rowsSpec)

/-- 'gimmallaw2.RowForms', WHERE WHAT IT READS IS OF BULK AT MOST 1048576: true; the input reads as it did. -/
def rowFormsUptoRow : OpenClaim := { program := "ythfkoiodeipdeaa", sum := "7ee2baa1090bcc430f0ac7c5877aff6011ed1c4af48d10d8dd221cee8cf99181", func := "gimmal/gimmallaw2.RowForms", spec := "rowForms", unfollowed := true, recurses := true, apart := false, narrowed := true }
def RowFormsUptoSaid : Prop := rowFormsUptoRow.holds Try.pinned (OpenSpec.upto rowFormsSpec)

/-- 'gimmallaw2.RowNext', WHERE WHAT IT READS IS OF BULK AT MOST 1048576: true; the input reads as it did. -/
def rowNextUptoRow : OpenClaim := { program := "ythfkoiodeipdeaa", sum := "7ee2baa1090bcc430f0ac7c5877aff6011ed1c4af48d10d8dd221cee8cf99181", func := "gimmal/gimmallaw2.RowNext", spec := "rowNext", unfollowed := true, recurses := true, apart := false, narrowed := true }
def RowNextUptoSaid : Prop := rowNextUptoRow.holds Try.pinned (OpenSpec.upto rowNextSpec)

/-- 'gimmallaw2.RowAny', WHERE WHAT IT READS IS OF BULK AT MOST 1048576: true; the input reads as it did. -/
def rowAnyUptoRow : OpenClaim := { program := "ythfkoiodeipdeaa", sum := "7ee2baa1090bcc430f0ac7c5877aff6011ed1c4af48d10d8dd221cee8cf99181", func := "gimmal/gimmallaw2.RowAny", spec := "rowAny", unfollowed := true, recurses := true, apart := false, narrowed := true }
def RowAnyUptoSaid : Prop := rowAnyUptoRow.holds Try.pinned (OpenSpec.upto rowAnySpec)

/-- 'gimmallaw2.RowOne', WHERE WHAT IT READS IS OF BULK AT MOST 1048576: true; the input reads as it did. -/
def rowOneUptoRow : OpenClaim := { program := "ythfkoiodeipdeaa", sum := "7ee2baa1090bcc430f0ac7c5877aff6011ed1c4af48d10d8dd221cee8cf99181", func := "gimmal/gimmallaw2.RowOne", spec := "rowOne", unfollowed := true, recurses := true, apart := false, narrowed := true }
def RowOneUptoSaid : Prop := rowOneUptoRow.holds Try.pinned (OpenSpec.upto rowOneSpec)

end Rows
end Go.Proofs.Ythfkoiodeipdeaa
