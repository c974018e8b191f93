/-
  No cell of these rows narrows 'for every input' (looked for: loops, veiled, ifaces, maps, wideKeys, modest, calm, conditions, laid).
  DERIVED. THE GIVEN ROWS OF THIS SEAT. 4 by the template 'for every input the law returns true; each argument reads behind the call as it read before'; 0 by the template 'total and deterministic' (their statements: YtpdcofkohhfncaaTotals.lean).
  GIVEN WITH THE SEED: the statements are not yours to turn. If you find one false, say at which input.
  Laid BY PROGRAM, IN A SANDBOX (cutbox-rows.mjs): the forced cells as the released guide's own fill.sh prints them over the translation a10a2212ddefd1a5… (all of the seat's roots in one cut). By AI agents, Wed Nov 11 2026. No macro, syntax, notation, axiom, sorry.
-/
import Derived.Test.YtpdcofkohhfncaaChecked
import GoSem.Claim
import GoSem.ClaimJoined
import GoSem.ClaimMapViews
import Derived.JoinedTies
import Derived.KernelRfl
namespace Go.Proofs.Ytpdcofkohhfncaa
/- THE CELL 'sum', in the pinned program and in every row, IS THE sha256 OF THE DUMP (.gsa) THAT YtpdcofkohhfncaaProg.lean LOADS. Nothing in Lean hashes anything: it is a label: what it is worth is what the hold of that sum in a sandbox is worth. -/
noncomputable def Try.pinned : Pinned := { name := "ytpdcofkohhfncaa", sum := "a10a2212ddefd1a5fbee1aaf08961d6f0b5a4ea9faaff8168d33657ec6a08171", checked := Try.checked }
namespace Rows
def none {H : Type} : Left H := { results := [], args := [] }

/-- 'gimmallaw3.Versions': WHATEVER THE INPUT: true; the input reads as it did. -/
def versionsSpec : ChangeSpec := { name := "versions", fn := fun _ => fun
  | [d1, d2] => { results := [.lit (.bool true)], args := [d1, d2] }
  | _ => none }
def versionsRow : OpenClaim := { program := "ytpdcofkohhfncaa", sum := "a10a2212ddefd1a5fbee1aaf08961d6f0b5a4ea9faaff8168d33657ec6a08171", func := "gimmal/gimmallaw3.Versions", spec := "versions", apart := false }
def VersionsSaid : Prop := versionsRow.holds Try.pinned (OpenSpec.ofChange versionsSpec)

/-- ITS FALSE NEIGHBOUR: 'it returns false'. Refute it at one input. -/
def versionsWrong : ChangeSpec := { name := "versions", fn := fun _ => fun
  | [d1, d2] => { results := [.lit (.bool false)], args := [d1, d2] }
  | _ => none }
def VersionsWrongFalsely : Prop := versionsRow.holds Try.pinned (OpenSpec.ofChange versionsWrong)

/-- 'gimmallaw3.VersionForms': WHATEVER THE INPUT: true; the input reads as it did. -/
def versionFormsSpec : ChangeSpec := { name := "versionForms", fn := fun _ => fun
  | [d1, d2] => { results := [.lit (.bool true)], args := [d1, d2] }
  | _ => none }
def versionFormsRow : OpenClaim := { program := "ytpdcofkohhfncaa", sum := "a10a2212ddefd1a5fbee1aaf08961d6f0b5a4ea9faaff8168d33657ec6a08171", func := "gimmal/gimmallaw3.VersionForms", spec := "versionForms", apart := false }
def VersionFormsSaid : Prop := versionFormsRow.holds Try.pinned (OpenSpec.ofChange versionFormsSpec)

/-- ITS FALSE NEIGHBOUR: 'it returns false'. Refute it at one input. -/
def versionFormsWrong : ChangeSpec := { name := "versionForms", fn := fun _ => fun
  | [d1, d2] => { results := [.lit (.bool false)], args := [d1, d2] }
  | _ => none }
def VersionFormsWrongFalsely : Prop := versionFormsRow.holds Try.pinned (OpenSpec.ofChange versionFormsWrong)

/-- 'gimmallaw3.VersionRow': WHATEVER THE INPUT: true; the input reads as it did. -/
def versionRowSpec : ChangeSpec := { name := "versionRow", fn := fun _ => fun
  | [d1, d2, d3] => { results := [.lit (.bool true)], args := [d1, d2, d3] }
  | _ => none }
def versionRowRow : OpenClaim := { program := "ytpdcofkohhfncaa", sum := "a10a2212ddefd1a5fbee1aaf08961d6f0b5a4ea9faaff8168d33657ec6a08171", func := "gimmal/gimmallaw3.VersionRow", spec := "versionRow", apart := false }
def VersionRowSaid : Prop := versionRowRow.holds Try.pinned (OpenSpec.ofChange versionRowSpec)

/-- ITS FALSE NEIGHBOUR: 'it returns false'. Refute it at one input. -/
def versionRowWrong : ChangeSpec := { name := "versionRow", fn := fun _ => fun
  | [d1, d2, d3] => { results := [.lit (.bool false)], args := [d1, d2, d3] }
  | _ => none }
def VersionRowWrongFalsely : Prop := versionRowRow.holds Try.pinned (OpenSpec.ofChange versionRowWrong)

/-- 'gimmallaw3.VersionCount': WHATEVER THE INPUT: true; the input reads as it did. -/
def versionCountSpec : ChangeSpec := { name := "versionCount", fn := fun _ => fun
  | [d1, d2, d3, d4] => { results := [.lit (.bool true)], args := [d1, d2, d3, d4] }
  | _ => none }
def versionCountRow : OpenClaim := { program := "ytpdcofkohhfncaa", sum := "a10a2212ddefd1a5fbee1aaf08961d6f0b5a4ea9faaff8168d33657ec6a08171", func := "gimmal/gimmallaw3.VersionCount", spec := "versionCount", apart := false }
def VersionCountSaid : Prop := versionCountRow.holds Try.pinned (OpenSpec.ofChange versionCountSpec)

/-- ITS FALSE NEIGHBOUR: 'it returns false'. Refute it at one input. -/
def versionCountWrong : ChangeSpec := { name := "versionCount", fn := fun _ => fun
  | [d1, d2, d3, d4] => { results := [.lit (.bool false)], args := [d1, d2, d3, d4] }
  | _ => none }
def VersionCountWrongFalsely : Prop := versionCountRow.holds Try.pinned (OpenSpec.ofChange versionCountWrong)

/- THE SECOND FORM. 'bulk': how many values and letters a reading holds, each counted each time it is reached (what is shared counts as often as it is met; a slice's spare places count too). A statement '..UptoSaid' is the law's where the arguments, and the package variables that the reading takes, are together of bulk at most 1048576: NARROWER than '..Said'. Prove '..Said' where nothing that the law and all that it calls make is longer than what came in: it says more and counts as full. Else prove '..UptoSaid'. A law counts once. -/
mutual
def uptoBulk {H : Type} : DataW H → Nat
  | .lit (.string bytes) => bytes.length + 1
  | .lit _ => 1
  | .nil => 1
  | .ptr d => uptoBulk d + 1
  | .slice elems spare => uptoBulkAll elems + uptoBulkAll spare + 1
  | .agg parts => uptoBulkAll parts + 1
  | .iface _ d => uptoBulk d + 1
  | .map entries => uptoBulkEntries entries + 1
  | .held _ => 1
def uptoBulkAll {H : Type} : List (DataW H) → Nat
  | [] => 0
  | d :: r => uptoBulk d + uptoBulkAll r
def uptoBulkEntries {H : Type} : List (Lit × DataW H) → Nat
  | [] => 0
  | x :: r => uptoBulkEntry x + uptoBulkEntries r
def uptoBulkEntry {H : Type} : Lit × DataW H → Nat
  | (.string bytes, d) => bytes.length + uptoBulk d + 1
  | (_, d) => uptoBulk d + 1
 end
def uptoSmall : (H : Type) → List (DataW H) → Bool := fun _ ds => decide (uptoBulkAll ds ≤ 1048576)
def OpenSpec.upto (s : _root_.Go.ChangeSpec) : _root_.Go.OpenSpec := { _root_.Go.OpenSpec.ofChange s with cond := some uptoSmall }

/-- 'gimmallaw3.Versions', WHERE WHAT IT READS IS OF BULK AT MOST 1048576: true; the input reads as it did. -/
def versionsUptoRow : OpenClaim := { program := "ytpdcofkohhfncaa", sum := "a10a2212ddefd1a5fbee1aaf08961d6f0b5a4ea9faaff8168d33657ec6a08171", func := "gimmal/gimmallaw3.Versions", spec := "versions", apart := false, narrowed := true }
def VersionsUptoSaid : Prop := versionsUptoRow.holds Try.pinned (OpenSpec.upto versionsSpec)

/-- 'gimmallaw3.VersionForms', WHERE WHAT IT READS IS OF BULK AT MOST 1048576: true; the input reads as it did. -/
def versionFormsUptoRow : OpenClaim := { program := "ytpdcofkohhfncaa", sum := "a10a2212ddefd1a5fbee1aaf08961d6f0b5a4ea9faaff8168d33657ec6a08171", func := "gimmal/gimmallaw3.VersionForms", spec := "versionForms", apart := false, narrowed := true }
def VersionFormsUptoSaid : Prop := versionFormsUptoRow.holds Try.pinned (OpenSpec.upto versionFormsSpec)

/-- 'gimmallaw3.VersionRow', WHERE WHAT IT READS IS OF BULK AT MOST 1048576: true; the input reads as it did. -/
def versionRowUptoRow : OpenClaim := { program := "ytpdcofkohhfncaa", sum := "a10a2212ddefd1a5fbee1aaf08961d6f0b5a4ea9faaff8168d33657ec6a08171", func := "gimmal/gimmallaw3.VersionRow", spec := "versionRow", apart := false, narrowed := true }
def VersionRowUptoSaid : Prop := versionRowUptoRow.holds Try.pinned (OpenSpec.upto versionRowSpec)

/-- 'gimmallaw3.VersionCount', WHERE WHAT IT READS IS OF BULK AT MOST 1048576: true; the input reads as it did. -/
def versionCountUptoRow : OpenClaim := { program := "ytpdcofkohhfncaa", sum := "a10a2212ddefd1a5fbee1aaf08961d6f0b5a4ea9faaff8168d33657ec6a08171", func := "gimmal/gimmallaw3.VersionCount", spec := "versionCount", apart := false, narrowed := true }
def VersionCountUptoSaid : Prop := versionCountUptoRow.holds Try.pinned (OpenSpec.upto versionCountSpec)

end Rows
end Go.Proofs.Ytpdcofkohhfncaa
