/-
  No cell of these rows narrows 'for every input' (looked for: loops, veiled, ifaces, maps, wideKeys, modest, calm, conditions, laid).
  DERIVED. THE GIVEN ROWS OF THIS SEAT. 4 by the template 'for every input the law returns true; each argument reads behind the call as it read before'; 0 by the template 'total and deterministic' (their statements: YtnbnnbcjlfdlpaaTotals.lean).
  GIVEN WITH THE SEED: the statements are not yours to turn. If you find one false, say at which input.
  Laid BY PROGRAM, IN A SANDBOX (cutbox-rows.mjs): the forced cells as the released guide's own fill.sh prints them over the translation eebb8d8f5e3ba0ae… (all of the seat's roots in one cut). By AI agents, Wed Nov 11 2026. No macro, syntax, notation, axiom, sorry.
-/
import Derived.Test.YtnbnnbcjlfdlpaaChecked
import GoSem.Claim
import GoSem.ClaimJoined
import GoSem.ClaimMapViews
import Derived.JoinedTies
import Derived.KernelRfl
namespace Go.Proofs.Ytnbnnbcjlfdlpaa
/- THE CELL 'sum', in the pinned program and in every row, IS THE sha256 OF THE DUMP (.gsa) THAT YtnbnnbcjlfdlpaaProg.lean LOADS. Nothing in Lean hashes anything: it is a label: what it is worth is what the hold of that sum in a sandbox is worth. -/
noncomputable def Try.pinned : Pinned := { name := "ytnbnnbcjlfdlpaa", sum := "eebb8d8f5e3ba0ae042e9591fd64ef07b9a04d07d064dac45a7ab845d8b10683", checked := Try.checked }
namespace Rows
def none {H : Type} : Left H := { results := [], args := [] }

/-- 'gimmallaw15.Cutses': WHATEVER THE INPUT: true; the input reads as it did. -/
def cutsesSpec : ChangeSpec := { name := "cutses", fn := fun _ => fun
  | [d1, d2, d3] => { results := [.lit (.bool true)], args := [d1, d2, d3] }
  | _ => none }
def cutsesRow : OpenClaim := { program := "ytnbnnbcjlfdlpaa", sum := "eebb8d8f5e3ba0ae042e9591fd64ef07b9a04d07d064dac45a7ab845d8b10683", func := "gimmal/gimmallaw15.Cutses", spec := "cutses", unfollowed := true, recurses := true, apart := false }
def CutsesSaid : Prop := cutsesRow.holds Try.pinned (OpenSpec.ofChange cutsesSpec)

/-- ITS FALSE NEIGHBOUR: 'it returns false'. Refute it at one input. -/
def cutsesWrong : ChangeSpec := { name := "cutses", fn := fun _ => fun
  | [d1, d2, d3] => { results := [.lit (.bool false)], args := [d1, d2, d3] }
  | _ => none }
def CutsesWrongFalsely : Prop := cutsesRow.holds Try.pinned (OpenSpec.ofChange cutsesWrong)

/-- 'gimmallaw15.CutForms': WHATEVER THE INPUT: true; the input reads as it did. -/
def cutFormsSpec : ChangeSpec := { name := "cutForms", fn := fun _ => fun
  | [d1, d2] => { results := [.lit (.bool true)], args := [d1, d2] }
  | _ => none }
def cutFormsRow : OpenClaim := { program := "ytnbnnbcjlfdlpaa", sum := "eebb8d8f5e3ba0ae042e9591fd64ef07b9a04d07d064dac45a7ab845d8b10683", func := "gimmal/gimmallaw15.CutForms", spec := "cutForms", unfollowed := true, recurses := true, apart := false }
def CutFormsSaid : Prop := cutFormsRow.holds Try.pinned (OpenSpec.ofChange cutFormsSpec)

/-- ITS FALSE NEIGHBOUR: 'it returns false'. Refute it at one input. -/
def cutFormsWrong : ChangeSpec := { name := "cutForms", fn := fun _ => fun
  | [d1, d2] => { results := [.lit (.bool false)], args := [d1, d2] }
  | _ => none }
def CutFormsWrongFalsely : Prop := cutFormsRow.holds Try.pinned (OpenSpec.ofChange cutFormsWrong)

/-- 'gimmallaw15.CutRow': WHATEVER THE INPUT: true; the input reads as it did. -/
def cutRowSpec : ChangeSpec := { name := "cutRow", fn := fun _ => fun
  | [d] => { results := [.lit (.bool true)], args := [d] }
  | _ => none }
def cutRowRow : OpenClaim := { program := "ytnbnnbcjlfdlpaa", sum := "eebb8d8f5e3ba0ae042e9591fd64ef07b9a04d07d064dac45a7ab845d8b10683", func := "gimmal/gimmallaw15.CutRow", spec := "cutRow", unfollowed := true, recurses := true, apart := false }
def CutRowSaid : Prop := cutRowRow.holds Try.pinned (OpenSpec.ofChange cutRowSpec)

/-- ITS FALSE NEIGHBOUR: 'it returns false'. Refute it at one input. -/
def cutRowWrong : ChangeSpec := { name := "cutRow", fn := fun _ => fun
  | [d] => { results := [.lit (.bool false)], args := [d] }
  | _ => none }
def CutRowWrongFalsely : Prop := cutRowRow.holds Try.pinned (OpenSpec.ofChange cutRowWrong)

/-- 'gimmallaw15.CutOther': WHATEVER THE INPUT: true; the input reads as it did. -/
def cutOtherSpec : ChangeSpec := { name := "cutOther", fn := fun _ => fun
  | [d1, d2, d3, d4, d5] => { results := [.lit (.bool true)], args := [d1, d2, d3, d4, d5] }
  | _ => none }
def cutOtherRow : OpenClaim := { program := "ytnbnnbcjlfdlpaa", sum := "eebb8d8f5e3ba0ae042e9591fd64ef07b9a04d07d064dac45a7ab845d8b10683", func := "gimmal/gimmallaw15.CutOther", spec := "cutOther", unfollowed := true, recurses := true, apart := false }
def CutOtherSaid : Prop := cutOtherRow.holds Try.pinned (OpenSpec.ofChange cutOtherSpec)

/-- ITS FALSE NEIGHBOUR: 'it returns false'. Refute it at one input. -/
def cutOtherWrong : ChangeSpec := { name := "cutOther", fn := fun _ => fun
  | [d1, d2, d3, d4, d5] => { results := [.lit (.bool false)], args := [d1, d2, d3, d4, d5] }
  | _ => none }
def CutOtherWrongFalsely : Prop := cutOtherRow.holds Try.pinned (OpenSpec.ofChange cutOtherWrong)

/- THE SECOND FORM. 'bulk': how many values and letters a reading holds, each counted each time it is reached (what is shared counts as often as it is met; a slice's spare places count too). A statement '..UptoSaid' is the law's where the arguments, and the package variables that the reading takes, are together of bulk at most 1048576: NARROWER than '..Said'. Prove '..Said' where nothing that the law and all that it calls make is longer than what came in: it says more and counts as full. Else prove '..UptoSaid'. A law counts once. -/
mutual
def uptoBulk {H : Type} : DataW H → Nat
  | .lit (.string bytes) => bytes.length + 1
  | .lit _ => 1
  | .nil => 1
  | .ptr d => uptoBulk d + 1
  | .slice elems spare => uptoBulkAll elems + uptoBulkAll spare + 1
  | .agg parts => uptoBulkAll parts + 1
  | .iface _ d => uptoBulk d + 1
  | .map entries => uptoBulkEntries entries + 1
  | .held _ => 1
def uptoBulkAll {H : Type} : List (DataW H) → Nat
  | [] => 0
  | d :: r => uptoBulk d + uptoBulkAll r
def uptoBulkEntries {H : Type} : List (Lit × DataW H) → Nat
  | [] => 0
  | x :: r => uptoBulkEntry x + uptoBulkEntries r
def uptoBulkEntry {H : Type} : Lit × DataW H → Nat
  | (.string bytes, d) => bytes.length + uptoBulk d + 1
  | (_, d) => uptoBulk d + 1
 end
def uptoSmall : (H : Type) → List (DataW H) → Bool := fun _ ds => decide (uptoBulkAll ds ≤ 1048576)
def OpenSpec.upto (s : _root_.Go.ChangeSpec) : _root_.Go.OpenSpec := { _root_.Go.OpenSpec.ofChange s with cond := some uptoSmall }

/-- 'gimmallaw15.Cutses', WHERE WHAT IT READS IS OF BULK AT MOST 1048576: true; the input reads as it did. -/
def cutsesUptoRow : OpenClaim := { program := "ytnbnnbcjlfdlpaa", sum := "eebb8d8f5e3ba0ae042e9591fd64ef07b9a04d07d064dac45a7ab845d8b10683", func := "gimmal/gimmallaw15.Cutses", spec := "cutses", unfollowed := true, recurses := true, apart := false, narrowed := true }
def CutsesUptoSaid : Prop := cutsesUptoRow.holds Try.pinned (OpenSpec.upto cutsesSpec)

/-- 'gimmallaw15.CutForms', WHERE WHAT IT READS IS OF BULK AT MOST 1048576: true; the input reads as it did. -/
def cutFormsUptoRow : OpenClaim := { program := "ytnbnnbcjlfdlpaa", sum := "eebb8d8f5e3ba0ae042e9591fd64ef07b9a04d07d064dac45a7ab845d8b10683", func := "gimmal/gimmallaw15.CutForms", spec := "cutForms", unfollowed := true, recurses := true, apart := false, narrowed := true }
def CutFormsUptoSaid : Prop := cutFormsUptoRow.holds Try.pinned (OpenSpec.upto cutFormsSpec)

/-- 'gimmallaw15.CutRow', WHERE WHAT IT READS IS OF BULK AT MOST 1048576: true; the input reads as it did. -/
def cutRowUptoRow : OpenClaim := { program := "ytnbnnbcjlfdlpaa", sum := "eebb8d8f5e3ba0ae042e9591fd64ef07b9a04d07d064dac45a7ab845d8b10683", func := "gimmal/gimmallaw15.CutRow", spec := "cutRow", unfollowed := true, recurses := true, apart := false, narrowed := true }
def CutRowUptoSaid : Prop := cutRowUptoRow.holds Try.pinned (OpenSpec.upto cutRowSpec)

/-- 'gimmallaw15.CutOther', WHERE WHAT IT READS IS OF BULK AT MOST 1048576: true; the input reads as it did. -/
def cutOtherUptoRow : OpenClaim := { program := "ytnbnnbcjlfdlpaa", sum := "eebb8d8f5e3ba0ae042e9591fd64ef07b9a04d07d064dac45a7ab845d8b10683", func := "gimmal/gimmallaw15.CutOther", spec := "cutOther", unfollowed := true, recurses := true, apart := false, narrowed := true }
def CutOtherUptoSaid : Prop := cutOtherUptoRow.holds Try.pinned (OpenSpec.upto cutOtherSpec)

end Rows
end Go.Proofs.Ytnbnnbcjlfdlpaa
