/-
  No cell of these rows narrows 'for every input' (looked for: loops, veiled, ifaces, maps, wideKeys, modest, calm, conditions, laid).
  DERIVED. THE GIVEN ROWS OF THIS SEAT. 4 by the template 'for every input the law returns true; each argument reads behind the call as it read before'; 0 by the template 'total and deterministic' (their statements: YtagojonjohimfaaTotals.lean).
  GIVEN WITH THE SEED: the statements are not yours to turn. If you find one false, say at which input.
  Laid BY PROGRAM, IN A SANDBOX (cutbox-rows.mjs): the forced cells as the released guide's own fill.sh prints them over the translation b29394f33efb93f5… (all of the seat's roots in one cut). By AI agents, Wed Nov 11 2026. No macro, syntax, notation, axiom, sorry.
-/
import Derived.Test.YtagojonjohimfaaChecked
import GoSem.Claim
import GoSem.ClaimJoined
import GoSem.ClaimMapViews
import Derived.JoinedTies
import Derived.KernelRfl
namespace Go.Proofs.Ytagojonjohimfaa
/- THE CELL 'sum', in the pinned program and in every row, IS THE sha256 OF THE DUMP (.gsa) THAT YtagojonjohimfaaProg.lean LOADS. Nothing in Lean hashes anything: it is a label: what it is worth is what the hold of that sum in a sandbox is worth. -/
noncomputable def Try.pinned : Pinned := { name := "ytagojonjohimfaa", sum := "b29394f33efb93f55995980eb04582fb9fe8e0b669d25b3b49bb10821a1c2a52", checked := Try.checked }
namespace Rows
def none {H : Type} : Left H := { results := [], args := [] }

/-- 'gimmallaw11.Ages': WHATEVER THE INPUT: true; the input reads as it did. -/
def agesSpec : ChangeSpec := { name := "ages", fn := fun _ => fun
  | [d] => { results := [.lit (.bool true)], args := [d] }
  | _ => none }
def agesRow : OpenClaim := { program := "ytagojonjohimfaa", sum := "b29394f33efb93f55995980eb04582fb9fe8e0b669d25b3b49bb10821a1c2a52", func := "gimmal/gimmallaw11.Ages", spec := "ages", unfollowed := true, recurses := true, apart := false }
def AgesSaid : Prop := agesRow.holds Try.pinned (OpenSpec.ofChange agesSpec)

/-- ITS FALSE NEIGHBOUR: 'it returns false'. Refute it at one input. -/
def agesWrong : ChangeSpec := { name := "ages", fn := fun _ => fun
  | [d] => { results := [.lit (.bool false)], args := [d] }
  | _ => none }
def AgesWrongFalsely : Prop := agesRow.holds Try.pinned (OpenSpec.ofChange agesWrong)

/-- 'gimmallaw11.AgeKeeps': WHATEVER THE INPUT: true; the input reads as it did. -/
def ageKeepsSpec : ChangeSpec := { name := "ageKeeps", fn := fun _ => fun
  | [d] => { results := [.lit (.bool true)], args := [d] }
  | _ => none }
def ageKeepsRow : OpenClaim := { program := "ytagojonjohimfaa", sum := "b29394f33efb93f55995980eb04582fb9fe8e0b669d25b3b49bb10821a1c2a52", func := "gimmal/gimmallaw11.AgeKeeps", spec := "ageKeeps", unfollowed := true, recurses := true, apart := false }
def AgeKeepsSaid : Prop := ageKeepsRow.holds Try.pinned (OpenSpec.ofChange ageKeepsSpec)

/-- ITS FALSE NEIGHBOUR: 'it returns false'. Refute it at one input. -/
def ageKeepsWrong : ChangeSpec := { name := "ageKeeps", fn := fun _ => fun
  | [d] => { results := [.lit (.bool false)], args := [d] }
  | _ => none }
def AgeKeepsWrongFalsely : Prop := ageKeepsRow.holds Try.pinned (OpenSpec.ofChange ageKeepsWrong)

/-- 'gimmallaw11.AgeAll': WHATEVER THE INPUT: true; the input reads as it did. -/
def ageAllSpec : ChangeSpec := { name := "ageAll", fn := fun _ => fun
  | [d] => { results := [.lit (.bool true)], args := [d] }
  | _ => none }
def ageAllRow : OpenClaim := { program := "ytagojonjohimfaa", sum := "b29394f33efb93f55995980eb04582fb9fe8e0b669d25b3b49bb10821a1c2a52", func := "gimmal/gimmallaw11.AgeAll", spec := "ageAll", unfollowed := true, recurses := true, apart := false }
def AgeAllSaid : Prop := ageAllRow.holds Try.pinned (OpenSpec.ofChange ageAllSpec)

/-- ITS FALSE NEIGHBOUR: 'it returns false'. Refute it at one input. -/
def ageAllWrong : ChangeSpec := { name := "ageAll", fn := fun _ => fun
  | [d] => { results := [.lit (.bool false)], args := [d] }
  | _ => none }
def AgeAllWrongFalsely : Prop := ageAllRow.holds Try.pinned (OpenSpec.ofChange ageAllWrong)

/-- 'gimmallaw11.AgeHeard': WHATEVER THE INPUT: true; the input reads as it did. -/
def ageHeardSpec : ChangeSpec := { name := "ageHeard", fn := fun _ => fun
  | [d1, d2] => { results := [.lit (.bool true)], args := [d1, d2] }
  | _ => none }
def ageHeardRow : OpenClaim := { program := "ytagojonjohimfaa", sum := "b29394f33efb93f55995980eb04582fb9fe8e0b669d25b3b49bb10821a1c2a52", func := "gimmal/gimmallaw11.AgeHeard", spec := "ageHeard", unfollowed := true, recurses := true, apart := false }
def AgeHeardSaid : Prop := ageHeardRow.holds Try.pinned (OpenSpec.ofChange ageHeardSpec)

/-- ITS FALSE NEIGHBOUR: 'it returns false'. Refute it at one input. -/
def ageHeardWrong : ChangeSpec := { name := "ageHeard", fn := fun _ => fun
  | [d1, d2] => { results := [.lit (.bool false)], args := [d1, d2] }
  | _ => none }
def AgeHeardWrongFalsely : Prop := ageHeardRow.holds Try.pinned (OpenSpec.ofChange ageHeardWrong)

/- THE SECOND FORM. 'bulk': how many values and letters a reading holds, each counted each time it is reached (what is shared counts as often as it is met; a slice's spare places count too). A statement '..UptoSaid' is the law's where the arguments, and the package variables that the reading takes, are together of bulk at most 1048576: NARROWER than '..Said'. Prove '..Said' where nothing that the law and all that it calls make is longer than what came in: it says more and counts as full. Else prove '..UptoSaid'. A law counts once. -/
mutual
def uptoBulk {H : Type} : DataW H → Nat
  | .lit (.string bytes) => bytes.length + 1
  | .lit _ => 1
  | .nil => 1
  | .ptr d => uptoBulk d + 1
  | .slice elems spare => uptoBulkAll elems + uptoBulkAll spare + 1
  | .agg parts => uptoBulkAll parts + 1
  | .iface _ d => uptoBulk d + 1
  | .map entries => uptoBulkEntries entries + 1
  | .held _ => 1
def uptoBulkAll {H : Type} : List (DataW H) → Nat
  | [] => 0
  | d :: r => uptoBulk d + uptoBulkAll r
def uptoBulkEntries {H : Type} : List (Lit × DataW H) → Nat
  | [] => 0
  | x :: r => uptoBulkEntry x + uptoBulkEntries r
def uptoBulkEntry {H : Type} : Lit × DataW H → Nat
  | (.string bytes, d) => bytes.length + uptoBulk d + 1
  | (_, d) => uptoBulk d + 1
 end
def uptoSmall : (H : Type) → List (DataW H) → Bool := fun _ ds => decide (uptoBulkAll ds ≤ 1048576)
def OpenSpec.upto (s : _root_.Go.ChangeSpec) : _root_.Go.OpenSpec := { _root_.Go.OpenSpec.ofChange s with cond := some uptoSmall }

/-- 'gimmallaw11.Ages', WHERE WHAT IT READS IS OF BULK AT MOST 1048576: true; the input reads as it did. -/
def agesUptoRow : OpenClaim := { program := "ytagojonjohimfaa", sum := "b29394f33efb93f55995980eb04582fb9fe8e0b669d25b3b49bb10821a1c2a52", func := "gimmal/gimmallaw11.Ages", spec := "ages", unfollowed := true, recurses := true, apart := false, narrowed := true }
def AgesUptoSaid : Prop := agesUptoRow.holds Try.pinned (OpenSpec.upto agesSpec)

/-- 'gimmallaw11.AgeKeeps', WHERE WHAT IT READS IS OF BULK AT MOST 1048576: true; the input reads as it did. -/
def ageKeepsUptoRow : OpenClaim := { program := "ytagojonjohimfaa", sum := "b29394f33efb93f55995980eb04582fb9fe8e0b669d25b3b49bb10821a1c2a52", func := "gimmal/gimmallaw11.AgeKeeps", spec := "ageKeeps", unfollowed := true, recurses := true, apart := false, narrowed := true }
def AgeKeepsUptoSaid : Prop := ageKeepsUptoRow.holds Try.pinned (OpenSpec.upto ageKeepsSpec)

/-- 'gimmallaw11.AgeAll', WHERE WHAT IT READS IS OF BULK AT MOST 1048576: true; the input reads as it did. -/
def ageAllUptoRow : OpenClaim := { program := "ytagojonjohimfaa", sum := "b29394f33efb93f55995980eb04582fb9fe8e0b669d25b3b49bb10821a1c2a52", func := "gimmal/gimmallaw11.AgeAll", spec := "ageAll", unfollowed := true, recurses := true, apart := false, narrowed := true }
def AgeAllUptoSaid : Prop := ageAllUptoRow.holds Try.pinned (OpenSpec.upto ageAllSpec)

/-- 'gimmallaw11.AgeHeard', WHERE WHAT IT READS IS OF BULK AT MOST 1048576: true; the input reads as it did. -/
def ageHeardUptoRow : OpenClaim := { program := "ytagojonjohimfaa", sum := "b29394f33efb93f55995980eb04582fb9fe8e0b669d25b3b49bb10821a1c2a52", func := "gimmal/gimmallaw11.AgeHeard", spec := "ageHeard", unfollowed := true, recurses := true, apart := false, narrowed := true }
def AgeHeardUptoSaid : Prop := ageHeardUptoRow.holds Try.pinned (OpenSpec.upto ageHeardSpec)

end Rows
end Go.Proofs.Ytagojonjohimfaa
