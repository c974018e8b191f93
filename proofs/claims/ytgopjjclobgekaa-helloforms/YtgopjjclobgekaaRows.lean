/-
  No cell of these rows narrows 'for every input' (looked for: loops, veiled, ifaces, maps, wideKeys, modest, calm, conditions, laid).
  DERIVED. THE GIVEN ROWS OF THIS SEAT. 7 by the template 'for every input the law returns true; each argument reads behind the call as it read before'; 0 by the template 'total and deterministic' (their statements: YtgopjjclobgekaaTotals.lean).
  GIVEN WITH THE SEED: the statements are not yours to turn. If you find one false, say at which input.
  Laid BY PROGRAM, IN A SANDBOX (cutbox-rows.mjs): the forced cells as the released guide's own fill.sh prints them over the translation 3037e19de67d81b9… (all of the seat's roots in one cut). By AI agents, Wed Nov 11 2026. No macro, syntax, notation, axiom, sorry.
-/
import Derived.Test.YtgopjjclobgekaaChecked
import GoSem.Claim
import GoSem.ClaimJoined
import GoSem.ClaimMapViews
import Derived.JoinedTies
import Derived.KernelRfl
namespace Go.Proofs.Ytgopjjclobgekaa
/- THE CELL 'sum', in the pinned program and in every row, IS THE sha256 OF THE DUMP (.gsa) THAT YtgopjjclobgekaaProg.lean LOADS. Nothing in Lean hashes anything: it is a label: what it is worth is what the hold of that sum in a sandbox is worth. -/
noncomputable def Try.pinned : Pinned := { name := "ytgopjjclobgekaa", sum := "3037e19de67d81b903f6edc3b9f9f9d4872a4a9816e2ce53a31fa2d244c48943", checked := Try.checked }
namespace Rows
def none {H : Type} : Left H := { results := [], args := [] }

/-- 'gimmallaw10.Hellos': WHATEVER THE INPUT: true; the input reads as it did. -/
def hellosSpec : ChangeSpec := { name := "hellos", fn := fun _ => fun
  | [d1, d2, d3] => { results := [.lit (.bool true)], args := [d1, d2, d3] }
  | _ => none }
def hellosRow : OpenClaim := { program := "ytgopjjclobgekaa", sum := "3037e19de67d81b903f6edc3b9f9f9d4872a4a9816e2ce53a31fa2d244c48943", func := "gimmal/gimmallaw10.Hellos", spec := "hellos", unfollowed := true, recurses := true, apart := false }
def HellosSaid : Prop := hellosRow.holds Try.pinned (OpenSpec.ofChange hellosSpec)

/-- ITS FALSE NEIGHBOUR: 'it returns false'. Refute it at one input. -/
def hellosWrong : ChangeSpec := { name := "hellos", fn := fun _ => fun
  | [d1, d2, d3] => { results := [.lit (.bool false)], args := [d1, d2, d3] }
  | _ => none }
def HellosWrongFalsely : Prop := hellosRow.holds Try.pinned (OpenSpec.ofChange hellosWrong)

/-- 'gimmallaw10.HelloKeeps': WHATEVER THE INPUT: true; the input reads as it did. -/
def helloKeepsSpec : ChangeSpec := { name := "helloKeeps", fn := fun _ => fun
  | [d1, d2, d3] => { results := [.lit (.bool true)], args := [d1, d2, d3] }
  | _ => none }
def helloKeepsRow : OpenClaim := { program := "ytgopjjclobgekaa", sum := "3037e19de67d81b903f6edc3b9f9f9d4872a4a9816e2ce53a31fa2d244c48943", func := "gimmal/gimmallaw10.HelloKeeps", spec := "helloKeeps", unfollowed := true, recurses := true, apart := false }
def HelloKeepsSaid : Prop := helloKeepsRow.holds Try.pinned (OpenSpec.ofChange helloKeepsSpec)

/-- ITS FALSE NEIGHBOUR: 'it returns false'. Refute it at one input. -/
def helloKeepsWrong : ChangeSpec := { name := "helloKeeps", fn := fun _ => fun
  | [d1, d2, d3] => { results := [.lit (.bool false)], args := [d1, d2, d3] }
  | _ => none }
def HelloKeepsWrongFalsely : Prop := helloKeepsRow.holds Try.pinned (OpenSpec.ofChange helloKeepsWrong)

/-- 'gimmallaw10.HelloForms': WHATEVER THE INPUT: true; the input reads as it did. -/
def helloFormsSpec : ChangeSpec := { name := "helloForms", fn := fun _ => fun
  | [d1, d2] => { results := [.lit (.bool true)], args := [d1, d2] }
  | _ => none }
def helloFormsRow : OpenClaim := { program := "ytgopjjclobgekaa", sum := "3037e19de67d81b903f6edc3b9f9f9d4872a4a9816e2ce53a31fa2d244c48943", func := "gimmal/gimmallaw10.HelloForms", spec := "helloForms", unfollowed := true, recurses := true, apart := false }
def HelloFormsSaid : Prop := helloFormsRow.holds Try.pinned (OpenSpec.ofChange helloFormsSpec)

/-- ITS FALSE NEIGHBOUR: 'it returns false'. Refute it at one input. -/
def helloFormsWrong : ChangeSpec := { name := "helloForms", fn := fun _ => fun
  | [d1, d2] => { results := [.lit (.bool false)], args := [d1, d2] }
  | _ => none }
def HelloFormsWrongFalsely : Prop := helloFormsRow.holds Try.pinned (OpenSpec.ofChange helloFormsWrong)

/-- 'gimmallaw10.HelloFull': WHATEVER THE INPUT: true; the input reads as it did. -/
def helloFullSpec : ChangeSpec := { name := "helloFull", fn := fun _ => fun
  | [d1, d2] => { results := [.lit (.bool true)], args := [d1, d2] }
  | _ => none }
def helloFullRow : OpenClaim := { program := "ytgopjjclobgekaa", sum := "3037e19de67d81b903f6edc3b9f9f9d4872a4a9816e2ce53a31fa2d244c48943", func := "gimmal/gimmallaw10.HelloFull", spec := "helloFull", unfollowed := true, recurses := true, apart := false }
def HelloFullSaid : Prop := helloFullRow.holds Try.pinned (OpenSpec.ofChange helloFullSpec)

/-- ITS FALSE NEIGHBOUR: 'it returns false'. Refute it at one input. -/
def helloFullWrong : ChangeSpec := { name := "helloFull", fn := fun _ => fun
  | [d1, d2] => { results := [.lit (.bool false)], args := [d1, d2] }
  | _ => none }
def HelloFullWrongFalsely : Prop := helloFullRow.holds Try.pinned (OpenSpec.ofChange helloFullWrong)

/-- 'gimmallaw10.HelloTwice': WHATEVER THE INPUT: true; the input reads as it did. -/
def helloTwiceSpec : ChangeSpec := { name := "helloTwice", fn := fun _ => fun
  | [d1, d2, d3] => { results := [.lit (.bool true)], args := [d1, d2, d3] }
  | _ => none }
def helloTwiceRow : OpenClaim := { program := "ytgopjjclobgekaa", sum := "3037e19de67d81b903f6edc3b9f9f9d4872a4a9816e2ce53a31fa2d244c48943", func := "gimmal/gimmallaw10.HelloTwice", spec := "helloTwice", unfollowed := true, recurses := true, apart := false }
def HelloTwiceSaid : Prop := helloTwiceRow.holds Try.pinned (OpenSpec.ofChange helloTwiceSpec)

/-- ITS FALSE NEIGHBOUR: 'it returns false'. Refute it at one input. -/
def helloTwiceWrong : ChangeSpec := { name := "helloTwice", fn := fun _ => fun
  | [d1, d2, d3] => { results := [.lit (.bool false)], args := [d1, d2, d3] }
  | _ => none }
def HelloTwiceWrongFalsely : Prop := helloTwiceRow.holds Try.pinned (OpenSpec.ofChange helloTwiceWrong)

/-- 'gimmallaw10.HelloRow': WHATEVER THE INPUT: true; the input reads as it did. -/
def helloRowSpec : ChangeSpec := { name := "helloRow", fn := fun _ => fun
  | [d1, d2, d3, d4] => { results := [.lit (.bool true)], args := [d1, d2, d3, d4] }
  | _ => none }
def helloRowRow : OpenClaim := { program := "ytgopjjclobgekaa", sum := "3037e19de67d81b903f6edc3b9f9f9d4872a4a9816e2ce53a31fa2d244c48943", func := "gimmal/gimmallaw10.HelloRow", spec := "helloRow", unfollowed := true, recurses := true, apart := false }
def HelloRowSaid : Prop := helloRowRow.holds Try.pinned (OpenSpec.ofChange helloRowSpec)

/-- ITS FALSE NEIGHBOUR: 'it returns false'. Refute it at one input. -/
def helloRowWrong : ChangeSpec := { name := "helloRow", fn := fun _ => fun
  | [d1, d2, d3, d4] => { results := [.lit (.bool false)], args := [d1, d2, d3, d4] }
  | _ => none }
def HelloRowWrongFalsely : Prop := helloRowRow.holds Try.pinned (OpenSpec.ofChange helloRowWrong)

/-- 'gimmallaw10.HelloAll': WHATEVER THE INPUT: true; the input reads as it did. -/
def helloAllSpec : ChangeSpec := { name := "helloAll", fn := fun _ => fun
  | [d] => { results := [.lit (.bool true)], args := [d] }
  | _ => none }
def helloAllRow : OpenClaim := { program := "ytgopjjclobgekaa", sum := "3037e19de67d81b903f6edc3b9f9f9d4872a4a9816e2ce53a31fa2d244c48943", func := "gimmal/gimmallaw10.HelloAll", spec := "helloAll", unfollowed := true, recurses := true, apart := false }
def HelloAllSaid : Prop := helloAllRow.holds Try.pinned (OpenSpec.ofChange helloAllSpec)

/-- ITS FALSE NEIGHBOUR: 'it returns false'. Refute it at one input. -/
def helloAllWrong : ChangeSpec := { name := "helloAll", fn := fun _ => fun
  | [d] => { results := [.lit (.bool false)], args := [d] }
  | _ => none }
def HelloAllWrongFalsely : Prop := helloAllRow.holds Try.pinned (OpenSpec.ofChange helloAllWrong)

/- THE SECOND FORM. 'bulk': how many values and letters a reading holds, each counted each time it is reached (what is shared counts as often as it is met; a slice's spare places count too). A statement '..UptoSaid' is the law's where the arguments, and the package variables that the reading takes, are together of bulk at most 1048576: NARROWER than '..Said'. Prove '..Said' where nothing that the law and all that it calls make is longer than what came in: it says more and counts as full. Else prove '..UptoSaid'. A law counts once. -/
mutual
def uptoBulk {H : Type} : DataW H → Nat
  | .lit (.string bytes) => bytes.length + 1
  | .lit _ => 1
  | .nil => 1
  | .ptr d => uptoBulk d + 1
  | .slice elems spare => uptoBulkAll elems + uptoBulkAll spare + 1
  | .agg parts => uptoBulkAll parts + 1
  | .iface _ d => uptoBulk d + 1
  | .map entries => uptoBulkEntries entries + 1
  | .held _ => 1
def uptoBulkAll {H : Type} : List (DataW H) → Nat
  | [] => 0
  | d :: r => uptoBulk d + uptoBulkAll r
def uptoBulkEntries {H : Type} : List (Lit × DataW H) → Nat
  | [] => 0
  | x :: r => uptoBulkEntry x + uptoBulkEntries r
def uptoBulkEntry {H : Type} : Lit × DataW H → Nat
  | (.string bytes, d) => bytes.length + uptoBulk d + 1
  | (_, d) => uptoBulk d + 1
 end
def uptoSmall : (H : Type) → List (DataW H) → Bool := fun _ ds => decide (uptoBulkAll ds ≤ 1048576)
def OpenSpec.upto (s : _root_.Go.ChangeSpec) : _root_.Go.OpenSpec := { _root_.Go.OpenSpec.ofChange s with cond := some uptoSmall }

/-- 'gimmallaw10.Hellos', WHERE WHAT IT READS IS OF BULK AT MOST 1048576: true; the input reads as it did. -/
def hellosUptoRow : OpenClaim := { program := "ytgopjjclobgekaa", sum := "3037e19de67d81b903f6edc3b9f9f9d4872a4a9816e2ce53a31fa2d244c48943", func := "gimmal/gimmallaw10.Hellos", spec := "hellos", unfollowed := true, recurses := true, apart := false, narrowed := true }
def HellosUptoSaid : Prop := hellosUptoRow.holds Try.pinned (OpenSpec.upto hellosSpec)

/-- 'gimmallaw10.HelloKeeps', WHERE WHAT IT READS IS OF BULK AT MOST 1048576: true; the input reads as it did. -/
def helloKeepsUptoRow : OpenClaim := { program := "ytgopjjclobgekaa", sum := "3037e19de67d81b903f6edc3b9f9f9d4872a4a9816e2ce53a31fa2d244c48943", func := "gimmal/gimmallaw10.HelloKeeps", spec := "helloKeeps", unfollowed := true, recurses := true, apart := false, narrowed := true }
def HelloKeepsUptoSaid : Prop := helloKeepsUptoRow.holds Try.pinned (OpenSpec.upto helloKeepsSpec)

/-- 'gimmallaw10.HelloForms', WHERE WHAT IT READS IS OF BULK AT MOST 1048576: true; the input reads as it did. -/
def helloFormsUptoRow : OpenClaim := { program := "ytgopjjclobgekaa", sum := "3037e19de67d81b903f6edc3b9f9f9d4872a4a9816e2ce53a31fa2d244c48943", func := "gimmal/gimmallaw10.HelloForms", spec := "helloForms", unfollowed := true, recurses := true, apart := false, narrowed := true }
def HelloFormsUptoSaid : Prop := helloFormsUptoRow.holds Try.pinned (OpenSpec.upto helloFormsSpec)

/-- 'gimmallaw10.HelloFull', WHERE WHAT IT READS IS OF BULK AT MOST 1048576: true; the input reads as it did. -/
def helloFullUptoRow : OpenClaim := { program := "ytgopjjclobgekaa", sum := "3037e19de67d81b903f6edc3b9f9f9d4872a4a9816e2ce53a31fa2d244c48943", func := "gimmal/gimmallaw10.HelloFull", spec := "helloFull", unfollowed := true, recurses := true, apart := false, narrowed := true }
def HelloFullUptoSaid : Prop := helloFullUptoRow.holds Try.pinned (OpenSpec.upto helloFullSpec)

/-- 'gimmallaw10.HelloTwice', WHERE WHAT IT READS IS OF BULK AT MOST 1048576: true; the input reads as it did. -/
def helloTwiceUptoRow : OpenClaim := { program := "ytgopjjclobgekaa", sum := "3037e19de67d81b903f6edc3b9f9f9d4872a4a9816e2ce53a31fa2d244c48943", func := "gimmal/gimmallaw10.HelloTwice", spec := "helloTwice", unfollowed := true, recurses := true, apart := false, narrowed := true }
def HelloTwiceUptoSaid : Prop := helloTwiceUptoRow.holds Try.pinned (OpenSpec.upto helloTwiceSpec)

/-- 'gimmallaw10.HelloRow', WHERE WHAT IT READS IS OF BULK AT MOST 1048576: true; the input reads as it did. -/
def helloRowUptoRow : OpenClaim := { program := "ytgopjjclobgekaa", sum := "3037e19de67d81b903f6edc3b9f9f9d4872a4a9816e2ce53a31fa2d244c48943", func := "gimmal/gimmallaw10.HelloRow", spec := "helloRow", unfollowed := true, recurses := true, apart := false, narrowed := true }
def HelloRowUptoSaid : Prop := helloRowUptoRow.holds Try.pinned (OpenSpec.upto helloRowSpec)

/-- 'gimmallaw10.HelloAll', WHERE WHAT IT READS IS OF BULK AT MOST 1048576: true; the input reads as it did. -/
def helloAllUptoRow : OpenClaim := { program := "ytgopjjclobgekaa", sum := "3037e19de67d81b903f6edc3b9f9f9d4872a4a9816e2ce53a31fa2d244c48943", func := "gimmal/gimmallaw10.HelloAll", spec := "helloAll", unfollowed := true, recurses := true, apart := false, narrowed := true }
def HelloAllUptoSaid : Prop := helloAllUptoRow.holds Try.pinned (OpenSpec.upto helloAllSpec)

end Rows
end Go.Proofs.Ytgopjjclobgekaa
