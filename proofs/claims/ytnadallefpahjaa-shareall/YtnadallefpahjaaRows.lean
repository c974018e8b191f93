/-
  No cell of these rows narrows 'for every input' (looked for: loops, veiled, ifaces, maps, wideKeys, modest, calm, conditions, laid).
  DERIVED. THE GIVEN ROWS OF THIS SEAT. 6 by the template 'for every input the law returns true; each argument reads behind the call as it read before'; 0 by the template 'total and deterministic' (their statements: YtnadallefpahjaaTotals.lean).
  GIVEN WITH THE SEED: the statements are not yours to turn. If you find one false, say at which input.
  Laid BY PROGRAM, IN A SANDBOX (cutbox-rows.mjs): the forced cells as the released guide's own fill.sh prints them over the translation 2d19397ea50683eb… (all of the seat's roots in one cut). By AI agents, Wed Nov 11 2026. No macro, syntax, notation, axiom, sorry.
-/
import Derived.Test.YtnadallefpahjaaChecked
import GoSem.Claim
import GoSem.ClaimJoined
import GoSem.ClaimMapViews
import Derived.JoinedTies
import Derived.KernelRfl
namespace Go.Proofs.Ytnadallefpahjaa
/- THE CELL 'sum', in the pinned program and in every row, IS THE sha256 OF THE DUMP (.gsa) THAT YtnadallefpahjaaProg.lean LOADS. Nothing in Lean hashes anything: it is a label: what it is worth is what the hold of that sum in a sandbox is worth. -/
noncomputable def Try.pinned : Pinned := { name := "ytnadallefpahjaa", sum := "2d19397ea50683eb9c53782974fd79b0111aa946482c8e760e265a120d52487b", checked := Try.checked }
namespace Rows
def none {H : Type} : Left H := { results := [], args := [] }

/-- 'gimmallaw18.Shares': WHATEVER THE INPUT: true; the input reads as it did. -/
def sharesSpec : ChangeSpec := { name := "shares", fn := fun _ => fun
  | [d] => { results := [.lit (.bool true)], args := [d] }
  | _ => none }
def sharesRow : OpenClaim := { program := "ytnadallefpahjaa", sum := "2d19397ea50683eb9c53782974fd79b0111aa946482c8e760e265a120d52487b", func := "gimmal/gimmallaw18.Shares", spec := "shares", unfollowed := true, recurses := true, apart := false }
def SharesSaid : Prop := sharesRow.holds Try.pinned (OpenSpec.ofChange sharesSpec)

/-- ITS FALSE NEIGHBOUR: 'it returns false'. Refute it at one input. -/
def sharesWrong : ChangeSpec := { name := "shares", fn := fun _ => fun
  | [d] => { results := [.lit (.bool false)], args := [d] }
  | _ => none }
def SharesWrongFalsely : Prop := sharesRow.holds Try.pinned (OpenSpec.ofChange sharesWrong)

/-- 'gimmallaw18.ShareOnce': WHATEVER THE INPUT: true; the input reads as it did. -/
def shareOnceSpec : ChangeSpec := { name := "shareOnce", fn := fun _ => fun
  | [d] => { results := [.lit (.bool true)], args := [d] }
  | _ => none }
def shareOnceRow : OpenClaim := { program := "ytnadallefpahjaa", sum := "2d19397ea50683eb9c53782974fd79b0111aa946482c8e760e265a120d52487b", func := "gimmal/gimmallaw18.ShareOnce", spec := "shareOnce", unfollowed := true, recurses := true, apart := false }
def ShareOnceSaid : Prop := shareOnceRow.holds Try.pinned (OpenSpec.ofChange shareOnceSpec)

/-- ITS FALSE NEIGHBOUR: 'it returns false'. Refute it at one input. -/
def shareOnceWrong : ChangeSpec := { name := "shareOnce", fn := fun _ => fun
  | [d] => { results := [.lit (.bool false)], args := [d] }
  | _ => none }
def ShareOnceWrongFalsely : Prop := shareOnceRow.holds Try.pinned (OpenSpec.ofChange shareOnceWrong)

/-- 'gimmallaw18.ShareOwner': WHATEVER THE INPUT: true; the input reads as it did. -/
def shareOwnerSpec : ChangeSpec := { name := "shareOwner", fn := fun _ => fun
  | [d] => { results := [.lit (.bool true)], args := [d] }
  | _ => none }
def shareOwnerRow : OpenClaim := { program := "ytnadallefpahjaa", sum := "2d19397ea50683eb9c53782974fd79b0111aa946482c8e760e265a120d52487b", func := "gimmal/gimmallaw18.ShareOwner", spec := "shareOwner", unfollowed := true, recurses := true, apart := false }
def ShareOwnerSaid : Prop := shareOwnerRow.holds Try.pinned (OpenSpec.ofChange shareOwnerSpec)

/-- ITS FALSE NEIGHBOUR: 'it returns false'. Refute it at one input. -/
def shareOwnerWrong : ChangeSpec := { name := "shareOwner", fn := fun _ => fun
  | [d] => { results := [.lit (.bool false)], args := [d] }
  | _ => none }
def ShareOwnerWrongFalsely : Prop := shareOwnerRow.holds Try.pinned (OpenSpec.ofChange shareOwnerWrong)

/-- 'gimmallaw18.ShareForms': WHATEVER THE INPUT: true; the input reads as it did. -/
def shareFormsSpec : ChangeSpec := { name := "shareForms", fn := fun _ => fun
  | [d1, d2] => { results := [.lit (.bool true)], args := [d1, d2] }
  | _ => none }
def shareFormsRow : OpenClaim := { program := "ytnadallefpahjaa", sum := "2d19397ea50683eb9c53782974fd79b0111aa946482c8e760e265a120d52487b", func := "gimmal/gimmallaw18.ShareForms", spec := "shareForms", unfollowed := true, recurses := true, apart := false }
def ShareFormsSaid : Prop := shareFormsRow.holds Try.pinned (OpenSpec.ofChange shareFormsSpec)

/-- ITS FALSE NEIGHBOUR: 'it returns false'. Refute it at one input. -/
def shareFormsWrong : ChangeSpec := { name := "shareForms", fn := fun _ => fun
  | [d1, d2] => { results := [.lit (.bool false)], args := [d1, d2] }
  | _ => none }
def ShareFormsWrongFalsely : Prop := shareFormsRow.holds Try.pinned (OpenSpec.ofChange shareFormsWrong)

/-- 'gimmallaw18.ShareAll': WHATEVER THE INPUT: true; the input reads as it did. -/
def shareAllSpec : ChangeSpec := { name := "shareAll", fn := fun _ => fun
  | [d1, d2] => { results := [.lit (.bool true)], args := [d1, d2] }
  | _ => none }
def shareAllRow : OpenClaim := { program := "ytnadallefpahjaa", sum := "2d19397ea50683eb9c53782974fd79b0111aa946482c8e760e265a120d52487b", func := "gimmal/gimmallaw18.ShareAll", spec := "shareAll", unfollowed := true, recurses := true, apart := false }
def ShareAllSaid : Prop := shareAllRow.holds Try.pinned (OpenSpec.ofChange shareAllSpec)

/-- ITS FALSE NEIGHBOUR: 'it returns false'. Refute it at one input. -/
def shareAllWrong : ChangeSpec := { name := "shareAll", fn := fun _ => fun
  | [d1, d2] => { results := [.lit (.bool false)], args := [d1, d2] }
  | _ => none }
def ShareAllWrongFalsely : Prop := shareAllRow.holds Try.pinned (OpenSpec.ofChange shareAllWrong)

/-- 'gimmallaw18.ShareNone': WHATEVER THE INPUT: true; the input reads as it did. -/
def shareNoneSpec : ChangeSpec := { name := "shareNone", fn := fun _ => fun
  | [d1, d2] => { results := [.lit (.bool true)], args := [d1, d2] }
  | _ => none }
def shareNoneRow : OpenClaim := { program := "ytnadallefpahjaa", sum := "2d19397ea50683eb9c53782974fd79b0111aa946482c8e760e265a120d52487b", func := "gimmal/gimmallaw18.ShareNone", spec := "shareNone", unfollowed := true, recurses := true, apart := false }
def ShareNoneSaid : Prop := shareNoneRow.holds Try.pinned (OpenSpec.ofChange shareNoneSpec)

/-- ITS FALSE NEIGHBOUR: 'it returns false'. Refute it at one input. -/
def shareNoneWrong : ChangeSpec := { name := "shareNone", fn := fun _ => fun
  | [d1, d2] => { results := [.lit (.bool false)], args := [d1, d2] }
  | _ => none }
def ShareNoneWrongFalsely : Prop := shareNoneRow.holds Try.pinned (OpenSpec.ofChange shareNoneWrong)

/- THE SECOND FORM. 'bulk': how many values and letters a reading holds, each counted each time it is reached (what is shared counts as often as it is met; a slice's spare places count too). A statement '..UptoSaid' is the law's where the arguments, and the package variables that the reading takes, are together of bulk at most 1048576: NARROWER than '..Said'. Prove '..Said' where nothing that the law and all that it calls make is longer than what came in: it says more and counts as full. Else prove '..UptoSaid'. A law counts once. -/
mutual
def uptoBulk {H : Type} : DataW H → Nat
  | .lit (.string bytes) => bytes.length + 1
  | .lit _ => 1
  | .nil => 1
  | .ptr d => uptoBulk d + 1
  | .slice elems spare => uptoBulkAll elems + uptoBulkAll spare + 1
  | .agg parts => uptoBulkAll parts + 1
  | .iface _ d => uptoBulk d + 1
  | .map entries => uptoBulkEntries entries + 1
  | .held _ => 1
def uptoBulkAll {H : Type} : List (DataW H) → Nat
  | [] => 0
  | d :: r => uptoBulk d + uptoBulkAll r
def uptoBulkEntries {H : Type} : List (Lit × DataW H) → Nat
  | [] => 0
  | x :: r => uptoBulkEntry x + uptoBulkEntries r
def uptoBulkEntry {H : Type} : Lit × DataW H → Nat
  | (.string bytes, d) => bytes.length + uptoBulk d + 1
  | (_, d) => uptoBulk d + 1
 end
def uptoSmall : (H : Type) → List (DataW H) → Bool := fun _ ds => decide (uptoBulkAll ds ≤ 1048576)
def OpenSpec.upto (s : _root_.Go.ChangeSpec) : _root_.Go.OpenSpec := { _root_.Go.OpenSpec.ofChange s with cond := some uptoSmall }

/-- 'gimmallaw18.Shares', WHERE WHAT IT READS IS OF BULK AT MOST 1048576: true; the input reads as it did. -/
def sharesUptoRow : OpenClaim := { program := "ytnadallefpahjaa", sum := "2d19397ea50683eb9c53782974fd79b0111aa946482c8e760e265a120d52487b", func := "gimmal/gimmallaw18.Shares", spec := "shares", unfollowed := true, recurses := true, apart := false, narrowed := true }
def SharesUptoSaid : Prop := sharesUptoRow.holds Try.pinned (OpenSpec.upto sharesSpec)

/-- 'gimmallaw18.ShareOnce', WHERE WHAT IT READS IS OF BULK AT MOST 1048576: true; the input reads as it did. -/
def shareOnceUptoRow : OpenClaim := { program := "ytnadallefpahjaa", sum := "2d19397ea50683eb9c53782974fd79b0111aa946482c8e760e265a120d52487b", func := "gimmal/gimmallaw18.ShareOnce", spec := "shareOnce", unfollowed := true, recurses := true, apart := false, narrowed := true }
def ShareOnceUptoSaid : Prop := shareOnceUptoRow.holds Try.pinned (OpenSpec.upto shareOnceSpec)

/-- 'gimmallaw18.ShareOwner', WHERE WHAT IT READS IS OF BULK AT MOST 1048576: true; the input reads as it did. -/
def shareOwnerUptoRow : OpenClaim := { program := "ytnadallefpahjaa", sum := "2d19397ea50683eb9c53782974fd79b0111aa946482c8e760e265a120d52487b", func := "gimmal/gimmallaw18.ShareOwner", spec := "shareOwner", unfollowed := true, recurses := true, apart := false, narrowed := true }
def ShareOwnerUptoSaid : Prop := shareOwnerUptoRow.holds Try.pinned (OpenSpec.upto shareOwnerSpec)

/-- 'gimmallaw18.ShareForms', WHERE WHAT IT READS IS OF BULK AT MOST 1048576: true; the input reads as it did. -/
def shareFormsUptoRow : OpenClaim := { program := "ytnadallefpahjaa", sum := "2d19397ea50683eb9c53782974fd79b0111aa946482c8e760e265a120d52487b", func := "gimmal/gimmallaw18.ShareForms", spec := "shareForms", unfollowed := true, recurses := true, apart := false, narrowed := true }
def ShareFormsUptoSaid : Prop := shareFormsUptoRow.holds Try.pinned (OpenSpec.upto shareFormsSpec)

/-- 'gimmallaw18.ShareAll', WHERE WHAT IT READS IS OF BULK AT MOST 1048576: true; the input reads as it did. -/
def shareAllUptoRow : OpenClaim := { program := "ytnadallefpahjaa", sum := "2d19397ea50683eb9c53782974fd79b0111aa946482c8e760e265a120d52487b", func := "gimmal/gimmallaw18.ShareAll", spec := "shareAll", unfollowed := true, recurses := true, apart := false, narrowed := true }
def ShareAllUptoSaid : Prop := shareAllUptoRow.holds Try.pinned (OpenSpec.upto shareAllSpec)

/-- 'gimmallaw18.ShareNone', WHERE WHAT IT READS IS OF BULK AT MOST 1048576: true; the input reads as it did. -/
def shareNoneUptoRow : OpenClaim := { program := "ytnadallefpahjaa", sum := "2d19397ea50683eb9c53782974fd79b0111aa946482c8e760e265a120d52487b", func := "gimmal/gimmallaw18.ShareNone", spec := "shareNone", unfollowed := true, recurses := true, apart := false, narrowed := true }
def ShareNoneUptoSaid : Prop := shareNoneUptoRow.holds Try.pinned (OpenSpec.upto shareNoneSpec)

end Rows
end Go.Proofs.Ytnadallefpahjaa
