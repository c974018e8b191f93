
/-
  The statements' own helpers on lists of messages: copying, comparing.
-/
import Derived.Test.YtnadallefpahjaaMsgsApp
import Derived.Test.YtnadallefpahjaaSameM
import Derived.Test.YtnadallefpahjaaCalm
import Derived.Test.YtnadallefpahjaaOld
import Derived.BigRegion
namespace Go.Proofs.Ytnadallefpahjaa
open Go.ChangeShapes Go.WideShapes Go.ChangeAt Go.RowKit

/-- What stands at place j, cell by cell. -/
theorem MgAt.cells {lo hi : Nat} {w : World} {b o : Nat} {x : MgO} (h : MgAt lo hi w b o x) :
    w.cell? ⟨b, o, none⟩ = some (.int .i64 x.n) ∧ w.cell? ⟨b, o + 1, none⟩ = some (.int .i64 x.a) ∧ w.cell? ⟨b, o + 2, none⟩ = some (.int .i64 x.b) ∧ w.cell? ⟨b, o + 3, none⟩ = some x.v ∧ w.cell? ⟨b, o + 4, none⟩ = some (.int .i64 x.k) ∧ w.cell? ⟨b, o + 5, none⟩ = some (.int .i64 x.t.k) ∧
    w.cell? ⟨b, o + 6, none⟩ = some (.int .i64 x.t.c) ∧ w.cell? ⟨b, o + 7, none⟩ = some (.int .i64 x.t.u) ∧ w.cell? ⟨b, o + 8, none⟩ = some (.int .i64 x.t.x) ∧ w.cell? ⟨b, o + 9, none⟩ = some (.bool x.t.g) ∧ w.cell? ⟨b, o + 10, none⟩ = some (.bool x.h) :=
  ⟨h.1 0 (by decide), h.1 1 (by decide), h.1 2 (by decide), h.1 3 (by decide), h.1 4 (by decide), h.1 5 (by decide), h.1 6 (by decide), h.1 7 (by decide), h.1 8 (by decide), h.1 9 (by decide), h.1 10 (by decide)⟩

end Go.Proofs.Ytnadallefpahjaa
