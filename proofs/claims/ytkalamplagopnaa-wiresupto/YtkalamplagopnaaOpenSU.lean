
/-
  What the walk of a statement is told of a short text that came in: that it is a string of bytes, and how long it may be.
-/
import Derived.Test.YtkalamplagopnaaRows
import Derived.Test.YtkalamplagopnaaOpen
import Derived.Test.YtkalamplagopnaaWireMath
import Derived.ChangeMaps5
namespace Go.Proofs.Ytkalamplagopnaa
open Go.ChangeShapes Go.WideShapes Go.ChangeAt Go.RowKit

theorem open_strU {H : Type} {enc : TypeId × Value → H} {W : World} {base : Nat} {v : Value} {d : DataW H} {p : List MemPlace} (hok : Value.okWide Try.prog W .any base 9 v)
    (h : DataW.Trod enc Try.prog W 0 (fun _ => true) true 9 v d p) (_hfz : W.noneFrozen p) (_hs : ∀ n ∈ d.weights Try.prog 9, n ≤ reachBytes) (hu : Rows.uptoBulk d ≤ 1048576) :
    ∃ x : List Int, v = .string (sb x) ∧ Byts x ∧ x.length ≤ 1048576 := by
  obtain ⟨s, rfl⟩ := okWide_string Try.underlying9 hok
  obtain ⟨fuel, hf⟩ := h
  obtain ⟨t, e1, e2, e3⟩ := DataW.trod_string Try.underlying9 hf
  simp [Value.cells] at e1
  subst e1
  have e4 : d = .lit (.string s.data.toList) := congrArg Prod.fst e2
  rw [e4] at hu
  simp only [Rows.uptoBulk] at hu
  refine ⟨bl s, by rw [sb_bl], bl_byts s, ?_⟩
  simp [bl] at hu ⊢
  omega
end Go.Proofs.Ytkalamplagopnaa
