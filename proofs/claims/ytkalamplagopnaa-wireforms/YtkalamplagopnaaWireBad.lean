
/-
  Texts that are no messages, and a message with a byte changed: none of them is told by Put.
-/
import Derived.Test.YtkalamplagopnaaWireRef
import Derived.Laws.BitsLemmas
namespace Go.Proofs.Ytkalamplagopnaa
open Go.ChangeShapes Go.WideShapes Go.ChangeAt Go.RowKit

def badT : Array Value := #[.string ⟨#[]⟩, .string ⟨#[0, 1, 2]⟩, .string ⟨#[4, 1, 2, 5]⟩, .string ⟨#[0, 1, 1, 0]⟩, .string ⟨#[0, 1, 2, 1]⟩, .string ⟨#[0, 1, 2, 1, 5, 5]⟩, .string ⟨#[1, 1, 2, 5]⟩, .string ⟨#[1, 1, 2, 5, 1, 0, 2, 3, 0, 12]⟩, .string ⟨#[1, 1, 2, 5, 1, 0, 2, 3, 1, 12]⟩, .string ⟨#[1, 1, 2, 5, 0, 0, 2, 3, 0, 10]⟩, .string ⟨#[2, 1, 2, 5, 0]⟩, .string ⟨#[3, 1, 2, 5]⟩, .string ⟨#[3, 1, 2, 5, 1]⟩, .string ⟨#[3, 1, 2, 5, 2]⟩, .string ⟨#[3, 1, 2, 5, 0, 0]⟩, .string ⟨#[3, 1, 2, 6, 1, 5, 1, 0, 2, 3, 0, 11]⟩]
theorem bad_at {q : Nat} (hq : q < 16) : ∃ T : List Int, badT[q]? = some (.string (sb T)) ∧ Byts T ∧ T.length ≤ 140737488355328 ∧ getM T = zeroM ∧ getE T = 1300 := by
  match q, hq with
  | 0, _ => exact ⟨[], rfl, by unfold Byts; decide, by decide, by decide +kernel, by decide +kernel⟩
  | 1, _ => exact ⟨[0, 1, 2], rfl, by unfold Byts; decide, by decide, by decide +kernel, by decide +kernel⟩
  | 2, _ => exact ⟨[4, 1, 2, 5], rfl, by unfold Byts; decide, by decide, by decide +kernel, by decide +kernel⟩
  | 3, _ => exact ⟨[0, 1, 1, 0], rfl, by unfold Byts; decide, by decide, by decide +kernel, by decide +kernel⟩
  | 4, _ => exact ⟨[0, 1, 2, 1], rfl, by unfold Byts; decide, by decide, by decide +kernel, by decide +kernel⟩
  | 5, _ => exact ⟨[0, 1, 2, 1, 5, 5], rfl, by unfold Byts; decide, by decide, by decide +kernel, by decide +kernel⟩
  | 6, _ => exact ⟨[1, 1, 2, 5], rfl, by unfold Byts; decide, by decide, by decide +kernel, by decide +kernel⟩
  | 7, _ => exact ⟨[1, 1, 2, 5, 1, 0, 2, 3, 0, 12], rfl, by unfold Byts; decide, by decide, by decide +kernel, by decide +kernel⟩
  | 8, _ => exact ⟨[1, 1, 2, 5, 1, 0, 2, 3, 1, 12], rfl, by unfold Byts; decide, by decide, by decide +kernel, by decide +kernel⟩
  | 9, _ => exact ⟨[1, 1, 2, 5, 0, 0, 2, 3, 0, 10], rfl, by unfold Byts; decide, by decide, by decide +kernel, by decide +kernel⟩
  | 10, _ => exact ⟨[2, 1, 2, 5, 0], rfl, by unfold Byts; decide, by decide, by decide +kernel, by decide +kernel⟩
  | 11, _ => exact ⟨[3, 1, 2, 5], rfl, by unfold Byts; decide, by decide, by decide +kernel, by decide +kernel⟩
  | 12, _ => exact ⟨[3, 1, 2, 5, 1], rfl, by unfold Byts; decide, by decide, by decide +kernel, by decide +kernel⟩
  | 13, _ => exact ⟨[3, 1, 2, 5, 2], rfl, by unfold Byts; decide, by decide, by decide +kernel, by decide +kernel⟩
  | 14, _ => exact ⟨[3, 1, 2, 5, 0, 0], rfl, by unfold Byts; decide, by decide, by decide +kernel, by decide +kernel⟩
  | 15, _ => exact ⟨[3, 1, 2, 6, 1, 5, 1, 0, 2, 3, 0, 11], rfl, by unfold Byts; decide, by decide, by decide +kernel, by decide +kernel⟩
  | n + 16, h => exact absurd h (by omega)
/-- The bytes of one message. -/
def oneX : List Int := [1, 1, 2, 5, 1, 0, 2, 3, 0, 11]
theorem one_put : putL ⟨1, 1, 2, [], 0, ⟨5, 1, 2, 3, false⟩, false⟩ = oneX ∧ putE ⟨1, 1, 2, [], 0, ⟨5, 1, 2, 3, false⟩, false⟩ = 0 := by decide +kernel
theorem one_byts : Byts oneX := by unfold Byts; decide
theorem one_more : getM (oneX ++ [120]) = zeroM ∧ getE (oneX ++ [120]) = 1300 := by decide +kernel
/-- One byte of its item changed. -/
def offY (k : Nat) (d : Int) : Int := bits .xor .u8 (oneX.getD k 0) d
def offX (k : Nat) (d : Int) : List Int := oneX.take k ++ [offY k d] ++ oneX.drop (k + 1)
theorem off_all : ∀ r : Fin 7, ∀ d : Fin 128, (0 ≤ offY (3 + r) (1 + d) ∧ offY (3 + r) (1 + d) < 256) ∧ getB (offX (3 + r) (1 + d)) = false := by decide +kernel

end Go.Proofs.Ytkalamplagopnaa
