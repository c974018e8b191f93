
/-
  Queues, plain: what may be, one more, one taken.
-/
import Derived.Test.YtnnhnidefjhakaaWireMath
namespace Go.Proofs.Ytnnhnidefjhakaa
open Go.RowKit

def quB (ms : List Mg) : Bool := ms.all mayB && decide (ms.length ≤ 512)
def adE (ms : List Mg) (m : Mg) : Int := if (quB ms && mayB m) = true then (if ms.length = 512 then 1401 else 0) else 1400
def adL (ms : List Mg) (m : Mg) : List Mg := if adE ms m = 0 then ms ++ [m] else []
def tkB (ms : List Mg) (i : Int) : Bool := quB ms && decide (0 ≤ i ∧ i < (ms.length : Int))
def tqE (ms : List Mg) (i : Int) : Int := if tkB ms i = true then 0 else 1400
def tqM (ms : List Mg) (i : Int) : Mg := if tkB ms i = true then ms.getD i.toNat zeroM else zeroM
def tqL (ms : List Mg) (i : Int) : List Mg := if tkB ms i = true then ms.take i.toNat ++ ms.drop (i.toNat + 1) else []

theorem qu_len {ms : List Mg} (h : quB ms = true) : ms.length ≤ 512 := by
  simp only [quB, Bool.and_eq_true, decide_eq_true_eq] at h
  exact h.2
theorem qu_mem {ms : List Mg} (h : quB ms = true) : ∀ m ∈ ms, mayB m = true := by
  simp only [quB, Bool.and_eq_true, List.all_eq_true] at h
  exact h.1
theorem may_ids {m : Mg} (h : mayB m = true) : m.is.length ≤ 16 := by
  obtain ⟨-, -, hk⟩ := may_ends h
  obtain ⟨n, a, b, is, k, t, g⟩ := m
  dsimp only at hk ⊢
  rcases may_kind h with e | e | e | e <;> dsimp only at e <;> subst e
  · obtain ⟨⟨h16, -⟩, -⟩ := (by simpa [knB, grtB, nmdB] using hk : (is.length ≤ 16 ∧ plsB is = true) ∧ k = 0 ∧ zeB t = true ∧ g = false)
    exact h16
  · obtain ⟨rfl, -⟩ := (by simpa [knB, brgB] using hk : is = [] ∧ k = 0 ∧ itB t = true ∧ g = false)
    exact Nat.zero_le _
  · obtain ⟨rfl, -⟩ := (by simpa [knB, askB] using hk : is = [] ∧ plB k = true ∧ zeB t = true ∧ g = false)
    exact Nat.zero_le _
  · cases g with
    | false =>
      obtain ⟨rfl, -⟩ := (by simpa [knB, telB] using hk : is = [] ∧ plB k = true ∧ zeB t = true)
      exact Nat.zero_le _
    | true =>
      obtain ⟨rfl, -⟩ := (by simpa [knB, telB] using hk : is = [] ∧ plB k = true ∧ itB t = true ∧ t.k = k)
      exact Nat.zero_le _
theorem qu_take {ms : List Mg} (h : ∀ m ∈ ms, mayB m = true) (i : Nat) : ((ms.take i).all mayB) = true := by
  rw [List.all_eq_true]
  exact fun m hm => h m (List.mem_of_mem_take hm)

end Go.Proofs.Ytnnhnidefjhakaa
