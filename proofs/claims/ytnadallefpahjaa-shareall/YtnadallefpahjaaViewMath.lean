
/-
  Views as plain lists: which may be; who is next, who was before, who owns a key; and what is so of them.
-/
import Derived.Test.YtnadallefpahjaaPassMath
import Derived.Test.YtnadallefpahjaaRowMath
namespace Go.Proofs.Ytnadallefpahjaa

def nmL (ps : List Pe) : List Int := ps.map Pe.n
/-- The node itself, then its peers. -/
def idL (i : Int) (ps : List Pe) : List Int := i :: nmL ps
def vwB (i : Int) (ps : List Pe) (is : List Int) : Bool := decide (psB i ps = true ∧ paB is = true ∧ ps.length + is.length ≤ 16 ∧ ∀ y ∈ is, ¬ y ∈ idL i ps)
theorem vwB_iff {i : Int} {ps : List Pe} {is : List Int} : vwB i ps is = true ↔ psB i ps = true ∧ paB is = true ∧ ps.length + is.length ≤ 16 ∧ ∀ y ∈ is, ¬ y ∈ idL i ps := by simp [vwB]
def sucV (i : Int) (ps : List Pe) (is : List Int) : Int := if vwB i ps is = true then (idL i ps).getD (min 1 ps.length) 0 else 0
def vwE (i : Int) (ps : List Pe) (is : List Int) : Int := if vwB i ps is = true then 0 else 900
def owV (i : Int) (ps : List Pe) (is : List Int) (k : Int) : Int := if vwB i ps is = true ∧ plB k = true then ownerOf (idL i ps) k else 0
def owE (i : Int) (ps : List Pe) (is : List Int) (k : Int) : Int := if vwB i ps is = true ∧ plB k = true then 0 else 900

theorem nmL_len (ps : List Pe) : (nmL ps).length = ps.length := List.length_map _
theorem idL_len (i : Int) (ps : List Pe) : (idL i ps).length = ps.length + 1 := by simp [idL, nmL]
theorem idL_ne (i : Int) (ps : List Pe) : idL i ps ≠ [] := by simp [idL]
theorem idL_mem {i x : Int} {ps : List Pe} : x ∈ idL i ps ↔ x = i ∨ ∃ p ∈ ps, p.n = x := by simp [idL, nmL]
theorem nmL_take (ps : List Pe) (k : Nat) (h : k < ps.length) : nmL (ps.take (k + 1)) = nmL (ps.take k) ++ [(ps.getD k ⟨0, 0⟩).n] := by
  rw [take_step h, getD_in _ _ h, nmL, List.map_append]
  rfl
theorem idL_take (i : Int) (ps : List Pe) (k : Nat) (h : k < ps.length) : idL i (ps.take (k + 1)) = idL i (ps.take k) ++ [(ps.getD k ⟨0, 0⟩).n] := by
  rw [idL, nmL_take ps k h]
  rfl

section may
variable {i : Int} {ps : List Pe} {is : List Int} (h : vwB i ps is = true)
include h
theorem vw_base : plB i = true := (psB_iff.1 (vwB_iff.1 h).1).1
theorem vw_pe (p : Pe) (hp : p ∈ ps) : plB p.n = true ∧ ¬ p.n = i :=
  have := peB_iff.1 ((psB_iff.1 (vwB_iff.1 h).1).2.1 p hp)
  ⟨this.1, this.2.1⟩
theorem vw_pls : plsB (idL i ps) = true := plsB_mk fun x hx => by
  rcases idL_mem.1 hx with rfl | ⟨p, hp, rfl⟩
  · exact vw_base h
  · exact (vw_pe h p hp).1
theorem vw_len : ps.length ≤ 16 := (psB_iff.1 (vwB_iff.1 h).1).2.2.2
theorem vw_row {k : Int} (hk : plB k = true) : rowB k (idL i ps) = true := rowB_mk (by have := vw_len h; rw [idL_len]; omega) hk (vw_pls h)
theorem vw_own (k : Int) : ownV (idL i ps) k = owV i ps is k ∧ ownE (idL i ps) k = (if plB k = true then 0 else 200) := by
  rcases Bool.eq_false_or_eq_true (plB k) with hk | hk
  · obtain ⟨h1, h2⟩ := ownV_yes (vw_row h hk) (idL_ne i ps)
    rw [h1, h2]
    simp [owV, h, hk]
  · have : ¬ (rowB k (idL i ps) = true ∧ idL i ps ≠ []) := fun e => by have := (rowB_yes e.1).2.1; rw [hk] at this; cases this
    simp [ownV, ownE, this, owV, hk]

/-- The owner is the node itself, or a peer that is not. -/
theorem vw_peer (k : Int) : (∃ p ∈ ps, p.n = ownerOf (idL i ps) k) ↔ ¬ ownerOf (idL i ps) k = i := by
  constructor
  · rintro ⟨p, hp, e⟩
    rw [← e]
    exact (vw_pe h p hp).2
  · intro hn
    rcases idL_mem.1 (ownerOf_mem k (idL_ne i ps)) with e | e
    · exact absurd e hn
    · exact e
end may

end Go.Proofs.Ytnadallefpahjaa
