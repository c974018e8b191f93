
/-
  Views as plain lists: which may be; who is next, who was before, who owns a key; and what is so of them.
-/
import Derived.Test.YtagojonjohimfaaPeerMath
import Derived.Test.YtagojonjohimfaaPassMath
import Derived.Test.YtagojonjohimfaaRowMath
namespace Go.Proofs.Ytagojonjohimfaa

def nmL (ps : List Pe) : List Int := ps.map Pe.n
/-- The node itself, then its peers. -/
def idL (i : Int) (ps : List Pe) : List Int := i :: nmL ps
def vwB (i : Int) (ps : List Pe) (is : List Int) : Bool := decide (psB i ps = true ∧ paB is = true ∧ ps.length + is.length ≤ 16 ∧ ∀ y ∈ is, ¬ y ∈ idL i ps)
theorem vwB_iff {i : Int} {ps : List Pe} {is : List Int} : vwB i ps is = true ↔ psB i ps = true ∧ paB is = true ∧ ps.length + is.length ≤ 16 ∧ ∀ y ∈ is, ¬ y ∈ idL i ps := by simp [vwB]
def sucV (i : Int) (ps : List Pe) (is : List Int) : Int := if vwB i ps is = true then (idL i ps).getD (min 1 ps.length) 0 else 0
def preV (i : Int) (ps : List Pe) (is : List Int) : Int := if vwB i ps is = true then (idL i ps).getD ps.length 0 else 0
def vwE (i : Int) (ps : List Pe) (is : List Int) : Int := if vwB i ps is = true then 0 else 900
def owV (i : Int) (ps : List Pe) (is : List Int) (k : Int) : Int := if vwB i ps is = true ∧ plB k = true then ownerOf (idL i ps) k else 0
def owE (i : Int) (ps : List Pe) (is : List Int) (k : Int) : Int := if vwB i ps is = true ∧ plB k = true then 0 else 900

theorem nmL_len (ps : List Pe) : (nmL ps).length = ps.length := List.length_map _
theorem idL_len (i : Int) (ps : List Pe) : (idL i ps).length = ps.length + 1 := by simp [idL, nmL]
theorem idL_ne (i : Int) (ps : List Pe) : idL i ps ≠ [] := by simp [idL]
theorem idL_mem {i x : Int} {ps : List Pe} : x ∈ idL i ps ↔ x = i ∨ ∃ p ∈ ps, p.n = x := by simp [idL, nmL]
theorem nmL_take (ps : List Pe) (k : Nat) (h : k < ps.length) : nmL (ps.take (k + 1)) = nmL (ps.take k) ++ [(ps.getD k ⟨0, 0⟩).n] := by
  rw [take_step h, getD_in _ _ h, nmL, List.map_append]
  rfl
theorem idL_take (i : Int) (ps : List Pe) (k : Nat) (h : k < ps.length) : idL i (ps.take (k + 1)) = idL i (ps.take k) ++ [(ps.getD k ⟨0, 0⟩).n] := by
  rw [idL, nmL_take ps k h]
  rfl

section may
variable {i : Int} {ps : List Pe} {is : List Int} (h : vwB i ps is = true)
include h
theorem vw_base : plB i = true := (psB_iff.1 (vwB_iff.1 h).1).1
theorem vw_pe (p : Pe) (hp : p ∈ ps) : plB p.n = true ∧ ¬ p.n = i :=
  have := peB_iff.1 ((psB_iff.1 (vwB_iff.1 h).1).2.1 p hp)
  ⟨this.1, this.2.1⟩
theorem vw_pls : plsB (idL i ps) = true := plsB_mk fun x hx => by
  rcases idL_mem.1 hx with rfl | ⟨p, hp, rfl⟩
  · exact vw_base h
  · exact (vw_pe h p hp).1
theorem vw_len : ps.length ≤ 16 := (psB_iff.1 (vwB_iff.1 h).1).2.2.2
theorem vw_rise : Rise i ps := (psB_iff.1 (vwB_iff.1 h).1).2.2.1
theorem vw_row {k : Int} (hk : plB k = true) : rowB k (idL i ps) = true := rowB_mk (by have := vw_len h; rw [idL_len]; omega) hk (vw_pls h)
theorem vw_own (k : Int) : ownV (idL i ps) k = owV i ps is k ∧ ownE (idL i ps) k = (if plB k = true then 0 else 200) := by
  rcases Bool.eq_false_or_eq_true (plB k) with hk | hk
  · obtain ⟨h1, h2⟩ := ownV_yes (vw_row h hk) (idL_ne i ps)
    rw [h1, h2]
    simp [owV, h, hk]
  · have : ¬ (rowB k (idL i ps) = true ∧ idL i ps ≠ []) := fun e => by have := (rowB_yes e.1).2.1; rw [hk] at this; cases this
    simp [ownV, ownE, this, owV, hk]

/-- The last one, and the way to it. -/
theorem vw_last : ∀ p ∈ ps, 0 < far i p.n ∧ far i p.n ≤ far i ((idL i ps).getD ps.length 0) := fun p hp => by
  obtain ⟨j, hj, rfl⟩ := List.mem_iff_getElem.1 hp
  have hl : ps.length - 1 < ps.length := by omega
  have e : (idL i ps).getD ps.length 0 = (ps[ps.length - 1]).n := by
    rw [getD_in _ _ (by rw [idL_len]; omega)]
    have : ps.length = (ps.length - 1) + 1 := by omega
    simp only [idL, nmL]
    rw [List.getElem_cons]
    split
    · omega
    · simp
  obtain ⟨h1, h2⟩ := vw_pe h _ hp
  refine ⟨?_, ?_⟩
  · have := far_bd i (ps[j]).n
    rcases Nat.eq_zero_or_pos (far i (ps[j]).n).toNat with h0 | h0
    · exact absurd (far_zero (vw_base h) h1 (by omega)) h2
    · omega
  · rw [e]
    rcases Nat.lt_or_ge j (ps.length - 1) with hlt | hge
    · exact Int.le_of_lt (List.pairwise_iff_getElem.1 (vw_rise h) j (ps.length - 1) hj hl hlt)
    · have : j = ps.length - 1 := by omega
      subst this
      exact Int.le_refl _
theorem vw_first : ∀ p ∈ ps, far i ((idL i ps).getD (min 1 ps.length) 0) ≤ far i p.n := fun p hp => by
  obtain ⟨j, hj, rfl⟩ := List.mem_iff_getElem.1 hp
  have hm : min 1 ps.length = 1 := by omega
  have e : (idL i ps).getD (min 1 ps.length) 0 = (ps[0]'(by omega)).n := by
    rw [hm, getD_in _ _ (by rw [idL_len]; omega)]
    simp [idL, nmL]
  rw [e]
  rcases Nat.eq_zero_or_pos j with h0 | h0
  · subst h0
    exact Int.le_refl _
  · exact Int.le_of_lt (List.pairwise_iff_getElem.1 (vw_rise h) 0 j (by omega) hj h0)
omit h in
theorem idL_at (j : Nat) (hj : 0 < j) (hl : j ≤ ps.length) : ∃ p ∈ ps, p.n = (idL i ps).getD j 0 := by
  obtain ⟨m, rfl⟩ : ∃ m, j = m + 1 := ⟨j - 1, by omega⟩
  refine ⟨ps[m], List.getElem_mem _, ?_⟩
  rw [getD_in _ _ (by rw [idL_len]; omega)]
  simp [idL, nmL]

/-- A key behind the predecessor, up to the node, is its own. -/
theorem vw_owns {k : Int} (hk : plB k = true) : inB ((idL i ps).getD ps.length 0) k i = decide (ownerOf (idL i ps) k = i) := by
  have hi := vw_base h
  have hi' := plB_yes hi
  have hk' := plB_yes hk
  have hin : i ∈ idL i ps := idL_mem.2 (.inl rfl)
  rcases Nat.eq_zero_or_pos ps.length with h0 | h0
  · obtain rfl := List.length_eq_zero_iff.1 h0
    have e : ownerOf (idL i []) k = i := by
      have := ownerOf_mem k (idL_ne i [])
      simpa [idL, nmL] using this
    rw [e]
    simp [idL, nmL, inB]
  · obtain ⟨q, hq, eq⟩ := idL_at (i := i) ps.length h0 (Nat.le_refl _)
    have hL := vw_last h
    obtain ⟨q1, q2⟩ := vw_pe h q hq
    have q3 := (hL q hq).1
    rw [← eq] at hL ⊢
    have q1' := plB_yes q1
    rw [Bool.eq_iff_iff, decide_eq_true_iff]
    have key : (0 < far q.n k ∧ far q.n k ≤ far q.n i) ↔ ownerOf (idL i ps) k = i := by
      constructor
      · rintro ⟨h1, h2⟩
        refine ownerOf_eq (vw_pls h) hin fun x hx => ?_
        rcases idL_mem.1 hx with rfl | ⟨p, hp, rfl⟩
        · exact Int.le_refl _
        · have h3 := hL p hp
          have hp' := plB_yes (vw_pe h p hp).1
          unfold far at *
          omega
      · intro e
        have h3 := ownerOf_le (xs := idL i ps) k q.n (idL_mem.2 (.inr ⟨q, hq, rfl⟩))
        rw [e] at h3
        unfold far at *
        omega
    rw [← key]
    simp [inB, q2]
/-- The owner is the node itself, or a peer that is not. -/
theorem vw_peer (k : Int) : (∃ p ∈ ps, p.n = ownerOf (idL i ps) k) ↔ ¬ ownerOf (idL i ps) k = i := by
  constructor
  · rintro ⟨p, hp, e⟩
    rw [← e]
    exact (vw_pe h p hp).2
  · intro hn
    rcases idL_mem.1 (ownerOf_mem k (idL_ne i ps)) with e | e
    · exact absurd e hn
    · exact e
end may

/-- The way back. -/
theorem far_back {i x : Int} (h : 0 < far i x) (hi : plB i = true) (hx : plB x = true) : far x i = 256 - far i x := by
  have := plB_yes hi
  have := plB_yes hx
  unfold far at *
  omega

/-- With one more that is heard a key's owner is the same, or that one. -/
theorem vw_more {i d k : Int} {ps : List Pe} {is : List Int} (h : vwB i ps is = true) (hd : plB d = true) :
    ownerOf (idL i (hdI i ps d)) k = ownerOf (idL i ps) k ∨ ownerOf (idL i (hdI i ps d)) k = d := by
  have hsub : ∀ x, x ∈ idL i ps → x ∈ idL i (hdI i ps d) := fun x hx => by
    rcases idL_mem.1 hx with rfl | ⟨p, hp, rfl⟩
    · exact idL_mem.2 (.inl rfl)
    · refine idL_mem.2 (.inr ?_)
      rcases Int.lt_trichotomy (far i p.n) (far i d) with h1 | h1 | h1
      · exact ⟨p, by simp [hdI, ltB, hp, h1], rfl⟩
      · exact ⟨⟨d, 0⟩, by simp [hdI], (far_inj (vw_pe h p hp).1 hd h1).symm⟩
      · exact ⟨p, by simp [hdI, gtB7, hp, h1], rfl⟩
  by_cases e : ownerOf (idL i (hdI i ps d)) k = d
  · exact .inr e
  · refine .inl (ownerOf_eq (vw_pls h) ?_ fun x hx => ownerOf_le k x (hsub x hx)).symm
    rcases idL_mem.1 (ownerOf_mem k (idL_ne i (hdI i ps d))) with e1 | ⟨p, hp, e1⟩
    · exact idL_mem.2 (.inl e1)
    · have : p ∈ ps := by
        simp only [hdI, List.mem_append, List.mem_cons, List.mem_filter] at hp
        rcases hp with hp | rfl | hp
        · exact hp.1
        · exact absurd e1.symm e
        · exact hp.1
      exact idL_mem.2 (.inr ⟨p, this, e1⟩)

end Go.Proofs.Ytagojonjohimfaa
