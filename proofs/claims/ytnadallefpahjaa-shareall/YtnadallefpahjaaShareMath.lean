
/-
  Plain facts on sharing: whom an item goes to; a row of items taken one behind the other.
-/
import Derived.Test.YtnadallefpahjaaViewMath
import Derived.Test.YtnadallefpahjaaMsgsApp
import Derived.Test.YtnadallefpahjaaNodeSh
import Derived.Test.YtnadallefpahjaaNodeTk
namespace Go.Proofs.Ytnadallefpahjaa
open Go.RowKit

section
variable {i : Int} {ps : List Pe} {is : List Int}
theorem sh_none (h : vwB i [] is = true) (k : Int) (hk : plB k = true) : shTo i [] is k = i := by
  have e : owV i [] is k = i := by
    rw [owV, if_pos ⟨h, hk⟩]
    simpa [idL, nmL] using ownerOf_mem k (idL_ne i [])
  have e2 : sucV i [] is = i := by
    rw [sucV, if_pos h]
    rfl
  rw [shTo, if_pos e, e2]
theorem sh_some (h : vwB i ps is = true) (hp : ps ≠ []) (k : Int) (hk : plB k = true) : ∃ p ∈ ps, p.n = shTo i ps is k := by
  have e : owV i ps is k = ownerOf (idL i ps) k := by rw [owV, if_pos ⟨h, hk⟩]
  rw [shTo, e]
  by_cases ho : ownerOf (idL i ps) k = i
  · rw [if_pos ho, sucV, if_pos h]
    cases ps with
    | nil => exact absurd rfl hp
    | cons p r =>
      refine ⟨p, List.mem_cons_self, ?_⟩
      have : min 1 (p :: r).length = 1 := by simp only [List.length_cons]; omega
      rw [this]
      rfl
  · rw [if_neg ho]
    exact (vw_peer h k).2 ho
theorem sh_ne (h : vwB i ps is = true) (hp : ps ≠ []) (k : Int) (hk : plB k = true) : ¬ shTo i ps is k = i ∧ plB (shTo i ps is k) = true := by
  obtain ⟨p, hm, e⟩ := sh_some h hp k hk
  have := vw_pe h p hm
  rw [e] at this
  exact ⟨this.2, this.1⟩
theorem it_key {z : It} (h : itB z = true) : plB z.k = true := by
  simp only [itB, Bool.and_eq_true, byB, decide_eq_true_eq] at h
  exact plB_mk h.1.1 (by omega)

/-- The message that an item goes in. -/
def shM (i : Int) (ps : List Pe) (is : List Int) (z : It) : Mg := ⟨1, i, shTo i ps is z.k, [], 0, z, false⟩
theorem sh_at {i : Int} {ps : List Pe} {is : List Int} {ts : List It} {m : Nat} (hm : m < (shL i ps is ts).length) : ∃ z ∈ ts, (shL i ps is ts)[m] = shM i ps is z ∧ ¬ shTo i ps is z.k = i := by
  have h := List.getElem_mem hm
  generalize (shL i ps is ts)[m] = x at h ⊢
  obtain ⟨z, hz, hx⟩ := List.mem_flatMap.1 h
  by_cases e : shTo i ps is z.k = i
  · rw [if_pos e] at hx
    cases hx
  · rw [if_neg e] at hx
    exact ⟨z, hz, List.mem_singleton.1 hx, e⟩
theorem shL_none (h : vwB i [] is = true) {ts : List It} (hv : Val ts) : shL i [] is ts = [] := by
  rw [shL, List.flatMap_eq_nil_iff]
  intro z hz
  rw [if_pos (sh_none h z.k (it_key (hv z hz)))]
theorem shL_map (h : vwB i ps is = true) (hp : ps ≠ []) {ts : List It} (hv : Val ts) : shL i ps is ts = ts.map (shM i ps is) := by
  rw [shL]
  induction ts with
  | nil => rfl
  | cons z ts ih =>
    rw [List.flatMap_cons, ih (fun x hx => hv x (List.mem_cons_of_mem _ hx)), if_neg (sh_ne h hp z.k (it_key (hv z List.mem_cons_self))).1]
    rfl
theorem shM_may (h : vwB i ps is = true) (hp : ps ≠ []) {z : It} (hz : itB z = true) : mayB (shM i ps is z) = true := by
  obtain ⟨h1, h2⟩ := sh_ne h hp z.k (it_key hz)
  have h3 : ¬ i = shTo i ps is z.k := fun e => h1 e.symm
  simp [mayB, shM, mgB, endB, knB, brgB, vw_base h, h2, hz, h3]
end

/-! ### Items taken one behind the other -/
def tkL (ts l : List It) : List It := l.foldl ntL ts
theorem tkL_snoc (ts l : List It) (a : It) : tkL ts (l ++ [a]) = ntL (tkL ts l) a := by simp [tkL]
theorem ntL_st {ts : List It} {a : It} (h : stB ts = true) : stB (ntL ts a) = true := by
  unfold ntL
  split
  next h0 =>
    obtain ⟨h1, h2, h3⟩ := putE_zero h0
    rw [(put_ok h1 h2 h3).1]
    exact (put_ok h1 h2 h3).2.2
  next => exact h
theorem tkL_st : ∀ {l ts : List It}, stB ts = true → stB (tkL ts l) = true
  | [], _, h => h
  | _ :: l, _, h => tkL_st (l := l) (ntL_st h)
theorem ntL_ins {ts : List It} {a : It} (h : stB ts = true) (ha : itB a = true) (hl : (ins ts a).length ≤ 16) : ntL ts a = ins ts a := by
  obtain ⟨e1, e2, -⟩ := put_ok h ha hl
  rw [ntL, if_pos e2, e1]
theorem tkL_fold : ∀ {l ts : List It}, stB ts = true → Val l → ts.length + l.length ≤ 16 → tkL ts l = fold ts l
  | [], _, _, _, _ => rfl
  | a :: l, ts, h, hv, hl => by
    simp only [List.length_cons] at hl
    have h1 := ins_len ts a
    have ha := hv a List.mem_cons_self
    have h2 := ntL_ins h ha (by omega)
    have h3 : stB (ins ts a) = true := h2 ▸ ntL_st h
    show tkL (ntL ts a) l = fold (ins ts a) l
    rw [h2]
    exact tkL_fold h3 (fun x hx => hv x (List.mem_cons_of_mem _ hx)) (by omega)
/-- Each takes what the other holds: both hold the same. -/
theorem tkL_both {xs ys : List It} (hx : stB xs = true) (hy : stB ys = true) (hl : xs.length + ys.length ≤ 16) : tkL xs ys = tkL ys xs := by
  obtain ⟨v1, s1, -⟩ := stB_iff.1 hx
  obtain ⟨v2, s2, -⟩ := stB_iff.1 hy
  rw [tkL_fold hx v2 hl, tkL_fold hy v1 (by omega), fold_merge s1 s2 v1 v2]

end Go.Proofs.Ytnadallefpahjaa
