
/-
  The document's own answer on sharing: who gets which items.
-/
import Derived.Test.YtghamcomjfholaaNodeA
import Derived.Test.YtghamcomjfholaaMsgsApp
import Derived.Test.YtghamcomjfholaaViewRef
import Derived.Test.YtghamcomjfholaaOld
import Derived.Deep.RegionHeld3
import Derived.Deep.RegionLawGrows
import Derived.Deep.DeepCutAuto
import Derived.Deep.CutRange
import Derived.Deep.CutBlock
import Derived.Test.YtghamcomjfholaaAgeMath
import Derived.Test.YtghamcomjfholaaMsgMath
namespace Go.Proofs.Ytghamcomjfholaa
open Go.ChangeShapes Go.WideShapes Go.ChangeAt Go.RowKit

/-- Whom an item of a key goes to. -/
def shTo (i : Int) (ps : List Pe) (is : List Int) (k : Int) : Int := if owV i ps is k = i then sucV i ps is else owV i ps is k
def shL (i : Int) (ps : List Pe) (is : List Int) (ts : List It) : List Mg := ts.flatMap fun z => if shTo i ps is z.k = i then [] else [⟨1, i, shTo i ps is z.k, [], 0, z, false⟩]
theorem shL_next {i : Int} {ps : List Pe} {is : List Int} {ts : List It} {m : Nat} (h : m < ts.length) : shL i ps is (ts.take (m + 1)) = shL i ps is (ts.take m) ++ (if shTo i ps is ts[m].k = i then [] else [⟨1, i, shTo i ps is ts[m].k, [], 0, ts[m], false⟩]) := by
  unfold shL
  rw [List.take_add_one, List.getElem?_eq_getElem h, List.flatMap_append]
  simp
theorem shL_len (i : Int) (ps : List Pe) (is : List Int) (ts : List It) : (shL i ps is ts).length ≤ ts.length := by
  induction ts with
  | nil => exact Nat.le_refl _
  | cons z ts ih =>
    have e : shL i ps is (z :: ts) = (if shTo i ps is z.k = i then [] else [⟨1, i, shTo i ps is z.k, [], 0, z, false⟩]) ++ shL i ps is ts := by simp [shL]
    rw [e, List.length_append, List.length_cons]
    split
    · simp; omega
    · simp; omega

theorem lit_msg {w : World} {b : Nat} {n a d k : Int} {z : It} {h : Bool} (hb : b = w.heap.size) : ∀ j, j < 1 * 11 → (w.alloc (.cells #[.int .i64 n, .int .i64 a, .int .i64 d, .slice none 0 0, .int .i64 k, .int .i64 z.k, .int .i64 z.c, .int .i64 z.u, .int .i64 z.x, .bool z.g, .bool h] 48)).cell? ((⟨b, 0, none⟩ : Addr).add j) = (([⟨n, a, d, [], k, z, h, .slice none 0 0⟩] : List MgO).flatMap MvV)[j]? := fun j _ => by
  rw [add_plain, Nat.zero_add]
  refine ((Box.newAt _ _ hb).2.1 j).trans ?_
  simp [MvV]

section
variable {lo hi : Nat} {w : World} {p q r s : Value} {ps : List Pe} {is : List Int} {ts : List It} {ls : List Te}

end

end Go.Proofs.Ytghamcomjfholaa

namespace Go.Proofs.Ytghamcomjfholaa
open Go.RowKit

section
variable {i : Int} {ps : List Pe} {is : List Int}
theorem sh_none (h : vwB i [] is = true) (k : Int) (hk : plB k = true) : shTo i [] is k = i := by
  have e : owV i [] is k = i := by
    rw [owV, if_pos ⟨h, hk⟩]
    simpa [idL, nmL] using ownerOf_mem k (idL_ne i [])
  have e2 : sucV i [] is = i := by
    rw [sucV, if_pos h]
    rfl
  rw [shTo, if_pos e, e2]
theorem sh_some (h : vwB i ps is = true) (hp : ps ≠ []) (k : Int) (hk : plB k = true) : ∃ p ∈ ps, p.n = shTo i ps is k := by
  have e : owV i ps is k = ownerOf (idL i ps) k := by rw [owV, if_pos ⟨h, hk⟩]
  rw [shTo, e]
  by_cases ho : ownerOf (idL i ps) k = i
  · rw [if_pos ho, sucV, if_pos h]
    cases ps with
    | nil => exact absurd rfl hp
    | cons p r =>
      refine ⟨p, List.mem_cons_self, ?_⟩
      have : min 1 (p :: r).length = 1 := by simp only [List.length_cons]; omega
      rw [this]
      rfl
  · rw [if_neg ho]
    exact (vw_peer h k).2 ho
theorem sh_ne (h : vwB i ps is = true) (hp : ps ≠ []) (k : Int) (hk : plB k = true) : ¬ shTo i ps is k = i ∧ plB (shTo i ps is k) = true := by
  obtain ⟨p, hm, e⟩ := sh_some h hp k hk
  have := vw_pe h p hm
  rw [e] at this
  exact ⟨this.2, this.1⟩
theorem it_key {z : It} (h : itB z = true) : plB z.k = true := by
  simp only [itB, Bool.and_eq_true, byB, decide_eq_true_eq] at h
  exact plB_mk h.1.1 (by omega)

/-- The message that an item goes in. -/
def shM (i : Int) (ps : List Pe) (is : List Int) (z : It) : Mg := ⟨1, i, shTo i ps is z.k, [], 0, z, false⟩
theorem shL_none (h : vwB i [] is = true) {ts : List It} (hv : Val ts) : shL i [] is ts = [] := by
  rw [shL, List.flatMap_eq_nil_iff]
  intro z hz
  rw [if_pos (sh_none h z.k (it_key (hv z hz)))]
theorem shL_map (h : vwB i ps is = true) (hp : ps ≠ []) {ts : List It} (hv : Val ts) : shL i ps is ts = ts.map (shM i ps is) := by
  rw [shL]
  induction ts with
  | nil => rfl
  | cons z ts ih =>
    rw [List.flatMap_cons, ih (fun x hx => hv x (List.mem_cons_of_mem _ hx)), if_neg (sh_ne h hp z.k (it_key (hv z List.mem_cons_self))).1]
    rfl
theorem shM_may (h : vwB i ps is = true) (hp : ps ≠ []) {z : It} (hz : itB z = true) : mayB (shM i ps is z) = true := by
  obtain ⟨h1, h2⟩ := sh_ne h hp z.k (it_key hz)
  have h3 : ¬ i = shTo i ps is z.k := fun e => h1 e.symm
  simp [mayB, shM, mgB, endB, knB, brgB, vw_base h, h2, hz, h3]
end

/-! ### Items taken one behind the other -/
end Go.Proofs.Ytghamcomjfholaa
