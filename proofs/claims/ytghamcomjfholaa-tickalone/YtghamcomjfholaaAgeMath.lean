
/-
  Views as plain lists: which may be; who is next, who was before, who owns a key; and what is so of them.
-/
import Derived.Test.YtghamcomjfholaaPeerMath
import Derived.Test.YtghamcomjfholaaPassMath
import Derived.Test.YtghamcomjfholaaRowMath
namespace Go.Proofs.Ytghamcomjfholaa

def nmL (ps : List Pe) : List Int := ps.map Pe.n
/-- The node itself, then its peers. -/
def idL (i : Int) (ps : List Pe) : List Int := i :: nmL ps
def vwB (i : Int) (ps : List Pe) (is : List Int) : Bool := decide (psB i ps = true ∧ paB is = true ∧ ps.length + is.length ≤ 16 ∧ ∀ y ∈ is, ¬ y ∈ idL i ps)
theorem vwB_iff {i : Int} {ps : List Pe} {is : List Int} : vwB i ps is = true ↔ psB i ps = true ∧ paB is = true ∧ ps.length + is.length ≤ 16 ∧ ∀ y ∈ is, ¬ y ∈ idL i ps := by simp [vwB]
def sucV (i : Int) (ps : List Pe) (is : List Int) : Int := if vwB i ps is = true then (idL i ps).getD (min 1 ps.length) 0 else 0
def vwE (i : Int) (ps : List Pe) (is : List Int) : Int := if vwB i ps is = true then 0 else 900
def owV (i : Int) (ps : List Pe) (is : List Int) (k : Int) : Int := if vwB i ps is = true ∧ plB k = true then ownerOf (idL i ps) k else 0
def owE (i : Int) (ps : List Pe) (is : List Int) (k : Int) : Int := if vwB i ps is = true ∧ plB k = true then 0 else 900

theorem idL_len (i : Int) (ps : List Pe) : (idL i ps).length = ps.length + 1 := by simp [idL, nmL]
theorem idL_ne (i : Int) (ps : List Pe) : idL i ps ≠ [] := by simp [idL]
theorem idL_mem {i x : Int} {ps : List Pe} : x ∈ idL i ps ↔ x = i ∨ ∃ p ∈ ps, p.n = x := by simp [idL, nmL]
theorem nmL_take (ps : List Pe) (k : Nat) (h : k < ps.length) : nmL (ps.take (k + 1)) = nmL (ps.take k) ++ [(ps.getD k ⟨0, 0⟩).n] := by
  rw [take_step h, getD_in _ _ h, nmL, List.map_append]
  rfl
theorem idL_take (i : Int) (ps : List Pe) (k : Nat) (h : k < ps.length) : idL i (ps.take (k + 1)) = idL i (ps.take k) ++ [(ps.getD k ⟨0, 0⟩).n] := by
  rw [idL, nmL_take ps k h]
  rfl

section may
variable {i : Int} {ps : List Pe} {is : List Int} (h : vwB i ps is = true)
include h
theorem vw_base : plB i = true := (psB_iff.1 (vwB_iff.1 h).1).1
theorem vw_pe (p : Pe) (hp : p ∈ ps) : plB p.n = true ∧ ¬ p.n = i :=
  have := peB_iff.1 ((psB_iff.1 (vwB_iff.1 h).1).2.1 p hp)
  ⟨this.1, this.2.1⟩
theorem vw_pls : plsB (idL i ps) = true := plsB_mk fun x hx => by
  rcases idL_mem.1 hx with rfl | ⟨p, hp, rfl⟩
  · exact vw_base h
  · exact (vw_pe h p hp).1
theorem vw_len : ps.length ≤ 16 := (psB_iff.1 (vwB_iff.1 h).1).2.2.2
theorem vw_rise : Rise i ps := (psB_iff.1 (vwB_iff.1 h).1).2.2.1
theorem vw_row {k : Int} (hk : plB k = true) : rowB k (idL i ps) = true := rowB_mk (by have := vw_len h; rw [idL_len]; omega) hk (vw_pls h)
theorem vw_own (k : Int) : ownV (idL i ps) k = owV i ps is k ∧ ownE (idL i ps) k = (if plB k = true then 0 else 200) := by
  rcases Bool.eq_false_or_eq_true (plB k) with hk | hk
  · obtain ⟨h1, h2⟩ := ownV_yes (vw_row h hk) (idL_ne i ps)
    rw [h1, h2]
    simp [owV, h, hk]
  · have : ¬ (rowB k (idL i ps) = true ∧ idL i ps ≠ []) := fun e => by have := (rowB_yes e.1).2.1; rw [hk] at this; cases this
    simp [ownV, ownE, this, owV, hk]

/-- The owner is the node itself, or a peer that is not. -/
theorem vw_peer (k : Int) : (∃ p ∈ ps, p.n = ownerOf (idL i ps) k) ↔ ¬ ownerOf (idL i ps) k = i := by
  constructor
  · rintro ⟨p, hp, e⟩
    rw [← e]
    exact (vw_pe h p hp).2
  · intro hn
    rcases idL_mem.1 (ownerOf_mem k (idL_ne i ps)) with e | e
    · exact absurd e hn
    · exact e
end may

end Go.Proofs.Ytghamcomjfholaa

namespace Go.Proofs.Ytghamcomjfholaa

/-! ### Peers that rise: no name twice, and no other list has the same ones -/
theorem nmL_mem {ps : List Pe} {x : Int} : x ∈ nmL ps ↔ ∃ p ∈ ps, p.n = x := by simp [nmL]
theorem rise_name {b : Int} {ps : List Pe} (h : Rise b ps) {p q : Pe} (hp : p ∈ ps) (hq : q ∈ ps) (e : p.n = q.n) : p = q := by
  obtain ⟨i, hi, rfl⟩ := List.mem_iff_getElem.1 hp
  obtain ⟨j, hj, rfl⟩ := List.mem_iff_getElem.1 hq
  rcases Nat.lt_trichotomy i j with hl | hl | hl
  · have := List.pairwise_iff_getElem.1 h i j hi hj hl
    rw [e] at this
    omega
  · subst hl
    rfl
  · have := List.pairwise_iff_getElem.1 h j i hj hi hl
    rw [e] at this
    omega
/-! ### Whom a node knows -/
abbrev VSt := List Pe × List Int
def okS (i : Int) (s : VSt) : Prop := vwB i s.1 s.2 = true
def Kn (s : VSt) (x : Int) : Prop := x ∈ s.2 ∨ x ∈ nmL s.1
instance (s : VSt) (x : Int) : Decidable (Kn s x) := by unfold Kn; infer_instance
def szS (s : VSt) : Nat := s.1.length + s.2.length
theorem ok_apart {i : Int} {s : VSt} (h : okS i s) {x : Int} (hx : x ∈ s.2) : ¬ x = i ∧ ¬ x ∈ nmL s.1 := by
  have := (vwB_iff.1 h).2.2.2 x hx
  simp only [idL, List.mem_cons, not_or] at this
  exact this
/-! ### Who is known, one by one -/
section kn
variable {i d : Int} {s : VSt} (h : okS i s) (hd : plB d = true) (hn : ¬ d = i)
include h hd hn
end kn

/-! ### One of those who are told -/
section hs
variable {i d : Int} {s : VSt} (h : okS i s) (hd : plB d = true)
include h hd
end hs

/-! ### All who are told -/
/-! ### A greeting -/
section he
variable {i d : Int} {s : VSt} {ids : List Int} (h : okS i s) (hd : plB d = true) (hn : ¬ d = i) (hp : plsB ids = true)
include h hd hn hp
end he

/-! ### What is answered -/
/-! ### Greeted by each of some -/
/-! ### A full house -/
end Go.Proofs.Ytghamcomjfholaa

namespace Go.Proofs.Ytghamcomjfholaa

/-! ### Those who are lost go among the passive ones, one by one -/
def tkF (is lost : List Int) : List Int := lost.foldl wiL is
theorem tkF_step (is lost : List Int) (k : Nat) (hk : k < lost.length) : tkF is (lost.take (k + 1)) = wiL (tkF is (lost.take k)) (lost.getD k 0) := by
  unfold tkF
  rw [take_step hk, List.foldl_append, getD_in _ _ hk]
  rfl
/-- All of them places, none of them there, none of them twice, and room for all. -/
theorem tkF_all : ∀ {lost is : List Int}, paB is = true → plsB lost = true → lost.Nodup → (∀ x ∈ lost, ¬ x ∈ is) → is.length + lost.length ≤ 16 →
    paB (tkF is lost) = true ∧ (∀ x, x ∈ tkF is lost ↔ x ∈ is ∨ x ∈ lost) ∧ (tkF is lost).length = is.length + lost.length
  | [], is, h, _, _, _, _ => ⟨h, fun x => by simp [tkF], rfl⟩
  | d :: lost, is, h, hp, hn, hx, hl => by
    rw [List.nodup_cons] at hn
    rw [List.length_cons] at hl
    have hd : plB d = true := plsB_mem hp d (by simp)
    have hin : ¬ d ∈ is := hx d (by simp)
    have hup := (paB_iff.1 h).2.2
    have hlong := wi_long hup hin
    obtain ⟨e1, -⟩ := wi_ok h hd (by omega)
    have hpa := wi_pa h hd (by omega)
    obtain ⟨f1, f2, f3⟩ := tkF_all (lost := lost) hpa (plsB_mk fun x hx => plsB_mem hp x (by simp [hx])) hn.2 (fun x hx' hw => by
      rcases wi_mem.1 hw with e | e
      · exact hn.1 (e ▸ hx')
      · exact hx x (by simp [hx']) e) (by omega)
    have e : tkF is (d :: lost) = tkF (wiI is d) lost := by
      show tkF (wiL is d) lost = _
      rw [e1]
    rw [e]
    refine ⟨f1, fun x => ?_, by rw [f3, hlong, List.length_cons]; omega⟩
    rw [f2 x, wi_mem, List.mem_cons]
    constructor
    · rintro ((h | h) | h)
      · exact .inr (.inl h)
      · exact .inl h
      · exact .inr (.inr h)
    · rintro (h | h | h)
      · exact .inl (.inr h)
      · exact .inl (.inl h)
      · exact .inr h

/-! ### Peers: each is left or lost -/
theorem agD_mem {ps : List Pe} {x : Int} : x ∈ agD ps ↔ ∃ p ∈ ps, agP p = true ∧ p.n = x := by
  simp only [agD, List.mem_map, List.mem_filter]
  constructor
  · rintro ⟨p, ⟨h1, h2⟩, e⟩
    exact ⟨p, h1, h2, e⟩
  · rintro ⟨p, h1, h2, e⟩
    exact ⟨p, ⟨h1, h2⟩, e⟩
theorem agA_nm {ps : List Pe} {x : Int} : x ∈ nmL (agA ps) ↔ ∃ p ∈ ps, agP p = false ∧ p.n = x := by
  rw [nmL_mem]
  simp only [agA, List.mem_map, List.mem_filter]
  constructor
  · rintro ⟨p, ⟨q, ⟨h1, h2⟩, rfl⟩, e⟩
    exact ⟨q, h1, by simpa using h2, e⟩
  · rintro ⟨p, h1, h2, e⟩
    exact ⟨⟨p.n, p.m + 1⟩, ⟨p, ⟨h1, by simpa using h2⟩, rfl⟩, e⟩
theorem ag_part {ps : List Pe} {x : Int} : x ∈ nmL ps ↔ x ∈ nmL (agA ps) ∨ x ∈ agD ps := by
  rw [agA_nm, agD_mem, nmL_mem]
  constructor
  · rintro ⟨p, h1, e⟩
    cases h : agP p with
    | true => exact .inr ⟨p, h1, h, e⟩
    | false => exact .inl ⟨p, h1, h, e⟩
  · rintro (⟨p, h1, -, e⟩ | ⟨p, h1, -, e⟩)
    · exact ⟨p, h1, e⟩
    · exact ⟨p, h1, e⟩
theorem ag_len : ∀ (ps : List Pe), (agA ps).length + (agD ps).length = ps.length
  | [] => rfl
  | p :: ps => by
    have ih := ag_len ps
    unfold agA agD at *
    rw [List.length_map, List.length_map] at *
    cases h : agP p with
    | true =>
      rw [List.filter_cons_of_neg (by simp [h]), List.filter_cons_of_pos h]
      simp only [List.length_cons]
      omega
    | false =>
      rw [List.filter_cons_of_pos (by simp [h]), List.filter_cons_of_neg (by simp [h])]
      simp only [List.length_cons]
      omega
theorem nm_nodup {b : Int} {ps : List Pe} (h : Rise b ps) : (nmL ps).Nodup := by
  unfold nmL List.Nodup
  rw [List.pairwise_map]
  exact h.imp fun hlt e => by rw [e] at hlt; omega
theorem agD_nodup {b : Int} {ps : List Pe} (h : Rise b ps) : (agD ps).Nodup := by
  unfold agD List.Nodup
  rw [List.pairwise_map]
  exact (h.filter _).imp fun hlt e => by rw [e] at hlt; omega

/-! ### A tick -/
def tkS (s : VSt) : VSt := (agA s.1, tkF s.2 (agD s.1))
def tkG (s : VSt) : List Int := nmL (tkS s).1 ++ (tkS s).2
section tk
variable {i : Int} {s : VSt} (h : okS i s)
include h
theorem tk_F : paB (tkF s.2 (agD s.1)) = true ∧ (∀ x, x ∈ tkF s.2 (agD s.1) ↔ x ∈ s.2 ∨ x ∈ agD s.1) ∧ (tkF s.2 (agD s.1)).length = s.2.length + (agD s.1).length := by
  obtain ⟨h1, h2, h3, h4⟩ := vwB_iff.1 h
  have hl := ag_len s.1
  refine tkF_all h2 (plsB_mk fun x hx => ?_) (agD_nodup (vw_rise h)) (fun x hx hin => (ok_apart h hin).2 (ag_part.2 (.inr hx))) (by omega)
  obtain ⟨p, hp, -, rfl⟩ := agD_mem.1 hx
  exact (vw_pe h p hp).1
theorem tk_size : szS (tkS s) = szS s := by
  have h1 := (tk_F h).2.2
  have h2 := ag_len s.1
  show (agA s.1).length + (tkF s.2 (agD s.1)).length = s.1.length + s.2.length
  omega
theorem tk_ok : okS i (tkS s) := by
  obtain ⟨h1, h2, h3, h4⟩ := vwB_iff.1 h
  obtain ⟨f1, f2, -⟩ := tk_F h
  have hz := tk_size h
  refine vwB_iff.2 ⟨agA_psB h1, f1, by show szS (tkS s) ≤ 16; rw [hz]; exact h3, fun y hy => ?_⟩
  intro hin
  rcases idL_mem.1 hin with e | ⟨p, hp, e⟩
  · rcases (f2 y).1 hy with h5 | h5
    · exact (ok_apart h h5).1 e
    · obtain ⟨p, hp, -, e'⟩ := agD_mem.1 h5
      exact (peB_iff.1 ((psB_iff.1 h1).2.1 p hp)).2.1 (e'.trans e)
  · have hnm : y ∈ nmL (agA s.1) := nmL_mem.2 ⟨p, hp, e⟩
    rcases (f2 y).1 hy with h5 | h5
    · exact (ok_apart h h5).2 (ag_part.2 (.inl hnm))
    · obtain ⟨p1, hp1, a1, e1⟩ := agA_nm.1 hnm
      obtain ⟨p2, hp2, a2, e2⟩ := agD_mem.1 h5
      have := rise_name (vw_rise h) hp1 hp2 (e1.trans e2.symm)
      rw [this, a2] at a1
      cases a1
theorem tk_kn (x : Int) : Kn (tkS s) x ↔ Kn s x := by
  obtain ⟨-, f2, -⟩ := tk_F h
  unfold Kn
  show x ∈ tkF s.2 (agD s.1) ∨ x ∈ nmL (agA s.1) ↔ x ∈ s.2 ∨ x ∈ nmL s.1
  rw [f2 x, ag_part (ps := s.1)]
  constructor
  · rintro ((h | h) | h)
    · exact .inl h
    · exact .inr (.inr h)
    · exact .inr (.inl h)
  · rintro (h | h | h)
    · exact .inl (.inl h)
    · exact .inr h
    · exact .inl (.inr h)
theorem tkG_len : (tkG s).length = s.1.length + s.2.length := by
  have := tk_size h
  unfold tkG
  rw [List.length_append, show (nmL (tkS s).1).length = (tkS s).1.length by simp [nmL]]
  exact this
theorem tkG_mem (x : Int) : x ∈ tkG s ↔ Kn s x := by
  rw [← tk_kn h x]
  unfold tkG Kn
  rw [List.mem_append]
  exact ⟨fun h => h.symm, fun h => h.symm⟩
theorem tkG_place {x : Int} (hx : x ∈ tkG s) : plB x = true := by
  rcases (tkG_mem h x).1 hx with e | e
  · exact plsB_mem (paB_iff.1 (vwB_iff.1 h).2.1).2.1 x e
  · obtain ⟨p, hp, rfl⟩ := nmL_mem.1 e
    exact (vw_pe h p hp).1
theorem tkG_nodup : (tkG s).Nodup := by
  have ok := tk_ok h
  unfold tkG
  rw [List.nodup_append]
  refine ⟨nm_nodup (vw_rise ok), ?_, fun a ha b hb e => ?_⟩
  · exact (paB_iff.1 (vwB_iff.1 ok).2.1).2.2.imp fun hlt e => by omega
  · subst e
    exact (ok_apart ok hb).2 ha
end tk

/-! ### Nobody is heard: who is left has missed as many -/
theorem tk_old {s : VSt} {k : Int} (h : ∀ p ∈ s.1, k ≤ p.m) : ∀ p ∈ (tkS s).1, k + 1 ≤ p.m := by
  intro p hp
  have hp : p ∈ agA s.1 := hp
  simp only [agA, List.mem_map, List.mem_filter] at hp
  obtain ⟨q, ⟨hq, -⟩, rfl⟩ := hp
  have := h q hq
  show k + 1 ≤ q.m + 1
  omega
theorem tk_gone {i : Int} {s : VSt} (h : okS i s) : (tkS (tkS (tkS s))).1 = [] := by
  have h0 : ∀ p ∈ s.1, (0 : Int) ≤ p.m := fun p hp => (miB_yes (peB_iff.1 ((psB_iff.1 (vwB_iff.1 h).1).2.1 p hp)).2.2).1
  have h3 := tk_old (tk_old (tk_old h0))
  have ok := tk_ok (tk_ok (tk_ok h))
  refine List.eq_nil_iff_forall_not_mem.2 fun p hp => ?_
  have h4 := (miB_yes (peB_iff.1 ((psB_iff.1 (vwB_iff.1 ok).1).2.1 p hp)).2.2).2
  have := h3 p hp
  omega

/-! ### What is answered -/
def tkI (i : Int) (s : VSt) : Int := if vwB i s.1 s.2 = true then i else 0
def tkV (i : Int) (s : VSt) : VSt := if vwB i s.1 s.2 = true then tkS s else ([], [])
def tkL (i : Int) (s : VSt) : List Int := if vwB i s.1 s.2 = true then tkG s else []
def tkE (i : Int) (s : VSt) : Int := if vwB i s.1 s.2 = true then 0 else 1100
theorem tk_yes {i : Int} {s : VSt} (h : vwB i s.1 s.2 = true) : tkI i s = i ∧ tkV i s = tkS s ∧ tkL i s = tkG s ∧ tkE i s = 0 := by simp [tkI, tkV, tkL, tkE, h]
theorem tk_no {i : Int} {s : VSt} (h : vwB i s.1 s.2 = false) : tkI i s = 0 ∧ tkV i s = ([], []) ∧ tkL i s = [] ∧ tkE i s = 1100 := by simp [tkI, tkV, tkL, tkE, h]

/-! ### Who is heard in between (by hand): 50 is heard, 3 is not -/
end Go.Proofs.Ytghamcomjfholaa
