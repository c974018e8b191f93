
/-
  Peers as plain lists: who is heard in whatever row stands in the row of distances.
-/
import Derived.Test.YtajbofkcpmpeoaaPeerMath
namespace Go.Proofs.Ytajbofkcpmpeoaa

def mkP (x : Int) : Pe := ⟨x, 0⟩
def rowP (b : Int) (xs : List Int) : List Pe := (rowOf b xs).map mkP
theorem rowP_psB {b : Int} {xs : List Int} (hb : plB b = true) (hx : plsB xs = true) (hl : (rowOf b xs).length ≤ 16) : psB b (rowP b xs) = true := by
  refine psB_iff.2 ⟨hb, fun p hp => ?_, ?_, by rw [rowP, List.length_map]; exact hl⟩
  · obtain ⟨x, h, rfl⟩ := List.mem_map.1 hp
    obtain ⟨h1, h2⟩ := (mem_rowOf hb hx x).1 h
    exact peB_iff.2 ⟨plsB_mem hx x h1, h2, show miB 0 = true by decide⟩
  · unfold rowP
    rw [Rise, List.pairwise_map]
    exact rowOf_sorted b xs
theorem hdI_len {b : Int} (xs : List Pe) (d : Int) : (hdI b xs d).length ≤ xs.length + 1 := by
  have h : ∀ xs : List Pe, (xs.filter (ltB b d)).length + (xs.filter (gtB7 b d)).length ≤ xs.length := by
    intro xs
    induction xs with
    | nil => simp
    | cons x xs ih =>
      by_cases h1 : ltB b d x = true
      · have h2 : gtB7 b d x = false := by simp [ltB] at h1; simp only [gtB7, decide_eq_false_iff_not]; omega
        rw [List.filter_cons_of_pos h1, List.filter_cons_of_neg (by simp [h2]), List.length_cons, List.length_cons]
        omega
      · rw [List.filter_cons_of_neg h1, List.length_cons]
        have := List.length_filter_le (gtB7 b d) [x]
        by_cases h2 : gtB7 b d x = true
        · rw [List.filter_cons_of_pos h2, List.length_cons]; omega
        · rw [List.filter_cons_of_neg h2]; omega
  unfold hdI
  rw [List.length_append, List.length_cons]
  have := h xs
  omega
theorem rowP_heard {b p : Int} {xs : List Int} (hb : plB b = true) (hx : plsB xs = true) (hp : plB p = true) (hn : ¬ p = b) : hdI b (rowP b xs) p = rowP b (xs ++ [p]) := by
  have hx2 : plsB (xs ++ [p]) = true := plsB_mk fun y hy => by
    rcases List.mem_append.1 hy with h | h
    · exact plsB_mem hx y h
    · rw [List.mem_singleton.1 h]; exact hp
  have e : hdI b (rowP b xs) p = ((rowOf b xs).filter (fun q => decide (far b q < far b p)) ++ p :: (rowOf b xs).filter (fun q => decide (far b p < far b q))).map mkP := by
    unfold hdI rowP
    rw [List.map_append, List.map_cons, List.filter_map, List.filter_map]
    rfl
  rw [e]
  unfold rowP
  congr 1
  refine rise_unique (f := far b) _ _ ?_ (rowOf_sorted b _) ?_
  · rw [List.pairwise_append, List.pairwise_cons]
    refine ⟨(rowOf_sorted b xs).filter _, ⟨fun q hq => by simpa using (List.mem_filter.1 hq).2, (rowOf_sorted b xs).filter _⟩, fun q hq r hr => ?_⟩
    have h1 : far b q < far b p := by simpa using (List.mem_filter.1 hq).2
    rcases List.mem_cons.1 hr with rfl | hr
    · exact h1
    · have h2 : far b p < far b r := by simpa using (List.mem_filter.1 hr).2
      omega
  · intro q
    rw [List.mem_append, List.mem_cons, List.mem_filter, List.mem_filter, decide_eq_true_iff, decide_eq_true_iff, mem_rowOf hb hx, mem_rowOf hb hx2, List.mem_append, List.mem_singleton]
    constructor
    · rintro (⟨⟨h1, h2⟩, _⟩ | rfl | ⟨⟨h1, h2⟩, _⟩)
      · exact ⟨.inl h1, h2⟩
      · exact ⟨.inr rfl, hn⟩
      · exact ⟨.inl h1, h2⟩
    · rintro ⟨h1 | h1, h2⟩
      · rcases Int.lt_trichotomy (far b q) (far b p) with h | h | h
        · exact .inl ⟨⟨h1, h2⟩, h⟩
        · exact .inr (.inl (far_inj (plsB_mem hx q h1) hp h))
        · exact .inr (.inr ⟨⟨h1, h2⟩, h⟩)
      · exact .inr (.inl h1)
theorem rowP_base {b : Int} {xs : List Int} (hb : plB b = true) (hx : plsB xs = true) : rowP b (xs ++ [b]) = rowP b xs := by
  have hx2 : plsB (xs ++ [b]) = true := plsB_mk fun y hy => by
    rcases List.mem_append.1 hy with h | h
    · exact plsB_mem hx y h
    · rw [List.mem_singleton.1 h]; exact hb
  unfold rowP
  congr 1
  refine rise_unique (f := far b) _ _ (rowOf_sorted b _) (rowOf_sorted b _) fun q => ?_
  rw [mem_rowOf hb hx, mem_rowOf hb hx2, List.mem_append, List.mem_singleton]
  constructor
  · rintro ⟨h1 | h1, h2⟩
    · exact ⟨h1, h2⟩
    · exact absurd h1 h2
  · rintro ⟨h1, h2⟩
    exact ⟨.inl h1, h2⟩
theorem rowP_nil (b : Int) : rowP b [] = [] := by
  unfold rowP rowOf rowTo
  rw [List.filter_eq_nil_iff.2 (fun x _ => by simp)]
  rfl

/-- What one step of the first loop makes of the row. -/
theorem rowP_step {b p : Int} {xs : List Int} {k : Nat} (hb : plB b = true) (hx : plsB xs = true) (hp : plB p = true) (hn : ¬ p = b) (hl : (rowP b xs).length ≤ k) (hk : k < 16) :
    hdL b (rowP b xs) p = rowP b (xs ++ [p]) ∧ hdE b (rowP b xs) p = 0 ∧ (rowP b (xs ++ [p])).length ≤ k + 1 := by
  have e := rowP_heard hb hx hp hn
  have hlen := hdI_len (b := b) (rowP b xs) p
  have hs := rowP_psB hb hx (by have : (rowP b xs).length = (rowOf b xs).length := List.length_map _; omega)
  obtain ⟨h1, h2⟩ := hd_ok hs hp hn (by omega)
  rw [e] at h1 hlen
  exact ⟨h1, h2, by omega⟩

/-! ### The row, distance by distance -/
theorem rowTo_pre (b : Int) (xs : List Int) (k : Nat) : ∀ j, ∃ r, rowTo b xs (k + j) = rowTo b xs k ++ r
  | 0 => ⟨[], by simp⟩
  | j + 1 => by
    obtain ⟨r, hr⟩ := rowTo_pre b xs k j
    exact ⟨_, by rw [← Nat.add_assoc, rowTo_succ, hr, List.append_assoc]⟩
theorem rowP_at {b : Int} {xs : List Int} {e : Nat} (he : e < 255) (hin : (b + ((e : Int) + 1)) % 256 ∈ xs) :
    (rowTo b xs e).length < (rowP b xs).length ∧ (rowP b xs).getD (rowTo b xs e).length ⟨0, 0⟩ = ⟨(b + ((e : Int) + 1)) % 256, 0⟩ ∧ (rowTo b xs (e + 1)).length = (rowTo b xs e).length + 1 := by
  obtain ⟨r, hr⟩ := rowTo_pre b xs (e + 1) (255 - (e + 1))
  rw [show e + 1 + (255 - (e + 1)) = 255 by omega, rowTo_succ b xs e, if_pos hin] at hr
  have e2 : rowP b xs = (rowTo b xs e).map mkP ++ ⟨(b + ((e : Int) + 1)) % 256, 0⟩ :: r.map mkP := by
    unfold rowP rowOf
    rw [hr]
    simp [mkP]
  refine ⟨?_, ?_, by rw [rowTo_succ, if_pos hin]; simp⟩
  · rw [e2, List.length_append, List.length_cons, List.length_map]; omega
  · rw [e2]
    have : (rowTo b xs e).length = ((rowTo b xs e).map mkP).length := (List.length_map _).symm
    rw [this]
    simp [List.getD]
theorem rowP_off {b : Int} {xs : List Int} {e : Nat} (hin : ¬ (b + ((e : Int) + 1)) % 256 ∈ xs) : (rowTo b xs (e + 1)).length = (rowTo b xs e).length := by
  rw [rowTo_succ, if_neg hin, List.append_nil]
theorem rowP_end (b : Int) (xs : List Int) : (rowTo b xs 255).length = (rowP b xs).length := (List.length_map _).symm

end Go.Proofs.Ytajbofkcpmpeoaa
