
/-
  Greetings as plain lists: whom a node knows behind one, and what is so of it.
-/
import Derived.Test.YtagojonjohimfaaViewMath
import Derived.Test.YtagojonjohimfaaPeerSet
namespace Go.Proofs.Ytagojonjohimfaa

/-! ### Peers that rise: no name twice, and no other list has the same ones -/
theorem riseP_unique {b : Int} : ∀ (xs ys : List Pe), Rise b xs → Rise b ys → (∀ p, p ∈ xs ↔ p ∈ ys) → xs = ys
  | [], [], _, _, _ => rfl
  | [], y :: ys, _, _, h => absurd ((h y).2 (by simp)) (by simp)
  | x :: xs, [], _, _, h => absurd ((h x).1 (by simp)) (by simp)
  | x :: xs, y :: ys, h1, h2, h => by
    rw [Rise, List.pairwise_cons] at h1 h2
    have hxy : x = y := by
      rcases List.mem_cons.1 ((h x).1 (by simp)) with e | e
      · exact e
      · rcases List.mem_cons.1 ((h y).2 (by simp)) with e' | e'
        · exact e'.symm
        · have := h1.1 y e'
          have := h2.1 x e
          omega
    subst hxy
    rw [riseP_unique xs ys h1.2 h2.2 fun p => ?_]
    constructor
    · intro hp
      rcases List.mem_cons.1 ((h p).1 (by simp [hp])) with e | e
      · have := h1.1 p hp
        rw [e] at this
        omega
      · exact e
    · intro hp
      rcases List.mem_cons.1 ((h p).2 (by simp [hp])) with e | e
      · have := h2.1 p hp
        rw [e] at this
        omega
      · exact e
theorem nmL_mem {ps : List Pe} {x : Int} : x ∈ nmL ps ↔ ∃ p ∈ ps, p.n = x := by simp [nmL]
theorem rise_name {b : Int} {ps : List Pe} (h : Rise b ps) {p q : Pe} (hp : p ∈ ps) (hq : q ∈ ps) (e : p.n = q.n) : p = q := by
  obtain ⟨i, hi, rfl⟩ := List.mem_iff_getElem.1 hp
  obtain ⟨j, hj, rfl⟩ := List.mem_iff_getElem.1 hq
  rcases Nat.lt_trichotomy i j with hl | hl | hl
  · have := List.pairwise_iff_getElem.1 h i j hi hj hl
    rw [e] at this
    omega
  · subst hl
    rfl
  · have := List.pairwise_iff_getElem.1 h j i hj hi hl
    rw [e] at this
    omega
theorem nd_none {d : Int} {ps : List Pe} (h : ¬ d ∈ nmL ps) : ps.filter (ndB d) = ps :=
  List.filter_eq_self.2 fun p hp => by
    simp only [ndB, Bool.not_eq_true', decide_eq_false_iff_not]
    exact fun e => h (nmL_mem.2 ⟨p, hp, e⟩)
theorem nd_one {b d : Int} : ∀ {ps : List Pe}, Rise b ps → d ∈ nmL ps → (ps.filter (ndB d)).length + 1 = ps.length
  | [], _, h => by simp [nmL] at h
  | x :: xs, hr, h => by
    rw [Rise, List.pairwise_cons] at hr
    by_cases hx : x.n = d
    · rw [List.filter_cons_of_neg (by simp [ndB, hx]), nd_none, List.length_cons]
      intro hd
      obtain ⟨y, hy, e⟩ := nmL_mem.1 hd
      have := hr.1 y hy
      rw [hx, e] at this
      omega
    · have hd : d ∈ nmL xs := by
        obtain ⟨y, hy, e⟩ := nmL_mem.1 h
        rcases List.mem_cons.1 hy with rfl | hy
        · exact absurd e hx
        · exact nmL_mem.2 ⟨y, hy, e⟩
      rw [List.filter_cons_of_pos (by simp [ndB, hx]), List.length_cons, List.length_cons, nd_one hr.2 hd]
theorem neI_one {d : Int} : ∀ {xs : List Int}, Up xs → d ∈ xs → (xs.filter (neB d)).length + 1 = xs.length
  | [], _, h => by simp at h
  | x :: xs, hr, h => by
    rw [Up, List.pairwise_cons] at hr
    by_cases hx : x = d
    · rw [List.filter_cons_of_neg (by simp [neB, hx]), ne_none, List.length_cons]
      intro hd
      have := hr.1 d hd
      omega
    · have hd : d ∈ xs := by
        rcases List.mem_cons.1 h with e | e
        · exact absurd e.symm hx
        · exact e
      rw [List.filter_cons_of_pos (by simp [neB, hx]), List.length_cons, List.length_cons, neI_one hr.2 hd]

/-! ### Whom a node knows -/
abbrev VSt := List Pe × List Int
def okS (i : Int) (s : VSt) : Prop := vwB i s.1 s.2 = true
def Kn (s : VSt) (x : Int) : Prop := x ∈ s.2 ∨ x ∈ nmL s.1
instance (s : VSt) (x : Int) : Decidable (Kn s x) := by unfold Kn; infer_instance
def szS (s : VSt) : Nat := s.1.length + s.2.length
/-- One is heard, or told of; nothing, if it is one too many. -/
def knS (i : Int) (s : VSt) (d : Int) : VSt := if ¬ Kn s d ∧ 16 ≤ szS s then s else (hdL i s.1 d, woL s.2 d)
/-- One of those who are told. -/
def hsS (i : Int) (s : VSt) (d : Int) : VSt := if d = i ∨ Kn s d then s else knS i s d
def foS (i : Int) (s : VSt) (ids : List Int) : VSt := ids.foldl (hsS i) s
def heS (i : Int) (s : VSt) (d : Int) (ids : List Int) : VSt := foS i (knS i s d) ids

theorem ok_apart {i : Int} {s : VSt} (h : okS i s) {x : Int} (hx : x ∈ s.2) : ¬ x = i ∧ ¬ x ∈ nmL s.1 := by
  have := (vwB_iff.1 h).2.2.2 x hx
  simp only [idL, List.mem_cons, not_or] at this
  exact this
theorem ok_size {i : Int} {s : VSt} (h : okS i s) : szS s ≤ 16 := (vwB_iff.1 h).2.2.1

/-- Where there is room, or it is known: what is known then. -/
theorem kn_room {i d : Int} {s : VSt} (h : okS i s) (hd : plB d = true) (hn : ¬ d = i) (hr : Kn s d ∨ szS s < 16) :
    knS i s d = (hdI i s.1 d, s.2.filter (neB d)) ∧ okS i (knS i s d) ∧ szS (knS i s d) = (if Kn s d then szS s else szS s + 1) := by
  obtain ⟨h1, h2, h3, h4⟩ := vwB_iff.1 h
  have hpl : ∀ p ∈ s.1, plB p.n = true := fun p hp => (vw_pe h p hp).1
  have hri := vw_rise h
  have hup := (paB_iff.1 h2).2.2
  have hl := other_len (d := d) hri hpl hd
  have hlen : (hdI i s.1 d).length + (s.2.filter (neB d)).length = (if Kn s d then szS s else szS s + 1) := by
    unfold szS
    by_cases hq : d ∈ s.2
    · have h5 := (ok_apart h hq).2
      rw [nd_none h5] at hl
      have := neI_one hup hq
      rw [if_pos (.inl hq), hl]
      omega
    · by_cases hp : d ∈ nmL s.1
      · have := nd_one hri hp
        rw [if_pos (.inr hp), hl, ne_none hq]
        omega
      · rw [nd_none hp] at hl
        rw [if_neg (by simp [Kn, hq, hp]), hl, ne_none hq]
        omega
  have h16 : (hdI i s.1 d).length + (s.2.filter (neB d)).length ≤ 16 := by
    have := ok_size h
    rw [hlen]
    split
    · omega
    · rename_i hk
      have := hr.resolve_left hk
      omega
  have e : knS i s d = (hdI i s.1 d, s.2.filter (neB d)) := by
    unfold knS
    rw [if_neg (fun hf => by rcases hr with hr | hr; exact hf.1 hr; omega), (hd_ok h1 hd hn (by omega)).1, (wo_ok h2 hd).1]
  refine ⟨e, ?_, by rw [e]; exact hlen⟩
  rw [e]
  refine vwB_iff.2 ⟨hdI_psB h1 hd hn (by omega), ne_pa h2, h16, fun y hy => ?_⟩
  dsimp only at hy
  obtain ⟨hy1, hy2⟩ := List.mem_filter.1 hy
  have hy2 : ¬ y = d := by simpa [neB] using hy2
  obtain ⟨h5, h6⟩ := ok_apart h hy1
  intro hin
  rcases idL_mem.1 hin with e' | ⟨p, hp, e'⟩
  · exact h5 e'
  · rcases hdI_mem hp with rfl | hp
    · exact hy2 e'.symm
    · exact h6 (nmL_mem.2 ⟨p, hp, e'⟩)
theorem kn_full {i d : Int} {s : VSt} (h : ¬ Kn s d) (hf : 16 ≤ szS s) : knS i s d = s := if_pos ⟨h, hf⟩
theorem kn_ok {i d : Int} {s : VSt} (h : okS i s) (hd : plB d = true) (hn : ¬ d = i) : okS i (knS i s d) := by
  by_cases hr : Kn s d ∨ szS s < 16
  · exact (kn_room h hd hn hr).2.1
  · rw [kn_full (fun e => hr (.inl e)) (by rcases Nat.lt_or_ge (szS s) 16 with e | e; exact absurd (.inr e) hr; exact e)]
    exact h

/-! ### Who is known, one by one -/
theorem room_or {s : VSt} {d : Int} (h : ¬ (¬ Kn s d ∧ 16 ≤ szS s)) : Kn s d ∨ szS s < 16 := by
  by_cases hk : Kn s d
  · exact .inl hk
  · exact .inr (by rcases Nat.lt_or_ge (szS s) 16 with e | e; exact e; exact absurd ⟨hk, e⟩ h)
section kn
variable {i d : Int} {s : VSt} (h : okS i s) (hd : plB d = true) (hn : ¬ d = i)
include h hd hn
theorem kn_peer (hr : Kn s d ∨ szS s < 16) (p : Pe) : p ∈ (knS i s d).1 ↔ p = ⟨d, 0⟩ ∨ (p ∈ s.1 ∧ ¬ p.n = d) := by
  rw [(kn_room h hd hn hr).1]
  exact hdI_mem_iff (fun p hp => (vw_pe h p hp).1) hd p
theorem kn_pass (hr : Kn s d ∨ szS s < 16) (x : Int) : x ∈ (knS i s d).2 ↔ x ∈ s.2 ∧ ¬ x = d := by
  rw [(kn_room h hd hn hr).1]
  simp [neB]
theorem kn_kn (hr : Kn s d ∨ szS s < 16) (x : Int) : Kn (knS i s d) x ↔ Kn s x ∨ x = d := by
  unfold Kn
  rw [kn_pass h hd hn hr, nmL_mem, nmL_mem]
  constructor
  · rintro (⟨h1, -⟩ | ⟨p, hp, rfl⟩)
    · exact .inl (.inl h1)
    · rcases (kn_peer h hd hn hr p).1 hp with rfl | ⟨h1, -⟩
      · exact .inr rfl
      · exact .inl (.inr ⟨p, h1, rfl⟩)
  · intro hx
    by_cases e : x = d
    · exact .inr ⟨⟨d, 0⟩, (kn_peer h hd hn hr _).2 (.inl rfl), e.symm⟩
    · rcases hx with (h1 | ⟨p, hp, rfl⟩) | h1
      · exact .inl ⟨h1, e⟩
      · exact .inr ⟨p, (kn_peer h hd hn hr p).2 (.inr ⟨hp, e⟩), rfl⟩
      · exact absurd h1 e
theorem kn_mono {x : Int} (hx : Kn s x) : Kn (knS i s d) x := by
  by_cases hf : ¬ Kn s d ∧ 16 ≤ szS s
  · rw [kn_full hf.1 hf.2]
    exact hx
  · exact (kn_kn h hd hn (room_or hf) x).2 (.inl hx)
theorem kn_only {x : Int} (hx : Kn (knS i s d) x) : Kn s x ∨ x = d := by
  by_cases hf : ¬ Kn s d ∧ 16 ≤ szS s
  · rw [kn_full hf.1 hf.2] at hx
    exact .inl hx
  · exact (kn_kn h hd hn (room_or hf) x).1 hx
theorem kn_size : szS s ≤ szS (knS i s d) := by
  by_cases hf : ¬ Kn s d ∧ 16 ≤ szS s
  · rw [kn_full hf.1 hf.2]
    exact Nat.le_refl _
  · rw [(kn_room h hd hn (room_or hf)).2.2]
    split <;> omega
theorem kn_small : szS (knS i s d) ≤ szS s + 1 := by
  by_cases hf : ¬ Kn s d ∧ 16 ≤ szS s
  · rw [kn_full hf.1 hf.2]
    omega
  · rw [(kn_room h hd hn (room_or hf)).2.2]
    split <;> omega
end kn

/-! ### One of those who are told -/
theorem hs_skip {i d : Int} {s : VSt} (h : d = i ∨ Kn s d) : hsS i s d = s := if_pos h
theorem hs_take {i d : Int} {s : VSt} (h : ¬ (d = i ∨ Kn s d)) : hsS i s d = knS i s d := if_neg h
section hs
variable {i d : Int} {s : VSt} (h : okS i s) (hd : plB d = true)
include h hd
theorem hs_ok : okS i (hsS i s d) := by
  by_cases hk : d = i ∨ Kn s d
  · rw [hs_skip hk]; exact h
  · rw [hs_take hk]; exact kn_ok h hd fun e => hk (.inl e)
theorem hs_mono {x : Int} (hx : Kn s x) : Kn (hsS i s d) x := by
  by_cases hk : d = i ∨ Kn s d
  · rw [hs_skip hk]; exact hx
  · rw [hs_take hk]; exact kn_mono h hd (fun e => hk (.inl e)) hx
theorem hs_only {x : Int} (hx : Kn (hsS i s d) x) : Kn s x ∨ x = d := by
  by_cases hk : d = i ∨ Kn s d
  · rw [hs_skip hk] at hx; exact .inl hx
  · rw [hs_take hk] at hx; exact kn_only h hd (fun e => hk (.inl e)) hx
theorem hs_size : szS s ≤ szS (hsS i s d) := by
  by_cases hk : d = i ∨ Kn s d
  · rw [hs_skip hk]; exact Nat.le_refl _
  · rw [hs_take hk]; exact kn_size h hd fun e => hk (.inl e)
theorem hs_small : szS (hsS i s d) ≤ szS s + 1 := by
  by_cases hk : d = i ∨ Kn s d
  · rw [hs_skip hk]; omega
  · rw [hs_take hk]; exact kn_small h hd fun e => hk (.inl e)
/-- Behind it that one is known, unless it is the node itself, or there is no room. -/
theorem hs_done : d = i ∨ Kn (hsS i s d) d ∨ 16 ≤ szS (hsS i s d) := by
  by_cases hk : d = i ∨ Kn s d
  · rw [hs_skip hk]
    rcases hk with e | e
    · exact .inl e
    · exact .inr (.inl e)
  · rw [hs_take hk]
    by_cases hf : ¬ Kn s d ∧ 16 ≤ szS s
    · rw [kn_full hf.1 hf.2]
      exact .inr (.inr hf.2)
    · exact .inr (.inl ((kn_kn h hd (fun e => hk (.inl e)) (room_or hf) d).2 (.inr rfl)))
theorem hs_keep {p : Pe} (hp : p ∈ s.1) : p ∈ (hsS i s d).1 := by
  by_cases hk : d = i ∨ Kn s d
  · rw [hs_skip hk]; exact hp
  · rw [hs_take hk]
    by_cases hf : ¬ Kn s d ∧ 16 ≤ szS s
    · rw [kn_full hf.1 hf.2]; exact hp
    · exact (kn_peer h hd (fun e => hk (.inl e)) (room_or hf) p).2 (.inr ⟨hp, fun e => hk (.inr (.inr (nmL_mem.2 ⟨p, hp, e⟩)))⟩)
end hs

/-! ### All who are told -/
theorem fo_cons (i : Int) (s : VSt) (d : Int) (ids : List Int) : foS i s (d :: ids) = foS i (hsS i s d) ids := rfl
theorem fo_app (i : Int) (s : VSt) (xs ys : List Int) : foS i s (xs ++ ys) = foS i (foS i s xs) ys := List.foldl_append
theorem fo_step (i : Int) (s : VSt) (ids : List Int) (k : Nat) (hk : k < ids.length) : foS i s (ids.take (k + 1)) = hsS i (foS i s (ids.take k)) (ids.getD k 0) := by
  rw [take_step hk, fo_app, getD_in _ _ hk]
  rfl
theorem fo_all {i : Int} : ∀ {ids : List Int} {s : VSt}, okS i s → plsB ids = true →
    okS i (foS i s ids) ∧ (∀ x, Kn s x → Kn (foS i s ids) x) ∧ (∀ x, Kn (foS i s ids) x → Kn s x ∨ x ∈ ids) ∧ szS s ≤ szS (foS i s ids) ∧ szS (foS i s ids) ≤ szS s + ids.length ∧ (∀ p ∈ s.1, p ∈ (foS i s ids).1) ∧
      (∀ d ∈ ids, d = i ∨ Kn (foS i s ids) d ∨ 16 ≤ szS (foS i s ids))
  | [], s, h, _ => ⟨h, fun _ hx => hx, fun _ hx => .inl hx, Nat.le_refl _, Nat.le_refl _, fun _ hp => hp, fun _ hd => by cases hd⟩
  | d :: ids, s, h, hp => by
    have hd : plB d = true := plsB_mem hp d (by simp)
    have hq : plsB ids = true := plsB_mk fun x hx => plsB_mem hp x (by simp [hx])
    obtain ⟨f1, f2, f3, f4, f5, f6, f7⟩ := fo_all (ids := ids) (hs_ok h hd) hq
    rw [fo_cons]
    refine ⟨f1, fun x hx => f2 x (hs_mono h hd hx), fun x hx => ?_, Nat.le_trans (hs_size h hd) f4, ?_, fun p hp => f6 p (hs_keep h hd hp), fun x hx => ?_⟩
    · rcases f3 x hx with e | e
      · rcases hs_only h hd e with e | e
        · exact .inl e
        · exact .inr (by simp [e])
      · exact .inr (by simp [e])
    · have := hs_small h hd
      rw [List.length_cons]
      omega
    · rcases List.mem_cons.1 hx with e | e
      · subst e
        rcases hs_done h hd with e | e | e
        · exact .inl e
        · exact .inr (.inl (f2 x e))
        · exact .inr (.inr (Nat.le_trans e f4))
      · exact f7 x e
/-- Where all are known, or there is no room, nothing turns. -/
theorem fo_stay {i : Int} : ∀ {ids : List Int} {s : VSt}, (∀ d ∈ ids, d = i ∨ Kn s d ∨ 16 ≤ szS s) → foS i s ids = s
  | [], _, _ => rfl
  | d :: ids, s, h => by
    have e : hsS i s d = s := by
      by_cases hk : d = i ∨ Kn s d
      · exact hs_skip hk
      · rw [hs_take hk]
        rcases h d (by simp) with e | e | e
        · exact absurd (.inl e) hk
        · exact absurd (.inr e) hk
        · exact kn_full (fun e => hk (.inr e)) e
    rw [fo_cons, e]
    exact fo_stay fun x hx => h x (by simp [hx])
/-- Where there is room for all: who is a peer then, and who was lost. -/
theorem fo_room {i : Int} : ∀ {ids : List Int} {s : VSt}, okS i s → plsB ids = true → szS s + ids.length ≤ 16 →
    (∀ p, p ∈ (foS i s ids).1 ↔ p ∈ s.1 ∨ (p.m = 0 ∧ p.n ∈ ids ∧ ¬ p.n = i ∧ ¬ Kn s p.n)) ∧ (foS i s ids).2 = s.2
  | [], s, _, _, _ => ⟨fun p => by simp [foS], rfl⟩
  | d :: ids, s, h, hp, hl => by
    have hd : plB d = true := plsB_mem hp d (by simp)
    have hq : plsB ids = true := plsB_mk fun x hx => plsB_mem hp x (by simp [hx])
    rw [List.length_cons] at hl
    have hsm := hs_small h hd
    obtain ⟨f1, f2⟩ := fo_room (ids := ids) (hs_ok h hd) hq (by omega)
    rw [fo_cons]
    by_cases hk : d = i ∨ Kn s d
    · rw [hs_skip hk] at f1 f2 ⊢
      refine ⟨fun p => ?_, f2⟩
      rw [f1 p]
      constructor
      · rintro (h1 | ⟨h1, h2, h3, h4⟩)
        · exact .inl h1
        · exact .inr ⟨h1, by simp [h2], h3, h4⟩
      · rintro (h1 | ⟨h1, h2, h3, h4⟩)
        · exact .inl h1
        · refine .inr ⟨h1, ?_, h3, h4⟩
          rcases List.mem_cons.1 h2 with e | e
          · rcases hk with e' | e'
            · exact absurd (e.trans e') h3
            · exact absurd (e ▸ e') h4
          · exact e
    · have hn : ¬ d = i := fun e => hk (.inl e)
      have hnk : ¬ Kn s d := fun e => hk (.inr e)
      have hr : Kn s d ∨ szS s < 16 := .inr (by omega)
      rw [hs_take hk] at f1 f2 ⊢
      have hp2 : (knS i s d).2 = s.2 := by
        rw [(kn_room h hd hn hr).1]
        exact ne_none fun e => hnk (.inl e)
      refine ⟨fun p => ?_, f2.trans hp2⟩
      rw [f1 p, kn_peer h hd hn hr p, kn_kn h hd hn hr]
      constructor
      · rintro ((rfl | ⟨h1, h2⟩) | ⟨h1, h2, h3, h4⟩)
        · exact .inr ⟨rfl, by simp, hn, hnk⟩
        · exact .inl h1
        · exact .inr ⟨h1, by simp [h2], h3, fun e => h4 (.inl e)⟩
      · rintro (h1 | ⟨h1, h2, h3, h4⟩)
        · exact .inl (.inr ⟨h1, fun e => hnk (.inr (nmL_mem.2 ⟨p, h1, e⟩))⟩)
        · by_cases e : p.n = d
          · refine .inl (.inl ?_)
            cases p
            simp only at e h1
            rw [e, h1]
          · refine .inr ⟨h1, ?_, h3, fun e' => ?_⟩
            · rcases List.mem_cons.1 h2 with e' | e'
              · exact absurd e' e
              · exact e'
            · rcases e' with e' | e'
              · exact h4 e'
              · exact e e'

/-! ### A greeting -/
section he
variable {i d : Int} {s : VSt} {ids : List Int} (h : okS i s) (hd : plB d = true) (hn : ¬ d = i) (hp : plsB ids = true)
include h hd hn hp
theorem he_ok : okS i (heS i s d ids) := (fo_all (kn_ok h hd hn) hp).1
/-- Whoever was known is known. -/
theorem he_mono {x : Int} (hx : Kn s x) : Kn (heS i s d ids) x := (fo_all (kn_ok h hd hn) hp).2.1 x (kn_mono h hd hn hx)
/-- Nobody is known who was not told. -/
theorem he_only {x : Int} (hx : Kn (heS i s d ids) x) : Kn s x ∨ x = d ∨ x ∈ ids := by
  rcases (fo_all (kn_ok h hd hn) hp).2.2.1 x hx with e | e
  · rcases kn_only h hd hn e with e | e
    · exact .inl e
    · exact .inr (.inl e)
  · exact .inr (.inr e)
/-- Who greets is a peer now, heard, if there is room. -/
theorem he_heard (hr : Kn s d ∨ szS s < 16) : ⟨d, 0⟩ ∈ (heS i s d ids).1 := (fo_all (kn_ok h hd hn) hp).2.2.2.2.2.1 _ ((kn_peer h hd hn hr _).2 (.inl rfl))
omit h hd hn hp in
theorem he_full (hk : ¬ Kn s d) (hf : 16 ≤ szS s) : heS i s d ids = s := by
  unfold heS
  rw [kn_full hk hf]
  exact fo_stay fun x _ => .inr (.inr hf)
/-- A peer that bears the greeter's name was heard now. -/
theorem he_missed {p : Pe} (hpp : p ∈ (heS i s d ids).1) (e : p.n = d) : p.m = 0 := by
  by_cases hf : ¬ Kn s d ∧ 16 ≤ szS s
  · rw [he_full hf.1 hf.2] at hpp
    exact absurd (.inr (nmL_mem.2 ⟨p, hpp, e⟩)) hf.1
  · have := rise_name (vw_rise (he_ok h hd hn hp)) hpp (he_heard h hd hn hp (room_or hf)) e
    rw [this]
/-- Who greets is a peer, or all places were taken, and it was none of them. -/
theorem he_in : d ∈ nmL (heS i s d ids).1 ∨ (szS s = 16 ∧ ¬ Kn s d) := by
  by_cases hf : ¬ Kn s d ∧ 16 ≤ szS s
  · have := ok_size h
    exact .inr ⟨by omega, hf.1⟩
  · exact .inl (nmL_mem.2 ⟨_, he_heard h hd hn hp (room_or hf), rfl⟩)
/-- The same greeting twice is as once. -/
theorem he_twice : heS i (heS i s d ids) d ids = heS i s d ids := by
  by_cases hf : ¬ Kn s d ∧ 16 ≤ szS s
  · rw [he_full hf.1 hf.2, he_full hf.1 hf.2]
  · have hok := he_ok h hd hn hp
    have hin := he_heard h hd hn hp (room_or hf)
    have hkn : Kn (heS i s d ids) d := .inr (nmL_mem.2 ⟨_, hin, rfl⟩)
    have e : knS i (heS i s d ids) d = heS i s d ids := by
      have hq : ¬ d ∈ (heS i s d ids).2 := fun hq => (ok_apart hok hq).2 (nmL_mem.2 ⟨_, hin, rfl⟩)
      rw [(kn_room hok hd hn (.inl hkn)).1, ne_none hq]
      refine Prod.ext ?_ rfl
      refine riseP_unique _ _ (hdI_rise (vw_rise hok)) (vw_rise hok) fun p => ?_
      rw [hdI_mem_iff (fun p hp => (vw_pe hok p hp).1) hd p]
      constructor
      · rintro (rfl | ⟨h1, -⟩)
        · exact hin
        · exact h1
      · intro h1
        by_cases e : p.n = d
        · exact .inl (rise_name (vw_rise hok) h1 hin e)
        · exact .inr ⟨h1, e⟩
    show foS i (knS i (heS i s d ids) d) ids = _
    rw [e]
    exact fo_stay (fo_all (kn_ok h hd hn) hp).2.2.2.2.2.2
/-- Where there is room for all: who is a peer then, and who was lost. -/
theorem he_room (hl : szS s + ids.length + 1 ≤ 16) :
    (∀ p, p ∈ (heS i s d ids).1 ↔ p = ⟨d, 0⟩ ∨ (p ∈ s.1 ∧ ¬ p.n = d) ∨ (p.m = 0 ∧ p.n ∈ ids ∧ ¬ p.n = i ∧ ¬ Kn s p.n ∧ ¬ p.n = d)) ∧ (∀ x, x ∈ (heS i s d ids).2 ↔ x ∈ s.2 ∧ ¬ x = d) ∧
      szS (heS i s d ids) ≤ szS s + ids.length + 1 ∧ ∀ x ∈ ids, x = i ∨ Kn (heS i s d ids) x := by
  have hr : Kn s d ∨ szS s < 16 := .inr (by omega)
  have hs := kn_small h hd hn
  obtain ⟨f1, f2⟩ := fo_room (kn_ok h hd hn) hp (by omega)
  obtain ⟨-, g2, -, -, g5, -, -⟩ := fo_all (kn_ok h hd hn) hp
  refine ⟨fun p => ?_, fun x => ?_, by unfold heS; omega, fun x hx => ?_⟩
  · unfold heS
    rw [f1 p, kn_peer h hd hn hr p, kn_kn h hd hn hr, not_or]
    constructor
    · rintro ((h1 | h1) | ⟨h1, h2, h3, h4, h5⟩)
      · exact .inl h1
      · exact .inr (.inl h1)
      · exact .inr (.inr ⟨h1, h2, h3, h4, h5⟩)
    · rintro (h1 | h1 | ⟨h1, h2, h3, h4, h5⟩)
      · exact .inl (.inl h1)
      · exact .inl (.inr h1)
      · exact .inr ⟨h1, h2, h3, h4, h5⟩
  · unfold heS
    rw [f2, kn_pass h hd hn hr]
  · by_cases hxi : x = i
    · exact .inl hxi
    · by_cases hk : Kn (knS i s d) x
      · exact .inr (g2 x hk)
      · exact .inr (.inr (nmL_mem.2 ⟨⟨x, 0⟩, (f1 _).2 (.inr ⟨rfl, hx, hxi, hk⟩), rfl⟩))
end he

/-- Greetings told in another row make the same, where there is room. -/
theorem he_swap {i a b : Int} {s : VSt} {ids : List Int} (h : okS i s) (ha : plB a = true) (hb : plB b = true) (na : ¬ a = i) (nb : ¬ b = i) (hp : plsB ids = true) (hl : szS s + ids.length + 2 ≤ 16) :
    heS i (heS i s a ids) b ids = heS i (heS i s b ids) a ids ∧ okS i (heS i (heS i s a ids) b ids) := by
  have key : ∀ a b : Int, plB a = true → plB b = true → ¬ a = i → ¬ b = i →
      (∀ p, p ∈ (heS i (heS i s a ids) b ids).1 ↔ p = ⟨b, 0⟩ ∨ (p = ⟨a, 0⟩ ∧ ¬ a = b) ∨ (p ∈ s.1 ∧ ¬ p.n = a ∧ ¬ p.n = b) ∨ (p.m = 0 ∧ p.n ∈ ids ∧ ¬ p.n = i ∧ ¬ Kn s p.n ∧ ¬ p.n = a ∧ ¬ p.n = b)) ∧
      (∀ x, x ∈ (heS i (heS i s a ids) b ids).2 ↔ x ∈ s.2 ∧ ¬ x = a ∧ ¬ x = b) ∧ okS i (heS i (heS i s a ids) b ids) := by
    intro a b ha hb na nb
    obtain ⟨f1, f2, f3, f4⟩ := he_room h ha na hp (by omega)
    have ok1 := he_ok h ha na hp
    have hr : Kn (heS i s a ids) b ∨ szS (heS i s a ids) < 16 := .inr (by omega)
    have ok2 := kn_ok ok1 hb nb
    -- all who are told are known by then: the second row of them turns nothing
    have e : heS i (heS i s a ids) b ids = knS i (heS i s a ids) b := fo_stay fun x hx => by
      rcases f4 x hx with e | e
      · exact .inl e
      · exact .inr (.inl (kn_mono ok1 hb nb e))
    rw [e]
    refine ⟨fun p => ?_, fun x => ?_, ok2⟩
    · rw [kn_peer ok1 hb nb hr p, f1 p]
      constructor
      · rintro (h1 | ⟨h1 | ⟨h1, h2⟩ | ⟨h1, h2, h3, h4, h5⟩, h6⟩)
        · exact .inl h1
        · refine .inr (.inl ⟨h1, fun e => h6 ?_⟩)
          rw [h1]
          exact e
        · exact .inr (.inr (.inl ⟨h1, h2, h6⟩))
        · exact .inr (.inr (.inr ⟨h1, h2, h3, h4, h5, h6⟩))
      · rintro (h1 | ⟨h1, h2⟩ | ⟨h1, h2, h3⟩ | ⟨h1, h2, h3, h4, h5, h6⟩)
        · exact .inl h1
        · refine .inr ⟨.inl h1, ?_⟩
          rw [h1]
          exact h2
        · exact .inr ⟨.inr (.inl ⟨h1, h2⟩), h3⟩
        · exact .inr ⟨.inr (.inr ⟨h1, h2, h3, h4, h5⟩), h6⟩
    · rw [kn_pass ok1 hb nb hr, f2 x]
      exact and_assoc
  obtain ⟨k1, k2, k3⟩ := key a b ha hb na nb
  obtain ⟨m1, m2, m3⟩ := key b a hb ha nb na
  refine ⟨Prod.ext ?_ ?_, k3⟩
  · refine riseP_unique _ _ (vw_rise k3) (vw_rise m3) fun p => ?_
    rw [k1 p, m1 p]
    by_cases e : a = b
    · subst e
      simp
    · have e' : ¬ b = a := fun x => e x.symm
      simp only [e, e', not_false_eq_true, and_true]
      constructor
      · rintro (h1 | h1 | ⟨h1, h2, h3⟩ | ⟨h1, h2, h3, h4, h5, h6⟩)
        · exact .inr (.inl h1)
        · exact .inl h1
        · exact .inr (.inr (.inl ⟨h1, h3, h2⟩))
        · exact .inr (.inr (.inr ⟨h1, h2, h3, h4, h6, h5⟩))
      · rintro (h1 | h1 | ⟨h1, h2, h3⟩ | ⟨h1, h2, h3, h4, h5, h6⟩)
        · exact .inr (.inl h1)
        · exact .inl h1
        · exact .inr (.inr (.inl ⟨h1, h3, h2⟩))
        · exact .inr (.inr (.inr ⟨h1, h2, h3, h4, h6, h5⟩))
  · refine up_unique (paB_iff.1 (vwB_iff.1 k3).2.1).2.2 (paB_iff.1 (vwB_iff.1 m3).2.1).2.2 fun x => ?_
    rw [k2 x, m2 x]
    constructor
    · rintro ⟨h1, h2, h3⟩
      exact ⟨h1, h3, h2⟩
    · rintro ⟨h1, h2, h3⟩
      exact ⟨h1, h3, h2⟩

/-! ### What is answered -/
def heB (i : Int) (s : VSt) (d : Int) (ids : List Int) : Bool := decide (vwB i s.1 s.2 = true ∧ plB d = true ∧ ¬ d = i ∧ plsB ids = true ∧ ids.length ≤ 16)
theorem heB_iff {i : Int} {s : VSt} {d : Int} {ids : List Int} : heB i s d ids = true ↔ okS i s ∧ plB d = true ∧ ¬ d = i ∧ plsB ids = true ∧ ids.length ≤ 16 := by simp [heB, okS]
def heI (i : Int) (s : VSt) (d : Int) (ids : List Int) : Int := if heB i s d ids = true then i else 0
def heV (i : Int) (s : VSt) (d : Int) (ids : List Int) : VSt := if heB i s d ids = true then heS i s d ids else ([], [])
def heE (i : Int) (s : VSt) (d : Int) (ids : List Int) : Int := if heB i s d ids = true then 0 else 1000
theorem he_yes {i : Int} {s : VSt} {d : Int} {ids : List Int} (h : heB i s d ids = true) : heI i s d ids = i ∧ heV i s d ids = heS i s d ids ∧ heE i s d ids = 0 := by simp [heI, heV, heE, h]
theorem he_no {i : Int} {s : VSt} {d : Int} {ids : List Int} (h : heB i s d ids = false) : heI i s d ids = 0 ∧ heV i s d ids = ([], []) ∧ heE i s d ids = 1000 := by simp [heI, heV, heE, h]
theorem heE_zero {i : Int} {s : VSt} {d : Int} {ids : List Int} (h : heE i s d ids = 0) : heB i s d ids = true := by
  cases hb : heB i s d ids with
  | true => rfl
  | false => rw [(he_no hb).2.2] at h; omega
/-- Behind a greeting that was taken the same one, or another, may be told. -/
theorem heB_next {i : Int} {s : VSt} {d e : Int} {ids : List Int} (h : heB i s d ids = true) (he : plB e = true) (hn : ¬ e = i) : heB i (heS i s d ids) e ids = true := by
  obtain ⟨h1, h2, h3, h4, h5⟩ := heB_iff.1 h
  exact heB_iff.2 ⟨he_ok h1 h2 h3 h4, he, hn, h4, h5⟩

/-! ### Greeted by each of some -/
def AllI (s : VSt) (all : List Int) (k : Nat) : Prop := okS 100 s ∧ s.2 = [] ∧ (∀ x, x ∈ nmL s.1 ↔ x ∈ all) ∧ s.1.length = all.length ∧ all.length ≤ k ∧ plsB all = true ∧ ¬ 100 ∈ all
theorem ok_none : okS 100 ([], []) := show vwB 100 [] [] = true by decide +kernel
theorem all_none : AllI ([], []) [] 0 := ⟨ok_none, rfl, fun x => by simp [nmL], rfl, Nat.le_refl _, by decide, by simp⟩
theorem all_skip {s : VSt} {all : List Int} {k : Nat} (h : AllI s all k) : AllI s all (k + 1) := ⟨h.1, h.2.1, h.2.2.1, h.2.2.2.1, by have := h.2.2.2.2.1; omega, h.2.2.2.2.2⟩
theorem all_kn {s : VSt} {all : List Int} {k : Nat} (h : AllI s all k) (x : Int) : Kn s x ↔ x ∈ all := by
  unfold Kn
  rw [h.2.1, h.2.2.1 x]
  simp
theorem all_step {s : VSt} {all : List Int} {k : Nat} {p : Int} (h : AllI s all k) (hk : k < 12) (hp : plB p = true) (hn : ¬ p = 100) :
    heB 100 s p all = true ∧ AllI (heS 100 s p all) (if p ∈ all then all else all ++ [p]) (k + 1) := by
  have hK := all_kn h
  obtain ⟨h1, h2, h3, h4, h5, h6, h7⟩ := h
  have hz : szS s < 16 := by unfold szS; rw [h2, h4]; simp; omega
  have hr : Kn s p ∨ szS s < 16 := .inr hz
  refine ⟨heB_iff.2 ⟨h1, hp, hn, h6, by omega⟩, ?_⟩
  have ok2 := kn_ok h1 hp hn
  have e : heS 100 s p all = knS 100 s p := fo_stay fun x hx => .inr (.inl (kn_mono h1 hp hn ((hK x).2 hx)))
  rw [e]
  have hq : (knS 100 s p).2 = [] := by
    rw [(kn_room h1 hp hn hr).1, h2]
    rfl
  have hs := (kn_room h1 hp hn hr).2.2
  have hnm : ∀ x, x ∈ nmL (knS 100 s p).1 ↔ x ∈ all ∨ x = p := fun x => by
    have := kn_kn h1 hp hn hr x
    rw [hK x] at this
    rw [← this]
    unfold Kn
    rw [hq]
    simp
  have hl : (knS 100 s p).1.length = szS (knS 100 s p) := by unfold szS; rw [hq]; rfl
  have hl0 : szS s = all.length := by unfold szS; rw [h2, h4]; rfl
  by_cases hin : p ∈ all
  · rw [if_pos hin]
    rw [if_pos ((hK p).2 hin)] at hs
    refine ⟨ok2, hq, fun x => ?_, by rw [hl, hs, hl0], by omega, h6, h7⟩
    rw [hnm x]
    constructor
    · rintro (h | h)
      · exact h
      · exact h ▸ hin
    · exact .inl
  · rw [if_neg hin]
    rw [if_neg (fun e => hin ((hK p).1 e))] at hs
    refine ⟨ok2, hq, fun x => ?_, by rw [hl, hs, hl0, List.length_append]; rfl, by rw [List.length_append]; simp; omega, plsB_mk fun x hx => ?_, ?_⟩
    · rw [hnm x, List.mem_append]
      simp
    · rcases List.mem_append.1 hx with h | h
      · exact plsB_mem h6 x h
      · rw [List.mem_singleton.1 h]; exact hp
    · intro h
      rcases List.mem_append.1 h with h | h
      · exact h7 h
      · exact hn (List.mem_singleton.1 h).symm
theorem all_end {s : VSt} {all : List Int} {k : Nat} (h : AllI s all k) (hk : k ≤ 12) :
    heB 100 ([], []) 7 all = true ∧ (∀ x ∈ all, x ∈ nmL (heS 100 ([], []) 7 all).1) ∧ (heS 100 ([], []) 7 all).2 = [] := by
  obtain ⟨-, -, -, -, h5, h6, h7⟩ := h
  have h0 := ok_none
  obtain ⟨-, f2, -, f4⟩ := he_room (d := 7) (ids := all) h0 (by decide) (by decide) h6 (by show 0 + all.length + 1 ≤ 16; omega)
  have hq : (heS 100 ([], []) 7 all).2 = [] := List.eq_nil_iff_forall_not_mem.2 fun x hx => by
    have := ((f2 x).1 hx).1
    cases this
  refine ⟨heB_iff.2 ⟨h0, by decide, by decide, h6, by omega⟩, fun x hx => ?_, hq⟩
  rcases f4 x hx with e | e | e
  · exact absurd (e ▸ hx) h7
  · rw [hq] at e
    cases e
  · exact e

/-! ### A full house -/
def fuP (m : Nat) : List Pe := (List.range m).map fun j : Nat => ⟨10 + (j : Int), 1⟩
theorem fuP_next (m : Nat) : fuP (m + 1) = fuP m ++ [⟨10 + (m : Int), 1⟩] := by simp [fuP, List.range_succ]
theorem fuP_len (m : Nat) : (fuP m).length = m := by simp [fuP]
theorem fu_out : ∀ q : Nat, q < 64 → heB 0 (fuP 14, [5, 6]) (100 + (q : Int)) [200, 5, 12] = true ∧ heS 0 (fuP 14, [5, 6]) (100 + (q : Int)) [200, 5, 12] = (fuP 14, [5, 6]) := by decide +kernel
theorem fu_in : ∀ o : Nat, o < 2 → heB 0 (fuP 14, [5, 6]) (5 + (o : Int)) [200] = true ∧ heS 0 (fuP 14, [5, 6]) (5 + (o : Int)) [200] = (⟨5 + (o : Int), 0⟩ :: fuP 14, [6 - (o : Int)]) := by decide +kernel

end Go.Proofs.Ytagojonjohimfaa
