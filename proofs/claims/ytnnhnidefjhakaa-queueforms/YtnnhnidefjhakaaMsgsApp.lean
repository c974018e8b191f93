
/-
  'append' onto a row of messages of the call's own, and where the new row lies.
-/
import Derived.Test.YtnnhnidefjhakaaMsgsMem
import Derived.Test.YtnnhnidefjhakaaLaw0
namespace Go.Proofs.Ytnnhnidefjhakaa
open Go.ChangeShapes Go.WideShapes Go.ChangeAt Go.RowKit

theorem app_msgs2 {w : World} {ops : Array Oper} {rest : List Oper} {o : Oper} {a : Act} {Q : Exit → Act → World → Prop} (hgd : o.guard = none) (s x : Operand)
    (ho : o.op = .call { callee := .builtin .append, args := #[s, x], argTypes := #[22, 22] }) (base : Nat) (v : Value) (ms : List Mg) (hs : a.eval s = v)
    (hown : OwnM base w v ms) (ad : Addr) (m c : Nat) (ys : List MgO) (hx : a.eval x = .slice (some ad) m c) (hl : ys.length = m)
    (hnews : ∀ j, j < m * 11 → w.cell? (ad.add j) = (ys.flatMap MvV)[j]?) (hi : ∀ y ∈ ys, w.ownsRow base 3 1 y.v y.is.length (y.is.map (Value.int .i64))) (hb : (ms.length + m) * 104 ≤ 140737488355328) (hbase : base ≤ w.heap.size)
    (h : ∀ v' w', OwnM base w' v' (ms ++ ys.map MgO.mg) → w.grownBy w' v.ownBlock → Below base w w' → (v'.ownBlock = v.ownBlock ∨ ∃ g, v'.ownBlock = some g ∧ w.heap.size ≤ g) → wpList Try.prog ops Q rest (a.put o.dst v') w') :
    wpList Try.prog ops Q (o :: rest) a w := by
  obtain ⟨i0, hi0, hz0, hz1, hz2⟩ := info_parts Try.infoMsg
  obtain ⟨xs, e, r, f⟩ := hown
  have hln : (ys.flatMap MvV).length = m * 11 := by rw [flat_len MvV_len, hl]
  have hn1 : ∀ j u, (ys.flatMap MvV)[j]? = some u → w.cell? (ad.add j) = some u := by
    intro j u hj
    have hjl : j < (ys.flatMap MvV).length := (List.getElem?_eq_some_iff.1 hj).1
    rw [hnews j (by omega), hj]
  have hn2 : ∀ u ∈ ys.flatMap MvV, u.oneCell' = true := by
    intro u hu
    obtain ⟨y, hy, hu'⟩ := List.mem_flatMap.1 hu
    exact MvV_one y (hi y hy) u hu'
  have fin : ∀ v' w', w'.ownsRow base 29 11 v' (ms.length + m) (xs.flatMap MvV ++ ys.flatMap MvV) → w.grownBy w' v.ownBlock → (v'.ownBlock = v.ownBlock ∨ ∃ g, v'.ownBlock = some g ∧ w.heap.size ≤ g) → wpList Try.prog ops Q rest (a.put o.dst v') w' := by
    intro v' w' h1 h2 h3
    refine h v' w' ⟨xs ++ ys, by rw [List.map_append, e], ?_, fun x hx => ?_⟩ h2 ((Below.refl base w).grown h2 hbase (fun j hj => (r.lt j hj).1)) h3
    · rw [List.length_append, List.length_map, hl, List.flatMap_append]
      exact h1
    · have o' : w.ownsRow base 3 1 x.v x.is.length (x.is.map (Value.int .i64)) := by
        rcases List.mem_append.1 hx with hx | hx
        · exact f x hx
        · exact hi x hx
      exact o'.kept h2 (apart_own o' r (by decide))
  have hgrows : ∀ (ao : Option Addr) (cap : Nat), v = .slice ao ms.length cap → (ao = none → ms.length = 0 ∧ cap = 0) → (∀ b, ao = some b → ∀ j u, (xs.flatMap MvV)[j]? = some u → w.cell? (b.add j) = some u) → cap < ms.length + m →
      wpList Try.prog ops Q (o :: rest) a w := by
    intro ao cap hv hnone holds hfull
    refine wpList_append_grows w hgd s x 22 ho 29 i0 _ 11 104 Try.underlying22 hi0 hz0 hz1 hz2 rfl (by decide) ao ms.length cap (xs.flatMap MvV) (hs.trans hv) hnone r.1 holds ad m c _ hx hln hn1 hn2 hfull (by unfold maxLen; omega) hb ?_
    intro v' w' hown' hgr
    refine fin v' w' ?_ ⟨hgr.os, hgr.tape, hgr.output, hgr.size, fun k hk _ => hgr.block k hk (by simp)⟩ ?_
    · obtain ⟨e1, e2⟩ := hown'
      refine ⟨e1, ?_⟩
      rcases e2 with e2 | ⟨g, cp, cur, e3, e4, e5⟩
      · exact .inl e2
      · exact .inr ⟨g, cp, cur, e3, by omega, e5⟩
    · right
      rcases hown'.2 with ⟨_, e2⟩ | ⟨g, cp, cur, rfl, e4, _⟩
      · omega
      · exact ⟨g, rfl, e4⟩
  rcases r.2 with ⟨hv, hn⟩ | ⟨g, cap, cur, hv, hg, hh, hle, hcap, hsz, htk⟩
  · by_cases hm : m = 0
    · subst hm
      refine wpList_append_own _ hgd s x 22 ho base 29 i0 _ 11 104 Try.underlying22 hi0 hz0 hz1 hz2 rfl (by decide) v ms.length _ hs r ad 0 c (ys.flatMap MvV) hx hln hn1 hn2 (by unfold maxLen; omega) hb hbase ?_
      intro v' w' h1 h2 h3
      exact fin v' w' h1 h2 (.inl (by rw [h3.2 ⟨hv, rfl⟩, hv]))
    · exact hgrows none 0 (by rw [hn]; exact hv) (fun _ => ⟨hn, rfl⟩) (fun b hb => by cases hb) (by omega)
  · by_cases hfit : ms.length + m ≤ cap
    · subst hv
      refine wpList_append_fits w hgd s x 22 ho base 29 i0 11 Try.underlying22 hi0 hz1 g ms.length cap _ hs r ad m c _ hx hln hn1 hn2 hfit ?_
      intro w' hown' hgr
      exact fin _ w' hown' hgr (.inl rfl)
    · refine hgrows (some ⟨g, 0, none⟩) cap hv (fun h => by cases h) ?_ (by omega)
      intro b hb j u hj
      cases hb
      subst hv
      exact r.cells rfl j u hj

theorem Box.grownO {w w' : World} {x : Nat} {row : Option Nat} {xs : Array Value} (h : Box w x xs) (hg : w.grownBy w' row) (hn : row ≠ some x) : Box w' x xs :=
  ⟨Nat.lt_of_lt_of_le h.1 hg.size, fun o => (World.cell?_of_block (w := w) (hg.block x h.1 (fun e => hn e.symm))).trans (h.2.1 o),
   fun o => (World.frozen?_of_block (w := w) (hg.block x h.1 (fun e => hn e.symm))).trans (h.2.2 o)⟩

theorem OwnM.setLow {base : Nat} {w : World} {v : Value} {ms : List Mg} (h : OwnM base w v ms) {b : Nat} (hb : b < base) (o : Nat) (y : Value) : OwnM base (w.setCell ⟨b, o, none⟩ y) v ms := by
  obtain ⟨xs, e, r, f⟩ := h
  exact ⟨xs, e, ownsRow_setCell_below (a := ⟨b, o, none⟩) r hb y, fun x hx => ownsRow_setCell_below (a := ⟨b, o, none⟩) (f x hx) hb y⟩

end Go.Proofs.Ytnnhnidefjhakaa
