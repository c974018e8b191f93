
/-
  Lists of messages in memory: a row of eleven cells each, every list of places in a block elsewhere; what stays of them behind other writes.
-/
import Derived.Test.YtghamcomjfholaaMsgMath
import Derived.Test.YtghamcomjfholaaOld
import Derived.Test.YtghamcomjfholaaIntRow
namespace Go.Proofs.Ytghamcomjfholaa
open Go.ChangeShapes Go.WideShapes Go.ChangeAt Go.RowKit

theorem Try.infoMsg : (Try.prog.info? 48).map (fun i => (i.zero, i.size, i.bytes)) = some (some (.agg #[.int .i64 0, .int .i64 0, .int .i64 0, .slice none 0 0, .int .i64 0, .int .i64 0, .int .i64 0, .int .i64 0, .int .i64 0, .bool false, .bool false]), 11, 104) := by kernel_rfl

/-- The plain message; its cells. -/
def MgO.mg (x : MgO) : Mg := ⟨x.n, x.a, x.b, x.is, x.k, x.t, x.h⟩
def MvV (x : MgO) : List Value := [.int .i64 x.n, .int .i64 x.a, .int .i64 x.b, x.v, .int .i64 x.k, .int .i64 x.t.k, .int .i64 x.t.c, .int .i64 x.t.u, .int .i64 x.t.x, .bool x.t.g, .bool x.h]
theorem MvV_len (x : MgO) : (MvV x).length = 11 := rfl

/-- The slice value v reads as the messages ms; all their cells lie in blocks from lo on and below hi. -/
def RowM (lo hi : Nat) (w : World) (v : Value) (ms : List Mg) : Prop :=
  ∃ xs : List MgO, xs.map MgO.mg = ms ∧ RowC 11 MvV lo hi w v xs ∧ ∀ x ∈ xs, RowI lo hi w x.v x.is
theorem RowM.below {lo hi B : Nat} {w w' : World} {v : Value} {ms : List Mg} (h : RowM lo hi w v ms) (hb : Below B w w') (hB : hi ≤ B) : RowM lo hi w' v ms := by
  obtain ⟨xs, e, r, f⟩ := h
  exact ⟨xs, e, r.below hb hB, fun x hx => (f x hx).below hb hB⟩
theorem RowM.wide {lo hi lo' hi' : Nat} {w : World} {v : Value} {ms : List Mg} (h : RowM lo hi w v ms) (h1 : lo' ≤ lo) (h2 : hi ≤ hi') : RowM lo' hi' w v ms := by
  obtain ⟨xs, e, r, f⟩ := h
  exact ⟨xs, e, r.wide h1 h2, fun x hx => (f x hx).wide h1 h2⟩
theorem RowM.alloc {lo hi : Nat} {w : World} {v : Value} {ms : List Mg} (h : RowM lo hi w v ms) (o : Obj) : RowM lo hi (w.alloc o) v ms := by
  obtain ⟨xs, e, r, f⟩ := h
  exact ⟨xs, e, r.alloc o MvV_len, fun x hx => (f x hx).alloc o⟩
theorem RowM.drewN {lo hi : Nat} {w : World} {v : Value} {ms : List Mg} (h : RowM lo hi w v ms) (q : Nat) : RowM lo hi (w.drewN q) v ms := by
  obtain ⟨xs, e, r, f⟩ := h
  exact ⟨xs, e, r.drewN q, fun x hx => (f x hx).drewN q⟩
theorem RowM.nil0 {lo hi : Nat} {w : World} : RowM lo hi w (.slice none 0 0) [] := ⟨[], rfl, RowC.nil0, fun x hx => by cases hx⟩

/-- A message stands in eleven cells from o on; its places lie in a block of their own. -/
def MgAt (lo hi : Nat) (w : World) (b o : Nat) (x : MgO) : Prop :=
  (∀ i, i < 11 → w.cell? ⟨b, o + i, none⟩ = (MvV x)[i]?) ∧ RowI lo hi w x.v x.is
theorem MgAt.below {lo hi B : Nat} {w w' : World} {b o : Nat} {x : MgO} (h : MgAt lo hi w b o x) (hb : Below B w w') (hB : hi ≤ B) (hbB : b < B) : MgAt lo hi w' b o x :=
  ⟨fun i hi' => (hb.cell (p := ⟨b, o + i, none⟩) hbB).trans (h.1 i hi'), h.2.below hb hB⟩
/-- A row of messages as a function of its places. -/
theorem RowM.at {lo hi : Nat} {w : World} {v : Value} {ms : List Mg} (h : RowM lo hi w v ms) :
    ∃ p c, v = .slice p ms.length c ∧ ms.length ≤ 9223372036854775807 ∧ (0 < ms.length → ∃ b off, p = some ⟨b, off, none⟩ ∧ lo ≤ b ∧ b < hi ∧ ∀ j (hj : j < ms.length), ∃ x : MgO, x.mg = ms[j] ∧ MgAt lo hi w b (off + j * 11) x) := by
  obtain ⟨xs, e, ⟨p, cap, rfl, hl, hc, hx⟩, f⟩ := h
  subst e
  unfold maxLen at hc
  refine ⟨p, cap, by rw [List.length_map], by simp; omega, fun h0 => ?_⟩
  obtain ⟨b, off, rfl, h1, h2, h3⟩ := hx (by intro e; simp [e] at h0)
  refine ⟨b, off, rfl, h1, h2, fun j hj => ?_⟩
  have hj' : j < xs.length := by simpa using hj
  refine ⟨xs[j], by simp, fun i hi => ?_, f _ (List.getElem_mem hj')⟩
  have : j * 11 + i < xs.length * 11 := by omega
  rw [Nat.add_assoc, (h3 _ this).1, flat_at MvV_len xs j i hj' hi]

/-- A row of messages of the call's own, every list of places too. -/
def OwnM (base : Nat) (w : World) (v : Value) (ms : List Mg) : Prop :=
  ∃ xs : List MgO, xs.map MgO.mg = ms ∧ w.ownsRow base 48 11 v ms.length (xs.flatMap MvV) ∧ ∀ x ∈ xs, w.ownsRow base 3 1 x.v x.is.length (x.is.map (Value.int .i64))
theorem OwnM.nil0 {base : Nat} {w : World} : OwnM base w (.slice none 0 0) [] := ⟨[], rfl, ⟨rfl, .inl ⟨rfl, rfl⟩⟩, fun x hx => by cases hx⟩
theorem OwnM.row {base : Nat} {w : World} {v : Value} {ms : List Mg} (h : OwnM base w v ms) : RowM base w.heap.size w v ms := by
  obtain ⟨xs, e, r, f⟩ := h
  exact ⟨xs, e, RowC.of_owns (by decide) MvV_len r, fun x hx => RowI.of_owns (f x hx)⟩
theorem OwnM.below {base : Nat} {w w' : World} {v : Value} {ms : List Mg} (h : OwnM base w v ms) (hb : Below w.heap.size w w') : OwnM base w' v ms := by
  obtain ⟨xs, e, r, f⟩ := h
  exact ⟨xs, e, ownsRow_below r hb, fun x hx => ownsRow_below (f x hx) hb⟩
theorem OwnM.alloc {base : Nat} {w : World} {v : Value} {ms : List Mg} (h : OwnM base w v ms) (o : Obj) : OwnM base (w.alloc o) v ms := h.below ((Below.refl _ w).onA o)
theorem OwnM.low {base base' : Nat} {w : World} {v : Value} {ms : List Mg} (h : OwnM base w v ms) (hb : base' ≤ base) : OwnM base' w v ms := by
  have low : ∀ {e : TypeId} {s n : Nat} {v : Value} {xs : List Value}, w.ownsRow base e s v n xs → w.ownsRow base' e s v n xs := fun ⟨h1, h2⟩ => ⟨h1, h2.imp id fun ⟨g, c, cur, a1, a2, a3⟩ => ⟨g, c, cur, a1, Nat.le_trans hb a2, a3⟩⟩
  obtain ⟨xs, e, r, f⟩ := h
  exact ⟨xs, e, low r, fun x hx => low (f x hx)⟩
/-- Rows of two types lie in two blocks. -/
theorem apart_own {w : World} {b1 b2 : Nat} {e1 e2 : TypeId} {s1 s2 n k : Nat} {v u : Value} {xs ys : List Value} (h1 : w.ownsRow b1 e1 s1 v n xs) (h2 : w.ownsRow b2 e2 s2 u k ys) (he : e1 ≠ e2) : v.ownBlock = none ∨ v.ownBlock ≠ u.ownBlock := by
  rcases h1.2 with ⟨rfl, _⟩ | ⟨g1, c1, cur1, rfl, _, hh1, _⟩
  · exact .inl rfl
  · right
    intro e
    rcases h2.2 with ⟨rfl, _⟩ | ⟨g2, c2, cur2, rfl, _, hh2, _⟩
    · cases e
    · cases e
      rw [hh1] at hh2
      cases hh2
      exact he rfl
theorem own_sliceM {w : World} {base n s : Nat} {e : TypeId} {v : Value} {xs : List Value} (h : w.ownsRow base e s v n xs) : ∃ p c, v = .slice p n c := by
  rcases h.2 with ⟨rfl, e⟩ | ⟨g, c, cur, rfl, _⟩
  · exact ⟨none, 0, by rw [e]⟩
  · exact ⟨_, c, rfl⟩
theorem OwnM.cap {base : Nat} {w : World} {v : Value} {ms : List Mg} (h : OwnM base w v ms) : ∃ p c, v = .slice p ms.length c := by
  obtain ⟨xs, -, r, -⟩ := h
  exact own_sliceM r
theorem MvV_one {w : World} {base n : Nat} (x : MgO) (h : w.ownsRow base 3 1 x.v n (x.is.map (Value.int .i64))) : ∀ u ∈ MvV x, u.oneCell' = true := by
  obtain ⟨p, c, e⟩ := own_sliceM h
  intro u hu
  simp only [MvV, List.mem_cons, List.not_mem_nil, or_false] at hu
  rcases hu with rfl | rfl | rfl | rfl | rfl | rfl | rfl | rfl | rfl | rfl | rfl
  all_goals first | rfl | (rw [e]; rfl)

/-- What stands in a row of the call's own. -/
theorem OwnM.at {base : Nat} {w : World} {v : Value} {ms : List Mg} (h : OwnM base w v ms) (hne : 0 < ms.length) :
    ∃ (g c : Nat) (xs : List MgO), v = .slice (some ⟨g, 0, none⟩) ms.length c ∧ ms.length ≤ c ∧ base ≤ g ∧ g < w.heap.size ∧ xs.map MgO.mg = ms ∧ (∀ j, j < ms.length * 11 → w.cell? ⟨g, j, none⟩ = (xs.flatMap MvV)[j]?) ∧ ∀ x ∈ xs, w.ownsRow base 3 1 x.v x.is.length (x.is.map (Value.int .i64)) := by
  obtain ⟨xs, e, r, f⟩ := h
  have r0 := r
  obtain ⟨h1, h2⟩ := r
  rcases h2 with ⟨-, h2⟩ | ⟨g, c, cur, rfl, hg, hh, hle, -⟩
  · omega
  · exact ⟨g, c, xs, rfl, hle, hg, (r0.lt g rfl).2, e, fun j hj => r0.cellAt j hj, f⟩
end Go.Proofs.Ytghamcomjfholaa

namespace Go.Proofs.Ytghamcomjfholaa
open Go.ChangeShapes Go.WideShapes Go.ChangeAt Go.RowKit

theorem app_msgs2 {w : World} {ops : Array Oper} {rest : List Oper} {o : Oper} {a : Act} {Q : Exit → Act → World → Prop} (hgd : o.guard = none) (s x : Operand)
    (ho : o.op = .call { callee := .builtin .append, args := #[s, x], argTypes := #[37, 37] }) (base : Nat) (v : Value) (ms : List Mg) (hs : a.eval s = v)
    (hown : OwnM base w v ms) (ad : Addr) (m c : Nat) (ys : List MgO) (hx : a.eval x = .slice (some ad) m c) (hl : ys.length = m)
    (hnews : ∀ j, j < m * 11 → w.cell? (ad.add j) = (ys.flatMap MvV)[j]?) (hi : ∀ y ∈ ys, w.ownsRow base 3 1 y.v y.is.length (y.is.map (Value.int .i64))) (hb : (ms.length + m) * 104 ≤ 140737488355328) (hbase : base ≤ w.heap.size)
    (h : ∀ v' w', OwnM base w' v' (ms ++ ys.map MgO.mg) → w.grownBy w' v.ownBlock → Below base w w' → (v'.ownBlock = v.ownBlock ∨ ∃ g, v'.ownBlock = some g ∧ w.heap.size ≤ g) → wpList Try.prog ops Q rest (a.put o.dst v') w') :
    wpList Try.prog ops Q (o :: rest) a w := by
  obtain ⟨i0, hi0, hz0, hz1, hz2⟩ := info_parts Try.infoMsg
  obtain ⟨xs, e, r, f⟩ := hown
  have hln : (ys.flatMap MvV).length = m * 11 := by rw [flat_len MvV_len, hl]
  have hn1 : ∀ j u, (ys.flatMap MvV)[j]? = some u → w.cell? (ad.add j) = some u := by
    intro j u hj
    have hjl : j < (ys.flatMap MvV).length := (List.getElem?_eq_some_iff.1 hj).1
    rw [hnews j (by omega), hj]
  have hn2 : ∀ u ∈ ys.flatMap MvV, u.oneCell' = true := by
    intro u hu
    obtain ⟨y, hy, hu'⟩ := List.mem_flatMap.1 hu
    exact MvV_one y (hi y hy) u hu'
  have fin : ∀ v' w', w'.ownsRow base 48 11 v' (ms.length + m) (xs.flatMap MvV ++ ys.flatMap MvV) → w.grownBy w' v.ownBlock → (v'.ownBlock = v.ownBlock ∨ ∃ g, v'.ownBlock = some g ∧ w.heap.size ≤ g) → wpList Try.prog ops Q rest (a.put o.dst v') w' := by
    intro v' w' h1 h2 h3
    refine h v' w' ⟨xs ++ ys, by rw [List.map_append, e], ?_, fun x hx => ?_⟩ h2 ((Below.refl base w).grown h2 hbase (fun j hj => (r.lt j hj).1)) h3
    · rw [List.length_append, List.length_map, hl, List.flatMap_append]
      exact h1
    · have o' : w.ownsRow base 3 1 x.v x.is.length (x.is.map (Value.int .i64)) := by
        rcases List.mem_append.1 hx with hx | hx
        · exact f x hx
        · exact hi x hx
      exact o'.kept h2 (apart_own o' r (by decide))
  have hgrows : ∀ (ao : Option Addr) (cap : Nat), v = .slice ao ms.length cap → (ao = none → ms.length = 0 ∧ cap = 0) → (∀ b, ao = some b → ∀ j u, (xs.flatMap MvV)[j]? = some u → w.cell? (b.add j) = some u) → cap < ms.length + m →
      wpList Try.prog ops Q (o :: rest) a w := by
    intro ao cap hv hnone holds hfull
    refine wpList_append_grows w hgd s x 37 ho 48 i0 _ 11 104 Try.underlying37 hi0 hz0 hz1 hz2 rfl (by decide) ao ms.length cap (xs.flatMap MvV) (hs.trans hv) hnone r.1 holds ad m c _ hx hln hn1 hn2 hfull (by unfold maxLen; omega) hb ?_
    intro v' w' hown' hgr
    refine fin v' w' ?_ ⟨hgr.os, hgr.tape, hgr.output, hgr.size, fun k hk _ => hgr.block k hk (by simp)⟩ ?_
    · obtain ⟨e1, e2⟩ := hown'
      refine ⟨e1, ?_⟩
      rcases e2 with e2 | ⟨g, cp, cur, e3, e4, e5⟩
      · exact .inl e2
      · exact .inr ⟨g, cp, cur, e3, by omega, e5⟩
    · right
      rcases hown'.2 with ⟨_, e2⟩ | ⟨g, cp, cur, rfl, e4, _⟩
      · omega
      · exact ⟨g, rfl, e4⟩
  rcases r.2 with ⟨hv, hn⟩ | ⟨g, cap, cur, hv, hg, hh, hle, hcap, hsz, htk⟩
  · by_cases hm : m = 0
    · subst hm
      refine wpList_append_own _ hgd s x 37 ho base 48 i0 _ 11 104 Try.underlying37 hi0 hz0 hz1 hz2 rfl (by decide) v ms.length _ hs r ad 0 c (ys.flatMap MvV) hx hln hn1 hn2 (by unfold maxLen; omega) hb hbase ?_
      intro v' w' h1 h2 h3
      exact fin v' w' h1 h2 (.inl (by rw [h3.2 ⟨hv, rfl⟩, hv]))
    · exact hgrows none 0 (by rw [hn]; exact hv) (fun _ => ⟨hn, rfl⟩) (fun b hb => by cases hb) (by omega)
  · by_cases hfit : ms.length + m ≤ cap
    · subst hv
      refine wpList_append_fits w hgd s x 37 ho base 48 i0 11 Try.underlying37 hi0 hz1 g ms.length cap _ hs r ad m c _ hx hln hn1 hn2 hfit ?_
      intro w' hown' hgr
      exact fin _ w' hown' hgr (.inl rfl)
    · refine hgrows (some ⟨g, 0, none⟩) cap hv (fun h => by cases h) ?_ (by omega)
      intro b hb j u hj
      cases hb
      subst hv
      exact r.cells rfl j u hj

/-- The same, in a region that draws its order. -/
theorem step_msgs {ops : Array Oper} {o : Oper} {a : Act} {w : World} {K : Act → World → Prop} {Q : Exit → Act → World → Prop} {E : Prop} (hg : o.guard = none) (s x : Operand)
    (hop : o.op = .call { callee := .builtin .append, args := #[s, x], argTypes := #[37, 37] }) (base : Nat) (v : Value) (ms : List Mg) (hs : a.eval s = v)
    (hown : OwnM base w v ms) (ad : Addr) (m c : Nat) (ys : List MgO) (hx : a.eval x = .slice (some ad) m c) (hl : ys.length = m)
    (hnews : ∀ j, j < m * 11 → w.cell? (ad.add j) = (ys.flatMap MvV)[j]?) (hi : ∀ y ∈ ys, w.ownsRow base 3 1 y.v y.is.length (y.is.map (Value.int .i64))) (hb : (ms.length + m) * 104 ≤ 140737488355328) (hbase : base ≤ w.heap.size)
    (hK : ∀ v' w', OwnM base w' v' (ms ++ ys.map MgO.mg) → Below base w w' → K (a.put o.dst v') w') :
    if Region.wanted o (yielded ops a.tmps) = true then Oper.wp Try.prog o a w K Q else E := by
  have hw : Region.wanted o (yielded ops a.tmps) = true := by simp [Region.wanted, hg]
  rw [if_pos hw]
  obtain ⟨i0, hi0, hz0, hz1, hz2⟩ := info_parts Try.infoMsg
  obtain ⟨xs, e, r, f⟩ := hown
  have hln : (ys.flatMap MvV).length = m * 11 := by rw [flat_len MvV_len, hl]
  obtain ⟨v', w', hrun, r1, r2, _⟩ := run_append_own (P := Try.prog) w base 37 o.type 48 i0 _ 11 104 Try.underlying37 hi0 hz0 hz1 hz2 rfl (by decide) v ms.length _ r ad m c (ys.flatMap MvV) hln (fun j u hj => by
      have hjl : j < (ys.flatMap MvV).length := (List.getElem?_eq_some_iff.1 hj).1
      rw [hnews j (by omega), hj]) (fun u hu => by
      obtain ⟨y, hy, hu'⟩ := List.mem_flatMap.1 hu
      exact MvV_one y (hi y hy) u hu') (by unfold maxLen; omega) hb hbase
  unfold Oper.wp
  simp [execOp, hop, resolve, invoke, builtin, hs, hx, hrun, Result.andThen]
  refine hK v' w' ⟨xs ++ ys, by rw [List.map_append, e], ?_, fun x hx => ?_⟩ ((Below.refl base w).grown r2 hbase (fun j hj => (r.lt j hj).1))
  · rw [List.length_append, List.length_map, hl, List.flatMap_append]
    exact r1
  · have o' : w.ownsRow base 3 1 x.v x.is.length (x.is.map (Value.int .i64)) := by
      rcases List.mem_append.1 hx with hx | hx
      · exact f x hx
      · exact hi x hx
    exact o'.kept r2 (apart_own o' r (by decide))

/-- A message just built, as cells. -/
theorem lit_mv {w : World} {b : Nat} {cs : Array Value} (x : MgO) (hc : cs.toList = MvV x) (hb : b = w.heap.size) : ∀ j, j < 1 * 11 → (w.alloc (.cells cs 48)).cell? ((⟨b, 0, none⟩ : Addr).add j) = (([x] : List MgO).flatMap MvV)[j]? := fun j _ => by
  rw [add_plain, Nat.zero_add]
  refine ((Box.newAt _ _ hb).2.1 j).trans ?_
  rw [List.flatMap_cons, List.flatMap_nil, List.append_nil, ← hc, Array.getElem?_toList]

theorem lit_none {w : World} {base : Nat} {n a d k : Int} {z : It} {h : Bool} {y : MgO} (hy : y ∈ ([⟨n, a, d, [], k, z, h, .slice none 0 0⟩] : List MgO)) : w.ownsRow base 3 1 y.v y.is.length (y.is.map (Value.int .i64)) := by
  rw [List.mem_singleton.1 hy]
  exact ⟨rfl, .inl ⟨rfl, rfl⟩⟩

theorem OwnM.setLow {base : Nat} {w : World} {v : Value} {ms : List Mg} (h : OwnM base w v ms) {b : Nat} (hb : b < base) (o : Nat) (y : Value) : OwnM base (w.setCell ⟨b, o, none⟩ y) v ms := by
  obtain ⟨xs, e, r, f⟩ := h
  exact ⟨xs, e, ownsRow_setCell_below (a := ⟨b, o, none⟩) r hb y, fun x hx => ownsRow_setCell_below (a := ⟨b, o, none⟩) (f x hx) hb y⟩

end Go.Proofs.Ytghamcomjfholaa
