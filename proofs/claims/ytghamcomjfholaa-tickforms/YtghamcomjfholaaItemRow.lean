
/-
  Views in memory, and contracts of the statements' own helpers on them (copying, comparing).
-/
import Derived.Test.YtghamcomjfholaaIntRow
import Derived.Test.YtghamcomjfholaaPeerRow
import Derived.Test.YtghamcomjfholaaOld
import Derived.Test.YtghamcomjfholaaRows
namespace Go.Proofs.Ytghamcomjfholaa
open Go.ChangeShapes Go.WideShapes Go.ChangeAt Go.RowKit

/-- The two lists of a view. -/
structure VwAt (lo hi : Nat) (w : World) (p q : Value) (ps : List Pe) (is : List Int) : Prop where
  ps : RowP lo hi w p ps
  is : RowI lo hi w q is
theorem VwAt.below {lo hi B : Nat} {w w' : World} {p q : Value} {ps : List Pe} {is : List Int} (h : VwAt lo hi w p q ps is) (hb : Below B w w') (hB : hi ≤ B) : VwAt lo hi w' p q ps is := ⟨h.ps.below hb hB, h.is.below hb hB⟩
theorem VwAt.wide {lo hi lo' hi' : Nat} {w : World} {p q : Value} {ps : List Pe} {is : List Int} (h : VwAt lo hi w p q ps is) (h1 : lo' ≤ lo) (h2 : hi ≤ hi') : VwAt lo' hi' w p q ps is := ⟨h.ps.wide h1 h2, h.is.wide h1 h2⟩
theorem VwAt.alloc {lo hi : Nat} {w : World} {p q : Value} {ps : List Pe} {is : List Int} (h : VwAt lo hi w p q ps is) (o : Obj) : VwAt lo hi (w.alloc o) p q ps is := ⟨h.ps.alloc o PeV_len, h.is.alloc o⟩
theorem VwAt.drewN {lo hi : Nat} {w : World} {p q : Value} {ps : List Pe} {is : List Int} (h : VwAt lo hi w p q ps is) (n : Nat) : VwAt lo hi (w.drewN n) p q ps is := ⟨h.ps.drewN n, h.is.drewN n⟩
/-- The two lists of a view that was made: in new memory, each in blocks of its own. -/
structure VwNew (base : Nat) (w : World) (p q : Value) (ps : List Pe) (is : List Int) : Prop where
  out : ∃ lo1 hi1 lo2 hi2, RowP lo1 hi1 w p ps ∧ RowI lo2 hi2 w q is ∧ base ≤ lo1 ∧ hi1 ≤ w.heap.size ∧ base ≤ lo2 ∧ hi2 ≤ w.heap.size ∧ (hi1 ≤ lo2 ∨ hi2 ≤ lo1)
theorem VwNew.at {base : Nat} {w : World} {p q : Value} {ps : List Pe} {is : List Int} (h : VwNew base w p q ps is) : VwAt base w.heap.size w p q ps is := by
  obtain ⟨lo1, hi1, lo2, hi2, P, Q, h1, h2, h3, h4, -⟩ := h.out
  exact ⟨P.wide h1 h2, Q.wide h3 h4⟩
theorem VwNew.nil (base : Nat) (w : World) : VwNew base w (.slice none 0 0) (.slice none 0 0) [] [] :=
  ⟨base, 0, base, 0, RowC.nil0, RowI.nil0, Nat.le_refl _, Nat.zero_le _, Nat.le_refl _, Nat.zero_le _, .inl (Nat.zero_le _)⟩
theorem VwNew.below {base : Nat} {w w' : World} {p q : Value} {ps : List Pe} {is : List Int} (h : VwNew base w p q ps is) (hb : Below w.heap.size w w') : VwNew base w' p q ps is := by
  obtain ⟨lo1, hi1, lo2, hi2, P, Q, h1, h2, h3, h4, h5⟩ := h.out
  exact ⟨lo1, hi1, lo2, hi2, P.below hb h2, Q.below hb h4, h1, Nat.le_trans h2 hb.size, h3, Nat.le_trans h4 hb.size, h5⟩
theorem VwNew.down {base base' : Nat} {w : World} {p q : Value} {ps : List Pe} {is : List Int} (h : VwNew base w p q ps is) (hb : base' ≤ base) : VwNew base' w p q ps is := by
  obtain ⟨lo1, hi1, lo2, hi2, P, Q, h1, h2, h3, h4, h5⟩ := h.out
  exact ⟨lo1, hi1, lo2, hi2, P, Q, by omega, h2, by omega, h4, h5⟩
theorem VwAt.shape {lo hi : Nat} {w : World} {p q : Value} {ps : List Pe} {is : List Int} (h : VwAt lo hi w p q ps is) :
    ∃ a c a' c', p = .slice a ps.length c ∧ q = .slice a' is.length c' ∧ ps.length ≤ 9223372036854775807 ∧ is.length ≤ 9223372036854775807 := by
  obtain ⟨a, c, rfl, hl, hc, -⟩ := h.ps
  obtain ⟨a', c', rfl, hl', hc', -⟩ := h.is
  unfold maxLen at hc hc'
  exact ⟨a, c, a', c', rfl, rfl, by omega, by omega⟩

set_option maxHeartbeats 400000 in
theorem sameView_same {lo hi lo' hi' : Nat} {w : World} {p q p' q' : Value} {ps : List Pe} {is : List Int} (i : Int) (h : VwAt lo hi w p q ps is) (h' : VwAt lo' hi' w p' q' ps is) (hh : hi ≤ w.heap.size) (hh' : hi' ≤ w.heap.size) :
    Calls Try.prog 24 #[.agg #[.int .i64 i, p, q], .agg #[.int .i64 i, p', q']] w fun e w' => e = .returned (.bool true) ∧ Below w.heap.size w w' := by
  have S1 := fun (o1 o2 : Obj) => sameP_at ((h.ps.alloc o1 PeV_len).alloc o2 PeV_len) ((h'.ps.alloc o1 PeV_len).alloc o2 PeV_len) (b := true) (by simp)
  have S2 := fun (o1 o2 : Obj) (w1 : World) (hb : Below ((w.alloc o1).alloc o2).heap.size ((w.alloc o1).alloc o2) w1) =>
    sameI_at (((h.is.alloc o1).alloc o2).below hb (by simp; omega)) (((h'.is.alloc o1).alloc o2).below hb (by simp; omega)) (b := true) (by simp)
  obtain ⟨a, c, a', c', rfl, rfl, -, -⟩ := h.shape
  obtain ⟨b, d, b', d', rfl, rfl, -, -⟩ := h'.shape
  have B1 := toHid (fun (o : Obj) (cs : Array Value) (t : TypeId) => ((Box.new w cs t).alloc o))
  have C1 := toHid (fun (o : Obj) (cs : Array Value) (t : TypeId) => (Box.new1 w o cs t))
  clear h h' hh hh'
  replace S2 := toHid S2
  go_enter Try.func24, Try.ntmps24
  go_wp2_with (first
    | (go_at_call 43; refine (S1 _ _).mono ?_; rintro e w1 ⟨rfl, h1⟩
       obtain ⟨b1, b2, b3⟩ := (B1.out _ _ _).below h1
       obtain ⟨d1, d2, d3⟩ := (C1.out _ _ _).below h1)
    | (go_at_call 15; refine (S2.out _ _ _ h1).mono ?_; rintro e w2 ⟨rfl, h2⟩))
  go_ret
  exact ⟨rfl, (((((Below.refl _ w).onA _).onA _).on h1).on h2)⟩

end Go.Proofs.Ytghamcomjfholaa

namespace Go.Proofs.Ytghamcomjfholaa
open Go.ChangeShapes Go.WideShapes Go.ChangeAt Go.RowKit

set_option maxHeartbeats 1000000 in
theorem sameItems_core (p p' : Option Addr) (n c c' : Nat) (g h : Nat → It) (w : World) (hn : n ≤ 9223372036854775807)
    (hp : 0 < n → ∃ b off, p = some ⟨b, off, none⟩ ∧ ∀ j, j < n → ItAt w b (off + j * 5) (g j))
    (hp' : 0 < n → ∃ b off, p' = some ⟨b, off, none⟩ ∧ ∀ j, j < n → ItAt w b (off + j * 5) (h j))
    (r : Bool) (hr : r = true ↔ ∀ j, j < n → g j = h j) :
    Calls Try.prog 16 #[.slice p n c, .slice p' n c'] w fun e w' => e = .returned (.bool r) ∧ ∃ q, w' = w.drewN q := by
  go_enter Try.func16, Try.ntmps16
  go_wp2
  go_loopw [5] (fun i wr => ∃ k q : Nat, k ≤ n ∧ i = .int .i64 k ∧ (∀ j, j < k → g j = h j) ∧ wr = w.drewN q) (fun i _ => n - (intOf i).toNat)
  case atStart => exact ⟨0, 0, Nat.zero_le _, rfl, fun j hj => absurd hj (Nat.not_lt_zero _), rfl⟩
  case round =>
    obtain ⟨k, q, hk, rfl, hj, rfl⟩ := hrel
    by_cases hlt : k < n
    · obtain ⟨b, off, rfl, h1⟩ := hp (by omega)
      obtain ⟨b', off', rfl, h2⟩ := hp' (by omega)
      obtain ⟨c1, c2, c3, c4, c5⟩ := h1 k hlt
      obtain ⟨d1, d2, d3, d4, d5⟩ := h2 k hlt
      have hlt' : (k : Int) < (n : Int) := by omega
      clear h1 h2 hp hp'
      by_cases he : g k = h k
      · have hj' : ∀ j, j < k + 1 → g j = h j := fun j hjk => by
          by_cases e : j = k
          · rw [e]; exact he
          · exact hj j (by omega)
        clear hj hr
        rw [← he] at d1 d2 d3 d4 d5
        clear he
        generalize g k = z at *
        go_wp2
        go_quiet (fail)
        go_wp2
        go_roundw
        case rel => exact ⟨k + 1, q + nq, by omega, by go_num, hj', rfl⟩
        case measure => simp [intOf]; omega
      · have hrf : r = false := by
          cases r with
          | false => rfl
          | true => exact absurd (hr.1 rfl k hlt) he
        subst hrf
        clear hj hr
        generalize g k = z at *
        generalize h k = y at *
        obtain ⟨zk, zc, zu, zx, zg⟩ := z
        obtain ⟨yk, yc, yu, yx, yg⟩ := y
        dsimp only at c1 c2 c3 c4 c5 d1 d2 d3 d4 d5
        rcases It.ne he with hd | ⟨rfl, hd⟩ | ⟨rfl, rfl, hd⟩ | ⟨rfl, rfl, rfl, hd⟩ | ⟨rfl, rfl, rfl, rfl, hd⟩
        all_goals
          clear he
          go_wp2
          go_quiet (fail)
          go_wp2
          go_ret
          exact ⟨rfl, q + nq, by rw [World.drewN_drewN]⟩
    · have hrt : r = true := hr.2 fun j hjn => hj j (by omega)
      subst hrt
      go_wp2
      go_ret
      exact ⟨rfl, q, rfl⟩

theorem sameItems_any {lo hi lo' hi' : Nat} {w : World} {v u : Value} {xs ys : List It} (hx : RowT lo hi w v xs) (hy : RowT lo' hi' w u ys) :
    Calls Try.prog 16 #[v, u] w fun e w' => e = .returned (.bool (decide (xs = ys))) ∧ ∃ q, w' = w.drewN q := by
  obtain ⟨p, c, rfl, hl, hc, hpx⟩ := hx
  obtain ⟨p', c', rfl, hl', hc', hpy⟩ := hy
  unfold maxLen at hc hc'
  by_cases hne : xs.length = ys.length
  · rw [← hne]
    refine sameItems_core p p' xs.length c c' (fun j => xs.getD j ⟨0, 0, 0, 0, false⟩) (fun j => ys.getD j ⟨0, 0, 0, 0, false⟩) w (by omega) ?_ ?_ _ ?_
    · intro h0
      obtain ⟨b, off, rfl, _, _, h3⟩ := hpx (by intro e; simp [e] at h0)
      refine ⟨b, off, rfl, fun j hj => ?_⟩
      have := itsAt h3 j hj
      simpa [List.getD, List.getElem?_eq_getElem hj] using this
    · intro h0
      obtain ⟨b, off, rfl, _, _, h3⟩ := hpy (by intro e; rw [hne, e] at h0; simp at h0)
      refine ⟨b, off, rfl, fun j hj => ?_⟩
      have hj' : j < ys.length := by omega
      have := itsAt h3 j hj'
      simpa [List.getD, List.getElem?_eq_getElem hj'] using this
    · rw [decide_eq_true_iff]
      constructor
      · intro e j _; rw [e]
      · intro e
        apply List.ext_getElem hne
        intro j h1 h2
        have := e j h1
        simpa [List.getD, List.getElem?_eq_getElem h1, List.getElem?_eq_getElem h2] using this
  · have e : decide (xs = ys) = false := by
      rw [decide_eq_false_iff_not]; intro e; rw [e] at hne; exact hne rfl
    rw [e]
    have hn' : ¬ ((xs.length : Int) = (ys.length : Int)) := by omega
    generalize xs.length = n at *
    generalize ys.length = m at *
    clear e hpx hpy hne
    go_enter Try.func16, Try.ntmps16
    go_wp2
    go_ret
    exact ⟨rfl, 0, rfl⟩

theorem Try.infoIt : (Try.prog.info? 35).map (fun i => (i.zero, i.size, i.bytes)) = some (some (.agg #[.int .i64 0, .int .i64 0, .int .i64 0, .int .i64 0, .bool false]), 5, 40) := by kernel_rfl
theorem ItV_one (i : It) : ∀ u ∈ ItV i, u.oneCell' = true := by
  intro u hu
  simp [ItV] at hu
  rcases hu with rfl | rfl | rfl | rfl | rfl <;> rfl

/-- 'append' onto a row of the call's own, of items. -/
theorem app_its {w : World} {ops : Array Oper} {rest : List Oper} {o : Oper} {a : Act} {Q : Exit → Act → World → Prop} (hgd : o.guard = none) (s x : Operand)
    (ho : o.op = .call { callee := .builtin .append, args := #[s, x], argTypes := #[27, 27] }) (base : Nat) (v : Value) (n : Nat) (zs : List It) (hs : a.eval s = v)
    (hown : w.ownsRow base 35 5 v n (zs.flatMap ItV)) (ad : Addr) (m c : Nat) (news : List It) (hx : a.eval x = .slice (some ad) m c) (hl : news.length = m)
    (hnews : ∀ j, j < m * 5 → w.cell? (ad.add j) = (news.flatMap ItV)[j]?) (hb : (n + m) * 40 ≤ 140737488355328) (hbase : base ≤ w.heap.size)
    (h : ∀ v' w', w'.ownsRow base 35 5 v' (n + m) ((zs ++ news).flatMap ItV) → w.grownBy w' v.ownBlock → Below base w w' → wpList Try.prog ops Q rest (a.put o.dst v') w') :
    wpList Try.prog ops Q (o :: rest) a w := by
  obtain ⟨i0, hi, hz0, hz1, hz2⟩ := info_parts Try.infoIt
  have hln : (news.flatMap ItV).length = m * 5 := by rw [flat_len ItV_len, hl]
  refine wpList_append_own _ hgd s x 27 ho base 35 i0 _ 5 40 Try.underlying27 hi hz0 hz1 hz2 rfl (by decide) v n _ hs hown ad m c (news.flatMap ItV) hx hln ?_ ?_ ?_ hb hbase ?_
  · intro j u hj
    have hjl : j < (news.flatMap ItV).length := (List.getElem?_eq_some_iff.1 hj).1
    rw [hnews j (by omega), hj]
  · intro u hu
    obtain ⟨y, _, hy⟩ := List.mem_flatMap.1 hu
    exact ItV_one y u hy
  · unfold maxLen; omega
  · intro v' w' h1 h2 _
    refine h v' w' (by simpa using h1) h2 ?_
    exact (Below.refl base w).grown h2 hbase (fun j hj => (hown.lt j hj).1)

/-- 'append' onto a row of the call's own, of whatever slice of items. -/
theorem app_rowT {w : World} {ops : Array Oper} {rest : List Oper} {o : Oper} {a : Act} {Q : Exit → Act → World → Prop} (hgd : o.guard = none) (s x : Operand)
    (ho : o.op = .call { callee := .builtin .append, args := #[s, x], argTypes := #[27, 27] }) (base : Nat) (v : Value) (n : Nat) (zs : List It) (hs : a.eval s = v)
    (hown : w.ownsRow base 35 5 v n (zs.flatMap ItV)) (lo hi : Nat) (u : Value) (news : List It) (hx : a.eval x = u) (hr : RowT lo hi w u news)
    (hb : (n + news.length) * 40 ≤ 140737488355328) (hbase : base ≤ w.heap.size)
    (h : ∀ v' w', w'.ownsRow base 35 5 v' (n + news.length) ((zs ++ news).flatMap ItV) → w.grownBy w' v.ownBlock → Below base w w' → wpList Try.prog ops Q rest (a.put o.dst v') w') :
    wpList Try.prog ops Q (o :: rest) a w := by
  obtain ⟨p, c, rfl, ⟨_, hpn⟩, _, hp⟩ := hr
  cases p with
  | none =>
    obtain ⟨i0, hi, hz0, hz1, hz2⟩ := info_parts Try.infoIt
    have hn : news = [] := by
      by_cases e : news = []
      · exact e
      · obtain ⟨b, off, h0, _⟩ := hp e
        cases h0
    subst hn
    have hc := hpn rfl
    subst hc
    refine wpList_append_own_none hgd s x 27 ho base 35 i0 5 Try.underlying27 hi v n _ hs hown hx ?_
    exact h v w (by simpa using hown) (World.grownBy_refl w _) (Below.refl _ _)
  | some ad =>
    refine app_its hgd s x ho base v n zs hs hown ad news.length c news hx rfl ?_ hb hbase h
    intro j hj
    obtain ⟨b, off, h0, _, _, h3⟩ := hp (by intro e; simp [e] at hj)
    cases h0
    rw [add_plain]
    exact (h3 j hj).1





end Go.Proofs.Ytghamcomjfholaa
