
/-
  Contracts of the statements' own helpers on lists of items (comparing, copying, lending, spoiling).
-/
import Derived.Test.YtekefbhpkpoghaaRows
import Derived.Test.YtekefbhpkpoghaaRowC
namespace Go.Proofs.Ytekefbhpkpoghaa
open Go.ChangeShapes Go.WideShapes Go.ChangeAt Go.RowKit

set_option maxHeartbeats 1000000 in
theorem sameItems_core (p p' : Option Addr) (n c c' : Nat) (g h : Nat → It) (w : World) (hn : n ≤ 9223372036854775807)
    (hp : 0 < n → ∃ b off, p = some ⟨b, off, none⟩ ∧ ∀ j, j < n → ItAt w b (off + j * 5) (g j))
    (hp' : 0 < n → ∃ b off, p' = some ⟨b, off, none⟩ ∧ ∀ j, j < n → ItAt w b (off + j * 5) (h j))
    (r : Bool) (hr : r = true ↔ ∀ j, j < n → g j = h j) :
    Calls Try.prog 10 #[.slice p n c, .slice p' n c'] w fun e w' => e = .returned (.bool r) ∧ ∃ q, w' = w.drewN q := by
  go_enter Try.func10, Try.ntmps10
  go_wp2
  go_loopw [5] (fun i wr => ∃ k q : Nat, k ≤ n ∧ i = .int .i64 k ∧ (∀ j, j < k → g j = h j) ∧ wr = w.drewN q) (fun i _ => n - (intOf i).toNat)
  case atStart => exact ⟨0, 0, Nat.zero_le _, rfl, fun j hj => absurd hj (Nat.not_lt_zero _), rfl⟩
  case round =>
    obtain ⟨k, q, hk, rfl, hj, rfl⟩ := hrel
    by_cases hlt : k < n
    · obtain ⟨b, off, rfl, h1⟩ := hp (by omega)
      obtain ⟨b', off', rfl, h2⟩ := hp' (by omega)
      obtain ⟨c1, c2, c3, c4, c5⟩ := h1 k hlt
      obtain ⟨d1, d2, d3, d4, d5⟩ := h2 k hlt
      have hlt' : (k : Int) < (n : Int) := by omega
      clear h1 h2 hp hp'
      by_cases he : g k = h k
      · have hj' : ∀ j, j < k + 1 → g j = h j := fun j hjk => by
          by_cases e : j = k
          · rw [e]; exact he
          · exact hj j (by omega)
        clear hj hr
        rw [← he] at d1 d2 d3 d4 d5
        clear he
        generalize g k = z at *
        go_wp2
        go_quiet (fail)
        go_wp2
        go_roundw
        case rel => exact ⟨k + 1, q + nq, by omega, by go_num, hj', rfl⟩
        case measure => simp [intOf]; omega
      · have hrf : r = false := by
          cases r with
          | false => rfl
          | true => exact absurd (hr.1 rfl k hlt) he
        subst hrf
        clear hj hr
        generalize g k = z at *
        generalize h k = y at *
        obtain ⟨zk, zc, zu, zx, zg⟩ := z
        obtain ⟨yk, yc, yu, yx, yg⟩ := y
        dsimp only at c1 c2 c3 c4 c5 d1 d2 d3 d4 d5
        rcases It.ne he with hd | ⟨rfl, hd⟩ | ⟨rfl, rfl, hd⟩ | ⟨rfl, rfl, rfl, hd⟩ | ⟨rfl, rfl, rfl, rfl, hd⟩
        all_goals
          clear he
          go_wp2
          go_quiet (fail)
          go_wp2
          go_ret
          exact ⟨rfl, q + nq, by rw [World.drewN_drewN]⟩
    · have hrt : r = true := hr.2 fun j hjn => hj j (by omega)
      subst hrt
      go_wp2
      go_ret
      exact ⟨rfl, q, rfl⟩

theorem sameItems_any {lo hi lo' hi' : Nat} {w : World} {v u : Value} {xs ys : List It} (hx : RowT lo hi w v xs) (hy : RowT lo' hi' w u ys) :
    Calls Try.prog 10 #[v, u] w fun e w' => e = .returned (.bool (decide (xs = ys))) ∧ ∃ q, w' = w.drewN q := by
  obtain ⟨p, c, rfl, hl, hc, hpx⟩ := hx
  obtain ⟨p', c', rfl, hl', hc', hpy⟩ := hy
  unfold maxLen at hc hc'
  by_cases hne : xs.length = ys.length
  · rw [← hne]
    refine sameItems_core p p' xs.length c c' (fun j => xs.getD j ⟨0, 0, 0, 0, false⟩) (fun j => ys.getD j ⟨0, 0, 0, 0, false⟩) w (by omega) ?_ ?_ _ ?_
    · intro h0
      obtain ⟨b, off, rfl, _, _, h3⟩ := hpx (by intro e; simp [e] at h0)
      refine ⟨b, off, rfl, fun j hj => ?_⟩
      have := itsAt h3 j hj
      simpa [List.getD, List.getElem?_eq_getElem hj] using this
    · intro h0
      obtain ⟨b, off, rfl, _, _, h3⟩ := hpy (by intro e; rw [hne, e] at h0; simp at h0)
      refine ⟨b, off, rfl, fun j hj => ?_⟩
      have hj' : j < ys.length := by omega
      have := itsAt h3 j hj'
      simpa [List.getD, List.getElem?_eq_getElem hj'] using this
    · rw [decide_eq_true_iff]
      constructor
      · intro e j _; rw [e]
      · intro e
        apply List.ext_getElem hne
        intro j h1 h2
        have := e j h1
        simpa [List.getD, List.getElem?_eq_getElem h1, List.getElem?_eq_getElem h2] using this
  · have e : decide (xs = ys) = false := by
      rw [decide_eq_false_iff_not]; intro e; rw [e] at hne; exact hne rfl
    rw [e]
    have hn' : ¬ ((xs.length : Int) = (ys.length : Int)) := by omega
    generalize xs.length = n at *
    generalize ys.length = m at *
    clear e hpx hpy hne
    go_enter Try.func10, Try.ntmps10
    go_wp2
    go_ret
    exact ⟨rfl, 0, rfl⟩

theorem Try.infoIt : (Try.prog.info? 37).map (fun i => (i.zero, i.size, i.bytes)) = some (some (.agg #[.int .i64 0, .int .i64 0, .int .i64 0, .int .i64 0, .bool false]), 5, 40) := by kernel_rfl
theorem ItV_one (i : It) : ∀ u ∈ ItV i, u.oneCell' = true := by
  intro u hu
  simp [ItV] at hu
  rcases hu with rfl | rfl | rfl | rfl | rfl <;> rfl

/-- 'append' onto a row of the call's own, of items, and where the new row lies: in the same block, or in a new one. -/
theorem app_its2 {w : World} {ops : Array Oper} {rest : List Oper} {o : Oper} {a : Act} {Q : Exit → Act → World → Prop} (hgd : o.guard = none) (s x : Operand)
    (ho : o.op = .call { callee := .builtin .append, args := #[s, x], argTypes := #[22, 22] }) (base : Nat) (v : Value) (n : Nat) (zs : List It) (hs : a.eval s = v)
    (hown : w.ownsRow base 37 5 v n (zs.flatMap ItV)) (ad : Addr) (m c : Nat) (news : List It) (hx : a.eval x = .slice (some ad) m c) (hl : news.length = m) (hm : 0 < m)
    (hnews : ∀ j, j < m * 5 → w.cell? (ad.add j) = (news.flatMap ItV)[j]?) (hb : (n + m) * 40 ≤ 140737488355328) (hbase : base ≤ w.heap.size)
    (h : ∀ v' w', w'.ownsRow base 37 5 v' (n + m) ((zs ++ news).flatMap ItV) → w.grownBy w' v.ownBlock → Below base w w' → (v'.ownBlock = v.ownBlock ∨ ∃ g, v'.ownBlock = some g ∧ w.heap.size ≤ g) → wpList Try.prog ops Q rest (a.put o.dst v') w') :
    wpList Try.prog ops Q (o :: rest) a w := by
  obtain ⟨i0, hi, hz0, hz1, hz2⟩ := info_parts Try.infoIt
  have hln : (news.flatMap ItV).length = m * 5 := by rw [flat_len ItV_len, hl]
  have hn1 : ∀ j u, (news.flatMap ItV)[j]? = some u → w.cell? (ad.add j) = some u := by
    intro j u hj
    have hjl : j < (news.flatMap ItV).length := (List.getElem?_eq_some_iff.1 hj).1
    rw [hnews j (by omega), hj]
  have hn2 : ∀ u ∈ news.flatMap ItV, u.oneCell' = true := by
    intro u hu
    obtain ⟨y, _, hy⟩ := List.mem_flatMap.1 hu
    exact ItV_one y u hy
  have hgrows : ∀ (ao : Option Addr) (cap : Nat), v = .slice ao n cap → (ao = none → n = 0 ∧ cap = 0) → (∀ b, ao = some b → ∀ j u, (zs.flatMap ItV)[j]? = some u → w.cell? (b.add j) = some u) → cap < n + m →
      wpList Try.prog ops Q (o :: rest) a w := by
    intro ao cap hv hnone holds hfull
    refine wpList_append_grows w hgd s x 22 ho 37 i0 _ 5 40 Try.underlying22 hi hz0 hz1 hz2 rfl (by decide) ao n cap (zs.flatMap ItV) (hs.trans hv) hnone hown.1 holds ad m c _ hx hln hn1 hn2 hfull (by unfold maxLen; omega) hb ?_
    intro v' w' hown' hgr
    refine h v' w' ?_ ⟨hgr.os, hgr.tape, hgr.output, hgr.size, fun k hk _ => hgr.block k hk (by simp)⟩ ((Below.refl base w).grown hgr hbase (fun j hj => by cases hj)) ?_
    · have h2 := hown'
      obtain ⟨e1, e2⟩ := hown'
      refine ⟨by simpa using e1, ?_⟩
      rcases e2 with e2 | ⟨g, cp, cur, e3, e4, e5⟩
      · exact .inl e2
      · exact .inr ⟨g, cp, cur, e3, by omega, by simpa using e5⟩
    · right
      rcases hown'.2 with ⟨_, e2⟩ | ⟨g, cp, cur, rfl, e4, _⟩
      · omega
      · exact ⟨g, rfl, e4⟩
  rcases hown.2 with ⟨hv, hn⟩ | ⟨g, cap, cur, hv, hg, hh, hle, hcap, hsz, htk⟩
  · exact hgrows none 0 (by rw [hn]; exact hv) (fun _ => ⟨hn, rfl⟩) (fun b hb => by cases hb) (by omega)
  · by_cases hfit : n + m ≤ cap
    · subst hv
      refine wpList_append_fits w hgd s x 22 ho base 37 i0 5 Try.underlying22 hi hz1 g n cap _ hs hown ad m c _ hx hln hn1 hn2 hfit ?_
      intro w' hown' hgr
      exact h _ w' (by simpa using hown') hgr ((Below.refl base w).grown hgr hbase (fun j hj => by cases hj; exact hg)) (.inl rfl)
    · refine hgrows (some ⟨g, 0, none⟩) cap hv (fun h => by cases h) ?_ (by omega)
      intro b hb j u hj
      cases hb
      subst hv
      exact hown.cells rfl j u hj

/-- 'append' onto a row of the call's own, of items. -/
theorem app_its {w : World} {ops : Array Oper} {rest : List Oper} {o : Oper} {a : Act} {Q : Exit → Act → World → Prop} (hgd : o.guard = none) (s x : Operand)
    (ho : o.op = .call { callee := .builtin .append, args := #[s, x], argTypes := #[22, 22] }) (base : Nat) (v : Value) (n : Nat) (zs : List It) (hs : a.eval s = v)
    (hown : w.ownsRow base 37 5 v n (zs.flatMap ItV)) (ad : Addr) (m c : Nat) (news : List It) (hx : a.eval x = .slice (some ad) m c) (hl : news.length = m)
    (hnews : ∀ j, j < m * 5 → w.cell? (ad.add j) = (news.flatMap ItV)[j]?) (hb : (n + m) * 40 ≤ 140737488355328) (hbase : base ≤ w.heap.size)
    (h : ∀ v' w', w'.ownsRow base 37 5 v' (n + m) ((zs ++ news).flatMap ItV) → w.grownBy w' v.ownBlock → Below base w w' → wpList Try.prog ops Q rest (a.put o.dst v') w') :
    wpList Try.prog ops Q (o :: rest) a w := by
  obtain ⟨i0, hi, hz0, hz1, hz2⟩ := info_parts Try.infoIt
  have hln : (news.flatMap ItV).length = m * 5 := by rw [flat_len ItV_len, hl]
  refine wpList_append_own _ hgd s x 22 ho base 37 i0 _ 5 40 Try.underlying22 hi hz0 hz1 hz2 rfl (by decide) v n _ hs hown ad m c (news.flatMap ItV) hx hln ?_ ?_ ?_ hb hbase ?_
  · intro j u hj
    have hjl : j < (news.flatMap ItV).length := (List.getElem?_eq_some_iff.1 hj).1
    rw [hnews j (by omega), hj]
  · intro u hu
    obtain ⟨y, _, hy⟩ := List.mem_flatMap.1 hu
    exact ItV_one y u hy
  · unfold maxLen; omega
  · intro v' w' h1 h2 _
    refine h v' w' (by simpa using h1) h2 ?_
    exact (Below.refl base w).grown h2 hbase (fun j hj => (hown.lt j hj).1)

/-- 'append' onto a row of the call's own, of whatever slice of items. -/
theorem app_rowT {w : World} {ops : Array Oper} {rest : List Oper} {o : Oper} {a : Act} {Q : Exit → Act → World → Prop} (hgd : o.guard = none) (s x : Operand)
    (ho : o.op = .call { callee := .builtin .append, args := #[s, x], argTypes := #[22, 22] }) (base : Nat) (v : Value) (n : Nat) (zs : List It) (hs : a.eval s = v)
    (hown : w.ownsRow base 37 5 v n (zs.flatMap ItV)) (lo hi : Nat) (u : Value) (news : List It) (hx : a.eval x = u) (hr : RowT lo hi w u news)
    (hb : (n + news.length) * 40 ≤ 140737488355328) (hbase : base ≤ w.heap.size)
    (h : ∀ v' w', w'.ownsRow base 37 5 v' (n + news.length) ((zs ++ news).flatMap ItV) → w.grownBy w' v.ownBlock → Below base w w' → wpList Try.prog ops Q rest (a.put o.dst v') w') :
    wpList Try.prog ops Q (o :: rest) a w := by
  obtain ⟨p, c, rfl, ⟨_, hpn⟩, _, hp⟩ := hr
  cases p with
  | none =>
    obtain ⟨i0, hi, hz0, hz1, hz2⟩ := info_parts Try.infoIt
    have hn : news = [] := by
      by_cases e : news = []
      · exact e
      · obtain ⟨b, off, h0, _⟩ := hp e
        cases h0
    subst hn
    have hc := hpn rfl
    subst hc
    refine wpList_append_own_none hgd s x 22 ho base 37 i0 5 Try.underlying22 hi v n _ hs hown hx ?_
    exact h v w (by simpa using hown) (World.grownBy_refl w _) (Below.refl _ _)
  | some ad =>
    refine app_its hgd s x ho base v n zs hs hown ad news.length c news hx rfl ?_ hb hbase h
    intro j hj
    obtain ⟨b, off, h0, _, _, h3⟩ := hp (by intro e; simp [e] at hj)
    cases h0
    rw [add_plain]
    exact (h3 j hj).1

set_option maxHeartbeats 400000 in
theorem copyItems_any {lo hi : Nat} {w : World} {v : Value} {xs : List It} (hx : RowT lo hi w v xs) (h47 : xs.length * 40 ≤ 140737488355328) :
    Calls Try.prog 16 #[v] w fun e w' => ∃ u, e = .returned u ∧ w'.ownsRow w.heap.size 37 5 u xs.length (xs.flatMap ItV) ∧ Below w.heap.size w w' := by
  have hx' := hx.alloc (.cells #[] 37) ItV_len
  go_enter Try.func16, Try.ntmps16
  go_wp2_with (at_builtin; refine app_rowT rfl (.tmp 3) (.tmp 4) rfl w.heap.size _ 0 [] rfl (World.ownsRow_lit w #[] 0 (Nat.le_refl _) (Nat.zero_le _) rfl) lo hi _ xs rfl hx' (by omega) (by simp) ?_; intro v' w' hown hgr hbel)
  go_ret
  exact ⟨_, rfl, by simpa using hown, ((Below.refl _ w).alloc (Nat.le_refl _) _).trans hbel⟩

set_option maxHeartbeats 400000 in
theorem lendItems_any {lo hi : Nat} {w : World} {v : Value} {xs : List It} (hx : RowT lo hi w v xs) (h47 : (xs.length + 2) * 40 ≤ 140737488355328) :
    Calls Try.prog 7 #[v] w fun e w' => ∃ u, e = .returned u ∧ LentT w.heap.size w'.heap.size w' u xs ∧ Below w.heap.size w w' := by
  have hcp := copyItems_any hx (by omega)
  obtain ⟨p, c, rfl, hl, hc, hpx⟩ := hx
  unfold maxLen at hc
  go_enter Try.func7, Try.ntmps7
  go_wp2_with (first
    | (go_at_call 16; refine hcp.mono ?_; rintro e w1 ⟨u, rfl, hown, hbel⟩)
    | (at_builtin; refine app_its rfl (.tmp 5) (.tmp 8) rfl w.heap.size _ xs.length xs rfl (hown.alloc _) ⟨w1.heap.size, 0, none⟩ 2 2 [⟨0, 0, 0, 77777, false⟩, ⟨0, 0, 0, 77777, false⟩] rfl rfl (fun j hj => ?_) (by omega) (by have := hbel.size; simp; omega) ?_; · (rw [add_plain, Nat.zero_add]; simp [ItV])))
  intro v' w2 hown2 hgr2 hbel2
  have hB : Below w.heap.size w w2 := ((hbel.alloc hbel.size _).trans hbel2)
  have hL : ∃ g cap, v' = .slice (some ⟨g, 0, none⟩) (xs.length + 2) cap ∧ xs.length + 2 ≤ cap ∧ cap ≤ 9223372036854775807 ∧ LentT w.heap.size w2.heap.size w2 (.slice (some ⟨g, 0, none⟩) xs.length cap) xs := by
    have h0 := hown2
    obtain ⟨_, hcase⟩ := hown2
    rcases hcase with ⟨_, h1⟩ | ⟨g, cap, cur, rfl, hg, hh, hle, hcap, hsz, htk⟩
    · omega
    · refine ⟨g, cap, rfl, hle, by unfold maxLen at hcap; omega, g, cap, rfl, hle, hcap, hg, (Array.getElem?_eq_some_iff.1 hh).1, fun j hj => ⟨?_, h0.frozenAt j⟩⟩
      rw [h0.cellAt j (by omega)]
      simp
  obtain ⟨g, cap, rfl, hg1, hg2, hlent⟩ := hL
  clear hown2 hgr2 hbel2 hown hpx
  go_wp2
  go_ret
  exact ⟨_, rfl, hlent, hB⟩

set_option maxHeartbeats 400000 in
theorem keptItems_any {lo hi lo' hi' : Nat} {w : World} {v u : Value} {xs : List It} (hv : LentT lo hi w v xs) (hu : RowT lo' hi' w u xs) :
    Calls Try.prog 13 #[v, u] w fun e w' => e = .returned (.bool true) ∧ ∃ q, w' = w.drewN q := by
  have hs := sameItems_any hv.row hu
  rw [show decide (xs = xs) = true by simp] at hs
  obtain ⟨g, cap, rfl, hl, hc, h1, h2, h3⟩ := hv
  obtain ⟨p, c, rfl, hl', hc', hpx⟩ := hu
  unfold maxLen at hc hc'
  have h4 : ∀ j, j < (xs ++ [⟨0, 0, 0, 77777, false⟩, ⟨0, 0, 0, 77777, false⟩] : List It).length * 5 → w.cell? ⟨g, 0 + j, none⟩ = ((xs ++ ([⟨0, 0, 0, 77777, false⟩, ⟨0, 0, 0, 77777, false⟩] : List It)).flatMap ItV)[j]? ∧ w.frozen? ⟨g, 0 + j, none⟩ = false := by
    intro j hj
    rw [Nat.zero_add]
    exact h3 j (by simpa using hj)
  have m1 := itsAt h4 xs.length (by simp)
  have m2 := itsAt h4 (xs.length + 1) (by simp)
  simp only [Nat.zero_add] at m1 m2
  rw [show (xs ++ [⟨0, 0, 0, 77777, false⟩, ⟨0, 0, 0, 77777, false⟩] : List It)[xs.length]'(by simp) = ⟨0, 0, 0, 77777, false⟩ by simp] at m1
  rw [show (xs ++ [⟨0, 0, 0, 77777, false⟩, ⟨0, 0, 0, 77777, false⟩] : List It)[xs.length + 1]'(by simp) = ⟨0, 0, 0, 77777, false⟩ by simp] at m2
  clear h3 h4 hpx
  generalize xs.length = n at *
  obtain ⟨p1, p2, p3, p4, p5⟩ := m1
  obtain ⟨q1, q2, q3, q4, q5⟩ := m2
  go_enter Try.func13, Try.ntmps13
  go_wp2_with (go_at_call 10; refine hs.mono ?_; rintro e w1 ⟨rfl, q, rfl⟩)
  go_ret
  exact ⟨rfl, q, rfl⟩

set_option maxHeartbeats 400000 in
theorem spoilItems_any {lo hi : Nat} {w : World} {v : Value} {xs : List It} (hv : RowT lo hi w v xs) :
    Calls Try.prog 12 #[v] w fun e w' => e = .returned (.tuple #[]) ∧ Below lo w w' := by
  obtain ⟨p, c, rfl, hl, hc, hpx⟩ := hv
  unfold maxLen at hc
  have hn : xs.length ≤ 9223372036854775807 := by omega
  obtain ⟨g, hg⟩ : ∃ g : Nat → Int, g = fun j => (xs.getD j ⟨0, 0, 0, 0, false⟩).x := ⟨_, rfl⟩
  have hp : 0 < xs.length → ∃ b off, p = some ⟨b, off, none⟩ ∧ lo ≤ b ∧ ∀ j, j < xs.length → w.cell? ⟨b, off + j * 5 + 3, none⟩ = some (.int .i64 (g j)) ∧ w.frozen? ⟨b, off + j * 5 + 3, none⟩ = false := by
    intro h0
    obtain ⟨b, off, e, h1, _, h3⟩ := hpx (by intro e; simp [e] at h0)
    refine ⟨b, off, e, h1, fun j hj => ⟨?_, ?_⟩⟩
    · rw [(itsAt h3 j hj).2.2.2.1, hg]
      simp [List.getD, List.getElem?_eq_getElem hj]
    · rw [Nat.add_assoc]
      exact (h3 (j * 5 + 3) (by omega)).2
  clear hpx hg hl hc
  generalize xs.length = n at *
  go_enter Try.func12, Try.ntmps12
  go_wp2
  go_loopw [2] (fun i wr => ∃ k : Nat, k ≤ n ∧ i = .int .i64 k ∧ (∀ b off, p = some ⟨b, off, none⟩ → ∀ j, j < n → (k ≤ j → wr.cell? ⟨b, off + j * 5 + 3, none⟩ = some (.int .i64 (g j))) ∧ wr.frozen? ⟨b, off + j * 5 + 3, none⟩ = false) ∧ Below lo w wr) (fun i _ => n - (intOf i).toNat)
  case atStart => exact ⟨0, Nat.zero_le _, rfl, fun b off e j hj => by obtain ⟨b', off', e', _, h3⟩ := hp (by omega); rw [e] at e'; cases e'; exact ⟨fun _ => (h3 j hj).1, (h3 j hj).2⟩, Below.refl _ _⟩
  case round =>
    obtain ⟨k, hk, rfl, hcs, hbel⟩ := hrel
    by_cases hlt : k < n
    · obtain ⟨b, off, rfl, hlo, _⟩ := hp (by omega)
      have hc1 := (hcs b off rfl k hlt).1 (Nat.le_refl _)
      have hf1 := (hcs b off rfl k hlt).2
      have hlt' : (k : Int) < (n : Int) := by omega
      have hstep : ∀ x : Value, ∀ b' off', some (⟨b, off, none⟩ : Addr) = some ⟨b', off', none⟩ → ∀ j, j < n → (k + 1 ≤ j → (wr.setCell ⟨b, off + k * 5 + 3, none⟩ x).cell? ⟨b', off' + j * 5 + 3, none⟩ = some (.int .i64 (g j))) ∧ (wr.setCell ⟨b, off + k * 5 + 3, none⟩ x).frozen? ⟨b', off' + j * 5 + 3, none⟩ = false := by
        intro x b' off' e j hj
        cases e
        have := hcs b off rfl j hj
        refine ⟨fun hkj => ?_, (World.frozen?_setCell _ _ _ _).trans this.2⟩
        exact (World.cell?_setCell_other _ _ _ _ (by simp <;> omega)).trans (this.1 (by omega))
      clear hcs hp
      go_wp2
      go_roundw
      case rel => exact ⟨k + 1, by omega, by go_num, hstep _, hbel.setCell hlo _⟩
      case measure => simp [intOf]; omega
    · go_wp2
      go_end0
      exact ⟨rfl, hbel⟩

end Go.Proofs.Ytekefbhpkpoghaa
