
/-
  Contracts of the statements' own helpers on lists of ints (comparing, copying, lending, spoiling).
-/
import Derived.Test.YtghamcomjfholaaRows
import Derived.Test.YtghamcomjfholaaOnly
namespace Go.Proofs.Ytghamcomjfholaa
open Go.ChangeShapes Go.WideShapes Go.ChangeAt Go.RowKit

theorem Try.info3 : (Try.prog.info? 3).map (fun i => (i.zero, i.size, i.bytes)) = some (some (.int .i64 0), 1, 8) := by kernel_rfl

set_option maxHeartbeats 400000 in
theorem sameInts_core (p p' : Option Addr) (n c c' : Nat) (g h : Nat → Int) (w : World) (hn : n ≤ 9223372036854775807)
    (hp : 0 < n → ∃ b off, p = some ⟨b, off, none⟩ ∧ ∀ j, j < n → w.cell? ⟨b, off + j, none⟩ = some (.int .i64 (g j)))
    (hp' : 0 < n → ∃ b off, p' = some ⟨b, off, none⟩ ∧ ∀ j, j < n → w.cell? ⟨b, off + j, none⟩ = some (.int .i64 (h j)))
    (r : Bool) (hr : r = true ↔ ∀ j, j < n → g j = h j) :
    Calls Try.prog 15 #[.slice p n c, .slice p' n c'] w fun e w' => e = .returned (.bool r) ∧ ∃ q, w' = w.drewN q := by
  go_enter Try.func15, Try.ntmps15
  go_wp2
  go_loopw [5] (fun i wr => ∃ k q : Nat, k ≤ n ∧ i = .int .i64 k ∧ (∀ j, j < k → g j = h j) ∧ wr = w.drewN q) (fun i _ => n - (intOf i).toNat)
  case atStart => exact ⟨0, 0, Nat.zero_le _, rfl, fun j hj => absurd hj (Nat.not_lt_zero _), rfl⟩
  case round =>
    obtain ⟨k, q, hk, rfl, hj, rfl⟩ := hrel
    by_cases hlt : k < n
    · obtain ⟨b, off, rfl, h1⟩ := hp (by omega)
      obtain ⟨b', off', rfl, h2⟩ := hp' (by omega)
      have c1 : w.cell? ⟨b, off + k, none⟩ = some (.int .i64 (g k)) := h1 k hlt
      have c2 : w.cell? ⟨b', off' + k, none⟩ = some (.int .i64 (h k)) := h2 k hlt
      have hlt' : (k : Int) < (n : Int) := by omega
      clear h1 h2 hp hp'
      by_cases he : g k = h k
      · have hj' : ∀ j, j < k + 1 → g j = h j := fun j hjk => by
          by_cases e : j = k
          · rw [e]; exact he
          · exact hj j (by omega)
        clear hj hr
        go_wp2
        go_quiet (fail)
        go_wp2
        go_roundw
        case rel => exact ⟨k + 1, q + nq, by omega, by go_num, hj', rfl⟩
        case measure => simp [intOf]; omega
      · have hrf : r = false := by
          cases r with
          | false => rfl
          | true => exact absurd (hr.1 rfl k hlt) he
        subst hrf
        clear hj hr
        go_wp2
        go_quiet (fail)
        go_wp2
        go_ret
        exact ⟨rfl, q + nq, by rw [World.drewN_drewN]⟩
    · have hrt : r = true := hr.2 fun j hjn => hj j (by omega)
      subst hrt
      go_wp2
      go_ret
      exact ⟨rfl, q, rfl⟩

theorem sameInts_any {lo hi lo' hi' : Nat} {w : World} {v u : Value} {xs ys : List Int} (hx : RowI lo hi w v xs) (hy : RowI lo' hi' w u ys) :
    Calls Try.prog 15 #[v, u] w fun e w' => e = .returned (.bool (decide (xs = ys))) ∧ ∃ q, w' = w.drewN q := by
  obtain ⟨p, c, rfl, hl, hc, hpx⟩ := hx
  obtain ⟨p', c', rfl, hl', hc', hpy⟩ := hy
  unfold maxLen at hc hc'
  by_cases hne : xs.length = ys.length
  · rw [← hne]
    refine sameInts_core p p' xs.length c c' (fun j => xs.getD j 0) (fun j => ys.getD j 0) w (by omega) ?_ ?_ _ ?_
    · intro h0
      obtain ⟨b, off, rfl, _, _, h3⟩ := hpx (by intro e; simp [e] at h0)
      exact ⟨b, off, rfl, fun j hj => (h3 j hj).1⟩
    · intro h0
      obtain ⟨b, off, rfl, _, _, h3⟩ := hpy (by intro e; rw [hne, e] at h0; simp at h0)
      exact ⟨b, off, rfl, fun j hj => (h3 j (by omega)).1⟩
    · rw [decide_eq_true_iff]
      constructor
      · intro e j _; rw [e]
      · intro e
        apply List.ext_getElem hne
        intro j h1 h2
        have := e j h1
        simpa [List.getD, List.getElem?_eq_getElem h1, List.getElem?_eq_getElem h2] using this
  · have e : decide (xs = ys) = false := by
      rw [decide_eq_false_iff_not]; intro e; rw [e] at hne; exact hne rfl
    rw [e]
    have hn' : ¬ ((xs.length : Int) = (ys.length : Int)) := by omega
    generalize xs.length = n at *
    generalize ys.length = m at *
    clear e hpx hpy hne
    go_enter Try.func15, Try.ntmps15
    go_wp2
    go_ret
    exact ⟨rfl, 0, rfl⟩

/-- 'append' onto a row of the call's own, of ints. -/
theorem app_ints {w : World} {ops : Array Oper} {rest : List Oper} {o : Oper} {a : Act} {Q : Exit → Act → World → Prop} (hgd : o.guard = none) (s x : Operand)
    (ho : o.op = .call { callee := .builtin .append, args := #[s, x], argTypes := #[24, 24] }) (base : Nat) (v : Value) (n : Nat) (zs : List Int) (hs : a.eval s = v)
    (hown : w.ownsRow base 3 1 v n (zs.map (Value.int .i64))) (ad : Addr) (m c : Nat) (news : List Int) (hx : a.eval x = .slice (some ad) m c) (hl : news.length = m)
    (hnews : ∀ j, j < m → w.cell? (ad.add j) = some (.int .i64 (news.getD j 0))) (hb : (n + m) * 8 ≤ 140737488355328) (hbase : base ≤ w.heap.size)
    (h : ∀ v' w', w'.ownsRow base 3 1 v' (n + m) ((zs ++ news).map (Value.int .i64)) → w.grownBy w' v.ownBlock → Below base w w' → wpList Try.prog ops Q rest (a.put o.dst v') w') :
    wpList Try.prog ops Q (o :: rest) a w := by
  obtain ⟨i0, hi, hz0, hz1, hz2⟩ := info_parts Try.info3
  refine wpList_append_own _ hgd s x 24 ho base 3 i0 (.int .i64 0) 1 8 Try.underlying24 hi hz0 hz1 hz2 rfl (by decide) v n _ hs hown ad m c (news.map (Value.int .i64)) hx (by simpa using hl) ?_ ?_ ?_ hb hbase ?_
  · intro j u hj
    rw [List.getElem?_map] at hj
    obtain ⟨y, hy, rfl⟩ := Option.map_eq_some_iff.1 hj
    have hjl : j < news.length := (List.getElem?_eq_some_iff.1 hy).1
    rw [hnews j (by omega)]
    simp [List.getD, hy]
  · intro u hu
    obtain ⟨y, _, rfl⟩ := List.mem_map.1 hu
    rfl
  · unfold maxLen; omega
  · intro v' w' h1 h2 _
    refine h v' w' (by simpa using h1) h2 ?_
    exact (Below.refl base w).grown h2 hbase (fun j hj => (hown.lt j hj).1)

/-- Two slices in two blocks. -/
def Apart (u v : Value) : Prop := ∀ k, u.ownBlock = some k → v.ownBlock ≠ some k
theorem Apart.symm {u v : Value} (h : Apart u v) : Apart v u := fun k h1 h2 => h k h2 h1
theorem Apart.kept {u v : Value} (h : Apart u v) : u.ownBlock = none ∨ u.ownBlock ≠ v.ownBlock := by
  cases e : u.ownBlock with
  | none => exact .inl rfl
  | some k => exact .inr fun h2 => h k e h2.symm
theorem Apart.after {u u' v : Value} {S : Nat} (h : Apart u v) (hu : u'.ownBlock = u.ownBlock ∨ ∃ g, u'.ownBlock = some g ∧ S ≤ g) (hv : ∀ k, v.ownBlock = some k → k < S) : Apart u' v := by
  intro k h1 h2
  rcases hu with e | ⟨g, e, hg⟩
  · exact h k (e ▸ h1) h2
  · rw [e] at h1
    cases h1
    have := hv _ h2
    omega

/-- 'append' onto a row of the call's own, and where the new row lies: in the same block, or in a new one. -/
theorem app_ints2 {w : World} {ops : Array Oper} {rest : List Oper} {o : Oper} {a : Act} {Q : Exit → Act → World → Prop} (hgd : o.guard = none) (s x : Operand)
    (ho : o.op = .call { callee := .builtin .append, args := #[s, x], argTypes := #[24, 24] }) (base : Nat) (v : Value) (n : Nat) (zs : List Int) (hs : a.eval s = v)
    (hown : w.ownsRow base 3 1 v n (zs.map (Value.int .i64))) (ad : Addr) (m c : Nat) (news : List Int) (hx : a.eval x = .slice (some ad) m c) (hl : news.length = m) (hm : 0 < m)
    (hnews : ∀ j, j < m → w.cell? (ad.add j) = some (.int .i64 (news.getD j 0))) (hb : (n + m) * 8 ≤ 140737488355328) (hbase : base ≤ w.heap.size)
    (h : ∀ v' w', w'.ownsRow base 3 1 v' (n + m) ((zs ++ news).map (Value.int .i64)) → w.grownBy w' v.ownBlock → Below base w w' → (v'.ownBlock = v.ownBlock ∨ ∃ g, v'.ownBlock = some g ∧ w.heap.size ≤ g) → wpList Try.prog ops Q rest (a.put o.dst v') w') :
    wpList Try.prog ops Q (o :: rest) a w := by
  obtain ⟨i0, hi, hz0, hz1, hz2⟩ := info_parts Try.info3
  have hn1 : ∀ j u, (news.map (Value.int .i64))[j]? = some u → w.cell? (ad.add j) = some u := by
    intro j u hj
    rw [List.getElem?_map] at hj
    obtain ⟨y, hy, rfl⟩ := Option.map_eq_some_iff.1 hj
    have hjl : j < news.length := (List.getElem?_eq_some_iff.1 hy).1
    rw [hnews j (by omega)]
    simp [List.getD, hy]
  have hn2 : ∀ u ∈ news.map (Value.int .i64), u.oneCell' = true := by
    intro u hu
    obtain ⟨y, _, rfl⟩ := List.mem_map.1 hu
    rfl
  have hgrows : ∀ (ao : Option Addr) (cap : Nat), v = .slice ao n cap → (ao = none → n = 0 ∧ cap = 0) → (∀ b, ao = some b → ∀ j u, (zs.map (Value.int .i64))[j]? = some u → w.cell? (b.add j) = some u) → cap < n + m →
      wpList Try.prog ops Q (o :: rest) a w := by
    intro ao cap hv hnone holds hfull
    refine wpList_append_grows w hgd s x 24 ho 3 i0 (.int .i64 0) 1 8 Try.underlying24 hi hz0 hz1 hz2 rfl (by decide) ao n cap (zs.map (Value.int .i64)) (hs.trans hv) hnone hown.1 holds ad m c _ hx (by simpa using hl) hn1 hn2 hfull (by unfold maxLen; omega) hb ?_
    intro v' w' hown' hgr
    refine h v' w' ?_ ⟨hgr.os, hgr.tape, hgr.output, hgr.size, fun k hk _ => hgr.block k hk (by simp)⟩ ((Below.refl base w).grown hgr hbase (fun j hj => by cases hj)) ?_
    · have h2 := hown'
      obtain ⟨e1, e2⟩ := hown'
      refine ⟨by simpa using e1, ?_⟩
      rcases e2 with e2 | ⟨g, cp, cur, e3, e4, e5⟩
      · exact .inl e2
      · exact .inr ⟨g, cp, cur, e3, by omega, by simpa using e5⟩
    · right
      rcases hown'.2 with ⟨_, e2⟩ | ⟨g, cp, cur, rfl, e4, _⟩
      · omega
      · exact ⟨g, rfl, e4⟩
  rcases hown.2 with ⟨hv, hn⟩ | ⟨g, cap, cur, hv, hg, hh, hle, hcap, hsz, htk⟩
  · exact hgrows none 0 (by rw [hn]; exact hv) (fun _ => ⟨hn, rfl⟩) (fun b hb => by cases hb) (by omega)
  · by_cases hfit : n + m ≤ cap
    · subst hv
      refine wpList_append_fits w hgd s x 24 ho base 3 i0 1 Try.underlying24 hi hz1 g n cap _ hs hown ad m c _ hx (by simpa using hl) hn1 hn2 hfit ?_
      intro w' hown' hgr
      exact h _ w' (by simpa using hown') hgr ((Below.refl base w).grown hgr hbase (fun j hj => by cases hj; exact hg)) (.inl rfl)
    · refine hgrows (some ⟨g, 0, none⟩) cap hv (fun h => by cases h) ?_ (by omega)
      intro b hb j u hj
      cases hb
      subst hv
      exact hown.cells rfl j u hj

/-- 'append' onto a row of the call's own, of whatever slice of ints. -/
theorem app_row {w : World} {ops : Array Oper} {rest : List Oper} {o : Oper} {a : Act} {Q : Exit → Act → World → Prop} (hgd : o.guard = none) (s x : Operand)
    (ho : o.op = .call { callee := .builtin .append, args := #[s, x], argTypes := #[24, 24] }) (base : Nat) (v : Value) (n : Nat) (zs : List Int) (hs : a.eval s = v)
    (hown : w.ownsRow base 3 1 v n (zs.map (Value.int .i64))) (lo hi : Nat) (u : Value) (news : List Int) (hx : a.eval x = u) (hr : RowI lo hi w u news)
    (hb : (n + news.length) * 8 ≤ 140737488355328) (hbase : base ≤ w.heap.size)
    (h : ∀ v' w', w'.ownsRow base 3 1 v' (n + news.length) ((zs ++ news).map (Value.int .i64)) → w.grownBy w' v.ownBlock → Below base w w' → wpList Try.prog ops Q rest (a.put o.dst v') w') :
    wpList Try.prog ops Q (o :: rest) a w := by
  obtain ⟨p, c, rfl, ⟨_, hpn⟩, _, hp⟩ := hr
  cases p with
  | none =>
    obtain ⟨i0, hi, hz0, hz1, hz2⟩ := info_parts Try.info3
    have hn : news = [] := by
      by_cases e : news = []
      · exact e
      · obtain ⟨b, off, h0, _⟩ := hp e
        cases h0
    subst hn
    have hc := hpn rfl
    subst hc
    refine wpList_append_own_none hgd s x 24 ho base 3 i0 1 Try.underlying24 hi v n _ hs hown hx ?_
    exact h v w (by simpa using hown) (World.grownBy_refl w _) (Below.refl _ _)
  | some ad =>
    refine app_ints hgd s x ho base v n zs hs hown ad news.length c news hx rfl ?_ hb hbase h
    intro j hj
    obtain ⟨b, off, h0, _, _, h3⟩ := hp (by intro e; simp [e] at hj)
    cases h0
    rw [add_plain]
    exact (h3 j hj).1

end Go.Proofs.Ytghamcomjfholaa

namespace Go.Proofs.Ytghamcomjfholaa
open Go.ChangeShapes Go.WideShapes Go.ChangeAt Go.RowKit

/-- A block of ints, as a row of them. -/
theorem Box.rowI {w : World} {b n : Nat} {cs : Array Value} (xs : List Int) (h : Box w b cs) (hc : cs.toList = xs.map (Value.int .i64)) (hn : n = xs.length) (hm : n ≤ maxLen) : RowI b (b + 1) w (.slice (some ⟨b, 0, none⟩) n n) xs := by
  subst hn
  refine ⟨_, _, rfl, ⟨Nat.le_refl _, fun h => by cases h⟩, hm, fun _ => ⟨b, 0, rfl, Nat.le_refl _, Nat.lt_succ_self _, fun j hj => ⟨?_, ?_⟩⟩⟩
  · rw [Nat.zero_add, h.2.1 j, ← Array.getElem?_toList, hc, List.getElem?_map, List.getElem?_eq_getElem hj]
    simp [List.getD, List.getElem?_eq_getElem hj]
  · rw [Nat.zero_add]
    exact h.2.2 j
theorem sameI_at {lo hi lo' hi' : Nat} {w : World} {v u : Value} {xs ys : List Int} (hx : RowI lo hi w v xs) (hy : RowI lo' hi' w u ys) {b : Bool} (hB : decide (xs = ys) = b) :
    Calls Try.prog 15 #[v, u] w fun e w' => e = .returned (.bool b) ∧ Below w.heap.size w w' :=
  hB ▸ (sameInts_any hx hy).mono fun _ _ ⟨he, q, hq⟩ => ⟨he, hq ▸ (Below.refl _ w).onD q⟩
theorem RowI.take {lo hi : Nat} {w : World} {p : Option Addr} {L cap : Nat} {zs : List Int} (h : RowI lo hi w (.slice p L cap) zs) (m : Nat) (hm : m ≤ zs.length) : RowI lo hi w (.slice p m cap) (zs.take m) := by
  obtain ⟨p', cap', e, hl, hc, hx⟩ := h
  cases e
  have hlen : (zs.take m).length = m := by rw [List.length_take]; omega
  refine ⟨p, cap, by rw [hlen], ⟨by rw [hlen]; omega, hl.2⟩, hc, fun hne => ?_⟩
  obtain ⟨b, off, rfl, h1, h2, h3⟩ := hx (by intro e; rw [e] at hne; simp at hne)
  refine ⟨b, off, rfl, h1, h2, fun j hj => ?_⟩
  rw [hlen] at hj
  have := h3 j (by omega)
  simpa [List.getD, hj] using this
theorem RowI.drop {lo hi : Nat} {w : World} {b off L cap : Nat} {zs : List Int} (h : RowI lo hi w (.slice (some ⟨b, off, none⟩) L cap) zs) (m : Nat) (hm : m ≤ zs.length) : RowI lo hi w (.slice (some ⟨b, off + m, none⟩) (L - m) (cap - m)) (zs.drop m) := by
  obtain ⟨p', cap', e, hl, hc, hx⟩ := h
  cases e
  have hlen : (zs.drop m).length = zs.length - m := List.length_drop
  refine ⟨_, cap - m, by rw [hlen], ⟨by rw [hlen]; omega, fun h => by cases h⟩, by omega, fun hne => ?_⟩
  obtain ⟨b', off', e', h1, h2, h3⟩ := hx (by intro e; rw [e] at hne; simp at hne)
  cases e'
  refine ⟨b, off + m, rfl, h1, h2, fun j hj => ?_⟩
  rw [hlen] at hj
  have := h3 (m + j) (by omega)
  rw [← Nat.add_assoc] at this
  simpa [List.getD] using this
/-- A row of ints as a function of its places. -/
theorem RowI.ints {lo hi : Nat} {w : World} {v : Value} {xs : List Int} (hx : RowI lo hi w v xs) (hh : hi ≤ w.heap.size) :
    ∃ p c, v = .slice p xs.length c ∧ xs.length ≤ 9223372036854775807 ∧ (0 < xs.length → ∃ b off, p = some ⟨b, off, none⟩ ∧ lo ≤ b ∧ b < w.heap.size ∧ ∀ j, j < xs.length → w.cell? ⟨b, off + j, none⟩ = some (.int .i64 (xs.getD j 0))) := by
  obtain ⟨p, c, rfl, hl, hc, hpx⟩ := hx
  unfold maxLen at hc
  refine ⟨p, c, rfl, by omega, fun h0 => ?_⟩
  obtain ⟨b, off, e, h1, h2, h3⟩ := hpx (by intro e; simp [e] at h0)
  exact ⟨b, off, e, h1, by omega, fun j hj => (h3 j hj).1⟩

end Go.Proofs.Ytghamcomjfholaa
