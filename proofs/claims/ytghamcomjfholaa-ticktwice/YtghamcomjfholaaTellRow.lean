
/-
  Lists of notes in memory, and contracts of the statements' own helpers on them (comparing, copying, lending, spoiling).
-/
import Derived.Test.YtghamcomjfholaaRows
import Derived.Test.YtghamcomjfholaaOld
import Derived.Test.YtghamcomjfholaaOnly
namespace Go.Proofs.Ytghamcomjfholaa
open Go.ChangeShapes Go.WideShapes Go.ChangeAt Go.RowKit

/-! ### A plain note -/
structure Te where
  k : Int
  h : Bool
  x : Int
deriving DecidableEq, Inhabited

def TeW (p : Te) : Prop := (Lit.int .i64 p.k).wf = true ∧ (Lit.int .i64 p.x).wf = true
def TeV (p : Te) : List Value := [.int .i64 p.k, .bool p.h, .int .i64 p.x]
theorem TeV_len (p : Te) : (TeV p).length = 3 := rfl
abbrev RowE := RowC 3 TeV

/-- A note stands in two cells from o on. -/
def TeAt (w : World) (b o : Nat) (p : Te) : Prop :=
  w.cell? ⟨b, o, none⟩ = some (.int .i64 p.k) ∧ w.cell? ⟨b, o + 1, none⟩ = some (.bool p.h) ∧ w.cell? ⟨b, o + 2, none⟩ = some (.int .i64 p.x)
/-- What stands at place k. -/
theorem tesAt {w : World} {b off : Nat} {zs : List Te} (h : ∀ j, j < zs.length * 3 → w.cell? ⟨b, off + j, none⟩ = (zs.flatMap TeV)[j]? ∧ w.frozen? ⟨b, off + j, none⟩ = false) (k : Nat) (hk : k < zs.length) : TeAt w b (off + k * 3) zs[k] := by
  have e : ∀ i, i < 3 → w.cell? ⟨b, off + k * 3 + i, none⟩ = (TeV zs[k])[i]? := fun i hi => by
    rw [Nat.add_assoc, (h (k * 3 + i) (by omega)).1, flat_at TeV_len zs k i hk hi]
  exact ⟨e 0 (by omega), e 1 (by omega), e 2 (by omega)⟩

/-- Where two notes that are not the same differ first. -/
theorem Te.ne {k l c d : Int} {h g : Bool} (hn : (⟨k, h, c⟩ : Te) ≠ ⟨l, g, d⟩) : ¬ k = l ∨ (l = k ∧ ¬ h = g) ∨ (l = k ∧ g = h ∧ ¬ c = d) := by
  by_cases h1 : k = l
  · by_cases h2 : h = g
    · by_cases h3 : c = d
      · exact absurd (by rw [h1, h2, h3]) hn
      · exact .inr (.inr ⟨h1.symm, h2.symm, h3⟩)
    · exact .inr (.inl ⟨h1.symm, h2⟩)
  · exact .inl h1

/-- A list that was lent: two marks stand behind it, in the same memory. -/
structure LentE (lo hi : Nat) (w : World) (v : Value) (zs : List Te) : Prop where
  out : ∃ g cap, v = .slice (some ⟨g, 0, none⟩) zs.length cap ∧ zs.length + 2 ≤ cap ∧ cap ≤ maxLen ∧ lo ≤ g ∧ g < hi ∧
    ∀ j, j < (zs.length + 2) * 3 → w.cell? ⟨g, j, none⟩ = ((zs ++ ([⟨0, false, 77777⟩, ⟨0, false, 77777⟩] : List Te)).flatMap TeV)[j]? ∧ w.frozen? ⟨g, j, none⟩ = false

theorem LentE.below {lo hi B : Nat} {w w' : World} {v : Value} {zs : List Te} (h : LentE lo hi w v zs) (hb : Below B w w') (hB : hi ≤ B) : LentE lo hi w' v zs := by
  obtain ⟨g, cap, rfl, hl, hc, h1, h2, h3⟩ := h
  exact ⟨g, cap, rfl, hl, hc, h1, h2, fun j hj => ⟨(hb.cell (p := ⟨g, j, none⟩) (by show g < B; omega)).trans (h3 j hj).1, (hb.frozen (p := ⟨g, j, none⟩) (by show g < B; omega)).trans (h3 j hj).2⟩⟩

theorem LentE.drewN {lo hi : Nat} {w : World} {v : Value} {zs : List Te} (h : LentE lo hi w v zs) (q : Nat) : LentE lo hi (w.drewN q) v zs := ⟨h.out⟩

theorem LentE.row {lo hi : Nat} {w : World} {v : Value} {zs : List Te} (h : LentE lo hi w v zs) : RowE lo hi w v zs := by
  obtain ⟨g, cap, rfl, hl, hc, h1, h2, h3⟩ := h
  refine ⟨_, cap, rfl, ⟨by omega, fun h => by cases h⟩, hc, fun _ => ⟨g, 0, rfl, h1, h2, fun j hj => ?_⟩⟩
  have := h3 j (by omega)
  rw [Nat.zero_add]
  rwa [List.flatMap_append, List.getElem?_append_left (by rw [flat_len TeV_len]; exact hj)] at this

theorem TeAt.below {w w' : World} {b o B : Nat} {i : Te} (h : TeAt w b o i) (hb : Below B w w') (hB : b < B) : TeAt w' b o i :=
  ⟨(hb.cell (p := ⟨b, _, none⟩) hB).trans h.1, (hb.cell (p := ⟨b, _, none⟩) hB).trans h.2.1, (hb.cell (p := ⟨b, _, none⟩) hB).trans h.2.2⟩
/-- A row of notes as a function of its places. -/
theorem RowC.tes {lo hi : Nat} {w : World} {v : Value} {xs : List Te} (hx : RowE lo hi w v xs) (hh : hi ≤ w.heap.size) :
    ∃ p c, v = .slice p xs.length c ∧ xs.length ≤ 9223372036854775807 ∧ (0 < xs.length → ∃ b off, p = some ⟨b, off, none⟩ ∧ lo ≤ b ∧ b < w.heap.size ∧ ∀ j, j < xs.length → TeAt w b (off + j * 3) (xs.getD j ⟨0, false, 0⟩)) := by
  obtain ⟨p, c, rfl, hl, hc, hpx⟩ := hx
  unfold maxLen at hc
  refine ⟨p, c, rfl, by omega, fun h0 => ?_⟩
  obtain ⟨b, off, e, h1, h2, h3⟩ := hpx (by intro e; simp [e] at h0)
  refine ⟨b, off, e, h1, by omega, fun j hj => ?_⟩
  have := tesAt h3 j hj
  simpa [List.getD, List.getElem?_eq_getElem hj] using this

set_option maxHeartbeats 1000000 in
theorem sameTolds_core (p p' : Option Addr) (n c c' : Nat) (g h : Nat → Te) (w : World) (hn : n ≤ 9223372036854775807)
    (hp : 0 < n → ∃ b off, p = some ⟨b, off, none⟩ ∧ ∀ j, j < n → TeAt w b (off + j * 3) (g j))
    (hp' : 0 < n → ∃ b off, p' = some ⟨b, off, none⟩ ∧ ∀ j, j < n → TeAt w b (off + j * 3) (h j))
    (r : Bool) (hr : r = true ↔ ∀ j, j < n → g j = h j) :
    Calls Try.prog 17 #[.slice p n c, .slice p' n c'] w fun e w' => e = .returned (.bool r) ∧ ∃ q, w' = w.drewN q := by
  go_enter Try.func17, Try.ntmps17
  go_wp2
  go_loopw [5] (fun i wr => ∃ k q : Nat, k ≤ n ∧ i = .int .i64 k ∧ (∀ j, j < k → g j = h j) ∧ wr = w.drewN q) (fun i _ => n - (intOf i).toNat)
  case atStart => exact ⟨0, 0, Nat.zero_le _, rfl, fun j hj => absurd hj (Nat.not_lt_zero _), rfl⟩
  case round =>
    obtain ⟨k, q, hk, rfl, hj, rfl⟩ := hrel
    by_cases hlt : k < n
    · obtain ⟨b, off, rfl, h1⟩ := hp (by omega)
      obtain ⟨b', off', rfl, h2⟩ := hp' (by omega)
      obtain ⟨c1, c2, c3⟩ := h1 k hlt
      obtain ⟨d1, d2, d3⟩ := h2 k hlt
      have hlt' : (k : Int) < (n : Int) := by omega
      clear h1 h2 hp hp'
      by_cases he : g k = h k
      · have hj' : ∀ j, j < k + 1 → g j = h j := fun j hjk => by
          by_cases e : j = k
          · rw [e]; exact he
          · exact hj j (by omega)
        clear hj hr
        rw [← he] at d1 d2 d3
        clear he
        generalize g k = z at *
        go_wp2
        go_quiet (fail)
        go_wp2
        go_roundw
        case rel => exact ⟨k + 1, q + nq, by omega, by go_num, hj', rfl⟩
        case measure => simp [intOf]; omega
      · have hrf : r = false := by
          cases r with
          | false => rfl
          | true => exact absurd (hr.1 rfl k hlt) he
        subst hrf
        clear hj hr
        generalize g k = z at *
        generalize h k = y at *
        obtain ⟨zn, zh, zm⟩ := z
        obtain ⟨yn, yh, ym⟩ := y
        dsimp only at c1 c2 c3 d1 d2 d3
        rcases Te.ne he with hd | ⟨rfl, hd⟩ | ⟨rfl, rfl, hd⟩
        all_goals
          clear he
          go_wp2
          go_quiet (fail)
          go_wp2
          go_ret
          exact ⟨rfl, q + nq, by rw [World.drewN_drewN]⟩
    · have hrt : r = true := hr.2 fun j hjn => hj j (by omega)
      subst hrt
      go_wp2
      go_ret
      exact ⟨rfl, q, rfl⟩

theorem sameTolds_any {lo hi lo' hi' : Nat} {w : World} {v u : Value} {xs ys : List Te} (hx : RowE lo hi w v xs) (hy : RowE lo' hi' w u ys) :
    Calls Try.prog 17 #[v, u] w fun e w' => e = .returned (.bool (decide (xs = ys))) ∧ ∃ q, w' = w.drewN q := by
  obtain ⟨p, c, rfl, hl, hc, hpx⟩ := hx
  obtain ⟨p', c', rfl, hl', hc', hpy⟩ := hy
  unfold maxLen at hc hc'
  by_cases hne : xs.length = ys.length
  · rw [← hne]
    refine sameTolds_core p p' xs.length c c' (fun j => xs.getD j ⟨0, false, 0⟩) (fun j => ys.getD j ⟨0, false, 0⟩) w (by omega) ?_ ?_ _ ?_
    · intro h0
      obtain ⟨b, off, rfl, _, _, h3⟩ := hpx (by intro e; simp [e] at h0)
      refine ⟨b, off, rfl, fun j hj => ?_⟩
      have := tesAt h3 j hj
      simpa [List.getD, List.getElem?_eq_getElem hj] using this
    · intro h0
      obtain ⟨b, off, rfl, _, _, h3⟩ := hpy (by intro e; rw [hne, e] at h0; simp at h0)
      refine ⟨b, off, rfl, fun j hj => ?_⟩
      have hj' : j < ys.length := by omega
      have := tesAt h3 j hj'
      simpa [List.getD, List.getElem?_eq_getElem hj'] using this
    · rw [decide_eq_true_iff]
      constructor
      · intro e j _; rw [e]
      · intro e
        apply List.ext_getElem hne
        intro j h1 h2
        have := e j h1
        simpa [List.getD, List.getElem?_eq_getElem h1, List.getElem?_eq_getElem h2] using this
  · have e : decide (xs = ys) = false := by
      rw [decide_eq_false_iff_not]; intro e; rw [e] at hne; exact hne rfl
    rw [e]
    have hn' : ¬ ((xs.length : Int) = (ys.length : Int)) := by omega
    generalize xs.length = n at *
    generalize ys.length = m at *
    clear e hpx hpy hne
    go_enter Try.func17, Try.ntmps17
    go_wp2
    go_ret
    exact ⟨rfl, 0, rfl⟩

theorem Try.infoTe : (Try.prog.info? 69).map (fun i => (i.zero, i.size, i.bytes)) = some (some (.agg #[.int .i64 0, .bool false, .int .i64 0]), 3, 24) := by kernel_rfl
theorem TeV_one (i : Te) : ∀ u ∈ TeV i, u.oneCell' = true := by
  intro u hu
  simp [TeV] at hu
  rcases hu with rfl | rfl | rfl <;> rfl

/-- 'append' onto a row of the call's own, of notes. -/
theorem app_tes {w : World} {ops : Array Oper} {rest : List Oper} {o : Oper} {a : Act} {Q : Exit → Act → World → Prop} (hgd : o.guard = none) (s x : Operand)
    (ho : o.op = .call { callee := .builtin .append, args := #[s, x], argTypes := #[28, 28] }) (base : Nat) (v : Value) (n : Nat) (zs : List Te) (hs : a.eval s = v)
    (hown : w.ownsRow base 69 3 v n (zs.flatMap TeV)) (ad : Addr) (m c : Nat) (news : List Te) (hx : a.eval x = .slice (some ad) m c) (hl : news.length = m)
    (hnews : ∀ j, j < m * 3 → w.cell? (ad.add j) = (news.flatMap TeV)[j]?) (hb : (n + m) * 24 ≤ 140737488355328) (hbase : base ≤ w.heap.size)
    (h : ∀ v' w', w'.ownsRow base 69 3 v' (n + m) ((zs ++ news).flatMap TeV) → w.grownBy w' v.ownBlock → Below base w w' → wpList Try.prog ops Q rest (a.put o.dst v') w') :
    wpList Try.prog ops Q (o :: rest) a w := by
  obtain ⟨i0, hi, hz0, hz1, hz2⟩ := info_parts Try.infoTe
  have hln : (news.flatMap TeV).length = m * 3 := by rw [flat_len TeV_len, hl]
  refine wpList_append_own _ hgd s x 28 ho base 69 i0 _ 3 24 Try.underlying28 hi hz0 hz1 hz2 rfl (by decide) v n _ hs hown ad m c (news.flatMap TeV) hx hln ?_ ?_ ?_ hb hbase ?_
  · intro j u hj
    have hjl : j < (news.flatMap TeV).length := (List.getElem?_eq_some_iff.1 hj).1
    rw [hnews j (by omega), hj]
  · intro u hu
    obtain ⟨y, _, hy⟩ := List.mem_flatMap.1 hu
    exact TeV_one y u hy
  · unfold maxLen; omega
  · intro v' w' h1 h2 _
    refine h v' w' (by simpa using h1) h2 ?_
    exact (Below.refl base w).grown h2 hbase (fun j hj => (hown.lt j hj).1)

/-- 'append' onto a row of the call's own, of whatever slice of notes. -/
theorem app_rowE {w : World} {ops : Array Oper} {rest : List Oper} {o : Oper} {a : Act} {Q : Exit → Act → World → Prop} (hgd : o.guard = none) (s x : Operand)
    (ho : o.op = .call { callee := .builtin .append, args := #[s, x], argTypes := #[28, 28] }) (base : Nat) (v : Value) (n : Nat) (zs : List Te) (hs : a.eval s = v)
    (hown : w.ownsRow base 69 3 v n (zs.flatMap TeV)) (lo hi : Nat) (u : Value) (news : List Te) (hx : a.eval x = u) (hr : RowE lo hi w u news)
    (hb : (n + news.length) * 24 ≤ 140737488355328) (hbase : base ≤ w.heap.size)
    (h : ∀ v' w', w'.ownsRow base 69 3 v' (n + news.length) ((zs ++ news).flatMap TeV) → w.grownBy w' v.ownBlock → Below base w w' → wpList Try.prog ops Q rest (a.put o.dst v') w') :
    wpList Try.prog ops Q (o :: rest) a w := by
  obtain ⟨p, c, rfl, ⟨_, hpn⟩, _, hp⟩ := hr
  cases p with
  | none =>
    obtain ⟨i0, hi, hz0, hz1, hz2⟩ := info_parts Try.infoTe
    have hn : news = [] := by
      by_cases e : news = []
      · exact e
      · obtain ⟨b, off, h0, _⟩ := hp e
        cases h0
    subst hn
    have hc := hpn rfl
    subst hc
    refine wpList_append_own_none hgd s x 28 ho base 69 i0 3 Try.underlying28 hi v n _ hs hown hx ?_
    exact h v w (by simpa using hown) (World.grownBy_refl w _) (Below.refl _ _)
  | some ad =>
    refine app_tes hgd s x ho base v n zs hs hown ad news.length c news hx rfl ?_ hb hbase h
    intro j hj
    obtain ⟨b, off, h0, _, _, h3⟩ := hp (by intro e; simp [e] at hj)
    cases h0
    rw [add_plain]
    exact (h3 j hj).1

/-! ### A block that holds whole notes, as a row of them; comparing two rows -/
theorem sameE_at {lo hi lo' hi' : Nat} {w : World} {v u : Value} {xs ys : List Te} (hx : RowE lo hi w v xs) (hy : RowE lo' hi' w u ys) {b : Bool} (hB : decide (xs = ys) = b) :
    Calls Try.prog 17 #[v, u] w fun e w' => e = .returned (.bool b) ∧ Below w.heap.size w w' :=
  hB ▸ (sameTolds_any hx hy).mono fun _ _ ⟨he, q, hq⟩ => ⟨he, hq ▸ (Below.refl _ w).onD q⟩

end Go.Proofs.Ytghamcomjfholaa
