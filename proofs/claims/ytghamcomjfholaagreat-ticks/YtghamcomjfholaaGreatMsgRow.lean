
/-
  Lists of notes in memory, and contracts of the statements' own helpers on them (comparing, copying, lending, spoiling).
-/
import Derived.Test.YtghamcomjfholaaGreatRows
import Derived.Test.YtghamcomjfholaaGreatOld
import Derived.Test.YtghamcomjfholaaGreatOnly
import Derived.Test.YtghamcomjfholaaGreatItemRow
import Derived.Test.YtghamcomjfholaaGreatIntRow
namespace Go.Proofs.YtghamcomjfholaaGreat
open Go.ChangeShapes Go.WideShapes Go.ChangeAt Go.RowKit

/-! ### A plain note -/
structure Te where
  k : Int
  h : Bool
  x : Int
deriving DecidableEq, Inhabited

def TeW (p : Te) : Prop := (Lit.int .i64 p.k).wf = true ∧ (Lit.int .i64 p.x).wf = true
def TeV (p : Te) : List Value := [.int .i64 p.k, .bool p.h, .int .i64 p.x]
theorem TeV_len (p : Te) : (TeV p).length = 3 := rfl
abbrev RowE := RowC 3 TeV

/-- A note stands in two cells from o on. -/
def TeAt (w : World) (b o : Nat) (p : Te) : Prop :=
  w.cell? ⟨b, o, none⟩ = some (.int .i64 p.k) ∧ w.cell? ⟨b, o + 1, none⟩ = some (.bool p.h) ∧ w.cell? ⟨b, o + 2, none⟩ = some (.int .i64 p.x)
/-- What stands at place k. -/
theorem tesAt {w : World} {b off : Nat} {zs : List Te} (h : ∀ j, j < zs.length * 3 → w.cell? ⟨b, off + j, none⟩ = (zs.flatMap TeV)[j]? ∧ w.frozen? ⟨b, off + j, none⟩ = false) (k : Nat) (hk : k < zs.length) : TeAt w b (off + k * 3) zs[k] := by
  have e : ∀ i, i < 3 → w.cell? ⟨b, off + k * 3 + i, none⟩ = (TeV zs[k])[i]? := fun i hi => by
    rw [Nat.add_assoc, (h (k * 3 + i) (by omega)).1, flat_at TeV_len zs k i hk hi]
  exact ⟨e 0 (by omega), e 1 (by omega), e 2 (by omega)⟩

/-- Where two notes that are not the same differ first. -/
theorem Te.ne {k l c d : Int} {h g : Bool} (hn : (⟨k, h, c⟩ : Te) ≠ ⟨l, g, d⟩) : ¬ k = l ∨ (l = k ∧ ¬ h = g) ∨ (l = k ∧ g = h ∧ ¬ c = d) := by
  by_cases h1 : k = l
  · by_cases h2 : h = g
    · by_cases h3 : c = d
      · exact absurd (by rw [h1, h2, h3]) hn
      · exact .inr (.inr ⟨h1.symm, h2.symm, h3⟩)
    · exact .inr (.inl ⟨h1.symm, h2⟩)
  · exact .inl h1

/-- A list that was lent: two marks stand behind it, in the same memory. -/
structure LentE (lo hi : Nat) (w : World) (v : Value) (zs : List Te) : Prop where
  out : ∃ g cap, v = .slice (some ⟨g, 0, none⟩) zs.length cap ∧ zs.length + 2 ≤ cap ∧ cap ≤ maxLen ∧ lo ≤ g ∧ g < hi ∧
    ∀ j, j < (zs.length + 2) * 3 → w.cell? ⟨g, j, none⟩ = ((zs ++ ([⟨0, false, 77777⟩, ⟨0, false, 77777⟩] : List Te)).flatMap TeV)[j]? ∧ w.frozen? ⟨g, j, none⟩ = false

theorem LentE.below {lo hi B : Nat} {w w' : World} {v : Value} {zs : List Te} (h : LentE lo hi w v zs) (hb : Below B w w') (hB : hi ≤ B) : LentE lo hi w' v zs := by
  obtain ⟨g, cap, rfl, hl, hc, h1, h2, h3⟩ := h
  exact ⟨g, cap, rfl, hl, hc, h1, h2, fun j hj => ⟨(hb.cell (p := ⟨g, j, none⟩) (by show g < B; omega)).trans (h3 j hj).1, (hb.frozen (p := ⟨g, j, none⟩) (by show g < B; omega)).trans (h3 j hj).2⟩⟩

theorem LentE.drewN {lo hi : Nat} {w : World} {v : Value} {zs : List Te} (h : LentE lo hi w v zs) (q : Nat) : LentE lo hi (w.drewN q) v zs := ⟨h.out⟩

theorem LentE.row {lo hi : Nat} {w : World} {v : Value} {zs : List Te} (h : LentE lo hi w v zs) : RowE lo hi w v zs := by
  obtain ⟨g, cap, rfl, hl, hc, h1, h2, h3⟩ := h
  refine ⟨_, cap, rfl, ⟨by omega, fun h => by cases h⟩, hc, fun _ => ⟨g, 0, rfl, h1, h2, fun j hj => ?_⟩⟩
  have := h3 j (by omega)
  rw [Nat.zero_add]
  rwa [List.flatMap_append, List.getElem?_append_left (by rw [flat_len TeV_len]; exact hj)] at this

theorem TeAt.below {w w' : World} {b o B : Nat} {i : Te} (h : TeAt w b o i) (hb : Below B w w') (hB : b < B) : TeAt w' b o i :=
  ⟨(hb.cell (p := ⟨b, _, none⟩) hB).trans h.1, (hb.cell (p := ⟨b, _, none⟩) hB).trans h.2.1, (hb.cell (p := ⟨b, _, none⟩) hB).trans h.2.2⟩
/-- A row of notes as a function of its places. -/
theorem RowC.tes {lo hi : Nat} {w : World} {v : Value} {xs : List Te} (hx : RowE lo hi w v xs) (hh : hi ≤ w.heap.size) :
    ∃ p c, v = .slice p xs.length c ∧ xs.length ≤ 9223372036854775807 ∧ (0 < xs.length → ∃ b off, p = some ⟨b, off, none⟩ ∧ lo ≤ b ∧ b < w.heap.size ∧ ∀ j, j < xs.length → TeAt w b (off + j * 3) (xs.getD j ⟨0, false, 0⟩)) := by
  obtain ⟨p, c, rfl, hl, hc, hpx⟩ := hx
  unfold maxLen at hc
  refine ⟨p, c, rfl, by omega, fun h0 => ?_⟩
  obtain ⟨b, off, e, h1, h2, h3⟩ := hpx (by intro e; simp [e] at h0)
  refine ⟨b, off, e, h1, by omega, fun j hj => ?_⟩
  have := tesAt h3 j hj
  simpa [List.getD, List.getElem?_eq_getElem hj] using this

set_option maxHeartbeats 1000000 in
theorem sameTolds_core (p p' : Option Addr) (n c c' : Nat) (g h : Nat → Te) (w : World) (hn : n ≤ 9223372036854775807)
    (hp : 0 < n → ∃ b off, p = some ⟨b, off, none⟩ ∧ ∀ j, j < n → TeAt w b (off + j * 3) (g j))
    (hp' : 0 < n → ∃ b off, p' = some ⟨b, off, none⟩ ∧ ∀ j, j < n → TeAt w b (off + j * 3) (h j))
    (r : Bool) (hr : r = true ↔ ∀ j, j < n → g j = h j) :
    Calls Tryz.prog 26 #[.slice p n c, .slice p' n c'] w fun e w' => e = .returned (.bool r) ∧ ∃ q, w' = w.drewN q := by
  go_enter Tryz.func26, Tryz.ntmps26
  go_wp2
  go_loopw [5] (fun i wr => ∃ k q : Nat, k ≤ n ∧ i = .int .i64 k ∧ (∀ j, j < k → g j = h j) ∧ wr = w.drewN q) (fun i _ => n - (intOf i).toNat)
  case atStart => exact ⟨0, 0, Nat.zero_le _, rfl, fun j hj => absurd hj (Nat.not_lt_zero _), rfl⟩
  case round =>
    obtain ⟨k, q, hk, rfl, hj, rfl⟩ := hrel
    by_cases hlt : k < n
    · obtain ⟨b, off, rfl, h1⟩ := hp (by omega)
      obtain ⟨b', off', rfl, h2⟩ := hp' (by omega)
      obtain ⟨c1, c2, c3⟩ := h1 k hlt
      obtain ⟨d1, d2, d3⟩ := h2 k hlt
      have hlt' : (k : Int) < (n : Int) := by omega
      clear h1 h2 hp hp'
      by_cases he : g k = h k
      · have hj' : ∀ j, j < k + 1 → g j = h j := fun j hjk => by
          by_cases e : j = k
          · rw [e]; exact he
          · exact hj j (by omega)
        clear hj hr
        rw [← he] at d1 d2 d3
        clear he
        generalize g k = z at *
        go_wp2
        go_quiet (fail)
        go_wp2
        go_roundw
        case rel => exact ⟨k + 1, q + nq, by omega, by go_num, hj', rfl⟩
        case measure => simp [intOf]; omega
      · have hrf : r = false := by
          cases r with
          | false => rfl
          | true => exact absurd (hr.1 rfl k hlt) he
        subst hrf
        clear hj hr
        generalize g k = z at *
        generalize h k = y at *
        obtain ⟨zn, zh, zm⟩ := z
        obtain ⟨yn, yh, ym⟩ := y
        dsimp only at c1 c2 c3 d1 d2 d3
        rcases Te.ne he with hd | ⟨rfl, hd⟩ | ⟨rfl, rfl, hd⟩
        all_goals
          clear he
          go_wp2
          go_quiet (fail)
          go_wp2
          go_ret
          exact ⟨rfl, q + nq, by rw [World.drewN_drewN]⟩
    · have hrt : r = true := hr.2 fun j hjn => hj j (by omega)
      subst hrt
      go_wp2
      go_ret
      exact ⟨rfl, q, rfl⟩

theorem sameTolds_any {lo hi lo' hi' : Nat} {w : World} {v u : Value} {xs ys : List Te} (hx : RowE lo hi w v xs) (hy : RowE lo' hi' w u ys) :
    Calls Tryz.prog 26 #[v, u] w fun e w' => e = .returned (.bool (decide (xs = ys))) ∧ ∃ q, w' = w.drewN q := by
  obtain ⟨p, c, rfl, hl, hc, hpx⟩ := hx
  obtain ⟨p', c', rfl, hl', hc', hpy⟩ := hy
  unfold maxLen at hc hc'
  by_cases hne : xs.length = ys.length
  · rw [← hne]
    refine sameTolds_core p p' xs.length c c' (fun j => xs.getD j ⟨0, false, 0⟩) (fun j => ys.getD j ⟨0, false, 0⟩) w (by omega) ?_ ?_ _ ?_
    · intro h0
      obtain ⟨b, off, rfl, _, _, h3⟩ := hpx (by intro e; simp [e] at h0)
      refine ⟨b, off, rfl, fun j hj => ?_⟩
      have := tesAt h3 j hj
      simpa [List.getD, List.getElem?_eq_getElem hj] using this
    · intro h0
      obtain ⟨b, off, rfl, _, _, h3⟩ := hpy (by intro e; rw [hne, e] at h0; simp at h0)
      refine ⟨b, off, rfl, fun j hj => ?_⟩
      have hj' : j < ys.length := by omega
      have := tesAt h3 j hj'
      simpa [List.getD, List.getElem?_eq_getElem hj'] using this
    · rw [decide_eq_true_iff]
      constructor
      · intro e j _; rw [e]
      · intro e
        apply List.ext_getElem hne
        intro j h1 h2
        have := e j h1
        simpa [List.getD, List.getElem?_eq_getElem h1, List.getElem?_eq_getElem h2] using this
  · have e : decide (xs = ys) = false := by
      rw [decide_eq_false_iff_not]; intro e; rw [e] at hne; exact hne rfl
    rw [e]
    have hn' : ¬ ((xs.length : Int) = (ys.length : Int)) := by omega
    generalize xs.length = n at *
    generalize ys.length = m at *
    clear e hpx hpy hne
    go_enter Tryz.func26, Tryz.ntmps26
    go_wp2
    go_ret
    exact ⟨rfl, 0, rfl⟩

theorem Tryz.infoTe : (Tryz.prog.info? 79).map (fun i => (i.zero, i.size, i.bytes)) = some (some (.agg #[.int .i64 0, .bool false, .int .i64 0]), 3, 24) := by kernel_rfl
theorem TeV_one (i : Te) : ∀ u ∈ TeV i, u.oneCell' = true := by
  intro u hu
  simp [TeV] at hu
  rcases hu with rfl | rfl | rfl <;> rfl

/-- 'append' onto a row of the call's own, of notes. -/
theorem app_tes {w : World} {ops : Array Oper} {rest : List Oper} {o : Oper} {a : Act} {Q : Exit → Act → World → Prop} (hgd : o.guard = none) (s x : Operand)
    (ho : o.op = .call { callee := .builtin .append, args := #[s, x], argTypes := #[27, 27] }) (base : Nat) (v : Value) (n : Nat) (zs : List Te) (hs : a.eval s = v)
    (hown : w.ownsRow base 79 3 v n (zs.flatMap TeV)) (ad : Addr) (m c : Nat) (news : List Te) (hx : a.eval x = .slice (some ad) m c) (hl : news.length = m)
    (hnews : ∀ j, j < m * 3 → w.cell? (ad.add j) = (news.flatMap TeV)[j]?) (hb : (n + m) * 24 ≤ 140737488355328) (hbase : base ≤ w.heap.size)
    (h : ∀ v' w', w'.ownsRow base 79 3 v' (n + m) ((zs ++ news).flatMap TeV) → w.grownBy w' v.ownBlock → Below base w w' → wpList Tryz.prog ops Q rest (a.put o.dst v') w') :
    wpList Tryz.prog ops Q (o :: rest) a w := by
  obtain ⟨i0, hi, hz0, hz1, hz2⟩ := info_parts Tryz.infoTe
  have hln : (news.flatMap TeV).length = m * 3 := by rw [flat_len TeV_len, hl]
  refine wpList_append_own _ hgd s x 27 ho base 79 i0 _ 3 24 Tryz.underlying27 hi hz0 hz1 hz2 rfl (by decide) v n _ hs hown ad m c (news.flatMap TeV) hx hln ?_ ?_ ?_ hb hbase ?_
  · intro j u hj
    have hjl : j < (news.flatMap TeV).length := (List.getElem?_eq_some_iff.1 hj).1
    rw [hnews j (by omega), hj]
  · intro u hu
    obtain ⟨y, _, hy⟩ := List.mem_flatMap.1 hu
    exact TeV_one y u hy
  · unfold maxLen; omega
  · intro v' w' h1 h2 _
    refine h v' w' (by simpa using h1) h2 ?_
    exact (Below.refl base w).grown h2 hbase (fun j hj => (hown.lt j hj).1)

/-- 'append' onto a row of the call's own, of whatever slice of notes. -/
theorem app_rowE {w : World} {ops : Array Oper} {rest : List Oper} {o : Oper} {a : Act} {Q : Exit → Act → World → Prop} (hgd : o.guard = none) (s x : Operand)
    (ho : o.op = .call { callee := .builtin .append, args := #[s, x], argTypes := #[27, 27] }) (base : Nat) (v : Value) (n : Nat) (zs : List Te) (hs : a.eval s = v)
    (hown : w.ownsRow base 79 3 v n (zs.flatMap TeV)) (lo hi : Nat) (u : Value) (news : List Te) (hx : a.eval x = u) (hr : RowE lo hi w u news)
    (hb : (n + news.length) * 24 ≤ 140737488355328) (hbase : base ≤ w.heap.size)
    (h : ∀ v' w', w'.ownsRow base 79 3 v' (n + news.length) ((zs ++ news).flatMap TeV) → w.grownBy w' v.ownBlock → Below base w w' → wpList Tryz.prog ops Q rest (a.put o.dst v') w') :
    wpList Tryz.prog ops Q (o :: rest) a w := by
  obtain ⟨p, c, rfl, ⟨_, hpn⟩, _, hp⟩ := hr
  cases p with
  | none =>
    obtain ⟨i0, hi, hz0, hz1, hz2⟩ := info_parts Tryz.infoTe
    have hn : news = [] := by
      by_cases e : news = []
      · exact e
      · obtain ⟨b, off, h0, _⟩ := hp e
        cases h0
    subst hn
    have hc := hpn rfl
    subst hc
    refine wpList_append_own_none hgd s x 27 ho base 79 i0 3 Tryz.underlying27 hi v n _ hs hown hx ?_
    exact h v w (by simpa using hown) (World.grownBy_refl w _) (Below.refl _ _)
  | some ad =>
    refine app_tes hgd s x ho base v n zs hs hown ad news.length c news hx rfl ?_ hb hbase h
    intro j hj
    obtain ⟨b, off, h0, _, _, h3⟩ := hp (by intro e; simp [e] at hj)
    cases h0
    rw [add_plain]
    exact (h3 j hj).1

/-! ### A block that holds whole notes, as a row of them; comparing two rows -/
theorem sameE_at {lo hi lo' hi' : Nat} {w : World} {v u : Value} {xs ys : List Te} (hx : RowE lo hi w v xs) (hy : RowE lo' hi' w u ys) {b : Bool} (hB : decide (xs = ys) = b) :
    Calls Tryz.prog 26 #[v, u] w fun e w' => e = .returned (.bool b) ∧ Below w.heap.size w w' :=
  hB ▸ (sameTolds_any hx hy).mono fun _ _ ⟨he, q, hq⟩ => ⟨he, hq ▸ (Below.refl _ w).onD q⟩

end Go.Proofs.YtghamcomjfholaaGreat

namespace Go.Proofs.YtghamcomjfholaaGreat
open Go.ChangeShapes Go.WideShapes Go.ChangeAt Go.RowKit

/-! ### A plain node -/
structure Nd where
  up : Bool
  i : Int
  ps : List Pe
  is : List Int
  ts : List It
  ls : List Te
deriving DecidableEq

/-- The four lists of a node read so; all their cells lie in blocks from lo on and below hi. -/
structure NdAt (lo hi : Nat) (w : World) (p q r s : Value) (ps : List Pe) (is : List Int) (ts : List It) (ls : List Te) : Prop where
  vw : VwAt lo hi w p q ps is
  ts : RowT lo hi w r ts
  ls : RowE lo hi w s ls
section
variable {lo hi : Nat} {w : World} {p q r s : Value} {ps : List Pe} {is : List Int} {ts : List It} {ls : List Te}
theorem NdAt.below {B : Nat} {w' : World} (h : NdAt lo hi w p q r s ps is ts ls) (hb : Below B w w') (hB : hi ≤ B) : NdAt lo hi w' p q r s ps is ts ls := ⟨h.vw.below hb hB, h.ts.below hb hB, h.ls.below hb hB⟩
theorem NdAt.wide {lo' hi' : Nat} (h : NdAt lo hi w p q r s ps is ts ls) (h1 : lo' ≤ lo) (h2 : hi ≤ hi') : NdAt lo' hi' w p q r s ps is ts ls := ⟨h.vw.wide h1 h2, h.ts.wide h1 h2, h.ls.wide h1 h2⟩
theorem NdAt.alloc (h : NdAt lo hi w p q r s ps is ts ls) (o : Obj) : NdAt lo hi (w.alloc o) p q r s ps is ts ls := ⟨h.vw.alloc o, h.ts.alloc o ItV_len, h.ls.alloc o TeV_len⟩
theorem NdAt.drewN (h : NdAt lo hi w p q r s ps is ts ls) (n : Nat) : NdAt lo hi (w.drewN n) p q r s ps is ts ls := ⟨h.vw.drewN n, h.ts.drewN n, h.ls.drewN n⟩
theorem NdAt.shape (h : NdAt lo hi w p q r s ps is ts ls) : ∃ a c a' c' a2 c2 a3 c3, p = .slice a ps.length c ∧ q = .slice a' is.length c' ∧ r = .slice a2 ts.length c2 ∧ s = .slice a3 ls.length c3 := by
  obtain ⟨a, c, a', c', e1, e2, -, -⟩ := h.vw.shape
  obtain ⟨a2, c2, e3, -⟩ := h.ts.out
  obtain ⟨a3, c3, e4, -⟩ := h.ls.out
  exact ⟨a, c, a', c', a2, c2, a3, c3, e1, e2, e3, e4⟩
end
theorem NdAt.nil0 {lo hi : Nat} {w : World} : NdAt lo hi w (.slice none 0 0) (.slice none 0 0) (.slice none 0 0) (.slice none 0 0) [] [] [] [] := ⟨⟨RowC.nil0, RowI.nil0⟩, RowC.nil0, RowC.nil0⟩

theorem sameT_same {lo hi lo' hi' : Nat} {w : World} {v u : Value} {xs : List It} (hx : RowT lo hi w v xs) (hy : RowT lo' hi' w u xs) :
    Calls Tryz.prog 25 #[v, u] w fun e w' => e = .returned (.bool true) ∧ Below w.heap.size w w' :=
  (sameItems_any hx hy).mono fun _ _ ⟨he, q, hq⟩ => ⟨by rw [he]; simp, hq ▸ (Below.refl _ w).onD q⟩

set_option maxHeartbeats 2000000 in
theorem sameNode_same {lo hi lo' hi' : Nat} {w : World} {p q r s p' q' r' s' : Value} {ps : List Pe} {is : List Int} {ts : List It} {ls : List Te} (up : Bool) (i : Int) (h : NdAt lo hi w p q r s ps is ts ls) (h' : NdAt lo' hi' w p' q' r' s' ps is ts ls) (hh : hi ≤ w.heap.size) (hh' : hi' ≤ w.heap.size) :
    Calls Tryz.prog 7 #[.agg #[.bool up, .int .i64 i, p, q, r, s], .agg #[.bool up, .int .i64 i, p', q', r', s']] w fun e w' => e = .returned (.bool true) ∧ Below w.heap.size w w' := by
  have S1 := fun (o1 o2 : Obj) => sameView_same i ((h.vw.alloc o1).alloc o2) ((h'.vw.alloc o1).alloc o2) (by simp; omega) (by simp; omega)
  have S2 := fun (o1 o2 : Obj) (w1 : World) (hb : Below ((w.alloc o1).alloc o2).heap.size ((w.alloc o1).alloc o2) w1) =>
    sameT_same ((((h.alloc o1).alloc o2).below hb (by simp; omega)).ts) ((((h'.alloc o1).alloc o2).below hb (by simp; omega)).ts)
  have S3 := fun (o1 o2 : Obj) (w1 : World) (hb : Below ((w.alloc o1).alloc o2).heap.size ((w.alloc o1).alloc o2) w1) =>
    sameE_at ((((h.alloc o1).alloc o2).below hb (by simp; omega)).ls) ((((h'.alloc o1).alloc o2).below hb (by simp; omega)).ls) (b := true) (by simp)
  obtain ⟨a, c, a', c', a2, c2, a3, c3, rfl, rfl, rfl, rfl⟩ := h.shape
  obtain ⟨b, d, b', d', b2, d2, b3, d3, rfl, rfl, rfl, rfl⟩ := h'.shape
  have B1 := toHid (fun (o : Obj) (cs : Array Value) (t : TypeId) => ((Box.new w cs t).alloc o))
  have C1 := toHid (fun (o : Obj) (cs : Array Value) (t : TypeId) => (Box.new1 w o cs t))
  clear h h' hh hh'
  replace S1 := toHid S1
  replace S2 := toHid S2
  replace S3 := toHid S3
  go_enter Tryz.func7, Tryz.ntmps7
  go_wp2_with (first
    | (go_at_call 24; refine (S1.out _ _).mono ?_; rintro e w1 ⟨rfl, h1⟩
       have k1 := toHid h1
       obtain ⟨b1, b2, b3⟩ := (B1.out _ _ _).below h1
       obtain ⟨d1, d2, d3⟩ := (C1.out _ _ _).below h1
       clear h1)
    | (go_at_call 25; refine (S2.out _ _ _ k1.out).mono ?_; rintro e w2 ⟨rfl, h2⟩
       have k2 := toHid (k1.out.on h2)
       clear b1 b2 b3 d1 d2 d3 h2
       obtain ⟨b1, b2, b3⟩ := (B1.out _ _ _).below k2.out
       obtain ⟨d1, d2, d3⟩ := (C1.out _ _ _).below k2.out)
    | (go_at_call 26; refine (S3.out _ _ _ k2.out).mono ?_; rintro e w3 ⟨rfl, h3⟩))
  go_ret
  exact ⟨rfl, ((((Below.refl _ w).onA _).onA _).on k2.out).on h3⟩

end Go.Proofs.YtghamcomjfholaaGreat

namespace Go.Proofs.YtghamcomjfholaaGreat
open Go.ChangeShapes Go.WideShapes Go.ChangeAt Go.RowKit

/-- Which of two numbers is less. -/
def cmpI (x y : Int) : Int := if x < y then -1 else if y < x then 1 else 0

theorem compare_any (x y : Int) (w : World) :
    Calls Tryz.prog 111 #[.int .i64 x, .int .i64 y] w fun e w' => e = .returned (.int .i64 (cmpI x y)) ∧ w' = w := by
  by_cases h1 : x < y
  · have e : cmpI x y = -1 := by simp [cmpI, h1]
    rw [e]
    clear e
    go_enter Tryz.func111, Tryz.ntmps111
    go_wp2
    go_ret
    exact ⟨rfl, rfl⟩
  · by_cases h2 : y < x
    · have e : cmpI x y = 1 := by simp [cmpI, h1, h2]
      rw [e]
      clear e
      go_enter Tryz.func111, Tryz.ntmps111
      go_wp2
      go_ret
      exact ⟨rfl, rfl⟩
    · have e : cmpI x y = 0 := by simp [cmpI, h1, h2]
      rw [e]
      clear e
      go_enter Tryz.func111, Tryz.ntmps111
      go_wp2
      go_ret
      exact ⟨rfl, rfl⟩

end Go.Proofs.YtghamcomjfholaaGreat

namespace Go.Proofs.YtghamcomjfholaaGreat
open Go.ChangeShapes Go.WideShapes Go.ChangeAt Go.RowKit

/-- A block that holds whole items reads as a row of them. -/
theorem Box.rowT {w : World} {b n : Nat} {cs : Array Value} (xs : List It) (h : Box w b cs) (hc : cs.toList = xs.flatMap ItV) (hn : n = xs.length) (hm : n ≤ maxLen) : RowT b (b + 1) w (.slice (some ⟨b, 0, none⟩) n n) xs := by
  subst hn
  refine ⟨_, _, rfl, ⟨Nat.le_refl _, fun h => by cases h⟩, hm, fun _ => ⟨b, 0, rfl, Nat.le_refl _, Nat.lt_succ_self _, fun j _ => ⟨?_, ?_⟩⟩⟩
  · rw [Nat.zero_add, h.2.1 j, ← hc]
    simp
  · rw [Nat.zero_add]
    exact h.2.2 j

end Go.Proofs.YtghamcomjfholaaGreat

namespace Go.Proofs.YtghamcomjfholaaGreat
open Go.ChangeShapes Go.WideShapes Go.ChangeAt Go.RowKit

set_option maxHeartbeats 2000000 in
theorem sameMsg_same {lo hi lo' hi' : Nat} {w : World} {v u : Value} {is : List Int} (hv : RowI lo hi w v is) (hu : RowI lo' hi' w u is) (n a b k tk tc tu tx : Int) (tg h : Bool) :
    Calls Tryz.prog 27 #[.agg #[.int .i64 n, .int .i64 a, .int .i64 b, v, .int .i64 k, .int .i64 tk, .int .i64 tc, .int .i64 tu, .int .i64 tx, .bool tg, .bool h], .agg #[.int .i64 n, .int .i64 a, .int .i64 b, u, .int .i64 k, .int .i64 tk, .int .i64 tc, .int .i64 tu, .int .i64 tx, .bool tg, .bool h]] w fun e w' => e = .returned (.bool true) ∧ Below w.heap.size w w' := by
  have S1 := fun (o1 o2 : Obj) => sameI_at ((hv.alloc o1).alloc o2) ((hu.alloc o1).alloc o2) (b := true) (by simp)
  obtain ⟨p, c, rfl, -⟩ := hv
  obtain ⟨p', c', rfl, -⟩ := hu
  have B1 := toHid (fun (o : Obj) (cs : Array Value) (t : TypeId) => ((Box.new w cs t).alloc o))
  have C1 := toHid (fun (o : Obj) (cs : Array Value) (t : TypeId) => (Box.new1 w o cs t))
  go_enter Tryz.func27, Tryz.ntmps27
  go_wp2_with (first
    | (go_at_call 33; refine (S1 _ _).mono ?_; rintro e w1 ⟨rfl, h1⟩
       obtain ⟨b1, b2, b3⟩ := (B1.out _ _ _).below h1
       obtain ⟨d1, d2, d3⟩ := (C1.out _ _ _).below h1))
  go_ret
  exact ⟨rfl, (((Below.refl _ w).onA _).onA _).on h1⟩

end Go.Proofs.YtghamcomjfholaaGreat
