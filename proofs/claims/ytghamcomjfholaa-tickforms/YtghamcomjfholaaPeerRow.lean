
/-
  Lists of peers in memory, and contracts of the statements' own helpers on them (comparing, copying, lending, spoiling).
-/
import Derived.Test.YtghamcomjfholaaRows
import Derived.Test.YtghamcomjfholaaOld
import Derived.Test.YtghamcomjfholaaOnly
namespace Go.Proofs.Ytghamcomjfholaa
open Go.ChangeShapes Go.WideShapes Go.ChangeAt Go.RowKit

/-! ### A plain peer -/
structure Pe where
  n : Int
  m : Int
deriving DecidableEq, Inhabited

def PeW (p : Pe) : Prop := (Lit.int .i64 p.n).wf = true ∧ (Lit.int .i64 p.m).wf = true
def PeV (p : Pe) : List Value := [.int .i64 p.n, .int .i64 p.m]
theorem PeV_len (p : Pe) : (PeV p).length = 2 := rfl
abbrev RowP := RowC 2 PeV

/-- A peer stands in two cells from o on. -/
def PeAt (w : World) (b o : Nat) (p : Pe) : Prop :=
  w.cell? ⟨b, o, none⟩ = some (.int .i64 p.n) ∧ w.cell? ⟨b, o + 1, none⟩ = some (.int .i64 p.m)
/-- What stands at place k. -/
theorem pesAt {w : World} {b off : Nat} {zs : List Pe} (h : ∀ j, j < zs.length * 2 → w.cell? ⟨b, off + j, none⟩ = (zs.flatMap PeV)[j]? ∧ w.frozen? ⟨b, off + j, none⟩ = false) (k : Nat) (hk : k < zs.length) : PeAt w b (off + k * 2) zs[k] := by
  have e : ∀ i, i < 2 → w.cell? ⟨b, off + k * 2 + i, none⟩ = (PeV zs[k])[i]? := fun i hi => by
    rw [Nat.add_assoc, (h (k * 2 + i) (by omega)).1, flat_at PeV_len zs k i hk hi]
  exact ⟨e 0 (by omega), e 1 (by omega)⟩

/-- Where two peers that are not the same differ first. -/
theorem Pe.ne {k c l d : Int} (hn : (⟨k, c⟩ : Pe) ≠ ⟨l, d⟩) : ¬ k = l ∨ (l = k ∧ ¬ c = d) := by
  by_cases h1 : k = l
  · by_cases h2 : c = d
    · exact absurd (by rw [h1, h2]) hn
    · exact .inr ⟨h1.symm, h2⟩
  · exact .inl h1

/-- A list that was lent: two marks stand behind it, in the same memory. -/
structure LentP (lo hi : Nat) (w : World) (v : Value) (zs : List Pe) : Prop where
  out : ∃ g cap, v = .slice (some ⟨g, 0, none⟩) zs.length cap ∧ zs.length + 2 ≤ cap ∧ cap ≤ maxLen ∧ lo ≤ g ∧ g < hi ∧
    ∀ j, j < (zs.length + 2) * 2 → w.cell? ⟨g, j, none⟩ = ((zs ++ ([⟨0, 77777⟩, ⟨0, 77777⟩] : List Pe)).flatMap PeV)[j]? ∧ w.frozen? ⟨g, j, none⟩ = false

theorem LentP.below {lo hi B : Nat} {w w' : World} {v : Value} {zs : List Pe} (h : LentP lo hi w v zs) (hb : Below B w w') (hB : hi ≤ B) : LentP lo hi w' v zs := by
  obtain ⟨g, cap, rfl, hl, hc, h1, h2, h3⟩ := h
  exact ⟨g, cap, rfl, hl, hc, h1, h2, fun j hj => ⟨(hb.cell (p := ⟨g, j, none⟩) (by show g < B; omega)).trans (h3 j hj).1, (hb.frozen (p := ⟨g, j, none⟩) (by show g < B; omega)).trans (h3 j hj).2⟩⟩

theorem LentP.drewN {lo hi : Nat} {w : World} {v : Value} {zs : List Pe} (h : LentP lo hi w v zs) (q : Nat) : LentP lo hi (w.drewN q) v zs := ⟨h.out⟩

theorem LentP.row {lo hi : Nat} {w : World} {v : Value} {zs : List Pe} (h : LentP lo hi w v zs) : RowP lo hi w v zs := by
  obtain ⟨g, cap, rfl, hl, hc, h1, h2, h3⟩ := h
  refine ⟨_, cap, rfl, ⟨by omega, fun h => by cases h⟩, hc, fun _ => ⟨g, 0, rfl, h1, h2, fun j hj => ?_⟩⟩
  have := h3 j (by omega)
  rw [Nat.zero_add]
  rwa [List.flatMap_append, List.getElem?_append_left (by rw [flat_len PeV_len]; exact hj)] at this

theorem PeAt.below {w w' : World} {b o B : Nat} {i : Pe} (h : PeAt w b o i) (hb : Below B w w') (hB : b < B) : PeAt w' b o i :=
  ⟨(hb.cell (p := ⟨b, _, none⟩) hB).trans h.1, (hb.cell (p := ⟨b, _, none⟩) hB).trans h.2⟩
/-- A row of peers as a function of its places. -/
theorem RowC.pes {lo hi : Nat} {w : World} {v : Value} {xs : List Pe} (hx : RowP lo hi w v xs) (hh : hi ≤ w.heap.size) :
    ∃ p c, v = .slice p xs.length c ∧ xs.length ≤ 9223372036854775807 ∧ (0 < xs.length → ∃ b off, p = some ⟨b, off, none⟩ ∧ lo ≤ b ∧ b < w.heap.size ∧ ∀ j, j < xs.length → PeAt w b (off + j * 2) (xs.getD j ⟨0, 0⟩)) := by
  obtain ⟨p, c, rfl, hl, hc, hpx⟩ := hx
  unfold maxLen at hc
  refine ⟨p, c, rfl, by omega, fun h0 => ?_⟩
  obtain ⟨b, off, e, h1, h2, h3⟩ := hpx (by intro e; simp [e] at h0)
  refine ⟨b, off, e, h1, by omega, fun j hj => ?_⟩
  have := pesAt h3 j hj
  simpa [List.getD, List.getElem?_eq_getElem hj] using this

set_option maxHeartbeats 1000000 in
theorem samePeers_core (p p' : Option Addr) (n c c' : Nat) (g h : Nat → Pe) (w : World) (hn : n ≤ 9223372036854775807)
    (hp : 0 < n → ∃ b off, p = some ⟨b, off, none⟩ ∧ ∀ j, j < n → PeAt w b (off + j * 2) (g j))
    (hp' : 0 < n → ∃ b off, p' = some ⟨b, off, none⟩ ∧ ∀ j, j < n → PeAt w b (off + j * 2) (h j))
    (r : Bool) (hr : r = true ↔ ∀ j, j < n → g j = h j) :
    Calls Try.prog 43 #[.slice p n c, .slice p' n c'] w fun e w' => e = .returned (.bool r) ∧ ∃ q, w' = w.drewN q := by
  go_enter Try.func43, Try.ntmps43
  go_wp2
  go_loopw [5] (fun i wr => ∃ k q : Nat, k ≤ n ∧ i = .int .i64 k ∧ (∀ j, j < k → g j = h j) ∧ wr = w.drewN q) (fun i _ => n - (intOf i).toNat)
  case atStart => exact ⟨0, 0, Nat.zero_le _, rfl, fun j hj => absurd hj (Nat.not_lt_zero _), rfl⟩
  case round =>
    obtain ⟨k, q, hk, rfl, hj, rfl⟩ := hrel
    by_cases hlt : k < n
    · obtain ⟨b, off, rfl, h1⟩ := hp (by omega)
      obtain ⟨b', off', rfl, h2⟩ := hp' (by omega)
      obtain ⟨c1, c2⟩ := h1 k hlt
      obtain ⟨d1, d2⟩ := h2 k hlt
      have hlt' : (k : Int) < (n : Int) := by omega
      clear h1 h2 hp hp'
      by_cases he : g k = h k
      · have hj' : ∀ j, j < k + 1 → g j = h j := fun j hjk => by
          by_cases e : j = k
          · rw [e]; exact he
          · exact hj j (by omega)
        clear hj hr
        rw [← he] at d1 d2
        clear he
        generalize g k = z at *
        go_wp2
        go_quiet (fail)
        go_wp2
        go_roundw
        case rel => exact ⟨k + 1, q + nq, by omega, by go_num, hj', rfl⟩
        case measure => simp [intOf]; omega
      · have hrf : r = false := by
          cases r with
          | false => rfl
          | true => exact absurd (hr.1 rfl k hlt) he
        subst hrf
        clear hj hr
        generalize g k = z at *
        generalize h k = y at *
        obtain ⟨zn, zm⟩ := z
        obtain ⟨yn, ym⟩ := y
        dsimp only at c1 c2 d1 d2
        rcases Pe.ne he with hd | ⟨rfl, hd⟩
        all_goals
          clear he
          go_wp2
          go_quiet (fail)
          go_wp2
          go_ret
          exact ⟨rfl, q + nq, by rw [World.drewN_drewN]⟩
    · have hrt : r = true := hr.2 fun j hjn => hj j (by omega)
      subst hrt
      go_wp2
      go_ret
      exact ⟨rfl, q, rfl⟩

theorem samePeers_any {lo hi lo' hi' : Nat} {w : World} {v u : Value} {xs ys : List Pe} (hx : RowP lo hi w v xs) (hy : RowP lo' hi' w u ys) :
    Calls Try.prog 43 #[v, u] w fun e w' => e = .returned (.bool (decide (xs = ys))) ∧ ∃ q, w' = w.drewN q := by
  obtain ⟨p, c, rfl, hl, hc, hpx⟩ := hx
  obtain ⟨p', c', rfl, hl', hc', hpy⟩ := hy
  unfold maxLen at hc hc'
  by_cases hne : xs.length = ys.length
  · rw [← hne]
    refine samePeers_core p p' xs.length c c' (fun j => xs.getD j ⟨0, 0⟩) (fun j => ys.getD j ⟨0, 0⟩) w (by omega) ?_ ?_ _ ?_
    · intro h0
      obtain ⟨b, off, rfl, _, _, h3⟩ := hpx (by intro e; simp [e] at h0)
      refine ⟨b, off, rfl, fun j hj => ?_⟩
      have := pesAt h3 j hj
      simpa [List.getD, List.getElem?_eq_getElem hj] using this
    · intro h0
      obtain ⟨b, off, rfl, _, _, h3⟩ := hpy (by intro e; rw [hne, e] at h0; simp at h0)
      refine ⟨b, off, rfl, fun j hj => ?_⟩
      have hj' : j < ys.length := by omega
      have := pesAt h3 j hj'
      simpa [List.getD, List.getElem?_eq_getElem hj'] using this
    · rw [decide_eq_true_iff]
      constructor
      · intro e j _; rw [e]
      · intro e
        apply List.ext_getElem hne
        intro j h1 h2
        have := e j h1
        simpa [List.getD, List.getElem?_eq_getElem h1, List.getElem?_eq_getElem h2] using this
  · have e : decide (xs = ys) = false := by
      rw [decide_eq_false_iff_not]; intro e; rw [e] at hne; exact hne rfl
    rw [e]
    have hn' : ¬ ((xs.length : Int) = (ys.length : Int)) := by omega
    generalize xs.length = n at *
    generalize ys.length = m at *
    clear e hpx hpy hne
    go_enter Try.func43, Try.ntmps43
    go_wp2
    go_ret
    exact ⟨rfl, 0, rfl⟩

theorem Try.infoPe : (Try.prog.info? 51).map (fun i => (i.zero, i.size, i.bytes)) = some (some (.agg #[.int .i64 0, .int .i64 0]), 2, 16) := by kernel_rfl
theorem PeV_one (i : Pe) : ∀ u ∈ PeV i, u.oneCell' = true := by
  intro u hu
  simp [PeV] at hu
  rcases hu with rfl | rfl <;> rfl

/-- 'append' onto a row of the call's own, of peers, and where the new row lies: in the same block, or in a new one. -/
theorem app_pes2 {w : World} {ops : Array Oper} {rest : List Oper} {o : Oper} {a : Act} {Q : Exit → Act → World → Prop} (hgd : o.guard = none) (s x : Operand)
    (ho : o.op = .call { callee := .builtin .append, args := #[s, x], argTypes := #[23, 23] }) (base : Nat) (v : Value) (n : Nat) (zs : List Pe) (hs : a.eval s = v)
    (hown : w.ownsRow base 51 2 v n (zs.flatMap PeV)) (ad : Addr) (m c : Nat) (news : List Pe) (hx : a.eval x = .slice (some ad) m c) (hl : news.length = m) (hm : 0 < m)
    (hnews : ∀ j, j < m * 2 → w.cell? (ad.add j) = (news.flatMap PeV)[j]?) (hb : (n + m) * 16 ≤ 140737488355328) (hbase : base ≤ w.heap.size)
    (h : ∀ v' w', w'.ownsRow base 51 2 v' (n + m) ((zs ++ news).flatMap PeV) → w.grownBy w' v.ownBlock → Below base w w' → (v'.ownBlock = v.ownBlock ∨ ∃ g, v'.ownBlock = some g ∧ w.heap.size ≤ g) → wpList Try.prog ops Q rest (a.put o.dst v') w') :
    wpList Try.prog ops Q (o :: rest) a w := by
  obtain ⟨i0, hi, hz0, hz1, hz2⟩ := info_parts Try.infoPe
  have hln : (news.flatMap PeV).length = m * 2 := by rw [flat_len PeV_len, hl]
  have hn1 : ∀ j u, (news.flatMap PeV)[j]? = some u → w.cell? (ad.add j) = some u := by
    intro j u hj
    have hjl : j < (news.flatMap PeV).length := (List.getElem?_eq_some_iff.1 hj).1
    rw [hnews j (by omega), hj]
  have hn2 : ∀ u ∈ news.flatMap PeV, u.oneCell' = true := by
    intro u hu
    obtain ⟨y, _, hy⟩ := List.mem_flatMap.1 hu
    exact PeV_one y u hy
  have hgrows : ∀ (ao : Option Addr) (cap : Nat), v = .slice ao n cap → (ao = none → n = 0 ∧ cap = 0) → (∀ b, ao = some b → ∀ j u, (zs.flatMap PeV)[j]? = some u → w.cell? (b.add j) = some u) → cap < n + m →
      wpList Try.prog ops Q (o :: rest) a w := by
    intro ao cap hv hnone holds hfull
    refine wpList_append_grows w hgd s x 23 ho 51 i0 _ 2 16 Try.underlying23 hi hz0 hz1 hz2 rfl (by decide) ao n cap (zs.flatMap PeV) (hs.trans hv) hnone hown.1 holds ad m c _ hx hln hn1 hn2 hfull (by unfold maxLen; omega) hb ?_
    intro v' w' hown' hgr
    refine h v' w' ?_ ⟨hgr.os, hgr.tape, hgr.output, hgr.size, fun k hk _ => hgr.block k hk (by simp)⟩ ((Below.refl base w).grown hgr hbase (fun j hj => by cases hj)) ?_
    · have h2 := hown'
      obtain ⟨e1, e2⟩ := hown'
      refine ⟨by simpa using e1, ?_⟩
      rcases e2 with e2 | ⟨g, cp, cur, e3, e4, e5⟩
      · exact .inl e2
      · exact .inr ⟨g, cp, cur, e3, by omega, by simpa using e5⟩
    · right
      rcases hown'.2 with ⟨_, e2⟩ | ⟨g, cp, cur, rfl, e4, _⟩
      · omega
      · exact ⟨g, rfl, e4⟩
  rcases hown.2 with ⟨hv, hn⟩ | ⟨g, cap, cur, hv, hg, hh, hle, hcap, hsz, htk⟩
  · exact hgrows none 0 (by rw [hn]; exact hv) (fun _ => ⟨hn, rfl⟩) (fun b hb => by cases hb) (by omega)
  · by_cases hfit : n + m ≤ cap
    · subst hv
      refine wpList_append_fits w hgd s x 23 ho base 51 i0 2 Try.underlying23 hi hz1 g n cap _ hs hown ad m c _ hx hln hn1 hn2 hfit ?_
      intro w' hown' hgr
      exact h _ w' (by simpa using hown') hgr ((Below.refl base w).grown hgr hbase (fun j hj => by cases hj; exact hg)) (.inl rfl)
    · refine hgrows (some ⟨g, 0, none⟩) cap hv (fun h => by cases h) ?_ (by omega)
      intro b hb j u hj
      cases hb
      subst hv
      exact hown.cells rfl j u hj

/-- 'append' onto a row of the call's own, of peers. -/
theorem app_pes {w : World} {ops : Array Oper} {rest : List Oper} {o : Oper} {a : Act} {Q : Exit → Act → World → Prop} (hgd : o.guard = none) (s x : Operand)
    (ho : o.op = .call { callee := .builtin .append, args := #[s, x], argTypes := #[23, 23] }) (base : Nat) (v : Value) (n : Nat) (zs : List Pe) (hs : a.eval s = v)
    (hown : w.ownsRow base 51 2 v n (zs.flatMap PeV)) (ad : Addr) (m c : Nat) (news : List Pe) (hx : a.eval x = .slice (some ad) m c) (hl : news.length = m)
    (hnews : ∀ j, j < m * 2 → w.cell? (ad.add j) = (news.flatMap PeV)[j]?) (hb : (n + m) * 16 ≤ 140737488355328) (hbase : base ≤ w.heap.size)
    (h : ∀ v' w', w'.ownsRow base 51 2 v' (n + m) ((zs ++ news).flatMap PeV) → w.grownBy w' v.ownBlock → Below base w w' → wpList Try.prog ops Q rest (a.put o.dst v') w') :
    wpList Try.prog ops Q (o :: rest) a w := by
  obtain ⟨i0, hi, hz0, hz1, hz2⟩ := info_parts Try.infoPe
  have hln : (news.flatMap PeV).length = m * 2 := by rw [flat_len PeV_len, hl]
  refine wpList_append_own _ hgd s x 23 ho base 51 i0 _ 2 16 Try.underlying23 hi hz0 hz1 hz2 rfl (by decide) v n _ hs hown ad m c (news.flatMap PeV) hx hln ?_ ?_ ?_ hb hbase ?_
  · intro j u hj
    have hjl : j < (news.flatMap PeV).length := (List.getElem?_eq_some_iff.1 hj).1
    rw [hnews j (by omega), hj]
  · intro u hu
    obtain ⟨y, _, hy⟩ := List.mem_flatMap.1 hu
    exact PeV_one y u hy
  · unfold maxLen; omega
  · intro v' w' h1 h2 _
    refine h v' w' (by simpa using h1) h2 ?_
    exact (Below.refl base w).grown h2 hbase (fun j hj => (hown.lt j hj).1)

/-- 'append' onto a row of the call's own, of whatever slice of peers. -/
theorem app_rowP {w : World} {ops : Array Oper} {rest : List Oper} {o : Oper} {a : Act} {Q : Exit → Act → World → Prop} (hgd : o.guard = none) (s x : Operand)
    (ho : o.op = .call { callee := .builtin .append, args := #[s, x], argTypes := #[23, 23] }) (base : Nat) (v : Value) (n : Nat) (zs : List Pe) (hs : a.eval s = v)
    (hown : w.ownsRow base 51 2 v n (zs.flatMap PeV)) (lo hi : Nat) (u : Value) (news : List Pe) (hx : a.eval x = u) (hr : RowP lo hi w u news)
    (hb : (n + news.length) * 16 ≤ 140737488355328) (hbase : base ≤ w.heap.size)
    (h : ∀ v' w', w'.ownsRow base 51 2 v' (n + news.length) ((zs ++ news).flatMap PeV) → w.grownBy w' v.ownBlock → Below base w w' → wpList Try.prog ops Q rest (a.put o.dst v') w') :
    wpList Try.prog ops Q (o :: rest) a w := by
  obtain ⟨p, c, rfl, ⟨_, hpn⟩, _, hp⟩ := hr
  cases p with
  | none =>
    obtain ⟨i0, hi, hz0, hz1, hz2⟩ := info_parts Try.infoPe
    have hn : news = [] := by
      by_cases e : news = []
      · exact e
      · obtain ⟨b, off, h0, _⟩ := hp e
        cases h0
    subst hn
    have hc := hpn rfl
    subst hc
    refine wpList_append_own_none hgd s x 23 ho base 51 i0 2 Try.underlying23 hi v n _ hs hown hx ?_
    exact h v w (by simpa using hown) (World.grownBy_refl w _) (Below.refl _ _)
  | some ad =>
    refine app_pes hgd s x ho base v n zs hs hown ad news.length c news hx rfl ?_ hb hbase h
    intro j hj
    obtain ⟨b, off, h0, _, _, h3⟩ := hp (by intro e; simp [e] at hj)
    cases h0
    rw [add_plain]
    exact (h3 j hj).1

theorem RowC.only {α : Type} {n : Nat} {enc : α → List Value} {lo hi lo' hi' : Nat} {w w' : World} {v : Value} {zs : List α} (h : RowC n enc lo hi w v zs) (hw : Only lo' hi' w w') (hd : hi ≤ lo' ∨ hi' ≤ lo) : RowC n enc lo hi w' v zs := by
  obtain ⟨p, cap, rfl, hl, hc, hx⟩ := h
  refine ⟨p, cap, rfl, hl, hc, fun hne => ?_⟩
  obtain ⟨b, off, rfl, h1, h2, h3⟩ := hx hne
  exact ⟨b, off, rfl, h1, h2, fun j hj => ⟨(hw.cell b _ (by omega)).trans (h3 j hj).1, (hw.frozen b _).trans (h3 j hj).2⟩⟩
/-! ### A block that holds whole peers, as a row of them; comparing two rows -/
theorem Box.rowP {w : World} {b n : Nat} {cs : Array Value} (xs : List Pe) (h : Box w b cs) (hc : cs.toList = xs.flatMap PeV) (hn : n = xs.length) (hm : n ≤ maxLen) : RowP b (b + 1) w (.slice (some ⟨b, 0, none⟩) n n) xs := by
  subst hn
  refine ⟨_, _, rfl, ⟨Nat.le_refl _, fun h => by cases h⟩, hm, fun _ => ⟨b, 0, rfl, Nat.le_refl _, Nat.lt_succ_self _, fun j _ => ⟨?_, ?_⟩⟩⟩
  · rw [Nat.zero_add, h.2.1 j, ← hc]
    simp
  · rw [Nat.zero_add]
    exact h.2.2 j
theorem sameP_at {lo hi lo' hi' : Nat} {w : World} {v u : Value} {xs ys : List Pe} (hx : RowP lo hi w v xs) (hy : RowP lo' hi' w u ys) {b : Bool} (hB : decide (xs = ys) = b) :
    Calls Try.prog 43 #[v, u] w fun e w' => e = .returned (.bool b) ∧ Below w.heap.size w w' :=
  hB ▸ (samePeers_any hx hy).mono fun _ _ ⟨he, q, hq⟩ => ⟨he, hq ▸ (Below.refl _ w).onD q⟩

end Go.Proofs.Ytghamcomjfholaa
