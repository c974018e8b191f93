
/-
  Contracts of package view's functions (whom it knows; may it be; who is next; who was before; who owns a key), at every view: what they return, and that no old memory has turned.
-/
import Derived.Test.YtghamcomjfholaaAgeMath
import Derived.Test.YtghamcomjfholaaItemRow
import Derived.Test.YtghamcomjfholaaPeerA
import Derived.Test.YtghamcomjfholaaPassA
namespace Go.Proofs.Ytghamcomjfholaa
open Go.ChangeShapes Go.WideShapes Go.ChangeAt Go.RowKit Go.Shelf Go.Lib

set_option maxHeartbeats 400000 in
theorem index_any {lo hi : Nat} {w : World} {v : Value} {xs : List Int} (hv : RowI lo hi w v xs) (x : Int) :
    Calls Try.prog 72 #[v, .int .i64 x] w fun e w' => ∃ r : Int, e = .returned (.int .i64 r) ∧ decide (0 ≤ r) = decide (x ∈ xs) ∧ w' = w := by
  obtain ⟨p, c, rfl, hl, hc, hpx⟩ := hv
  unfold maxLen at hc
  have hn : xs.length ≤ 9223372036854775807 := by omega
  have hp : 0 < xs.length → ∃ b off, p = some ⟨b, off, none⟩ ∧ ∀ j, j < xs.length → w.cell? ⟨b, off + j, none⟩ = some (.int .i64 (xs.getD j 0)) := by
    intro h0
    obtain ⟨b, off, e, h1, _, h3⟩ := hpx (by intro e; simp [e] at h0)
    exact ⟨b, off, e, fun j hj => (h3 j hj).1⟩
  have hin : (decide (x ∈ xs)) = true ↔ ∃ j, j < xs.length ∧ xs.getD j 0 = x := by
    rw [decide_eq_true_iff, List.mem_iff_getElem]
    constructor
    · rintro ⟨j, hj, e⟩; exact ⟨j, hj, by simp [List.getD, List.getElem?_eq_getElem hj, e]⟩
    · rintro ⟨j, hj, e⟩; exact ⟨j, hj, by simpa [List.getD, List.getElem?_eq_getElem hj] using e⟩
  generalize decide (x ∈ xs) = r at *
  obtain ⟨g, hg⟩ : ∃ g : Nat → Int, ∀ j, xs.getD j 0 = g j := ⟨_, fun _ => rfl⟩
  simp only [hg] at hp hin
  clear hpx hg hl hc
  generalize xs.length = n at *
  go_enter Try.func72, Try.ntmps72
  go_wp2
  go_loop [8] (fun i => ∃ k : Nat, k ≤ n ∧ i = .int .i64 k ∧ (∀ j, j < k → g j ≠ x)) (fun i => n - (intOf i).toNat)
  case atStart => exact ⟨0, Nat.zero_le _, rfl, fun j hj => absurd hj (Nat.not_lt_zero _)⟩
  case round =>
    obtain ⟨k, hk, rfl, hj⟩ := hrel
    by_cases hlt : k < n
    · obtain ⟨b, off, rfl, h1⟩ := hp (by omega)
      have c1 : w.cell? ⟨b, off + k, none⟩ = some (.int .i64 (g k)) := h1 k hlt
      have hlt' : (k : Int) < (n : Int) := by omega
      clear h1 hp
      by_cases he : g k = x
      · have hrt : r = true := hin.2 ⟨k, hlt, he⟩
        have he' : x = g k := he.symm
        subst hrt
        clear hin hj he
        go_wp2
        go_ret
        exact ⟨_, rfl, by simp, rfl⟩
      · have hj' : ∀ j, j < k + 1 → g j ≠ x := fun j hjk => by
          by_cases e : j = k
          · rw [e]; exact he
          · exact hj j (by omega)
        have he' : ¬ x = g k := fun e => he e.symm
        clear hin hj he
        go_wp2
        go_round
        case rel => exact ⟨k + 1, by omega, by go_num, hj'⟩
        case measure => simp [intOf]; omega
    · have hrf : r = false := by
        cases hr : r with
        | false => rfl
        | true =>
          obtain ⟨j, h1, h2⟩ := hin.1 hr
          exact absurd h2 (hj j (by omega))
      subst hrf
      clear hin hj hp
      go_wp2
      go_ret
      exact ⟨_, rfl, by simp, rfl⟩

theorem containsI_any {lo hi : Nat} {w : World} {v : Value} {xs : List Int} (hv : RowI lo hi w v xs) (x : Int) :
    Calls Try.prog 53 #[v, .int .i64 x] w fun e w' => e = .returned (.bool (decide (x ∈ xs))) ∧ w' = w := by
  have H := index_any hv x
  clear hv
  generalize decide (x ∈ xs) = r at *
  go_enter Try.func53, Try.ntmps53
  go_wp2_with (go_at_call 72; refine H.mono ?_; rintro e w' ⟨k, rfl, hk, hw'⟩; subst w')
  go_ret
  exact ⟨rfl, rfl⟩

/-- Is a place one of those whose list lies in block B? -/
theorem notPassive_any {lo hi B : Nat} {w : World} {v : Value} {xs : List Int} (hv : RowI lo hi w v xs) (hB : w.cell? ⟨B, 0, none⟩ = some v) (x : Int) :
    Calls Try.prog 52 #[.int .i64 x, .pointer (some ⟨B, 0, none⟩)] w fun e w' => e = .returned (.bool (decide (x ∈ xs))) ∧ w' = w := by
  have H := containsI_any hv x
  obtain ⟨p, c, rfl, -⟩ := hv
  generalize decide (x ∈ xs) = r at *
  go_enter Try.func52, Try.ntmps52
  go_wp2_with (go_at_call 53; refine H.mono ?_; rintro e w' ⟨rfl, hw'⟩; subst w')
  go_ret
  exact ⟨rfl, rfl⟩

theorem vContains_any {lo hi lo' hi' B : Nat} {w : World} {v u : Value} {xs ys : List Int} (hv : RowI lo hi w v xs) (hu : RowI lo' hi' w u ys) (hh : hi' ≤ w.heap.size) (hB : w.cell? ⟨B, 0, none⟩ = some u) :
    Calls Try.prog 54 #[v, .func (.func 52) #[] #[.pointer (some ⟨B, 0, none⟩)]] w fun e w' => e = .returned (.bool (xs.any fun x => decide (x ∈ ys))) ∧ ∃ q, w' = w.drewN q := by
  have hmax := hv.max
  unfold maxLen at hmax
  obtain ⟨p, c, rfl, hl, hc, hpx⟩ := hv
  by_cases h0 : xs = []
  · subst h0
    exact (AnyE.slices_ContainsFunc_empty containsL p c _ w).mono fun e w' ⟨he, hw⟩ => ⟨he, 0, hw⟩
  · obtain ⟨b, off, rfl, _, _, h3⟩ := hpx h0
    have eg : ∀ args w, (callFunc 52 args).run Try.prog w = .ok (.enter 52 args) w := enters_of Try.func52 (by kernel_rfl) rfl
    have hBw : B < w.heap.size := World.block_lt_of_cell? _ _ hB
    have hp : PredAt Try.prog 52 #[.pointer (some ⟨B, 0, none⟩)] (Value.int .i64) (fun x => decide (x ∈ ys)) w := fun W x hW => by
      unfold FnGives
      exact (notPassive_any (hu.below hW hh) ((hW.cell (p := ⟨B, 0, none⟩) hBw).trans hB) x).mono fun e w' ⟨he, hw⟩ => ⟨he, 0, hw⟩
    have h := AnyE.slices_ContainsFunc containsL (Value.int .i64) (fun x => decide (x ∈ ys)) 52 #[.pointer (some ⟨B, 0, none⟩)] eg b off xs.length c xs w hp (Nat.le_refl _) (by omega)
      (fun j hj => by rw [(h3 j hj).1, getElem!_pos xs j hj]; simp [List.getD, List.getElem?_eq_getElem hj])
    rw [List.take_length] at h
    exact h

set_option maxHeartbeats 1000000 in
/-- The node itself, then its peers, in new memory. -/
theorem vIds_any {lo hi : Nat} {w : World} {p q : Value} {ps : List Pe} {is : List Int} (i : Int) (h : VwAt lo hi w p q ps is) (hh : hi ≤ w.heap.size) (hl : ps.length ≤ 16) :
    Calls Try.prog 51 #[.agg #[.int .i64 i, p, q]] w fun e w' => ∃ u, e = .returned u ∧ RowI w.heap.size w'.heap.size w' u (idL i ps) ∧ Below w.heap.size w w' := by
  obtain ⟨i0, hi0, hz0, hz1, hz2⟩ := info_parts Try.info3
  obtain ⟨a, c, rfl, hn, hp⟩ := h.ps.pes hh
  obtain ⟨a', c', rfl, -⟩ := h.is
  have B1 := toHid (fun (cs : Array Value) (t : TypeId) => Box.new w cs t)
  clear h
  go_enter Try.func51, Try.ntmps51
  go_wp2_with (at_make; refine wpList_make_own _ rfl _ _ 24 rfl (w.heap.size + 1) 3 i0 (.int .i64 0) 1 Try.underlying24 hi0 hz0 hz1 _ _ _ (ps.length + 1) rfl rfl (by simp) (by rw [hz2]; omega) (by unfold maxLen; omega) (by simp) ?_)
  intro w1 hown1 hgr1
  have hb1 : Below (w.heap.size + 1) _ w1 := (Below.refl _ _).grown hgr1 (by simp) (fun j hj => by cases hj)
  have hk1 : Below w.heap.size w w1 := ((Below.refl _ w).onA _).trans (hb1.mono (Nat.le_succ _))
  obtain ⟨b1, b2, b3⟩ := (B1.out _ _).belowAt hb1 (by omega)
  have hW1 : w.heap.size + 1 ≤ w1.heap.size := by have := hb1.size; simpa using this
  clear hgr1
  replace hown1 := toHid hown1
  replace hp := toHid hp
  go_wp2_with (at_builtin; refine app_ints rfl (.tmp 11) (.tmp 14) rfl (w.heap.size + 1) _ 0 [] rfl (hown1.out.alloc _) ⟨w1.heap.size, 0, none⟩ 1 1 [i] rfl rfl (fun j hj => ?_) (by simp) (by simp; omega) ?_; · (match j, hj with | 0, _ => simp [Addr.add]))
  intro v2 w2 hown2 hgr2 hb2
  have hk2 : Below w.heap.size w w2 := (hk1.onA _).trans (hb2.mono (Nat.le_succ _))
  obtain ⟨b1', b2', b3'⟩ := (((B1.out _ _).belowAt hb1 (by omega)).alloc _).belowAt hb2 (by omega)
  have hW2 : w.heap.size + 1 ≤ w2.heap.size := by have := hb2.size; simp at this; omega
  have hown2' : Hid (w2.ownsRow (w.heap.size + 1) 3 1 v2 (0 + 1) ((idL i (ps.take 0)).map (Value.int .i64))) := toHid (by simpa [idL, nmL] using hown2)
  clear hown1 hown2 hgr2 hb2 hb1 hk1 b1 b2 b3 B1
  go_wp2
  clear b1' b2' b3' hW1
  obtain ⟨n, hN⟩ : ∃ n, ps.length = n := ⟨_, rfl⟩
  rw [hN] at hp hl hn ⊢
  replace hN := toHid hN
  go_loopw [3, 19] (fun v j wr => ∃ k : Nat, k ≤ n ∧ j = .int .i64 k ∧ Hid (wr.ownsRow (w.heap.size + 1) 3 1 v (k + 1) ((idL i (ps.take k)).map (Value.int .i64))) ∧ Below w.heap.size w wr ∧ w.heap.size + 1 ≤ wr.heap.size) (fun _ j _ => n - (intOf j).toNat)
  case atStart => exact ⟨0, Nat.zero_le _, rfl, hown2', hk2, hW2⟩
  case round =>
    clear hown2' hk2 hW2
    obtain ⟨k, hk, rfl, hown, hbel, hsz⟩ := hrel
    by_cases hlt : k < n
    · obtain ⟨b, off, rfl, -, hb, h1⟩ := hp.out (by omega)
      obtain ⟨c1, c2⟩ := (h1 k (by omega)).below hbel hb
      have HS := toHid (idL_take i ps k (by have := hN.out; omega))
      have hlt' : (k : Int) < (n : Int) := by omega
      clear h1 hp
      generalize ps.getD k ⟨0, 0⟩ = z at c1 c2 HS
      obtain ⟨zn, zm⟩ := z
      dsimp only at c1 c2 HS
      go_wp2_with (at_builtin; refine app_ints rfl (.tmp 23) (.tmp 26) rfl (w.heap.size + 1) _ (k + 1) (idL i (ps.take k)) rfl ((hown.out.alloc _).alloc _) ⟨wr.heap.size + 1, 0, none⟩ 1 1 [zn] rfl rfl (fun j hj => ?_) (by omega) (by simp; omega) ?_; · (match j, hj with | 0, _ => simp [Addr.add]))
      intro v' w3 hown' hgr hbel'
      have R : w3.ownsRow (w.heap.size + 1) 3 1 v' (k + 1 + 1) ((idL i (ps.take (k + 1))).map (Value.int .i64)) ∧ Below w.heap.size w w3 ∧ w.heap.size + 1 ≤ w3.heap.size := by
        refine ⟨by rw [HS.out]; simpa using hown', ((hbel.onA _).onA _).trans (hbel'.mono (Nat.le_succ _)), ?_⟩
        have := hbel'.size
        simp at this
        omega
      clear hown' hgr hbel' hown c1 c2
      go_wp2
      go_roundw
      case rel => exact ⟨k + 1, by omega, by go_num, toHid R.1, R.2.1, R.2.2⟩
      case measure => simp [intOf]; omega
    · have hkn : ps.take k = ps := List.take_of_length_le (by have := hN.out; omega)
      rw [hkn] at hown
      clear hkn hp
      go_wp2
      go_ret
      exact ⟨_, rfl, (RowI.of_owns (n := k + 1) hown.out).wide (by omega) (Nat.le_refl _), hbel⟩

/-- May it be? -/
theorem vwB_all {i : Int} {ps : List Pe} {is : List Int} (h1 : psB i ps = true) (h2 : paB is = true) (h3 : ps.length + is.length ≤ 16) : vwB i ps is = !(is.any fun x => decide (x ∈ idL i ps)) := by
  rw [Bool.eq_iff_iff, vwB_iff]
  simp [h1, h2, h3]

set_option maxHeartbeats 1000000 in
theorem vMay_any {lo hi : Nat} {w : World} {p q : Value} {ps : List Pe} {is : List Int} (i : Int) (h : VwAt lo hi w p q ps is) (hh : hi ≤ w.heap.size) :
    Calls Try.prog 31 #[.agg #[.int .i64 i, p, q]] w fun e w' => e = .returned (.bool (vwB i ps is)) ∧ Below w.heap.size w w' := by
  have H1 := toHid (fun o : Obj => pMay_any (h.ps.alloc o PeV_len) (Nat.le_trans hh (by simp)) i)
  have H2 := toHid (fun (o : Obj) (w1 : World) (hb : Below (w.alloc o).heap.size (w.alloc o) w1) => (qMay_any ((h.is.alloc o).below hb (Nat.le_trans hh (by simp)))).mono fun _ w2 (k : _ ∧ ∃ q, w2 = w1.drewN q) => (⟨k.1, by obtain ⟨q, hq⟩ := k.2; exact hq ▸ (Below.refl _ w1).onD q⟩ : _ ∧ Below w1.heap.size w1 w2))
  obtain ⟨a, c, a', c', ep, eq, hn, hn'⟩ := h.shape
  subst ep eq
  have B1 := toHid (fun (cs : Array Value) (t : TypeId) => Box.new w cs t)
  rcases Bool.eq_false_or_eq_true (psB i ps) with h1 | h1
  · rcases Bool.eq_false_or_eq_true (paB is) with h2 | h2
    · by_cases h3 : ps.length + is.length ≤ 16
      · rw [vwB_all h1 h2 h3]
        rw [h1] at H1
        rw [h2] at H2
        have h3' : ¬ (16 : Int) < (ps.length : Int) + (is.length : Int) := by omega
        have h3'' : decide ((16 : Int) < (ps.length : Int) + (is.length : Int)) = false := decide_eq_false h3'
        replace h := toHid h
        go_enter Try.func31, Try.ntmps31
        go_wp2_with (first
          | (go_at_call 49; refine (H1.out _).mono ?_; rintro e w1 ⟨rfl, hb1⟩
             obtain ⟨b1, b2, b3⟩ := (B1.out _ _).below hb1)
          | (go_at_call 50; refine (H2.out _ _ hb1).mono ?_; rintro e w2 ⟨rfl, hb2⟩
             replace hb2 := hb1.on hb2
             clear hb1 b1 b2 b3
             obtain ⟨b1, b2, b3⟩ := (B1.out _ _).below hb2
             have V2 := toHid ((h.out.alloc _).below hb2 (Nat.le_trans hh (by simp)))
             have z2 := Nat.le_trans hh (Nat.le_trans (Nat.le_succ _) b1))
          | (go_at_call 51; refine (vIds_any i V2.out z2 (by omega)).mono ?_; rintro e w3 ⟨u, rfl, R3, hb3⟩
             replace b1 := (B1.out _ _).below (hb2.on hb3)
             clear b2 b3
             obtain ⟨b1, b2, b3⟩ := b1
             obtain ⟨a3, c3, e3, -⟩ := id R3.out
             subst e3
             have V3 := toHid (V2.out.is.below hb3 z2)
             have C3 := toHid (fun (cs : Array Value) (t : TypeId) => Box.new w3 cs t)
             replace R3 := toHid R3)
          | (go_at_call 54; refine (vContains_any (V3.out.alloc _) (R3.out.alloc _) (by simp) ((C3.out _ _).2.1 0)).mono ?_; rintro e w4 ⟨rfl, n4, hw4⟩))
        go_ret
        exact ⟨rfl, hw4 ▸ ((((Below.refl _ w).onA _).on (hb2.on hb3)).onA _).onD n4⟩
      · have e : vwB i ps is = false := by rw [Bool.eq_false_iff]; intro e; exact h3 (vwB_iff.1 e).2.2.1
        rw [e]
        rw [h1] at H1
        rw [h2] at H2
        have h3' : (16 : Int) < (ps.length : Int) + (is.length : Int) := by omega
        have h3'' : decide ((16 : Int) < (ps.length : Int) + (is.length : Int)) = true := decide_eq_true h3'
        have hs1 := (psB_iff.1 h1).2.2.2
        have hs2 := (paB_iff.1 h2).1
        clear h e h1 h2
        go_enter Try.func31, Try.ntmps31
        go_wp2_with (first
          | (go_at_call 49; refine (H1.out _).mono ?_; rintro e w1 ⟨rfl, hb1⟩
             obtain ⟨b1, b2, b3⟩ := (B1.out _ _).below hb1)
          | (go_at_call 50; refine (H2.out _ _ hb1).mono ?_; rintro e w2 ⟨rfl, hb2⟩
             replace hb2 := hb1.on hb2
             clear hb1 b1 b2 b3
             obtain ⟨b1, b2, b3⟩ := (B1.out _ _).below hb2))
        go_ret
        exact ⟨rfl, ((Below.refl _ w).onA _).on hb2⟩
    · have e : vwB i ps is = false := by rw [Bool.eq_false_iff]; intro e; rw [(vwB_iff.1 e).2.1] at h2; cases h2
      rw [e]
      rw [h1] at H1
      rw [h2] at H2
      clear h e
      go_enter Try.func31, Try.ntmps31
      go_wp2_with (first
        | (go_at_call 49; refine (H1.out _).mono ?_; rintro e w1 ⟨rfl, hb1⟩
           obtain ⟨b1, b2, b3⟩ := (B1.out _ _).below hb1)
        | (go_at_call 50; refine (H2.out _ _ hb1).mono ?_; rintro e w2 ⟨rfl, hb2⟩))
      go_ret
      exact ⟨rfl, (((Below.refl _ w).onA _).on hb1).on hb2⟩
  · have e : vwB i ps is = false := by rw [Bool.eq_false_iff]; intro e; rw [(vwB_iff.1 e).1] at h1; cases h1
    rw [e]
    rw [h1] at H1
    clear h e H2
    go_enter Try.func31, Try.ntmps31
    go_wp2_with (first
      | (go_at_call 49; refine (H1.out _).mono ?_; rintro e w1 ⟨rfl, hb1⟩
         obtain ⟨b1, b2, b3⟩ := (B1.out _ _).below hb1))
    go_ret
    exact ⟨rfl, ((Below.refl _ w).onA _).on hb1⟩
end Go.Proofs.Ytghamcomjfholaa
