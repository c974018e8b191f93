
/-
  Contracts of package hello's small functions (no place; may they be named; is it a peer; is there no room; is it known), at every view and list: what they return, and that no old memory has turned.
-/
import Derived.Test.YtgopjjclobgekaaHelloMath
import Derived.Test.YtgopjjclobgekaaViewA
namespace Go.Proofs.Ytgopjjclobgekaa
open Go.ChangeShapes Go.WideShapes Go.ChangeAt Go.RowKit Go.Shelf Go.Lib

theorem hNo_any (x : Int) (w : World) :
    Calls Try.prog 26 #[.int .i64 x] w fun e w' => e = .returned (.bool (!plB x)) ∧ w' = w := by
  rcases Bool.eq_false_or_eq_true (plB x) with h | h
  · rw [h]
    go_enter Try.func26, Try.ntmps26
    go_wp2_with (go_at_call 47; refine (distance_yes _ _ _ h h).mono ?_; rintro e w' ⟨rfl, hw'⟩; subst w')
    go_ret
    exact ⟨rfl, rfl⟩
  · rw [h]
    go_enter Try.func26, Try.ntmps26
    go_wp2_with (go_at_call 47; refine (distance_no _ _ _ (.inl h)).mono ?_; rintro e w' ⟨rfl, hw'⟩; subst w')
    go_ret
    exact ⟨rfl, rfl⟩

theorem hContains_any {lo hi : Nat} {w : World} {v : Value} {xs : List Int} (hv : RowI lo hi w v xs) :
    Calls Try.prog 46 #[v, .func (.func 26) #[] #[]] w fun e w' => e = .returned (.bool (!plsB xs)) ∧ ∃ q, w' = w.drewN q := by
  have hmax := hv.max
  unfold maxLen at hmax
  obtain ⟨p, c, rfl, hl, hc, hpx⟩ := hv
  by_cases h0 : xs = []
  · subst h0
    exact (AnyE.slices_ContainsFunc_empty containsL p c _ w).mono fun e w' ⟨he, hw⟩ => ⟨he, 0, hw⟩
  · obtain ⟨b, off, rfl, _, _, h3⟩ := hpx h0
    have eg : ∀ args w, (callFunc 26 args).run Try.prog w = .ok (.enter 26 args) w := enters_of Try.func26 (by kernel_rfl) rfl
    have hp : PredAt Try.prog 26 #[] (Value.int .i64) (fun x => !plB x) w := fun W x _ => by
      unfold FnGives
      exact (hNo_any x W).mono fun e w' ⟨he, hw⟩ => ⟨he, 0, hw⟩
    have h := AnyE.slices_ContainsFunc containsL (Value.int .i64) (fun x => !plB x) 26 #[] eg b off xs.length c xs w hp (Nat.le_refl _) (by omega)
      (fun j hj => by rw [(h3 j hj).1, getElem!_pos xs j hj]; simp [List.getD, List.getElem?_eq_getElem hj])
    rw [List.take_length, any_not_plB] at h
    exact h

theorem hNamed_any {lo hi : Nat} {w : World} {v : Value} {xs : List Int} (hx : RowI lo hi w v xs) :
    Calls Try.prog 27 #[v] w fun e w' => e = .returned (.bool (decide (xs.length ≤ 16) && plsB xs)) ∧ Below w.heap.size w w' := by
  have H1 := hContains_any hx
  obtain ⟨p, c, rfl, hl, hc, -⟩ := hx
  by_cases hl : xs.length ≤ 16
  · have hl1 : (xs.length : Int) ≤ 16 := by omega
    rw [decide_eq_true hl, Bool.true_and]
    generalize plsB xs = r1 at *
    go_enter Try.func27, Try.ntmps27
    go_wp2_with (first
      | (go_at_call 46; refine H1.mono ?_; rintro e w' ⟨rfl, q, hw'⟩; subst w'))
    go_ret
    exact ⟨by simp, (Below.refl _ w).onD q⟩
  · rw [decide_eq_false hl, Bool.false_and]
    clear H1
    have hl1 : ¬ (xs.length : Int) ≤ 16 := by omega
    have hd : decide ((xs.length : Int) ≤ 16) = false := decide_eq_false hl1
    go_enter Try.func27, Try.ntmps27
    go_wp2
    go_ret
    exact ⟨rfl, Below.refl _ _⟩

/-- The closure: is it the peer of that name, which lies in its own cell? -/
theorem hIs_any (n m d : Int) (B : Nat) (w : World) (hc : w.cell? ⟨B, 0, none⟩ = some (.int .i64 d)) :
    Calls Try.prog 66 #[.agg #[.int .i64 n, .int .i64 m], .pointer (some ⟨B, 0, none⟩)] w fun e w' => e = .returned (.bool (decide (n = d))) ∧ Below w.heap.size w w' := by
  have hBw : B < w.heap.size := World.block_lt_of_cell? _ _ hc
  by_cases h : n = d
  · rw [decide_eq_true h]
    have h2 : (n == d) = true := by simpa using h
    go_enter Try.func66, Try.ntmps66
    go_wp2
    go_ret
    exact ⟨rfl, (Below.refl _ w).onA _⟩
  · rw [decide_eq_false h]
    have h2 : (n == d) = false := by simpa using h
    go_enter Try.func66, Try.ntmps66
    go_wp2
    go_ret
    exact ⟨rfl, (Below.refl _ w).onA _⟩

set_option maxHeartbeats 1000000 in
theorem hIndex_any {lo hi B : Nat} {w : World} {v : Value} {ps : List Pe} (hx : RowP lo hi w v ps) (hh : hi ≤ w.heap.size) (d : Int) (hB : w.cell? ⟨B, 0, none⟩ = some (.int .i64 d)) :
    Calls Try.prog 72 #[v, .func (.func 66) #[] #[.pointer (some ⟨B, 0, none⟩)]] w fun e w' => ∃ r : Int, e = .returned (.int .i64 r) ∧ decide (0 ≤ r) = decide (d ∈ nmL ps) ∧ Below w.heap.size w w' := by
  have hBw : B < w.heap.size := World.block_lt_of_cell? _ _ hB
  obtain ⟨a, c, rfl, hn, hp⟩ := hx.pes hh
  have hin : Hid ((decide (d ∈ nmL ps)) = true ↔ ∃ j, j < ps.length ∧ (ps.getD j ⟨0, 0⟩).n = d) := toHid (by
    rw [decide_eq_true_iff, nmL_mem]
    constructor
    · rintro ⟨p, hp, e⟩
      obtain ⟨j, hj, rfl⟩ := List.mem_iff_getElem.1 hp
      exact ⟨j, hj, by rw [getD_in _ _ hj]; exact e⟩
    · rintro ⟨j, hj, e⟩
      rw [getD_in _ _ hj] at e
      exact ⟨_, List.getElem_mem hj, e⟩)
  generalize decide (d ∈ nmL ps) = r at *
  obtain ⟨g, hg⟩ : ∃ g : Nat → Pe, ∀ j, ps.getD j ⟨0, 0⟩ = g j := ⟨_, fun _ => rfl⟩
  simp only [hg] at hp hin
  clear hg hx
  generalize ps.length = n at *
  replace hp := toHid hp
  have HB := toHid (fun (w' : World) (hb : Below w.heap.size w w') (n m : Int) => hIs_any n m d B w' ((hb.cell (p := ⟨B, 0, none⟩) hBw).trans hB))
  clear hB hBw
  go_enter Try.func72, Try.ntmps72
  go_wp2
  go_loopw [8] (fun i wr => ∃ k : Nat, k ≤ n ∧ i = .int .i64 k ∧ Hid (∀ j, j < k → ¬ (g j).n = d) ∧ Below w.heap.size w wr) (fun i _ => n - (intOf i).toNat)
  case atStart => exact ⟨0, Nat.zero_le _, rfl, toHid (fun j hj => absurd hj (Nat.not_lt_zero _)), Below.refl _ _⟩
  case round =>
    obtain ⟨k, hk, rfl, hj, hbel⟩ := hrel
    by_cases hlt : k < n
    · obtain ⟨b, off, rfl, -, hb, h1⟩ := hp.out (by omega)
      obtain ⟨c1, c2⟩ := (h1 k hlt).below hbel hb
      have hlt' : (k : Int) < (n : Int) := by omega
      clear h1 hp
      generalize hz : g k = z at c1 c2
      obtain ⟨zn, zm⟩ := z
      dsimp only at c1 c2
      by_cases he : zn = d
      · have hrt : r = true := hin.out.2 ⟨k, hlt, by rw [hz]; exact he⟩
        subst hrt
        have HB' := HB.out wr hbel zn zm
        rw [decide_eq_true he] at HB'
        clear hin hj he hz HB
        go_wp2_with (go_at_call 66; refine HB'.mono ?_; rintro e w1 ⟨rfl, h1⟩)
        go_ret
        exact ⟨_, rfl, by simp, hbel.on h1⟩
      · have hj' : Hid (∀ j, j < k + 1 → ¬ (g j).n = d) := toHid fun j hjk => by
          by_cases e : j = k
          · rw [e, hz]; exact he
          · exact hj.out j (by omega)
        have HB' := HB.out wr hbel zn zm
        rw [decide_eq_false he] at HB'
        clear hin hj he hz HB
        go_wp2_with (go_at_call 66; refine HB'.mono ?_; rintro e w1 ⟨rfl, h1⟩)
        go_roundw
        case rel => exact ⟨k + 1, by omega, by go_num, hj', hbel.on h1⟩
        case measure => simp [intOf]; omega
    · have hrf : r = false := by
        cases hr : r with
        | false => rfl
        | true =>
          obtain ⟨j, h1, h2⟩ := hin.out.1 hr
          exact absurd h2 (hj.out j (by omega))
      subst hrf
      clear hin hj hp HB
      go_wp2
      go_ret
      exact ⟨_, rfl, by simp, hbel⟩

theorem hContainsP_any {lo hi B : Nat} {w : World} {v : Value} {ps : List Pe} (hx : RowP lo hi w v ps) (hh : hi ≤ w.heap.size) (d : Int) (hB : w.cell? ⟨B, 0, none⟩ = some (.int .i64 d)) :
    Calls Try.prog 65 #[v, .func (.func 66) #[] #[.pointer (some ⟨B, 0, none⟩)]] w fun e w' => e = .returned (.bool (decide (d ∈ nmL ps))) ∧ Below w.heap.size w w' := by
  have H := hIndex_any hx hh d hB
  clear hx hB
  generalize decide (d ∈ nmL ps) = r at *
  go_enter Try.func65, Try.ntmps65
  go_wp2_with (go_at_call 72; refine H.mono ?_; rintro e w1 ⟨k, rfl, hk, h1⟩)
  go_ret
  exact ⟨rfl, h1⟩

section vw
variable {lo hi : Nat} {w : World} {p q : Value} {ps : List Pe} {is : List Int}
set_option maxHeartbeats 400000 in
theorem hPeer_any (i d : Int) (h : VwAt lo hi w p q ps is) (hh : hi ≤ w.heap.size) :
    Calls Try.prog 48 #[.agg #[.int .i64 i, p, q], .int .i64 d] w fun e w' => e = .returned (.bool (decide (d ∈ nmL ps))) ∧ Below w.heap.size w w' := by
  have H := toHid (fun o1 : Obj => hContainsP_any (B := w.heap.size + 1) ((h.ps.alloc o1 PeV_len).alloc (.cells #[.int .i64 d] 3) PeV_len) (Nat.le_trans hh (by simp; omega)) d (by simp))
  obtain ⟨a, c, a', c', rfl, rfl, -, -⟩ := h.shape
  clear h
  generalize decide (d ∈ nmL ps) = r at *
  go_enter Try.func48, Try.ntmps48
  go_wp2_with (go_at_call 65; refine (H.out _).mono ?_; rintro e w1 ⟨rfl, h1⟩)
  go_ret
  exact ⟨rfl, (((Below.refl _ w).onA _).onA _).on h1⟩
theorem hFull_any (i : Int) (h : VwAt lo hi w p q ps is) (hl : ps.length + is.length ≤ 1024) :
    Calls Try.prog 49 #[.agg #[.int .i64 i, p, q]] w fun e w' => e = .returned (.bool (decide (16 ≤ ps.length + is.length))) ∧ Below w.heap.size w w' := by
  obtain ⟨a, c, a', c', rfl, rfl, -, -⟩ := h.shape
  clear h
  generalize ps.length = n at *
  generalize is.length = m at *
  by_cases hf : 16 ≤ n + m
  · rw [decide_eq_true hf]
    have hf1 : (16 : Int) ≤ (n : Int) + (m : Int) := by omega
    have hf2 : decide ((16 : Int) ≤ (n : Int) + (m : Int)) = true := decide_eq_true hf1
    go_enter Try.func49, Try.ntmps49
    go_wp2
    go_ret
    exact ⟨rfl, (Below.refl _ w).onA _⟩
  · rw [decide_eq_false hf]
    have hf1 : ¬ (16 : Int) ≤ (n : Int) + (m : Int) := by omega
    have hf2 : decide ((16 : Int) ≤ (n : Int) + (m : Int)) = false := decide_eq_false hf1
    go_enter Try.func49, Try.ntmps49
    go_wp2
    go_ret
    exact ⟨rfl, (Below.refl _ w).onA _⟩
set_option maxHeartbeats 1000000 in
theorem hKnows_any (i d : Int) (h : VwAt lo hi w p q ps is) (hh : hi ≤ w.heap.size) :
    Calls Try.prog 30 #[.agg #[.int .i64 i, p, q], .int .i64 d] w fun e w' => e = .returned (.bool (decide (d = i ∨ Kn (ps, is) d))) ∧ Below w.heap.size w w' := by
  have H1 := toHid (fun o : Obj => hPeer_any i d (h.alloc o) (Nat.le_trans hh (by simp)))
  have H2 := toHid (fun (o : Obj) (w1 : World) (hb : Below (w.alloc o).heap.size (w.alloc o) w1) => containsI_any ((h.is.alloc o).below hb (Nat.le_trans hh (by simp))) d)
  have B1 := toHid (fun (cs : Array Value) (t : TypeId) => Box.new w cs t)
  obtain ⟨a, c, a', c', rfl, rfl, -, -⟩ := h.shape
  clear h
  by_cases hi : d = i
  · rw [decide_eq_true (.inl hi)]
    have h2 : (d == i) = true := by simpa using hi
    clear H1 H2 B1
    go_enter Try.func30, Try.ntmps30
    go_wp2
    go_ret
    exact ⟨rfl, (Below.refl _ w).onA _⟩
  · have h2 : (d == i) = false := by simpa using hi
    by_cases hp : d ∈ nmL ps
    · rw [decide_eq_true (.inr (.inr hp))]
      rw [decide_eq_true hp] at H1
      clear H2 B1
      go_enter Try.func30, Try.ntmps30
      go_wp2_with (first
        | (go_at_call 48; refine (H1.out _).mono ?_; rintro e w1 ⟨rfl, h1⟩))
      go_ret
      exact ⟨rfl, ((Below.refl _ w).onA _).on h1⟩
    · have e : decide (d = i ∨ Kn (ps, is) d) = decide (d ∈ is) := by simp [Kn, hi, hp]
      rw [e]
      rw [decide_eq_false hp] at H1
      clear e hp hi
      generalize decide (d ∈ is) = r at *
      go_enter Try.func30, Try.ntmps30
      go_wp2_with (first
        | (go_at_call 48; refine (H1.out _).mono ?_; rintro e w1 ⟨rfl, h1⟩
           obtain ⟨b1, b2, b3⟩ := (B1.out _ _).below h1)
        | (go_at_call 45; refine (H2.out _ _ h1).mono ?_; rintro e w' ⟨rfl, hw'⟩; subst w'))
      go_ret
      exact ⟨rfl, ((Below.refl _ w).onA _).on h1⟩
end vw

end Go.Proofs.Ytgopjjclobgekaa
