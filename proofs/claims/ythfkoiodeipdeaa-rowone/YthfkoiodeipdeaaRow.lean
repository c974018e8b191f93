/-
  Contracts of package row's functions Sort and Owner, at every list of ints: what they return, in new memory, and that nothing that was there is turned.
-/
import Derived.Test.YthfkoiodeipdeaaRowA
import Derived.Test.YthfkoiodeipdeaaRowLays
import Derived.Lib.OwnBridge
namespace Go.Proofs.Ythfkoiodeipdeaa
open Go.ChangeShapes Go.WideShapes Go.ChangeAt Go.RowKit Go.Shelf Go.Lib Go.Sort

theorem any_not_plB (xs : List Int) : xs.any (fun x => !plB x) = !plsB xs := by
  unfold plsB
  induction xs with
  | nil => rfl
  | cons x xs ih => simp [List.any_cons, List.all_cons, ih]

theorem contains_any {lo hi : Nat} {w : World} {v : Value} {xs : List Int} (hv : RowI lo hi w v xs) :
    Calls Try.prog 31 #[v, .func (.func 30) #[] #[]] w fun e w' => e = .returned (.bool (!plsB xs)) ∧ ∃ q, w' = w.drewN q := by
  have hmax := hv.max
  unfold maxLen at hmax
  obtain ⟨p, c, rfl, hl, hc, hpx⟩ := hv
  by_cases h0 : xs = []
  · subst h0
    exact (AnyE.slices_ContainsFunc_empty containsL p c _ w).mono fun e w' ⟨he, hw⟩ => ⟨he, 0, hw⟩
  · obtain ⟨b, off, rfl, _, _, h3⟩ := hpx h0
    have eg : ∀ args w, (callFunc 30 args).run Try.prog w = .ok (.enter 30 args) w := enters_of Try.func30 (by kernel_rfl) rfl
    have hp : PredAt Try.prog 30 #[] (Value.int .i64) (fun x => !plB x) w := fun W x _ => by
      unfold FnGives
      exact (isNoPlace_any x W).mono fun e w' ⟨he, hw⟩ => ⟨he, 0, hw⟩
    have h := AnyE.slices_ContainsFunc containsL (Value.int .i64) (fun x => !plB x) 30 #[] eg b off xs.length c xs w hp (Nat.le_refl _) (by omega)
      (fun j hj => by rw [(h3 j hj).1, getElem!_pos xs j hj]; simp [List.getD, List.getElem?_eq_getElem hj])
    rw [List.take_length, any_not_plB] at h
    exact h

theorem isRow_any {lo hi : Nat} {w : World} {v : Value} {xs : List Int} (hv : RowI lo hi w v xs) (b : Int) :
    Calls Try.prog 20 #[.int .i64 b, v] w fun e w' => e = .returned (.bool (rowB b xs)) ∧ ∃ q, w' = w.drewN q := by
  have hcn := contains_any hv
  obtain ⟨p, c, rfl, _, hc, _⟩ := hv
  by_cases hl : xs.length ≤ 64
  · have hl' : (xs.length : Int) ≤ 64 := by omega
    by_cases hb : plB b = true
    · have e : rowB b xs = plsB xs := by simp [rowB, hl, hb]
      rw [e]
      clear e
      generalize plsB xs = r at *
      go_enter Try.func20, Try.ntmps20
      go_wp2_with (first | (go_at_call 30; refine (isNoPlace_any _ _).mono ?_; rintro e w' ⟨rfl, hw'⟩; subst w') | (go_at_call 31; refine hcn.mono ?_; rintro e w' ⟨rfl, q, hw'⟩; subst w'))
      go_ret
      exact ⟨by simp, q, rfl⟩
    · have hb : plB b = false := by simpa using hb
      have e : rowB b xs = false := by simp [rowB, hb]
      rw [e]
      clear e
      go_enter Try.func20, Try.ntmps20
      go_wp2_with (first | (go_at_call 30; refine (isNoPlace_any _ _).mono ?_; rintro e w' ⟨rfl, hw'⟩; subst w'))
      go_ret
      exact ⟨rfl, 0, rfl⟩
  · have e : rowB b xs = false := by simp [rowB, hl]
    rw [e]
    clear e
    have hl' : ¬ (xs.length : Int) ≤ 64 := by omega
    have hd : decide ((xs.length : Int) ≤ 64) = false := by simp; omega
    go_enter Try.func20, Try.ntmps20
    go_wp2
    go_ret
    exact ⟨rfl, 0, rfl⟩

/-! ### Sorting -/
/-- A place, with that it is one. -/
abbrev Pl := { x : Int // plB x = true }
def encP (x : Pl) : Value := .int .i64 x.1
theorem zeroPl : plB 0 = true := by decide

def cfP (b : Int) (x y : Pl) : Int := cmpI (far b x.1) (far b y.1)
theorem ltP (b : Int) (x y : Pl) : ltOf (cfP b) x y = decide (far b x.1 < far b y.1) := by
  unfold ltOf cfP cmpI
  by_cases h1 : far b x.1 < far b y.1
  · simp [h1]
  · by_cases h2 : far b y.1 < far b x.1 <;> simp [h1, h2]
theorem swoP (b : Int) : SWO (ltOf (cfP b)) :=
  ⟨fun x => by rw [ltP]; simp, fun x y z h1 h2 => by rw [ltP] at *; simp at *; omega, fun x y z h1 h2 => by rw [ltP] at *; simp at *; omega⟩
theorem totP (b : Int) (x y : Pl) (h1 : ltOf (cfP b) x y = false) (h2 : ltOf (cfP b) y x = false) : x = y := by
  rw [ltP] at *
  simp at h1 h2
  exact Subtype.ext (far_inj x.2 y.2 (Int.le_antisymm h2 h1))

/-- Places as such. -/
theorem pls_lift : ∀ {xs : List Int}, plsB xs = true → ∃ ps : List Pl, ps.map (·.1) = xs
  | [], _ => ⟨[], rfl⟩
  | x :: xs, h => by
    have hx : plB x = true := plsB_mem h x (by simp)
    obtain ⟨ps, hp⟩ := pls_lift (xs := xs) (plsB_mk fun y hy => plsB_mem h y (by simp [hy]))
    exact ⟨⟨x, hx⟩ :: ps, by simp [hp]⟩

theorem ownsRow_grow {w : World} {base : Nat} {e : TypeId} {size : Nat} {v : Value} {n : Nat} {xs : List Value} (h : w.ownsRow base e size v n xs) (os : Array Obj) : (grow w os).ownsRow base e size v n xs :=
  h.kept (row := none) ⟨rfl, rfl, rfl, by simp, fun k hk _ => heap_grow_old w os hk⟩ (by cases hv : v.ownBlock <;> simp)
theorem below_grow' {B : Nat} {w0 w : World} (h : Below B w0 w) (hB : B ≤ w.heap.size) (os : Array Obj) : Below B w0 (grow w os) :=
  ⟨h.os, h.tape, h.output, by have := h.size; simp; omega, fun k hk => (heap_grow_old w os (by omega)).trans (h.block k hk)⟩

/-- slices.SortFunc by the distance from b, over a row of the call's own: of places, the same ones, rising. -/
theorem sortFunc_any {w : World} {base : Nat} (b : Int) (hb : plB b = true) (B g cap : Nat) (ys : List Int) (hy : plsB ys = true) (hl : ys.length ≤ 64)
    (hown : w.ownsRow base 3 1 (.slice (some ⟨g, 0, none⟩) ys.length cap) ys.length (ys.map (Value.int .i64))) (hc : w.cell? ⟨B, 0, none⟩ = some (.int .i64 b)) (hne : B ≠ g) (hbase : base ≤ w.heap.size) :
    Calls Try.prog 22 #[.slice (some ⟨g, 0, none⟩) ys.length cap, .func (.func 34) #[] #[.pointer (some ⟨B, 0, none⟩)]] w fun e w' =>
      e = .returned (.tuple #[]) ∧ ∃ ss : List Int, ss.length = ys.length ∧ (∀ x, x ∈ ss ↔ x ∈ ys) ∧ ss.Pairwise (fun x y => far b x ≤ far b y) ∧
        w'.ownsRow base 3 1 (.slice (some ⟨g, 0, none⟩) ss.length cap) ss.length (ss.map (Value.int .i64)) ∧ Below base w w' := by
  by_cases h0 : ys = []
  · subst h0
    refine (AnyF.slices_SortFunc_none (P := Try.prog) (ρ := sortL_ren) { sortL with } (some ⟨g, 0, none⟩) cap _ w).mono ?_
    rintro e w' ⟨rfl, rfl⟩
    exact ⟨rfl, [], rfl, fun _ => Iff.rfl, List.Pairwise.nil, hown, Below.refl _ _⟩
  · letI : Inhabited Pl := ⟨⟨0, zeroPl⟩⟩
    obtain ⟨ps, rfl⟩ := pls_lift hy
    have em : (ps.map (·.1)).map (Value.int .i64) = ps.map encP := by rw [List.map_map]; rfl
    rw [em] at hown
    have hpl : ps.length = (ps.map (·.1)).length := by simp
    rw [← hpl] at hown hl ⊢
    have hBw : B < w.heap.size := World.block_lt_of_cell? _ _ hc
    obtain ⟨g', cap', e', hbg, hgw, hnc, hcm, hzl, hH⟩ := Lib.holds_of_ownsRow (zs := ps) hown (by intro e; cases e)
    simp only [Value.slice.injEq, Option.some.injEq, Addr.mk.injEq, and_true, true_and] at e'
    obtain ⟨rfl, rfl⟩ := e'
    have eg : ∀ args w, (callFunc 34 args).run Try.prog w = .ok (.enter 34 args) w := enters_of Try.func34 (by kernel_rfl) rfl
    have hcmp : CmpLays1 Try.prog 34 #[.pointer (some ⟨B, 0, none⟩)] encP (cfP b) g 0 ps.toArray.size w := by
      intro m os dk hdk x y
      have hc' : (sortWorld encP w g 0 m dk os).cell? ⟨B, 0, none⟩ = some (.int .i64 b) := by
        unfold sortWorld
        rw [cell?_grow _ _ _ (by simpa using hBw), cell?_putRow_other _ _ _ _ _ _ (.inl hne)]
        exact hc
      exact (byDistance1_any b x.1 y.1 B _ hb x.2 y.2 hc').mono fun e w' ⟨he, hw⟩ => ⟨he, 0, #[], by rw [hw, grow_empty]; rfl⟩
    have hS := Any.slices_SortFunc_total sortL encP (fun _ => rfl) (cfP b) (swoP b) 34 #[.pointer (some ⟨B, 0, none⟩)] g 0 cap ps.toArray w eg hcmp hH hgw (by simp; omega) (totP b)
    simp only [List.size_toArray] at hS
    refine hS.mono ?_
    rintro e w' ⟨rfl, n, os, rfl⟩
    obtain ⟨qs, hq⟩ : ∃ qs, qs = ps.mergeSort fun x y => !(ltOf (cfP b)) y x := ⟨_, rfl⟩
    rw [← hq]
    have hperm : qs.Perm ps := by rw [hq]; exact List.mergeSort_perm _ _
    have hql : qs.length = ps.length := hperm.length_eq
    have hsort : qs.Pairwise fun x y => far b x.1 ≤ far b y.1 := by
      have hp := List.pairwise_mergeSort (le := fun x y => !(ltOf (cfP b)) y x) (fun x y z h1 h2 => by simp [ltP] at *; omega) (fun x y => by simp [ltP]; omega) ps
      rw [hq]
      exact hp.imp fun {x y} h => by simpa [ltP] using h
    refine ⟨rfl, qs.map (·.1), by simpa using hql, ?_, ?_, ?_, ?_⟩
    · intro x
      simp only [List.mem_map]
      constructor
      · rintro ⟨y, hy, rfl⟩; exact ⟨y, hperm.subset hy, rfl⟩
      · rintro ⟨y, hy, rfl⟩; exact ⟨y, hperm.symm.subset hy, rfl⟩
    · rw [List.pairwise_map]; exact hsort
    · have h1 := Lib.ownsRow_putRow (enc := encP) (q := n) (ys := qs) (k := ps.length) hown hql (Nat.le_refl _)
      have h2 := ownsRow_grow h1 os
      rw [List.take_of_length_le (by omega)] at h2
      have em2 : (qs.map (·.1)).map (Value.int .i64) = qs.map encP := by rw [List.map_map]; rfl
      rw [em2, List.length_map, hql]
      exact h2
    · exact below_grow' (Lib.below_putRow (Below.refl _ _) hbg) (by simpa using hbase) os

/-- slices.Compact over a row of the call's own. -/
theorem compact_any {w : World} {base : Nat} (g cap : Nat) (ss : List Int) (hl : ss.length ≤ 64) (hown : w.ownsRow base 3 1 (.slice (some ⟨g, 0, none⟩) ss.length cap) ss.length (ss.map (Value.int .i64))) :
    Calls Try.prog 24 #[.slice (some ⟨g, 0, none⟩) ss.length cap] w fun e w' =>
      ∃ u, e = .returned u ∧ w'.ownsRow base 3 1 u (Lib.compact ss).length ((Lib.compact ss).map (Value.int .i64)) ∧ Below base w w' := by
  obtain ⟨g', cap', e', hbg, hgw, hnc, hcm, hzl, hH⟩ := Lib.holds_of_ownsRow (zs := ss) hown (by intro e; cases e)
  simp only [Value.slice.injEq, Option.some.injEq, Addr.mk.injEq, and_true, true_and] at e'
  obtain ⟨rfl, rfl⟩ := e'
  refine (AnyG.slices_Compact_int compactL g 0 cap ss w hH (by omega) hnc).mono ?_
  rintro e w' ⟨rfl, q, rfl⟩
  have hk := Lib.compact_length_le ss
  refine ⟨_, rfl, ?_, Lib.below_putRow (Below.refl _ _) hbg⟩
  have h1 := Lib.ownsRow_putRow (enc := Value.int .i64) (q := q) (ys := Lib.compact ss ++ List.replicate (ss.length - (Lib.compact ss).length) 0) (k := (Lib.compact ss).length) hown (by simp; omega) hk
  rw [List.take_left] at h1
  exact h1

theorem below_of_drewN {B : Nat} {w w' : World} {q : Nat} (h : Below B (w.drewN q) w') : Below B w w' := ⟨h.os, h.tape, h.output, h.size, h.block⟩

theorem others_mem (b : Int) (xs : List Int) (x : Int) : x ∈ others b xs ↔ x ∈ xs ∧ x ≠ b := by simp [others]
theorem others_pls {b : Int} {xs : List Int} (h : plsB xs = true) : plsB (others b xs) = true := plsB_mk fun x hx => plsB_mem h x ((others_mem b xs x).1 hx).1

set_option maxHeartbeats 400000 in
theorem sort_yes {lo hi : Nat} {w : World} {v : Value} {xs : List Int} (hv : RowI lo hi w v xs) (hhi : hi ≤ w.heap.size) (b : Int) (h : rowB b xs = true) :
    Calls Try.prog 9 #[.int .i64 b, v] w fun e w' => ∃ u, e = .returned (.tuple #[u, .int .i64 0]) ∧ RowI w.heap.size w'.heap.size w' u (rowOf b xs) ∧ Below w.heap.size w w' := by
  have his := isRow_any hv b
  obtain ⟨hl, hb, hx⟩ := rowB_yes h
  rw [h] at his
  have hwo := fun q => without_any (hv.drewN q) hhi b hl
  have hsf := fun (w1 : World) (g cap : Nat) (hown : w1.ownsRow w.heap.size 3 1 (.slice (some ⟨g, 0, none⟩) (others b xs).length cap) (others b xs).length ((others b xs).map (Value.int .i64))) (hs : w.heap.size ≤ w1.heap.size) =>
    sortFunc_any (w := w1.alloc (.cells #[.int .i64 b] 3)) b hb w1.heap.size g cap (others b xs) (others_pls hx) (Nat.le_trans (others_le b xs) hl) (hown.alloc _) (by simp) (by have := (hown.lt g rfl).2; omega) (by simp; omega)
  have hol : (others b xs).length ≤ 64 := Nat.le_trans (others_le b xs) hl
  clear hv h
  go_enter Try.func9, Try.ntmps9
  go_wp2_with (first
    | (go_at_call 20; refine his.mono ?_; rintro e w' ⟨rfl, q, hw'⟩; subst w')
    | (go_at_call 21; refine (hwo q).mono ?_; rintro e w1 ⟨u, rfl, hown, ⟨g, c, rfl⟩, hbel⟩)
    | (go_at_call 23; refine (byDistance_any _ _).mono ?_; rintro e w2 ⟨rfl, hw2⟩; subst w2)
    | (go_at_call 22; refine (hsf w1 g c hown hbel.size).mono ?_; rintro e w3 ⟨rfl, ss, hsl, hsm, hsp, hown3, hbel3⟩)
    | (go_at_call 24; rw [← hsl]; refine (compact_any g c ss (by omega) hown3).mono ?_; rintro e w4 ⟨u4, rfl, hown4, hbel4⟩))
  have hcr : Lib.compact ss = rowOf b xs := compact_row hb hx (fun x => (hsm x).trans (others_mem b xs x)) hsp
  rw [hcr] at hown4
  go_ret2
  exact ⟨_, rfl, RowI.of_owns hown4, (((below_of_drewN hbel).alloc hbel.size _).trans hbel3).trans hbel4⟩

theorem sort_no {lo hi : Nat} {w : World} {v : Value} {xs : List Int} (hv : RowI lo hi w v xs) (b : Int) (h : rowB b xs = false) :
    Calls Try.prog 9 #[.int .i64 b, v] w fun e w' => e = .returned (.tuple #[.slice none 0 0, .int .i64 200]) ∧ ∃ q, w' = w.drewN q := by
  have his := isRow_any hv b
  rw [h] at his
  go_enter Try.func9, Try.ntmps9
  go_wp2_with (go_at_call 20; refine his.mono ?_; rintro e w' ⟨rfl, q, hw'⟩; subst w')
  go_ret2
  exact ⟨rfl, q, rfl⟩

theorem owner_no {lo hi : Nat} {w : World} {v : Value} {xs : List Int} (hv : RowI lo hi w v xs) (b : Int) (h : rowB b xs = false ∨ xs = []) :
    Calls Try.prog 11 #[v, .int .i64 b] w fun e w' => e = .returned (.tuple #[.int .i64 0, .int .i64 200]) ∧ ∃ q, w' = w.drewN q := by
  have his := isRow_any hv b
  obtain ⟨p, c, rfl, _, hc, _⟩ := hv
  by_cases h0 : xs = []
  · subst h0
    clear h hc his
    go_enter Try.func11, Try.ntmps11
    go_wp2
    go_ret2
    exact ⟨rfl, 0, rfl⟩
  · have h : rowB b xs = false := h.resolve_right h0
    rw [h] at his
    have hp : 0 < xs.length := List.length_pos_iff.2 h0
    have h1 : ¬ (xs.length : Int) = 0 := by omega
    have h2 : ((xs.length : Int) == 0) = false := by simp; omega
    clear h h0
    generalize xs.length = n at *
    go_enter Try.func11, Try.ntmps11
    go_wp2_with (go_at_call 20; refine his.mono ?_; rintro e w' ⟨rfl, q, hw'⟩; subst w')
    go_ret2
    exact ⟨rfl, q, rfl⟩

theorem holds_of_row {w : World} {b off : Nat} {xs : List Int} (h3 : ∀ j, j < xs.length → w.cell? ⟨b, off + j, none⟩ = some (.int .i64 (xs.getD j 0)) ∧ w.frozen? ⟨b, off + j, none⟩ = false) : Holds (Value.int .i64) w b off xs.toArray := by
  intro j hj
  have hj : j < xs.length := by simpa using hj
  rw [getElem!_list xs j hj]
  have := h3 j hj
  simpa [List.getD, List.getElem?_eq_getElem hj] using this

theorem minFunc_any {w : World} (key : Int) (hk : plB key = true) (B bl off cap : Nat) (xs : List Int) (hx : plsB xs = true) (h0 : xs ≠ []) (hl : xs.length ≤ 64)
    (h3 : ∀ j, j < xs.length → w.cell? ⟨bl, off + j, none⟩ = some (.int .i64 (xs.getD j 0)) ∧ w.frozen? ⟨bl, off + j, none⟩ = false) (hc : w.cell? ⟨B, 0, none⟩ = some (.int .i64 key)) (hne : B ≠ bl) :
    Calls Try.prog 28 #[.slice (some ⟨bl, off, none⟩) xs.length cap, .func (.func 34) #[] #[.pointer (some ⟨B, 0, none⟩)]] w fun e w' =>
      e = .returned (.int .i64 (ownerOf xs key)) ∧ Below w.heap.size w w' := by
  letI : Inhabited Pl := ⟨⟨0, zeroPl⟩⟩
  have hp : 0 < xs.length := List.length_pos_iff.2 h0
  obtain ⟨ps, hps⟩ := pls_lift hx
  have hpl : ps.length = xs.length := by rw [← hps]; simp
  have hget : ∀ j (hj : j < ps.length), ps[j].1 = xs.getD j 0 := fun j hj => by
    rw [← hps]
    simp [List.getD, hj]
  have hH : Holds encP w bl off ps.toArray := by
    intro j hj
    have hj : j < ps.length := by simpa using hj
    have e : ps.toArray[j]! = ps[j] := by rw [getElem!_pos _ j (by simpa using hj)]; simp
    rw [e]
    show w.cell? _ = some (.int .i64 ps[j].1) ∧ _
    rw [hget j hj]
    exact h3 j (by omega)
  have hBw : B < w.heap.size := World.block_lt_of_cell? _ _ hc
  have hblw : bl < w.heap.size := World.block_lt_of_cell? _ _ (h3 0 hp).1
  have eg : ∀ args w, (callFunc 34 args).run Try.prog w = .ok (.enter 34 args) w := enters_of Try.func34 (by kernel_rfl) rfl
  have hcmp : CmpLays1 Try.prog 34 #[.pointer (some ⟨B, 0, none⟩)] encP (cfP key) bl off ps.toArray.size w := by
    intro m os dk hdk x y
    have hc' : (sortWorld encP w bl off m dk os).cell? ⟨B, 0, none⟩ = some (.int .i64 key) := by
      unfold sortWorld
      rw [cell?_grow _ _ _ (by simpa using hBw), cell?_putRow_other _ _ _ _ _ _ (.inl hne)]
      exact hc
    exact (byDistance1_any key x.1 y.1 B _ hk x.2 y.2 hc').mono fun e w' ⟨he, hw⟩ => ⟨he, 0, #[], by rw [hw, grow_empty]; rfl⟩
  have hM := Any.slices_MinFunc minL encP (fun _ => rfl) (cfP key) 34 #[.pointer (some ⟨B, 0, none⟩)] bl off cap ps.toArray w eg hcmp hH hblw (by simp; omega) (by simp; omega)
  simp only [List.size_toArray, hpl] at hM
  refine hM.mono ?_
  rintro e w' ⟨rfl, n, os, rfl⟩
  have hpick : ∀ k, k < ps.length → (Lib.pickBy (fun x m => decide (cfP key x m < 0)) ps.toArray k).1 = nearAt key (fun j => xs.getD j 0) k := by
    intro k
    induction k with
    | zero =>
      intro hk
      show (ps.toArray[0]!).1 = _
      have e : ps.toArray[0]! = ps[0] := by rw [getElem!_pos _ 0 (by simpa using hk)]; simp
      rw [e, hget 0 hk]
      rfl
    | succ k ih =>
      intro hk
      have e : ps.toArray[k + 1]! = ps[k + 1] := by rw [getElem!_pos _ (k + 1) (by simpa using hk)]; simp
      unfold Lib.pickBy nearAt
      have hlt : decide (cfP key ps[k + 1] (Lib.pickBy (fun x m => decide (cfP key x m < 0)) ps.toArray k) < 0) = decide (far key (xs.getD (k + 1) 0) < far key (nearAt key (fun j => xs.getD j 0) k)) := by
        have := ltP key ps[k + 1] (Lib.pickBy (fun x m => decide (cfP key x m < 0)) ps.toArray k)
        rw [ih (by omega), hget (k + 1) hk] at this
        exact this
      rw [e, hlt]
      by_cases h : far key (xs.getD (k + 1) 0) < far key (nearAt key (fun j => xs.getD j 0) k)
      · rw [if_pos (by simpa using h), if_pos h, hget (k + 1) hk]
      · rw [if_neg (by simpa using h), if_neg h, ih (by omega)]
  refine ⟨?_, ?_⟩
  · show Ending.returned (.int .i64 _) = _
    rw [hpick _ (by omega)]
    rfl
  · have hself : putRow encP (Sort.ahead w n) bl off ps.toArray = Sort.ahead w n := putRow_self _ _ _ _ _ hH
    unfold sortWorld
    rw [hself]
    exact below_grow' (B := w.heap.size) (w0 := w) (w := Sort.ahead w n) ⟨rfl, rfl, rfl, Nat.le_refl _, fun _ _ => rfl⟩ (Nat.le_refl _) os

theorem owner_yes {lo hi : Nat} {w : World} {v : Value} {xs : List Int} (hv : RowI lo hi w v xs) (b : Int) (h : rowB b xs = true) (h0 : xs ≠ []) :
    Calls Try.prog 11 #[v, .int .i64 b] w fun e w' => e = .returned (.tuple #[.int .i64 (ownerOf xs b), .int .i64 0]) ∧ Below w.heap.size w w' := by
  have his := isRow_any hv b
  obtain ⟨hl, hb, hx⟩ := rowB_yes h
  rw [h] at his
  obtain ⟨p, c, rfl, _, hc, hpx⟩ := hv
  obtain ⟨bl, off, rfl, _, _, h3⟩ := hpx h0
  have hp : 0 < xs.length := List.length_pos_iff.2 h0
  have hblw : bl < w.heap.size := World.block_lt_of_cell? _ _ (h3 0 hp).1
  have hmf := fun q => minFunc_any (w := (w.drewN q).alloc (.cells #[.int .i64 b] 3)) b hb w.heap.size bl off c xs hx h0 hl
    (fun j hj => ⟨(World.cell?_alloc_past _ _ _ (by simpa using hblw)).trans (h3 j hj).1, (World.frozen?_alloc_past _ _ _ (by simpa using hblw)).trans (h3 j hj).2⟩) ((World.cell?_alloc_at _ _ _ _ rfl).trans rfl) (by omega)
  have h1 : ¬ (xs.length : Int) = 0 := by omega
  have h2 : ((xs.length : Int) == 0) = false := by simp; omega
  clear h h0 hpx h3
  generalize xs.length = n at *
  go_enter Try.func11, Try.ntmps11
  go_wp2_with (first
    | (go_at_call 20; refine his.mono ?_; rintro e w' ⟨rfl, q, hw'⟩; subst w')
    | (go_at_call 23; refine (byDistance_any _ _).mono ?_; rintro e w2 ⟨rfl, hw2⟩; subst w2)
    | (go_at_call 28; refine (hmf q).mono ?_; rintro e w3 ⟨rfl, hbel3⟩))
  go_ret2
  refine ⟨rfl, ?_⟩
  have hB : Below w.heap.size w ((w.drewN q).alloc (.cells #[.int .i64 b] 3)) := (below_drewN (Below.refl _ w) q).alloc (Nat.le_refl _) _
  exact hB.trans (hbel3.mono (by simp))

theorem sort_any {lo hi : Nat} {w : World} {v : Value} {xs : List Int} (hv : RowI lo hi w v xs) (hhi : hi ≤ w.heap.size) (b : Int) :
    Calls Try.prog 9 #[.int .i64 b, v] w fun e w' => ∃ u, e = .returned (.tuple #[u, .int .i64 (rowE b xs)]) ∧ RowI w.heap.size w'.heap.size w' u (rowL b xs) ∧ Below w.heap.size w w' := by
  by_cases h : rowB b xs = true
  · unfold rowE rowL
    rw [if_pos h, if_pos h]
    exact sort_yes hv hhi b h
  · unfold rowE rowL
    rw [if_neg h, if_neg h]
    have h : rowB b xs = false := by simpa using h
    refine (sort_no hv b h).mono ?_
    rintro e w' ⟨rfl, q, rfl⟩
    exact ⟨_, rfl, RowI.nil0, below_drewN (Below.refl _ _) q⟩

theorem owner_any {lo hi : Nat} {w : World} {v : Value} {xs : List Int} (hv : RowI lo hi w v xs) (b : Int) :
    Calls Try.prog 11 #[v, .int .i64 b] w fun e w' => e = .returned (.tuple #[.int .i64 (ownV xs b), .int .i64 (ownE xs b)]) ∧ Below w.heap.size w w' := by
  by_cases h : rowB b xs = true ∧ xs ≠ []
  · unfold ownV ownE
    rw [if_pos h, if_pos h]
    exact owner_yes hv b h.1 h.2
  · unfold ownV ownE
    rw [if_neg h, if_neg h]
    have h : rowB b xs = false ∨ xs = [] := by
      by_cases e : xs = []
      · exact .inr e
      · left
        cases hr : rowB b xs with
        | false => rfl
        | true => exact absurd ⟨hr, e⟩ h
    refine (owner_no hv b h).mono ?_
    rintro e w' ⟨rfl, q, rfl⟩
    exact ⟨rfl, below_drewN (Below.refl _ _) q⟩

end Go.Proofs.Ythfkoiodeipdeaa
