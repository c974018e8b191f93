
/-
  Contract of package row's function Owner, at every list of ints: what it returns, and that nothing that was there is turned.
-/
import Derived.Test.YtpbfhnjdnkmpaaaRowA
import Derived.Test.YtpbfhnjdnkmpaaaContLays
import Derived.Test.YtpbfhnjdnkmpaaaOwnLays
namespace Go.Proofs.Ytpbfhnjdnkmpaaa
open Go.ChangeShapes Go.WideShapes Go.ChangeAt Go.RowKit Go.Shelf Go.Lib Go.Sort

theorem contains_any {lo hi : Nat} {w : World} {v : Value} {xs : List Int} (hv : RowI lo hi w v xs) :
    Calls Try.prog 34 #[v, .func (.func 52) #[] #[]] w fun e w' => e = .returned (.bool (!plsB xs)) ∧ ∃ q, w' = w.drewN q := by
  have hmax := hv.max
  unfold maxLen at hmax
  obtain ⟨p, c, rfl, hl, hc, hpx⟩ := hv
  by_cases h0 : xs = []
  · subst h0
    exact (AnyE.slices_ContainsFunc_empty containsL p c _ w).mono fun e w' ⟨he, hw⟩ => ⟨he, 0, hw⟩
  · obtain ⟨b, off, rfl, _, _, h3⟩ := hpx h0
    have eg : ∀ args w, (callFunc 52 args).run Try.prog w = .ok (.enter 52 args) w := enters_of Try.func52 (by kernel_rfl) rfl
    have hp : PredAt Try.prog 52 #[] (Value.int .i64) (fun x => !plB x) w := fun W x _ => by
      unfold FnGives
      exact (isNoPlace_any x W).mono fun e w' ⟨he, hw⟩ => ⟨he, 0, hw⟩
    have h := AnyE.slices_ContainsFunc containsL (Value.int .i64) (fun x => !plB x) 52 #[] eg b off xs.length c xs w hp (Nat.le_refl _) (by omega)
      (fun j hj => by rw [(h3 j hj).1, getElem!_pos xs j hj]; simp [List.getD, List.getElem?_eq_getElem hj])
    rw [List.take_length, any_not_plB] at h
    exact h

theorem isRow_any {lo hi : Nat} {w : World} {v : Value} {xs : List Int} (hv : RowI lo hi w v xs) (b : Int) :
    Calls Try.prog 41 #[.int .i64 b, v] w fun e w' => e = .returned (.bool (rowB b xs)) ∧ ∃ q, w' = w.drewN q := by
  have hcn := contains_any hv
  obtain ⟨p, c, rfl, _, hc, _⟩ := hv
  by_cases hl : xs.length ≤ 64
  · have hl' : (xs.length : Int) ≤ 64 := by omega
    by_cases hb : plB b = true
    · have e : rowB b xs = plsB xs := by simp [rowB, hl, hb]
      rw [e]
      clear e
      generalize plsB xs = r at *
      go_enter Try.func41, Try.ntmps41
      go_wp2_with (first | (go_at_call 52; refine (isNoPlace_any _ _).mono ?_; rintro e w' ⟨rfl, hw'⟩; subst w') | (go_at_call 34; refine hcn.mono ?_; rintro e w' ⟨rfl, q, hw'⟩; subst w'))
      go_ret
      exact ⟨by simp, q, rfl⟩
    · have hb : plB b = false := by simpa using hb
      have e : rowB b xs = false := by simp [rowB, hb]
      rw [e]
      clear e
      go_enter Try.func41, Try.ntmps41
      go_wp2_with (first | (go_at_call 52; refine (isNoPlace_any _ _).mono ?_; rintro e w' ⟨rfl, hw'⟩; subst w'))
      go_ret
      exact ⟨rfl, 0, rfl⟩
  · have e : rowB b xs = false := by simp [rowB, hl]
    rw [e]
    clear e
    have hl' : ¬ (xs.length : Int) ≤ 64 := by omega
    have hd : decide ((xs.length : Int) ≤ 64) = false := by simp; omega
    go_enter Try.func41, Try.ntmps41
    go_wp2
    go_ret
    exact ⟨rfl, 0, rfl⟩

/-! ### Places as such, and their order by distance -/
/-- A place, with that it is one. -/
abbrev Pl := { x : Int // plB x = true }
def encP (x : Pl) : Value := .int .i64 x.1
theorem zeroPl : plB 0 = true := by decide

def cfP (b : Int) (x y : Pl) : Int := cmpI (far b x.1) (far b y.1)
theorem ltP (b : Int) (x y : Pl) : ltOf (cfP b) x y = decide (far b x.1 < far b y.1) := by
  unfold ltOf cfP cmpI
  by_cases h1 : far b x.1 < far b y.1
  · simp [h1]
  · by_cases h2 : far b y.1 < far b x.1 <;> simp [h1, h2]
theorem swoP (b : Int) : SWO (ltOf (cfP b)) :=
  ⟨fun x => by rw [ltP]; simp, fun x y z h1 h2 => by rw [ltP] at *; simp at *; omega, fun x y z h1 h2 => by rw [ltP] at *; simp at *; omega⟩
theorem totP (b : Int) (x y : Pl) (h1 : ltOf (cfP b) x y = false) (h2 : ltOf (cfP b) y x = false) : x = y := by
  rw [ltP] at *
  simp at h1 h2
  exact Subtype.ext (far_inj x.2 y.2 (Int.le_antisymm h2 h1))

/-- Places as such. -/
theorem pls_lift : ∀ {xs : List Int}, plsB xs = true → ∃ ps : List Pl, ps.map (·.1) = xs
  | [], _ => ⟨[], rfl⟩
  | x :: xs, h => by
    have hx : plB x = true := plsB_mem h x (by simp)
    obtain ⟨ps, hp⟩ := pls_lift (xs := xs) (plsB_mk fun y hy => plsB_mem h y (by simp [hy]))
    exact ⟨⟨x, hx⟩ :: ps, by simp [hp]⟩

theorem ownsRow_grow {w : World} {base : Nat} {e : TypeId} {size : Nat} {v : Value} {n : Nat} {xs : List Value} (h : w.ownsRow base e size v n xs) (os : Array Obj) : (grow w os).ownsRow base e size v n xs :=
  h.kept (row := none) ⟨rfl, rfl, rfl, by simp, fun k hk _ => heap_grow_old w os hk⟩ (by cases hv : v.ownBlock <;> simp)
theorem below_grow' {B : Nat} {w0 w : World} (h : Below B w0 w) (hB : B ≤ w.heap.size) (os : Array Obj) : Below B w0 (grow w os) :=
  ⟨h.os, h.tape, h.output, by have := h.size; simp; omega, fun k hk => (heap_grow_old w os (by omega)).trans (h.block k hk)⟩

theorem owner_no {lo hi : Nat} {w : World} {v : Value} {xs : List Int} (hv : RowI lo hi w v xs) (b : Int) (h : rowB b xs = false ∨ xs = []) :
    Calls Try.prog 27 #[v, .int .i64 b] w fun e w' => e = .returned (.tuple #[.int .i64 0, .int .i64 200]) ∧ ∃ q, w' = w.drewN q := by
  have his := isRow_any hv b
  obtain ⟨p, c, rfl, _, hc, _⟩ := hv
  by_cases h0 : xs = []
  · subst h0
    clear h hc his
    go_enter Try.func27, Try.ntmps27
    go_wp2
    go_ret2
    exact ⟨rfl, 0, rfl⟩
  · have h : rowB b xs = false := h.resolve_right h0
    rw [h] at his
    have hp : 0 < xs.length := List.length_pos_iff.2 h0
    have h1 : ¬ (xs.length : Int) = 0 := by omega
    have h2 : ((xs.length : Int) == 0) = false := by simp; omega
    clear h h0
    generalize xs.length = n at *
    go_enter Try.func27, Try.ntmps27
    go_wp2_with (go_at_call 41; refine his.mono ?_; rintro e w' ⟨rfl, q, hw'⟩; subst w')
    go_ret2
    exact ⟨rfl, q, rfl⟩

theorem holds_of_row {w : World} {b off : Nat} {xs : List Int} (h3 : ∀ j, j < xs.length → w.cell? ⟨b, off + j, none⟩ = some (.int .i64 (xs.getD j 0)) ∧ w.frozen? ⟨b, off + j, none⟩ = false) : Holds (Value.int .i64) w b off xs.toArray := by
  intro j hj
  have hj : j < xs.length := by simpa using hj
  rw [getElem!_list xs j hj]
  have := h3 j hj
  simpa [List.getD, List.getElem?_eq_getElem hj] using this

theorem minFunc_any {w : World} (key : Int) (hk : plB key = true) (B bl off cap : Nat) (xs : List Int) (hx : plsB xs = true) (h0 : xs ≠ []) (hl : xs.length ≤ 64)
    (h3 : ∀ j, j < xs.length → w.cell? ⟨bl, off + j, none⟩ = some (.int .i64 (xs.getD j 0)) ∧ w.frozen? ⟨bl, off + j, none⟩ = false) (hc : w.cell? ⟨B, 0, none⟩ = some (.int .i64 key)) (hne : B ≠ bl) :
    Calls Try.prog 42 #[.slice (some ⟨bl, off, none⟩) xs.length cap, .func (.func 53) #[] #[.pointer (some ⟨B, 0, none⟩)]] w fun e w' =>
      e = .returned (.int .i64 (ownerOf xs key)) ∧ Below w.heap.size w w' := by
  letI : Inhabited Pl := ⟨⟨0, zeroPl⟩⟩
  have hp : 0 < xs.length := List.length_pos_iff.2 h0
  obtain ⟨ps, hps⟩ := pls_lift hx
  have hpl : ps.length = xs.length := by rw [← hps]; simp
  have hget : ∀ j (hj : j < ps.length), ps[j].1 = xs.getD j 0 := fun j hj => by
    rw [← hps]
    simp [List.getD, hj]
  have hH : Holds encP w bl off ps.toArray := by
    intro j hj
    have hj : j < ps.length := by simpa using hj
    have e : ps.toArray[j]! = ps[j] := by rw [getElem!_pos _ j (by simpa using hj)]; simp
    rw [e]
    show w.cell? _ = some (.int .i64 ps[j].1) ∧ _
    rw [hget j hj]
    exact h3 j (by omega)
  have hBw : B < w.heap.size := World.block_lt_of_cell? _ _ hc
  have hblw : bl < w.heap.size := World.block_lt_of_cell? _ _ (h3 0 hp).1
  have eg : ∀ args w, (callFunc 53 args).run Try.prog w = .ok (.enter 53 args) w := enters_of Try.func53 (by kernel_rfl) rfl
  have hcmp : CmpLays1 Try.prog 53 #[.pointer (some ⟨B, 0, none⟩)] encP (cfP key) bl off ps.toArray.size w := by
    intro m os dk hdk x y
    have hc' : (sortWorld encP w bl off m dk os).cell? ⟨B, 0, none⟩ = some (.int .i64 key) := by
      unfold sortWorld
      rw [cell?_grow _ _ _ (by simpa using hBw), cell?_putRow_other _ _ _ _ _ _ (.inl hne)]
      exact hc
    exact (byDistance1_any key x.1 y.1 B _ hk x.2 y.2 hc').mono fun e w' ⟨he, hw⟩ => ⟨he, 0, #[], by rw [hw, grow_empty]; rfl⟩
  have hM := Any.slices_MinFunc minL encP (fun _ => rfl) (cfP key) 53 #[.pointer (some ⟨B, 0, none⟩)] bl off cap ps.toArray w eg hcmp hH hblw (by simp; omega) (by simp; omega)
  simp only [List.size_toArray, hpl] at hM
  refine hM.mono ?_
  rintro e w' ⟨rfl, n, os, rfl⟩
  have hpick : ∀ k, k < ps.length → (Lib.pickBy (fun x m => decide (cfP key x m < 0)) ps.toArray k).1 = nearAt key (fun j => xs.getD j 0) k := by
    intro k
    induction k with
    | zero =>
      intro hk
      show (ps.toArray[0]!).1 = _
      have e : ps.toArray[0]! = ps[0] := by rw [getElem!_pos _ 0 (by simpa using hk)]; simp
      rw [e, hget 0 hk]
      rfl
    | succ k ih =>
      intro hk
      have e : ps.toArray[k + 1]! = ps[k + 1] := by rw [getElem!_pos _ (k + 1) (by simpa using hk)]; simp
      unfold Lib.pickBy nearAt
      have hlt : decide (cfP key ps[k + 1] (Lib.pickBy (fun x m => decide (cfP key x m < 0)) ps.toArray k) < 0) = decide (far key (xs.getD (k + 1) 0) < far key (nearAt key (fun j => xs.getD j 0) k)) := by
        have := ltP key ps[k + 1] (Lib.pickBy (fun x m => decide (cfP key x m < 0)) ps.toArray k)
        rw [ih (by omega), hget (k + 1) hk] at this
        exact this
      rw [e, hlt]
      by_cases h : far key (xs.getD (k + 1) 0) < far key (nearAt key (fun j => xs.getD j 0) k)
      · rw [if_pos (by simpa using h), if_pos h, hget (k + 1) hk]
      · rw [if_neg (by simpa using h), if_neg h, ih (by omega)]
  refine ⟨?_, ?_⟩
  · show Ending.returned (.int .i64 _) = _
    rw [hpick _ (by omega)]
    rfl
  · have hself : putRow encP (Sort.ahead w n) bl off ps.toArray = Sort.ahead w n := putRow_self _ _ _ _ _ hH
    unfold sortWorld
    rw [hself]
    exact below_grow' (B := w.heap.size) (w0 := w) (w := Sort.ahead w n) ⟨rfl, rfl, rfl, Nat.le_refl _, fun _ _ => rfl⟩ (Nat.le_refl _) os

theorem owner_yes {lo hi : Nat} {w : World} {v : Value} {xs : List Int} (hv : RowI lo hi w v xs) (b : Int) (h : rowB b xs = true) (h0 : xs ≠ []) :
    Calls Try.prog 27 #[v, .int .i64 b] w fun e w' => e = .returned (.tuple #[.int .i64 (ownerOf xs b), .int .i64 0]) ∧ Below w.heap.size w w' := by
  have his := isRow_any hv b
  obtain ⟨hl, hb, hx⟩ := rowB_yes h
  rw [h] at his
  obtain ⟨p, c, rfl, _, hc, hpx⟩ := hv
  obtain ⟨bl, off, rfl, _, _, h3⟩ := hpx h0
  have hp : 0 < xs.length := List.length_pos_iff.2 h0
  have hblw : bl < w.heap.size := World.block_lt_of_cell? _ _ (h3 0 hp).1
  have hmf := fun q => minFunc_any (w := (w.drewN q).alloc (.cells #[.int .i64 b] 3)) b hb w.heap.size bl off c xs hx h0 hl
    (fun j hj => ⟨(World.cell?_alloc_past _ _ _ (by simpa using hblw)).trans (h3 j hj).1, (World.frozen?_alloc_past _ _ _ (by simpa using hblw)).trans (h3 j hj).2⟩) ((World.cell?_alloc_at _ _ _ _ rfl).trans rfl) (by omega)
  have h1 : ¬ (xs.length : Int) = 0 := by omega
  have h2 : ((xs.length : Int) == 0) = false := by simp; omega
  clear h h0 hpx h3
  generalize xs.length = n at *
  go_enter Try.func27, Try.ntmps27
  go_wp2_with (first
    | (go_at_call 41; refine his.mono ?_; rintro e w' ⟨rfl, q, hw'⟩; subst w')
    | (go_at_call 43; refine (byDistance_any _ _).mono ?_; rintro e w2 ⟨rfl, hw2⟩; subst w2)
    | (go_at_call 42; refine (hmf q).mono ?_; rintro e w3 ⟨rfl, hbel3⟩))
  go_ret2
  refine ⟨rfl, ?_⟩
  have hB : Below w.heap.size w ((w.drewN q).alloc (.cells #[.int .i64 b] 3)) := (below_drewN (Below.refl _ w) q).alloc (Nat.le_refl _) _
  exact hB.trans (hbel3.mono (by simp))

theorem owner_any {lo hi : Nat} {w : World} {v : Value} {xs : List Int} (hv : RowI lo hi w v xs) (b : Int) :
    Calls Try.prog 27 #[v, .int .i64 b] w fun e w' => e = .returned (.tuple #[.int .i64 (ownV xs b), .int .i64 (ownE xs b)]) ∧ Below w.heap.size w w' := by
  by_cases h : rowB b xs = true ∧ xs ≠ []
  · unfold ownV ownE
    rw [if_pos h, if_pos h]
    exact owner_yes hv b h.1 h.2
  · unfold ownV ownE
    rw [if_neg h, if_neg h]
    have h : rowB b xs = false ∨ xs = [] := by
      by_cases e : xs = []
      · exact .inr e
      · left
        cases hr : rowB b xs with
        | false => rfl
        | true => exact absurd ⟨hr, e⟩ h
    refine (owner_no hv b h).mono ?_
    rintro e w' ⟨rfl, q, rfl⟩
    exact ⟨rfl, below_drewN (Below.refl _ _) q⟩

end Go.Proofs.Ytpbfhnjdnkmpaaa
