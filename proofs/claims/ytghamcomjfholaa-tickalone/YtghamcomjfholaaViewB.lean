
/-
  Contract of package row's function Owner, at every list of ints: what it returns, and that nothing that was there is turned.
-/
import Derived.Test.YtghamcomjfholaaAgeBox
import Derived.Test.YtghamcomjfholaaContLays
import Derived.Test.YtghamcomjfholaaOwnLays
import Derived.Test.YtghamcomjfholaaViewA
namespace Go.Proofs.Ytghamcomjfholaa
open Go.ChangeShapes Go.WideShapes Go.ChangeAt Go.RowKit Go.Shelf Go.Lib Go.Sort

theorem contains_any {lo hi : Nat} {w : World} {v : Value} {xs : List Int} (hv : RowI lo hi w v xs) :
    Calls Try.prog 54 #[v, .func (.func 92) #[] #[]] w fun e w' => e = .returned (.bool (!plsB xs)) ∧ ∃ q, w' = w.drewN q := by
  have hmax := hv.max
  unfold maxLen at hmax
  obtain ⟨p, c, rfl, hl, hc, hpx⟩ := hv
  by_cases h0 : xs = []
  · subst h0
    exact (AnyE.slices_ContainsFunc_empty containsL p c _ w).mono fun e w' ⟨he, hw⟩ => ⟨he, 0, hw⟩
  · obtain ⟨b, off, rfl, _, _, h3⟩ := hpx h0
    have eg : ∀ args w, (callFunc 92 args).run Try.prog w = .ok (.enter 92 args) w := enters_of Try.func92 (by kernel_rfl) rfl
    have hp : PredAt Try.prog 92 #[] (Value.int .i64) (fun x => !plB x) w := fun W x _ => by
      unfold FnGives
      exact (isNoPlace_any x W).mono fun e w' ⟨he, hw⟩ => ⟨he, 0, hw⟩
    have h := AnyE.slices_ContainsFunc containsL (Value.int .i64) (fun x => !plB x) 92 #[] eg b off xs.length c xs w hp (Nat.le_refl _) (by omega)
      (fun j hj => by rw [(h3 j hj).1, getElem!_pos xs j hj]; simp [List.getD, List.getElem?_eq_getElem hj])
    rw [List.take_length, any_not_plB] at h
    exact h

theorem isRow_any {lo hi : Nat} {w : World} {v : Value} {xs : List Int} (hv : RowI lo hi w v xs) (b : Int) :
    Calls Try.prog 85 #[.int .i64 b, v] w fun e w' => e = .returned (.bool (rowB b xs)) ∧ ∃ q, w' = w.drewN q := by
  have hcn := contains_any hv
  obtain ⟨p, c, rfl, _, hc, _⟩ := hv
  by_cases hl : xs.length ≤ 64
  · have hl' : (xs.length : Int) ≤ 64 := by omega
    by_cases hb : plB b = true
    · have e : rowB b xs = plsB xs := by simp [rowB, hl, hb]
      rw [e]
      clear e
      generalize plsB xs = r at *
      go_enter Try.func85, Try.ntmps85
      go_wp2_with (first | (go_at_call 92; refine (isNoPlace_any _ _).mono ?_; rintro e w' ⟨rfl, hw'⟩; subst w') | (go_at_call 54; refine hcn.mono ?_; rintro e w' ⟨rfl, q, hw'⟩; subst w'))
      go_ret
      exact ⟨by simp, q, rfl⟩
    · have hb : plB b = false := by simpa using hb
      have e : rowB b xs = false := by simp [rowB, hb]
      rw [e]
      clear e
      go_enter Try.func85, Try.ntmps85
      go_wp2_with (first | (go_at_call 92; refine (isNoPlace_any _ _).mono ?_; rintro e w' ⟨rfl, hw'⟩; subst w'))
      go_ret
      exact ⟨rfl, 0, rfl⟩
  · have e : rowB b xs = false := by simp [rowB, hl]
    rw [e]
    clear e
    have hl' : ¬ (xs.length : Int) ≤ 64 := by omega
    have hd : decide ((xs.length : Int) ≤ 64) = false := by simp; omega
    go_enter Try.func85, Try.ntmps85
    go_wp2
    go_ret
    exact ⟨rfl, 0, rfl⟩

/-! ### Places as such, and their order by distance -/
/-- A place, with that it is one. -/
abbrev Pl := { x : Int // plB x = true }
def encP (x : Pl) : Value := .int .i64 x.1
theorem zeroPl : plB 0 = true := by decide

def cfP (b : Int) (x y : Pl) : Int := cmpI (far b x.1) (far b y.1)
theorem ltP (b : Int) (x y : Pl) : ltOf (cfP b) x y = decide (far b x.1 < far b y.1) := by
  unfold ltOf cfP cmpI
  by_cases h1 : far b x.1 < far b y.1
  · simp [h1]
  · by_cases h2 : far b y.1 < far b x.1 <;> simp [h1, h2]
/-- Places as such. -/
theorem pls_lift : ∀ {xs : List Int}, plsB xs = true → ∃ ps : List Pl, ps.map (·.1) = xs
  | [], _ => ⟨[], rfl⟩
  | x :: xs, h => by
    have hx : plB x = true := plsB_mem h x (by simp)
    obtain ⟨ps, hp⟩ := pls_lift (xs := xs) (plsB_mk fun y hy => plsB_mem h y (by simp [hy]))
    exact ⟨⟨x, hx⟩ :: ps, by simp [hp]⟩

theorem below_grow' {B : Nat} {w0 w : World} (h : Below B w0 w) (hB : B ≤ w.heap.size) (os : Array Obj) : Below B w0 (grow w os) :=
  ⟨h.os, h.tape, h.output, by have := h.size; simp; omega, fun k hk => (heap_grow_old w os (by omega)).trans (h.block k hk)⟩

theorem owner_no {lo hi : Nat} {w : World} {v : Value} {xs : List Int} (hv : RowI lo hi w v xs) (b : Int) (h : rowB b xs = false ∨ xs = []) :
    Calls Try.prog 79 #[v, .int .i64 b] w fun e w' => e = .returned (.tuple #[.int .i64 0, .int .i64 200]) ∧ ∃ q, w' = w.drewN q := by
  have his := isRow_any hv b
  obtain ⟨p, c, rfl, _, hc, _⟩ := hv
  by_cases h0 : xs = []
  · subst h0
    clear h hc his
    go_enter Try.func79, Try.ntmps79
    go_wp2
    go_ret2
    exact ⟨rfl, 0, rfl⟩
  · have h : rowB b xs = false := h.resolve_right h0
    rw [h] at his
    have hp : 0 < xs.length := List.length_pos_iff.2 h0
    have h1 : ¬ (xs.length : Int) = 0 := by omega
    have h2 : ((xs.length : Int) == 0) = false := by simp; omega
    clear h h0
    generalize xs.length = n at *
    go_enter Try.func79, Try.ntmps79
    go_wp2_with (go_at_call 85; refine his.mono ?_; rintro e w' ⟨rfl, q, hw'⟩; subst w')
    go_ret2
    exact ⟨rfl, q, rfl⟩

theorem minFunc_any {w : World} (key : Int) (hk : plB key = true) (B bl off cap : Nat) (xs : List Int) (hx : plsB xs = true) (h0 : xs ≠ []) (hl : xs.length ≤ 64)
    (h3 : ∀ j, j < xs.length → w.cell? ⟨bl, off + j, none⟩ = some (.int .i64 (xs.getD j 0)) ∧ w.frozen? ⟨bl, off + j, none⟩ = false) (hc : w.cell? ⟨B, 0, none⟩ = some (.int .i64 key)) (hne : B ≠ bl) :
    Calls Try.prog 86 #[.slice (some ⟨bl, off, none⟩) xs.length cap, .func (.func 93) #[] #[.pointer (some ⟨B, 0, none⟩)]] w fun e w' =>
      e = .returned (.int .i64 (ownerOf xs key)) ∧ Below w.heap.size w w' := by
  letI : Inhabited Pl := ⟨⟨0, zeroPl⟩⟩
  have hp : 0 < xs.length := List.length_pos_iff.2 h0
  obtain ⟨ps, hps⟩ := pls_lift hx
  have hpl : ps.length = xs.length := by rw [← hps]; simp
  have hget : ∀ j (hj : j < ps.length), ps[j].1 = xs.getD j 0 := fun j hj => by
    rw [← hps]
    simp [List.getD, hj]
  have hH : Holds encP w bl off ps.toArray := by
    intro j hj
    have hj : j < ps.length := by simpa using hj
    have e : ps.toArray[j]! = ps[j] := by rw [getElem!_pos _ j (by simpa using hj)]; simp
    rw [e]
    show w.cell? _ = some (.int .i64 ps[j].1) ∧ _
    rw [hget j hj]
    exact h3 j (by omega)
  have hBw : B < w.heap.size := World.block_lt_of_cell? _ _ hc
  have hblw : bl < w.heap.size := World.block_lt_of_cell? _ _ (h3 0 hp).1
  have eg : ∀ args w, (callFunc 93 args).run Try.prog w = .ok (.enter 93 args) w := enters_of Try.func93 (by kernel_rfl) rfl
  have hcmp : CmpLays1 Try.prog 93 #[.pointer (some ⟨B, 0, none⟩)] encP (cfP key) bl off ps.toArray.size w := by
    intro m os dk hdk x y
    have hc' : (sortWorld encP w bl off m dk os).cell? ⟨B, 0, none⟩ = some (.int .i64 key) := by
      unfold sortWorld
      rw [cell?_grow _ _ _ (by simpa using hBw), cell?_putRow_other _ _ _ _ _ _ (.inl hne)]
      exact hc
    exact (byDistance1_any key x.1 y.1 B _ hk x.2 y.2 hc').mono fun e w' ⟨he, hw⟩ => ⟨he, 0, #[], by rw [hw, grow_empty]; rfl⟩
  have hM := Any.slices_MinFunc minL encP (fun _ => rfl) (cfP key) 93 #[.pointer (some ⟨B, 0, none⟩)] bl off cap ps.toArray w eg hcmp hH hblw (by simp; omega) (by simp; omega)
  simp only [List.size_toArray, hpl] at hM
  refine hM.mono ?_
  rintro e w' ⟨rfl, n, os, rfl⟩
  have hpick : ∀ k, k < ps.length → (Lib.pickBy (fun x m => decide (cfP key x m < 0)) ps.toArray k).1 = nearAt key (fun j => xs.getD j 0) k := by
    intro k
    induction k with
    | zero =>
      intro hk
      show (ps.toArray[0]!).1 = _
      have e : ps.toArray[0]! = ps[0] := by rw [getElem!_pos _ 0 (by simpa using hk)]; simp
      rw [e, hget 0 hk]
      rfl
    | succ k ih =>
      intro hk
      have e : ps.toArray[k + 1]! = ps[k + 1] := by rw [getElem!_pos _ (k + 1) (by simpa using hk)]; simp
      unfold Lib.pickBy nearAt
      have hlt : decide (cfP key ps[k + 1] (Lib.pickBy (fun x m => decide (cfP key x m < 0)) ps.toArray k) < 0) = decide (far key (xs.getD (k + 1) 0) < far key (nearAt key (fun j => xs.getD j 0) k)) := by
        have := ltP key ps[k + 1] (Lib.pickBy (fun x m => decide (cfP key x m < 0)) ps.toArray k)
        rw [ih (by omega), hget (k + 1) hk] at this
        exact this
      rw [e, hlt]
      by_cases h : far key (xs.getD (k + 1) 0) < far key (nearAt key (fun j => xs.getD j 0) k)
      · rw [if_pos (by simpa using h), if_pos h, hget (k + 1) hk]
      · rw [if_neg (by simpa using h), if_neg h, ih (by omega)]
  refine ⟨?_, ?_⟩
  · show Ending.returned (.int .i64 _) = _
    rw [hpick _ (by omega)]
    rfl
  · have hself : putRow encP (Sort.ahead w n) bl off ps.toArray = Sort.ahead w n := putRow_self _ _ _ _ _ hH
    unfold sortWorld
    rw [hself]
    exact below_grow' (B := w.heap.size) (w0 := w) (w := Sort.ahead w n) ⟨rfl, rfl, rfl, Nat.le_refl _, fun _ _ => rfl⟩ (Nat.le_refl _) os

theorem owner_yes {lo hi : Nat} {w : World} {v : Value} {xs : List Int} (hv : RowI lo hi w v xs) (b : Int) (h : rowB b xs = true) (h0 : xs ≠ []) :
    Calls Try.prog 79 #[v, .int .i64 b] w fun e w' => e = .returned (.tuple #[.int .i64 (ownerOf xs b), .int .i64 0]) ∧ Below w.heap.size w w' := by
  have his := isRow_any hv b
  obtain ⟨hl, hb, hx⟩ := rowB_yes h
  rw [h] at his
  obtain ⟨p, c, rfl, _, hc, hpx⟩ := hv
  obtain ⟨bl, off, rfl, _, _, h3⟩ := hpx h0
  have hp : 0 < xs.length := List.length_pos_iff.2 h0
  have hblw : bl < w.heap.size := World.block_lt_of_cell? _ _ (h3 0 hp).1
  have hmf := fun q => minFunc_any (w := (w.drewN q).alloc (.cells #[.int .i64 b] 3)) b hb w.heap.size bl off c xs hx h0 hl
    (fun j hj => ⟨(World.cell?_alloc_past _ _ _ (by simpa using hblw)).trans (h3 j hj).1, (World.frozen?_alloc_past _ _ _ (by simpa using hblw)).trans (h3 j hj).2⟩) ((World.cell?_alloc_at _ _ _ _ rfl).trans rfl) (by omega)
  have h1 : ¬ (xs.length : Int) = 0 := by omega
  have h2 : ((xs.length : Int) == 0) = false := by simp; omega
  clear h h0 hpx h3
  generalize xs.length = n at *
  go_enter Try.func79, Try.ntmps79
  go_wp2_with (first
    | (go_at_call 85; refine his.mono ?_; rintro e w' ⟨rfl, q, hw'⟩; subst w')
    | (go_at_call 87; refine (byDistance_any _ _).mono ?_; rintro e w2 ⟨rfl, hw2⟩; subst w2)
    | (go_at_call 86; refine (hmf q).mono ?_; rintro e w3 ⟨rfl, hbel3⟩))
  go_ret2
  refine ⟨rfl, ?_⟩
  have hB : Below w.heap.size w ((w.drewN q).alloc (.cells #[.int .i64 b] 3)) := (below_drewN (Below.refl _ w) q).alloc (Nat.le_refl _) _
  exact hB.trans (hbel3.mono (by simp))

theorem owner_any {lo hi : Nat} {w : World} {v : Value} {xs : List Int} (hv : RowI lo hi w v xs) (b : Int) :
    Calls Try.prog 79 #[v, .int .i64 b] w fun e w' => e = .returned (.tuple #[.int .i64 (ownV xs b), .int .i64 (ownE xs b)]) ∧ Below w.heap.size w w' := by
  by_cases h : rowB b xs = true ∧ xs ≠ []
  · unfold ownV ownE
    rw [if_pos h, if_pos h]
    exact owner_yes hv b h.1 h.2
  · unfold ownV ownE
    rw [if_neg h, if_neg h]
    have h : rowB b xs = false ∨ xs = [] := by
      by_cases e : xs = []
      · exact .inr e
      · left
        cases hr : rowB b xs with
        | false => rfl
        | true => exact absurd ⟨hr, e⟩ h
    refine (owner_no hv b h).mono ?_
    rintro e w' ⟨rfl, q, rfl⟩
    exact ⟨rfl, below_drewN (Below.refl _ _) q⟩

end Go.Proofs.Ytghamcomjfholaa

namespace Go.Proofs.Ytghamcomjfholaa
open Go.ChangeShapes Go.WideShapes Go.ChangeAt Go.RowKit

theorem rem_one {L : Nat} (h : 1 < L) : (1 : Int).tmod (L : Int) = 1 := by
  rw [Int.tmod_eq_emod_of_nonneg (by omega)]
  exact Int.emod_eq_of_lt (by omega) (by omega)

set_option maxHeartbeats 1000000 in
theorem vSucc_any {lo hi : Nat} {w : World} {p q : Value} {ps : List Pe} {is : List Int} (i : Int) (h : VwAt lo hi w p q ps is) (hh : hi ≤ w.heap.size) :
    Calls Try.prog 65 #[.agg #[.int .i64 i, p, q]] w fun e w' => e = .returned (.tuple #[.int .i64 (sucV i ps is), .int .i64 (vwE i ps is)]) ∧ Below w.heap.size w w' := by
  have H1 := toHid (fun o : Obj => vMay_any i (h.alloc o) (Nat.le_trans hh (by simp)))
  obtain ⟨a, c, a', c', ep, eq, hn, hn'⟩ := h.shape
  subst ep eq
  have B1 := toHid (fun (cs : Array Value) (t : TypeId) => Box.new w cs t)
  rcases Bool.eq_false_or_eq_true (vwB i ps is) with h1 | h1
  · rw [h1] at H1
    have hl := vw_len h1
    have hV : sucV i ps is = (idL i ps).getD (min 1 ps.length) 0 := by simp [sucV, h1]
    have hE : vwE i ps is = 0 := by simp [vwE, h1]
    rw [hV, hE]
    clear hV hE h1
    have HI := toHid (fun (o : Obj) (w1 : World) (hb : Below (w.alloc o).heap.size (w.alloc o) w1) => vIds_any i ((h.alloc o).below hb (Nat.le_trans hh (by simp))) (Nat.le_trans hh (Nat.le_trans (by simp) hb.size)) hl)
    have HL := toHid (idL_len i ps)
    have HN := toHid (idL_ne i ps)
    clear h
    generalize idL i ps = ys at HI HL HN ⊢
    obtain ⟨L, hL⟩ : ∃ L, ys.length = L := ⟨_, rfl⟩
    have HL2 : L = ps.length + 1 := hL ▸ HL.out
    generalize hz : ys.getD (min 1 ps.length) 0 = z
    rcases Nat.eq_zero_or_pos ps.length with h0 | h0
    · rw [h0] at HL2 hz
      subst HL2
      clear h0 HL
      replace hz := toHid hz
      replace hL := toHid hL
      go_enter Try.func65, Try.ntmps65
      go_wp2_with (first
        | (go_at_call 31; refine (H1.out _).mono ?_; rintro e w1 ⟨rfl, hb1⟩
           obtain ⟨b1, b2, b3⟩ := (B1.out _ _).below hb1)
        | (go_at_call 51; refine (HI.out _ _ hb1).mono ?_; rintro e w2 ⟨u, rfl, R2, hb2⟩
           obtain ⟨p2, k2, e2, -, -, R3⟩ := R2.out
           rw [hL.out] at e2
           subst e2
           obtain ⟨g2, o2, e3, -, -, R4⟩ := R3 HN.out
           subst e3
           have c2 := (R4 0 (by rw [hL.out]; omega)).1
           rw [show ys.getD 0 0 = z from hz.out, Nat.add_zero] at c2
           clear R2 R3 R4 b1 b2 b3))
      go_ret2
      exact ⟨rfl, (((Below.refl _ w).onA _).on hb1).on hb2⟩
    · have hL1 : 1 < L := by omega
      have hL1' : (1 : Int) < (L : Int) := by omega
      have hr := rem_one hL1
      have hne : ¬ (L : Int) = 0 := by omega
      have hm : min 1 ps.length = 1 := by omega
      rw [hm] at hz
      replace hz := toHid hz
      replace hL := toHid hL
      replace HL2 := toHid HL2
      clear h0 hm
      go_enter Try.func65, Try.ntmps65
      go_wp2_with (first
        | (go_at_call 31; refine (H1.out _).mono ?_; rintro e w1 ⟨rfl, hb1⟩
           obtain ⟨b1, b2, b3⟩ := (B1.out _ _).below hb1)
        | (go_at_call 51; refine (HI.out _ _ hb1).mono ?_; rintro e w2 ⟨u, rfl, R2, hb2⟩
           obtain ⟨p2, k2, e2, -, -, R3⟩ := R2.out
           rw [hL.out] at e2
           subst e2
           obtain ⟨g2, o2, e3, -, -, R4⟩ := R3 HN.out
           subst e3
           have c2 := (R4 1 (by rw [hL.out]; omega)).1
           rw [show ys.getD 1 0 = z from hz.out] at c2
           clear R2 R3 R4 b1 b2 b3))
      go_ret2
      exact ⟨rfl, (((Below.refl _ w).onA _).on hb1).on hb2⟩
  · have hV : sucV i ps is = 0 := by simp [sucV, h1]
    have hE : vwE i ps is = 900 := by simp [vwE, h1]
    rw [h1] at H1
    rw [hV, hE]
    clear hV hE h
    go_enter Try.func65, Try.ntmps65
    go_wp2_with (first
      | (go_at_call 31; refine (H1.out _).mono ?_; rintro e w1 ⟨rfl, hb1⟩))
    go_ret2
    exact ⟨rfl, ((Below.refl _ w).onA _).on hb1⟩

set_option maxHeartbeats 1000000 in
theorem vOwner_any {lo hi : Nat} {w : World} {p q : Value} {ps : List Pe} {is : List Int} (i k : Int) (h : VwAt lo hi w p q ps is) (hh : hi ≤ w.heap.size) :
    Calls Try.prog 64 #[.agg #[.int .i64 i, p, q], .int .i64 k] w fun e w' => e = .returned (.tuple #[.int .i64 (owV i ps is k), .int .i64 (owE i ps is k)]) ∧ Below w.heap.size w w' := by
  have H1 := toHid (fun o : Obj => vMay_any i (h.alloc o) (Nat.le_trans hh (by simp)))
  obtain ⟨a, c, a', c', ep, eq, hn, hn'⟩ := h.shape
  subst ep eq
  have B1 := toHid (fun (cs : Array Value) (t : TypeId) => Box.new w cs t)
  rcases Bool.eq_false_or_eq_true (vwB i ps is) with h1 | h1
  · have hO := vw_own h1 k
    have HI := toHid (fun (o : Obj) (w1 : World) (hb : Below (w.alloc o).heap.size (w.alloc o) w1) => vIds_any i ((h.alloc o).below hb (Nat.le_trans hh (by simp))) (Nat.le_trans hh (Nat.le_trans (by simp) hb.size)) (vw_len h1))
    have HO := toHid (fun (lo hi : Nat) (w : World) (v : Value) (hv : RowI lo hi w v (idL i ps)) => owner_any hv k)
    rw [hO.1, hO.2] at HO
    rw [h1] at H1
    clear hO h
    rcases Bool.eq_false_or_eq_true (plB k) with hk | hk
    · have hE : owE i ps is k = 0 := by simp [owE, h1, hk]
      rw [hE]
      rw [if_pos hk] at HO
      clear hE h1 hk
      generalize owV i ps is k = z at *
      go_enter Try.func64, Try.ntmps64
      go_wp2_with (first
        | (go_at_call 31; refine (H1.out _).mono ?_; rintro e w1 ⟨rfl, hb1⟩
           obtain ⟨b1, b2, b3⟩ := (B1.out _ _).below hb1)
        | (go_at_call 51; refine (HI.out _ _ hb1).mono ?_; rintro e w2 ⟨u, rfl, R2, hb2⟩
           clear b1 b2 b3
           replace R2 := toHid R2)
        | (go_at_call 79; refine (HO.out _ _ _ _ R2.out).mono ?_; rintro e w3 ⟨rfl, hb3⟩))
      go_ret2
      exact ⟨rfl, ((((Below.refl _ w).onA _).on hb1).on hb2).on hb3⟩
    · have hE : owE i ps is k = 900 := by simp [owE, hk]
      have hV : owV i ps is k = 0 := by simp [owV, hk]
      rw [hE, hV]
      rw [if_neg (by simp [hk]), hV] at HO
      clear hE h1 hk hV
      go_enter Try.func64, Try.ntmps64
      go_wp2_with (first
        | (go_at_call 31; refine (H1.out _).mono ?_; rintro e w1 ⟨rfl, hb1⟩
           obtain ⟨b1, b2, b3⟩ := (B1.out _ _).below hb1)
        | (go_at_call 51; refine (HI.out _ _ hb1).mono ?_; rintro e w2 ⟨u, rfl, R2, hb2⟩
           clear b1 b2 b3
           replace R2 := toHid R2)
        | (go_at_call 79; refine (HO.out _ _ _ _ R2.out).mono ?_; rintro e w3 ⟨rfl, hb3⟩))
      go_ret2
      exact ⟨rfl, ((((Below.refl _ w).onA _).on hb1).on hb2).on hb3⟩
  · have hV : owV i ps is k = 0 := by simp [owV, h1]
    have hE : owE i ps is k = 900 := by simp [owE, h1]
    rw [h1] at H1
    rw [hV, hE]
    clear hV hE h
    go_enter Try.func64, Try.ntmps64
    go_wp2_with (first
      | (go_at_call 31; refine (H1.out _).mono ?_; rintro e w1 ⟨rfl, hb1⟩))
    go_ret2
    exact ⟨rfl, ((Below.refl _ w).onA _).on hb1⟩

end Go.Proofs.Ytghamcomjfholaa
