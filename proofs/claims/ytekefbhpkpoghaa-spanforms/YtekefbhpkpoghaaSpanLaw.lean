
/-
  What the statements about parts of the ring ask first: that the program answers at some stores at all; a list told in two parts.
-/
import Derived.Test.YtekefbhpkpoghaaSpan
import Derived.Test.YtekefbhpkpoghaaNum
import Derived.Deep.RegionHeld3
namespace Go.Proofs.Ytekefbhpkpoghaa
open Go.ChangeShapes Go.WideShapes Go.ChangeAt Go.RowKit

/-! ### A list told in two parts -/
theorem filter_at {zs : List It} {p : It → Bool} {k : Nat} (hk : k < zs.length) (hp : p zs[k] = true) (d : It) :
    ((zs.take k).filter p).length < (zs.filter p).length ∧ (zs.filter p).getD ((zs.take k).filter p).length d = zs[k] ∧ ((zs.take (k + 1)).filter p).length = ((zs.take k).filter p).length + 1 := by
  have e : zs.filter p = (zs.take k).filter p ++ zs[k] :: (zs.drop (k + 1)).filter p := by
    conv => lhs; rw [← List.take_append_drop k zs, List.drop_eq_getElem_cons hk, List.filter_append, List.filter_cons_of_pos hp]
  refine ⟨by rw [e]; simp, ?_, by rw [filter_next hk, if_pos hp]; simp⟩
  rw [e]
  simp [List.getD]
theorem filter_off {zs : List It} {p : It → Bool} {k : Nat} (hk : k < zs.length) (hp : p zs[k] = false) : ((zs.take (k + 1)).filter p).length = ((zs.take k).filter p).length := by
  rw [filter_next hk, if_neg (by simp [hp]), List.append_nil]
theorem filter_get {zs : List It} {p : It → Bool} {i : Nat} (hi : i < (zs.filter p).length) (d : It) : p ((zs.filter p).getD i d) = true := by
  rw [getD_at _ _ hi]
  exact (List.mem_filter.1 (List.getElem_mem hi)).2

theorem inB_parts {x y k : Int} (hx : plB x = true) (hy : plB y = true) (hk : plB k = true) (hn : ¬ x = y) : inB y k x = !inB x k y := by
  have := plB_yes hx
  have := plB_yes hy
  have := plB_yes hk
  have hn' : ¬ y = x := fun e => hn e.symm
  simp only [inB, far, hn, hn', decide_false, Bool.false_or]
  rw [Bool.eq_iff_iff]
  simp
  omega
theorem inB_cut {a b c k : Int} (ha : plB a = true) (hb : plB b = true) (hc : plB c = true) (hk : plB k = true) (h1 : 0 < far a b) (h2 : far a b < far a c) :
    inB a k c = (inB a k b || inB b k c) ∧ (inB a k b = true → inB b k c = false) := by
  have := plB_yes ha
  have := plB_yes hb
  have := plB_yes hc
  have := plB_yes hk
  unfold far at h1 h2
  have n1 : ¬ a = b := by omega
  have n2 : ¬ b = c := by omega
  have n3 : ¬ a = c := by omega
  simp only [inB, far, n1, n2, n3, decide_false, Bool.false_or]
  constructor
  · rw [Bool.eq_iff_iff]
    simp
    omega
  · simp
    omega

theorem it6_any (k : Int) (w : World) :
    Calls Try.prog 15 #[.int .i64 k] w fun e w' => e = .returned (.agg #[.int .i64 k, .int .i64 1, .int .i64 0, .int .i64 0, .bool false]) ∧ Below w.heap.size w w' := by
  go_enter Try.func15, Try.ntmps15
  go_wp2
  exact bodyPost_ret (v := .agg #[.int .i64 k, .int .i64 1, .int .i64 0, .int .i64 0, .bool false]) (by simp [results, Try.results15, go_sem]) rfl ⟨rfl, (Below.refl _ w).onA _⟩

set_option maxHeartbeats 4000000 in
theorem awake6_any (w : World) :
    Calls Try.prog 14 #[] w fun e w' => e = .returned (.bool true) ∧ Below w.heap.size w w' := by
  have i1 := trivial
  have i2 := trivial
  have i3 := trivial
  have i4 := trivial
  have p1 := trivial
  have p2 := trivial
  have q1 := trivial
  go_enter Try.func14, Try.ntmps14
  go_wp2_with (first
    | (go_at_call 15; clear i1; refine (it6_any _ _).mono ?_; rintro e wa ⟨rfl, ha⟩)
    | (go_at_call 15; clear i2; refine (it6_any _ _).mono ?_; rintro e wb ⟨rfl, hb⟩)
    | (go_at_call 15; clear i3; refine (it6_any _ _).mono ?_; rintro e wc ⟨rfl, hc⟩)
    | (go_at_call 8; clear p1
       have B0 := Box.new wc #[.int .i64 3, .int .i64 1, .int .i64 0, .int .i64 0, .bool false, .int .i64 9, .int .i64 1, .int .i64 0, .int .i64 0, .bool false, .int .i64 200, .int .i64 1, .int .i64 0, .int .i64 0, .bool false] 37
       have R0 := Box.rowT (n := 3) [⟨3, 1, 0, 0, false⟩, ⟨9, 1, 0, 0, false⟩, ⟨200, 1, 0, 0, false⟩] B0 rfl rfl (by decide)
       have z0 : wc.heap.size + 1 ≤ _ := B0.1
       refine (sOf_at (ys := [⟨3, 1, 0, 0, false⟩, ⟨200, 1, 0, 0, false⟩]) (err := 0) R0 z0 _ _ (by decide +kernel) (by decide +kernel)).mono ?_; rintro e w1 ⟨o1, rfl, r1, h1⟩
       have R1 := R0.below h1 z0
       have z1 := Nat.le_trans z0 h1.size)
    | (go_at_call 8; clear p2; refine (sOf_at (ys := [⟨3, 1, 0, 0, false⟩, ⟨9, 1, 0, 0, false⟩, ⟨200, 1, 0, 0, false⟩]) (err := 0) R1 z1 _ _ (by decide +kernel) (by decide +kernel)).mono ?_; rintro e w2 ⟨o2, rfl, r2, h2⟩
       have R2 := R1.below h2 z1
       have z2 := Nat.le_trans z1 h2.size
       have r12 := r1.below h2 (Nat.le_refl _))
    | (go_at_call 8; refine (sOf_at (ys := []) (err := 600) R2 z2 _ _ (by decide +kernel) (by decide +kernel)).mono ?_; rintro e w3 ⟨o3, rfl, r3, h3⟩
       have R3 := R2.below h3 z2
       have z3 := Nat.le_trans z2 h3.size
       have r13 := r12.below h3 h2.size
       have r23 := r2.below h3 (Nat.le_refl _)
       have y1 := Nat.le_trans h2.size h3.size)
    | (go_at_call 15; clear i4; refine (it6_any _ _).mono ?_; rintro e wd ⟨rfl, hd⟩)
    | (go_at_call 15; refine (it6_any _ _).mono ?_; rintro e we ⟨rfl, he⟩
       have hk := (hd.on he).onA (.cells #[.int .i64 3, .int .i64 1, .int .i64 0, .int .i64 0, .bool false, .int .i64 200, .int .i64 1, .int .i64 0, .int .i64 0, .bool false] 37)
       have R4 := R3.below hk z3
       have r14 := r13.below hk y1
       have r24 := r23.below hk h3.size)
    | (go_at_call 10; clear q1; refine (same_at r14 (Box.rowT [⟨3, 1, 0, 0, false⟩, ⟨200, 1, 0, 0, false⟩] (Box.new we _ _) rfl rfl (by decide)) (b := true) (by decide +kernel)).mono ?_; rintro e w5 ⟨rfl, h5⟩
       have R5 := R4.below h5 (Nat.le_trans z3 hk.size)
       have r25 := r24.below h5 (Nat.le_trans h3.size hk.size))
    | (go_at_call 10; refine (same_at r25 R5 (b := true) (by decide +kernel)).mono ?_; rintro e w6 ⟨rfl, h6⟩)
    | (go_at_call 11; refine (num_any _ _).mono ?_; rintro e w' ⟨rfl, hw'⟩; subst w'))
  go_ret
  exact ⟨rfl, (((((((ha.on hb).on hc).onA _).on h1).on h2).on h3).on hk).on (h5.on h6)⟩

end Go.Proofs.Ytekefbhpkpoghaa
