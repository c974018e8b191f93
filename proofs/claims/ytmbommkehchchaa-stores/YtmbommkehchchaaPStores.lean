/-
  The statement Stores: of any list of items, any item and any key the program's store is the document's, and what was lent stays as it was.
-/
import Derived.Test.YtmbommkehchchaaRows
import Derived.Test.YtmbommkehchchaaOpen
import Derived.Test.YtmbommkehchchaaStoreLaw
import Derived.Test.YtmbommkehchchaaStorePut
import Derived.Test.YtmbommkehchchaaOpenT
namespace Go.Proofs.Ytmbommkehchchaa.stores
open Go.ChangeShapes Go.WideShapes Go.ChangeAt Go.RowKit
set_option linter.unusedVariables false

/-! ### The walk -/
set_option maxHeartbeats 4000000 in
theorem walk (v0 : Value) (x0 : List It) (v1 : Value) (x1 : It) (a2 : Int) (w : World) (r0 : RowT 0 w.heap.size w v0 x0) (s0 : x0.length * 40 ≤ 140737488351232) (w0 : ∀ x ∈ x0, ItW x) (r1 : v1 = .agg #[.int .i64 x1.k, .int .i64 x1.c, .int .i64 x1.u, .int .i64 x1.x, .bool x1.g]) (w1 : ItW x1) (w2 : (Lit.int .i64 a2).wf = true) :
    Calls Try.prog 3 #[v0, v1, .int .i64 a2] w fun e w' => e = .returned (.bool true) ∧ Below w.heap.size w w' := by
  obtain ⟨k, c, u, y, g⟩ := x1
  subst r1
  clear w0 w1 w2
  dsimp only
  have hr := r0.alloc (.cells #[.int .i64 k, .int .i64 c, .int .i64 u, .int .i64 y, .bool g] 26) ItV_len
  have hz : w.heap.size ≤ (w.alloc (.cells #[.int .i64 k, .int .i64 c, .int .i64 u, .int .i64 y, .bool g] 26)).heap.size := by simp
  have hlen : x0.length * 40 ≤ 140737488351232 := s0
  obtain ⟨p0, c0, e0, n0, -⟩ := hr.its hz
  subst e0
  clear r0 s0
  go_enter Try.func3, Try.ntmps3
  go_wp2_with (first
    | (go_at_call 9; refine (lendItems_any hr (by omega)).mono ?_; rintro e w1 ⟨l1, rfl, L1, h1⟩
       have bX1 := (Box.new w _ _).below h1
       have r1 := hr.below h1 hz
       have z1 := Nat.le_trans hz h1.size
       obtain ⟨b1, b2, b3⟩ := id bX1)
    | (go_at_call 10; refine (sPut_any L1.row (Nat.le_refl _) _ _ _ _ _).mono ?_; rintro e w2 ⟨o2, rfl, P2, h2⟩
       have L2 := L1.below h2 (Nat.le_refl _)
       have r2 := r1.below h2 z1
       have z2 := Nat.le_trans z1 h2.size
       clear b1 b2 b3
       obtain ⟨b1, b2, b3⟩ := bX1.below h2)
    | (go_at_call 11; refine (rPut_any r2 z2 _ _ _ _ _).mono ?_; rintro e w3 ⟨o3, rfl, P3, h3⟩
       have L3 := L2.below h3 h2.size
       have P23 := P2.below h3 (Nat.le_refl _)
       have r3 := r2.below h3 z2
       have z3 := Nat.le_trans z2 h3.size
       have y3 := Nat.le_trans h2.size h3.size
       clear b1 b2 b3
       have hk := Below.refl w3.heap.size w3)
    | (go_at_call 12; refine (sGet_any L3.row y3 _).mono ?_; rintro e w4 ⟨rfl, h4⟩
       replace hk : Below w3.heap.size w3 _ := (hk.on h4).onA (.cells #[.int .i64 (getI x0 a2).k, .int .i64 (getI x0 a2).c, .int .i64 (getI x0 a2).u, .int .i64 (getI x0 a2).x, .bool (getI x0 a2).g] 26))
    | (go_at_call 13; refine (rGet_any (r3.below hk z3) (Nat.le_trans z3 hk.size) _).mono ?_; rintro e w5 ⟨rfl, h5⟩
       have bA5 := (Box.new w4 _ _).below h5
       replace hk : Below w3.heap.size w3 _ := (hk.on h5).onA (.cells #[.int .i64 (getI x0 a2).k, .int .i64 (getI x0 a2).c, .int .i64 (getI x0 a2).u, .int .i64 (getI x0 a2).x, .bool (getI x0 a2).g] 26))
    | (go_at_call 14; refine (same_at (P23.below hk h3.size) (P3.below hk (Nat.le_refl _)) (b := true) (by simp)).mono ?_; rintro e w6 ⟨rfl, h6⟩
       replace hk : Below w3.heap.size w3 w6 := hk.on h6
       obtain ⟨m1, m2, m3⟩ := (bA5.alloc _).below h6
       obtain ⟨n1, n2, n3⟩ := (Box.new w5 _ _).below h6)
    | (go_at_call 16; refine (sMay_any (L3.below hk y3).row (Nat.le_trans y3 hk.size)).mono ?_; rintro e w7 ⟨rfl, h7⟩
       replace hk : Below w3.heap.size w3 w7 := hk.on h7)
    | (go_at_call 17; refine (rStoreMay_any (r3.below hk z3) (Nat.le_trans z3 hk.size)).mono ?_; rintro e w8 ⟨rfl, h8⟩
       replace hk : Below w3.heap.size w3 w8 := hk.on h8)
    | (go_at_call 18; refine (spoilItems_any (P23.below hk h3.size)).mono ?_; rintro e w9 ⟨rfl, h9⟩
       have L9 := (L3.below hk y3).below h9 (Nat.le_refl _)
       have r9 := (r3.below hk z3).below h9 z1)
    | (go_at_call 19; refine (keptItems_any L9 r9).mono ?_; rintro e w10 ⟨rfl, q, rfl⟩)
    | (go_at_call 20; refine (awake5_any _).mono ?_; rintro e w11 ⟨rfl, h11⟩)
    | (go_at_call 15; refine (num_any _ _).mono ?_; rintro e w' ⟨rfl, hw'⟩; subst w'))
  go_ret
  have hB : Below w.heap.size w w8 := ((((Below.refl _ w).onA _).on h1).on h2).on (h3.on hk)
  exact ⟨rfl, ((hB.trans (h9.mono z1)).onD q).on h11⟩

/-! ### The row's step -/
set_option maxRecDepth 100000 in
theorem lifted (os : Os) (started : os.Started) (H : Type) (enc : TypeId × Value → H) :
    ReturnsInHanded {} Try.checked os 3 .any (Rows.storesSpec.pre6 enc Try.prog Try.f3 Rows.storesRow.domain false) (Rows.storesSpec.post enc Try.prog Try.f3 false true false false) := by
  refine returnsInHanded_of_change_sized (C := Try.checked) ownK started (by kernel_rfl) Try.func3
    (ChangeSpec.witness6 (enc := enc) (C := Try.checked) false ⟨#[], #[.slice none 0 0, .agg #[.int .i64 0, .int .i64 0, .int .i64 0, .int .i64 0, .bool false], .int .i64 0], []⟩ 8 (by kernel_rfl) (by kernel_rfl) (by kernel_rfl) (by kernel_rfl)) ?_
  intro W base args ds gs before hval0 hW hcnd hsz0 _
  have hsz : (DataW.weightsEach Try.prog (Try.f3.params.toList ++ Rows.storesSpec.plain.varTypes Try.prog) (ds ++ gs)).all (· ≤ reachBytes) = true := hsz0
  have hval : ∀ (j : Nat) t v, Try.f3.params[j]? = some t → args[j]? = some v → Value.okWide Try.prog W .any base t v := hval0
  have hW' := hW
  obtain ⟨p, q, hA0, hV, rfl, hfz, hnd⟩ := hW
  have hA : DataW.TrodAll enc Try.prog W 0 (fun _ => true) true Try.f3.params.toList args.toList ds p := hA0
  rw [Try.params3] at hA hval hsz
  obtain ⟨v0, vs0, d0, ds0, p0, q0, hargs, rfl, rfl, h0, r0⟩ := trodAll_cons hA
  obtain ⟨v1, vs1, d1, ds1, p1, q1, rfl, rfl, rfl, h1, r1⟩ := trodAll_cons r0
  obtain ⟨v2, vs2, d2, ds2, p2, q2, rfl, rfl, rfl, h2, r2⟩ := trodAll_cons r1
  obtain ⟨rfl, rfl, rfl⟩ := trodAll_nil r2
  obtain rfl : args = #[v0, v1, v2] := by cases args; simp_all
  obtain ⟨rfl, rfl⟩ := trodVars_none hV
  clear r0 r1 r2
  have k0 := h0
  have lt0 : ∀ x ∈ p0, x.block < W.heap.size := by obtain ⟨m, hm⟩ := k0; exact DataW.trod_lt m _ _ _ hm
  have z0 : ∀ n ∈ d0.weights Try.prog 22, n ≤ reachBytes := fun n hn => by simpa using List.all_eq_true.1 hsz _ (DataW.weights_mem_each (j := 0) rfl rfl n hn)
  have f0 : W.noneFrozen p0 := fun b off hm => hfz b off (by simp [hm])
  have k1 := h1
  have lt1 : ∀ x ∈ p1, x.block < W.heap.size := by obtain ⟨m, hm⟩ := k1; exact DataW.trod_lt m _ _ _ hm
  have z1 : ∀ n ∈ d1.weights Try.prog 26, n ≤ reachBytes := fun n hn => by simpa using List.all_eq_true.1 hsz _ (DataW.weights_mem_each (j := 1) rfl rfl n hn)
  have f1 : W.noneFrozen p1 := fun b off hm => hfz b off (by simp [hm])
  have k2 := h2
  have lt2 : ∀ x ∈ p2, x.block < W.heap.size := by obtain ⟨m, hm⟩ := k2; exact DataW.trod_lt m _ _ _ hm
  obtain ⟨x0, r0, s0, w0⟩ := open_rowT (hval 0 22 v0 rfl rfl) h0 f0 z0
  obtain ⟨x1, r1, w1⟩ := open_item (hval 1 26 v1 rfl rfl) h1 f1 z1
  obtain ⟨a2, rfl, rfl, rfl, w2⟩ := open_int Try.underlying3 (hval 2 3 v2 rfl rfl) h2
  clear hA0 hval0
  refine (walk v0 x0 v1 x1 a2 W r0 s0 w0 r1 w1 w2).mono fun e W' ⟨he, bel⟩ => ?_
  subst he
  exact ⟨_, rfl, _, _, _, [], _, [], hW', trodAll_mk1 (shut_bool Try.underlying4 _), (trodAll_cons_mk (Below.trod laidOut (by kernel_rfl) (of_decide_eq_true (by kernel_rfl)) k0 bel lt0) (trodAll_cons_mk (Below.trod laidOut (by kernel_rfl) (of_decide_eq_true (by kernel_rfl)) k1 bel lt1) (trodAll_cons_mk (Below.trod laidOut (by kernel_rfl) (of_decide_eq_true (by kernel_rfl)) k2 bel lt2) trodAll_mk0))), rfl, bel.frame _, fun h => by cases h⟩

theorem over : Rows.storesRow.holds Try.pinned (OpenSpec.ofChange Rows.storesSpec) :=
  OpenClaim.holds_of_wide 3 Try.f3 rfl rfl rfl rfl rfl rfl rfl ⟨rfl, rfl, rfl, rfl, rfl⟩ rfl rfl rfl rfl rfl (by kernel_rfl) Try.func3 (by kernel_rfl)
    (of_decide_eq_true (by kernel_rfl)) (by unfold Func.isWrapper; first | (rw [if_pos (by decide +kernel)]; kernel_rfl) | (rw [if_neg (by decide +kernel)]; exact ⟨rfl, rfl⟩))
    (fun os started H enc _ => lifted os started H enc)

end Go.Proofs.Ytmbommkehchchaa.stores

namespace Go.Proofs.Ytmbommkehchchaa
/-- The statement, by its short name. -/
theorem stores_holds : Rows.StoresSaid := stores.over
#print axioms stores_holds
end Go.Proofs.Ytmbommkehchchaa
