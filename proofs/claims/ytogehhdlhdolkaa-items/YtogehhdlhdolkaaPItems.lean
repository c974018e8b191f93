/-
  The statement Items: of any two items the program's best and error are the document's, and so is whether an item may be.
-/
import Derived.Test.YtogehhdlhdolkaaRows
import Derived.Test.YtogehhdlhdolkaaOpen
import Derived.Test.YtogehhdlhdolkaaItemRef
import Derived.Test.YtogehhdlhdolkaaItemLaw
import Derived.Test.YtogehhdlhdolkaaBox
import Derived.Deep.RegionHeld3
namespace Go.Proofs.Ytogehhdlhdolkaa.items
open Go.ChangeShapes Go.WideShapes Go.ChangeAt Go.RowKit
set_option linter.unusedVariables false

/-! ### The walk -/
set_option maxHeartbeats 4000000 in
theorem walk (v0 : Value) (x0 : It) (v1 : Value) (x1 : It) (w : World) (r0 : v0 = .agg #[.int .i64 x0.k, .int .i64 x0.c, .int .i64 x0.u, .int .i64 x0.x, .bool x0.g]) (w0 : ItW x0) (r1 : v1 = .agg #[.int .i64 x1.k, .int .i64 x1.c, .int .i64 x1.u, .int .i64 x1.x, .bool x1.g]) (w1 : ItW x1) :
    Calls Try.prog 3 #[v0, v1] w fun e w' => e = .returned (.bool true) ∧ Below w.heap.size w w' := by
  obtain ⟨k, c, u, x, g⟩ := x0
  obtain ⟨l, d, v, y, h⟩ := x1
  subst r0 r1
  clear w0 w1
  have HB := fun w => iBest_any k c u x g l d v y h w
  have HR := fun w => rBest_any k c u x g l d v y h w
  generalize bstI ⟨k, c, u, x, g⟩ ⟨l, d, v, y, h⟩ = z at HB HR
  generalize bstE ⟨k, c, u, x, g⟩ ⟨l, d, v, y, h⟩ = f at HB HR
  obtain ⟨zk, zc, zu, zx, zg⟩ := z
  dsimp only at HB HR ⊢
  replace HB : Hid _ := HB
  replace HR : Hid _ := HR
  go_enter Try.func3, Try.ntmps3
  go_wp2_with (first
    | (go_at_call 9; refine (HB.out _).mono ?_; rintro e w1 ⟨rfl, hb1⟩
       have bA1 := ((Box.new w _ _).alloc _).below hb1
       have bB1 := (Box.new1 w _ _ _).below hb1
       obtain ⟨a1, a2, a3⟩ := id bA1
       obtain ⟨b1, b2, b3⟩ := id bB1)
    | (go_at_call 10; refine (HR.out _).mono ?_; rintro e w2 ⟨rfl, hb2⟩
       have bA2 := (bA1.alloc _).below hb2
       have bX2 := (Box.new w1 _ _).below hb2
       clear a1 a2 a3 b1 b2 b3))
  have hb0 : Below w.heap.size w w2 := (((((Below.refl _ w).onA _).onA _).on hb1).onA _).on hb2
  clear hb1 bA1 bB1
  obtain ⟨sa, ca, -⟩ := id (bA2.alloc (.cells #[.int .i64 zk, .int .i64 zc, .int .i64 zu, .int .i64 zx, .bool zg] 25))
  obtain ⟨sx, cx, -⟩ := id (bX2.alloc (.cells #[.int .i64 zk, .int .i64 zc, .int .i64 zu, .int .i64 zx, .bool zg] 25))
  obtain ⟨sy, cy, -⟩ := Box.new w2 #[.int .i64 zk, .int .i64 zc, .int .i64 zu, .int .i64 zx, .bool zg] 25
  clear sa sx sy
  go_region_held3 (fun w' => (∀ o, w'.cell? ⟨w.heap.size, o, none⟩ = (#[.int .i64 k, .int .i64 c, .int .i64 u, .int .i64 x, .bool g] : Array Value)[o]?) ∧ (∀ o, w'.cell? ⟨w1.heap.size, o, none⟩ = (#[.int .i64 zk, .int .i64 zc, .int .i64 zu, .int .i64 zx, .bool zg] : Array Value)[o]?) ∧ (∀ o, w'.cell? ⟨w2.heap.size, o, none⟩ = (#[.int .i64 zk, .int .i64 zc, .int .i64 zu, .int .i64 zx, .bool zg] : Array Value)[o]?)) (go_keep) (first
    | (go_at_call 11; refine (num_any _ _).mono ?_; rintro e w' ⟨rfl, rfl⟩)
    | (go_at_call 12; refine (iMay_any _ _ _ _ _ _).mono ?_; rintro e w3 ⟨rfl, hb3⟩
       have bA3 := ((bA2.alloc _).drewN 1).below hb3
       have bX3 := ((bX2.alloc _).drewN 1).below hb3
       have bY3 := ((Box.new w2 _ _).drewN 1).below hb3
       obtain ⟨_, qa, -⟩ := id bA3
       obtain ⟨_, qx, -⟩ := id bX3
       obtain ⟨_, qy, -⟩ := id bY3)
    | (go_at_call 13; refine (rIMay_any _ _ _ _ _ _).mono ?_; rintro e w4 ⟨rfl, hb4⟩
       have bA4 := bA3.below hb4
       have bX4 := bX3.below hb4
       have bY4 := bY3.below hb4
       obtain ⟨_, ra, -⟩ := id bA4
       obtain ⟨_, rx, -⟩ := id bX4
       obtain ⟨_, ry, -⟩ := id bY4)
    | (go_at_call 14; refine (awake4_any _).mono ?_; rintro e w5 ⟨rfl, hb5⟩
       obtain ⟨_, oa, -⟩ := bA4.below hb5
       obtain ⟨_, ox, -⟩ := bX4.below hb5
       obtain ⟨_, oy, -⟩ := bY4.below hb5))
  all_goals go_wp2
  go_ret
  exact ⟨rfl, (((hb0.onA _).onD 1).on hb3).on (hb4.on hb5)⟩

/-! ### The row's step -/
set_option maxRecDepth 100000 in
theorem lifted (os : Os) (started : os.Started) (H : Type) (enc : TypeId × Value → H) :
    ReturnsInHanded {} Try.checked os 3 .any (Rows.itemsSpec.pre6 enc Try.prog Try.f3 Rows.itemsRow.domain false) (Rows.itemsSpec.post enc Try.prog Try.f3 false true false false) := by
  refine returnsInHanded_of_change_sized (C := Try.checked) ownK started (by kernel_rfl) Try.func3
    (ChangeSpec.witness6 (enc := enc) (C := Try.checked) false ⟨#[], #[.agg #[.int .i64 0, .int .i64 0, .int .i64 0, .int .i64 0, .bool false], .agg #[.int .i64 0, .int .i64 0, .int .i64 0, .int .i64 0, .bool false]], []⟩ 8 (by kernel_rfl) (by kernel_rfl) (by kernel_rfl) (by kernel_rfl)) ?_
  intro W base args ds gs before hval0 hW hcnd hsz0 _
  have hsz : (DataW.weightsEach Try.prog (Try.f3.params.toList ++ Rows.itemsSpec.plain.varTypes Try.prog) (ds ++ gs)).all (· ≤ reachBytes) = true := hsz0
  have hval : ∀ (j : Nat) t v, Try.f3.params[j]? = some t → args[j]? = some v → Value.okWide Try.prog W .any base t v := hval0
  have hW' := hW
  obtain ⟨p, q, hA0, hV, rfl, hfz, hnd⟩ := hW
  have hA : DataW.TrodAll enc Try.prog W 0 (fun _ => true) true Try.f3.params.toList args.toList ds p := hA0
  rw [Try.params3] at hA hval hsz
  obtain ⟨v0, vs0, d0, ds0, p0, q0, hargs, rfl, rfl, h0, r0⟩ := trodAll_cons hA
  obtain ⟨v1, vs1, d1, ds1, p1, q1, rfl, rfl, rfl, h1, r1⟩ := trodAll_cons r0
  obtain ⟨rfl, rfl, rfl⟩ := trodAll_nil r1
  obtain rfl : args = #[v0, v1] := by cases args; simp_all
  obtain ⟨rfl, rfl⟩ := trodVars_none hV
  clear r0 r1
  have k0 := h0
  have lt0 : ∀ x ∈ p0, x.block < W.heap.size := by obtain ⟨m, hm⟩ := k0; exact DataW.trod_lt m _ _ _ hm
  have z0 : ∀ n ∈ d0.weights Try.prog 25, n ≤ reachBytes := fun n hn => by simpa using List.all_eq_true.1 hsz _ (DataW.weights_mem_each (j := 0) rfl rfl n hn)
  have f0 : W.noneFrozen p0 := fun b off hm => hfz b off (by simp [hm])
  have k1 := h1
  have lt1 : ∀ x ∈ p1, x.block < W.heap.size := by obtain ⟨m, hm⟩ := k1; exact DataW.trod_lt m _ _ _ hm
  have z1 : ∀ n ∈ d1.weights Try.prog 25, n ≤ reachBytes := fun n hn => by simpa using List.all_eq_true.1 hsz _ (DataW.weights_mem_each (j := 1) rfl rfl n hn)
  have f1 : W.noneFrozen p1 := fun b off hm => hfz b off (by simp [hm])
  obtain ⟨x0, r0, w0⟩ := open_item (hval 0 25 v0 rfl rfl) h0 f0 z0
  obtain ⟨x1, r1, w1⟩ := open_item (hval 1 25 v1 rfl rfl) h1 f1 z1
  clear hA0 hval0
  refine (walk v0 x0 v1 x1 W r0 w0 r1 w1).mono fun e W' ⟨he, bel⟩ => ?_
  subst he
  exact ⟨_, rfl, _, _, _, [], _, [], hW', trodAll_mk1 (shut_bool Try.underlying4 _), (trodAll_cons_mk (Below.trod laidOut (by kernel_rfl) (of_decide_eq_true (by kernel_rfl)) k0 bel lt0) (trodAll_cons_mk (Below.trod laidOut (by kernel_rfl) (of_decide_eq_true (by kernel_rfl)) k1 bel lt1) trodAll_mk0)), rfl, bel.frame _, fun h => by cases h⟩

theorem over : Rows.itemsRow.holds Try.pinned (OpenSpec.ofChange Rows.itemsSpec) :=
  OpenClaim.holds_of_wide 3 Try.f3 rfl rfl rfl rfl rfl rfl rfl ⟨rfl, rfl, rfl, rfl, rfl⟩ rfl rfl rfl rfl rfl (by kernel_rfl) Try.func3 (by kernel_rfl)
    (of_decide_eq_true (by kernel_rfl)) (by unfold Func.isWrapper; first | (rw [if_pos (by decide +kernel)]; kernel_rfl) | (rw [if_neg (by decide +kernel)]; exact ⟨rfl, rfl⟩))
    (fun os started H enc _ => lifted os started H enc)

end Go.Proofs.Ytogehhdlhdolkaa.items

namespace Go.Proofs.Ytogehhdlhdolkaa
/-- The statement, by its short name. -/
theorem items_holds : Rows.ItemsSaid := items.over
#print axioms items_holds
end Go.Proofs.Ytogehhdlhdolkaa
