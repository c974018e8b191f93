
/-
  What the statements about messages ask first: that the program answers at some messages at all.
-/
import Derived.Test.YtpbjlomlkjkedaaMsgB
import Derived.Test.YtpbjlomlkjkedaaNum
namespace Go.Proofs.Ytpbjlomlkjkedaa
open Go.ChangeShapes Go.WideShapes Go.ChangeAt Go.RowKit

theorem ret_eq {x y : Bool} (h : x = y) : Ending.returned (.bool x) = .returned (.bool y) := by rw [h]

set_option maxHeartbeats 4000000 in
theorem awake12_any (w : World) :
    Calls Try.prog 11 #[] w fun e w' => e = .returned (.bool true) ∧ Below w.heap.size w w' := by
  have B1 := toHid (fun (o : Obj) (cs : Array Value) (t : TypeId) => (Box.new w cs t).alloc o)
  have t1 := trivial
  have t2 := trivial
  have t3 := trivial
  have t4 := trivial
  have t5 := trivial
  go_enter Try.func11, Try.ntmps11
  go_wp2_with (first
    | (go_at_call 7; clear t1
       have BA := Box.newAt (w := w.alloc (.cells #[.int .i64 5, .int .i64 1, .int .i64 2, .int .i64 3, .bool false] 26)) (n := w.heap.size + 1) #[.int .i64 7, .int .i64 3] 3 (by simp)
       refine (mMay_is (r := true) (Box.rowI (n := 2) [7, 3] BA rfl rfl (by decide)) (by decide +kernel)).mono ?_; rintro e w1 ⟨rfl, h1⟩
       clear BA
       have hk : Below w.heap.size w w1 := (((Below.refl _ w).onA _).onA _).on h1
       have A1 := (B1.out _ _ _).below h1
       clear h1
       obtain ⟨a1, a2, a3⟩ := id A1)
    | (go_at_call 7; clear t2; refine (mMay_is (r := true) (RowI.nil0 (lo := 0) (hi := 0)) (by decide +kernel)).mono ?_; rintro e w2 ⟨rfl, h2⟩
       replace hk := hk.on h2
       clear a1 a2 a3
       replace A1 := A1.below h2
       clear h2)
    | (go_at_call 7; clear t3; refine (mMay_is (r := true) (RowI.nil0 (lo := 0) (hi := 0)) (by decide +kernel)).mono ?_; rintro e w3 ⟨rfl, h3⟩
       replace hk := hk.on h3
       replace A1 := A1.below h3
       clear h3
       obtain ⟨a1, a2, a3⟩ := id A1)
    | (go_at_call 7; clear t4; refine (mMay_is (r := true) (RowI.nil0 (lo := 0) (hi := 0)) (by decide +kernel)).mono ?_; rintro e w4 ⟨rfl, h4⟩
       replace hk := hk.on h4
       clear a1 a2 a3
       replace A1 := A1.below h4
       clear h4
       obtain ⟨a1, a2, a3⟩ := id A1)
    | (go_at_call 7; clear t5; refine (mMay_is (r := false) (RowI.nil0 (lo := 0) (hi := 0)) (by decide +kernel)).mono ?_; rintro e w5 ⟨rfl, h5⟩
       replace hk := hk.on h5
       clear a1 a2 a3 A1 h5)
    | (go_at_call 7; refine (mMay_is (r := false) (RowI.nil0 (lo := 0) (hi := 0)) (by decide +kernel)).mono ?_; rintro e w6 ⟨rfl, h6⟩
       replace hk := hk.on h6
       clear h6))
  go_ret
  exact ⟨rfl, hk⟩

end Go.Proofs.Ytpbjlomlkjkedaa
