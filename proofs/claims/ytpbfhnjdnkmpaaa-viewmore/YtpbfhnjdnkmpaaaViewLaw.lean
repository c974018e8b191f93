
/-
  What the statements about views ask first: the view that they give, and that the program answers at some views at all.
-/
import Derived.Test.YtpbfhnjdnkmpaaaViewB
import Derived.Test.YtpbfhnjdnkmpaaaNum
namespace Go.Proofs.Ytpbfhnjdnkmpaaa
open Go.ChangeShapes Go.WideShapes Go.ChangeAt Go.RowKit

def gvP : List Pe := [⟨101, 2⟩, ⟨200, 0⟩, ⟨90, 1⟩]
def gvQ : List Int := [7, 150]

/-- The view that is given: its two lists in two new blocks. -/
theorem given_any (w : World) :
    Calls Try.prog 20 #[] w fun e w' => e = .returned (.agg #[.int .i64 100, .slice (some ⟨w.heap.size + 1, 0, none⟩) 3 3, .slice (some ⟨w.heap.size + 1 + 1, 0, none⟩) 2 2]) ∧
      Box w' (w.heap.size + 1) #[.int .i64 101, .int .i64 2, .int .i64 200, .int .i64 0, .int .i64 90, .int .i64 1] ∧ Box w' (w.heap.size + 1 + 1) #[.int .i64 7, .int .i64 150] ∧ Below w.heap.size w w' := by
  go_enter Try.func20, Try.ntmps20
  go_wp2
  refine bodyPost_ret (v := .agg #[.int .i64 100, .slice (some ⟨w.heap.size + 1, 0, none⟩) 3 3, .slice (some ⟨w.heap.size + 1 + 1, 0, none⟩) 2 2]) (by simp [results, Try.results20, go_sem]) rfl ?_
  exact ⟨rfl, (Box.new1 w _ _ _).alloc _, Box.new2 w _ _ _ _, (((Below.refl _ w).onA _).onA _).onA _⟩

theorem gv_at {w : World} {b : Nat} (h1 : Box w (b + 1) #[.int .i64 101, .int .i64 2, .int .i64 200, .int .i64 0, .int .i64 90, .int .i64 1]) (h2 : Box w (b + 1 + 1) #[.int .i64 7, .int .i64 150]) :
    VwAt b w.heap.size w (.slice (some ⟨b + 1, 0, none⟩) 3 3) (.slice (some ⟨b + 1 + 1, 0, none⟩) 2 2) gvP gvQ :=
  ⟨(Box.rowP gvP h1 rfl rfl (by decide)).wide (by omega) h1.1, (Box.rowI gvQ h2 rfl rfl (by decide)).wide (by omega) h2.1⟩

section at_
variable {lo hi : Nat} {w : World} {p q : Value} {ps : List Pe} {is : List Int} {i k x err : Int} (h : VwAt lo hi w p q ps is) (hh : hi ≤ w.heap.size)
include h hh
theorem vSucc_at (hV : sucV i ps is = x) (hE : vwE i ps is = err) :
    Calls Try.prog 9 #[.agg #[.int .i64 i, p, q]] w fun e w' => e = .returned (.tuple #[.int .i64 x, .int .i64 err]) ∧ Below w.heap.size w w' := hV ▸ hE ▸ vSucc_any i h hh
theorem vPred_at (hV : preV i ps is = x) (hE : vwE i ps is = err) :
    Calls Try.prog 11 #[.agg #[.int .i64 i, p, q]] w fun e w' => e = .returned (.tuple #[.int .i64 x, .int .i64 err]) ∧ Below w.heap.size w w' := hV ▸ hE ▸ vPred_any i h hh
theorem vOwner_at (hV : owV i ps is k = x) (hE : owE i ps is k = err) :
    Calls Try.prog 13 #[.agg #[.int .i64 i, p, q], .int .i64 k] w fun e w' => e = .returned (.tuple #[.int .i64 x, .int .i64 err]) ∧ Below w.heap.size w w' := hV ▸ hE ▸ vOwner_any i k h hh
end at_

set_option maxHeartbeats 4000000 in
theorem awake9_any (w : World) :
    Calls Try.prog 19 #[] w fun e w' => e = .returned (.bool true) ∧ Below w.heap.size w w' := by
  have hk := Below.refl w.heap.size w
  have o1 := trivial
  go_enter Try.func19, Try.ntmps19
  go_wp2_with (first
    | (go_at_call 20; refine (given_any _).mono ?_; rintro e wg ⟨rfl, G1, G2, hg⟩
       have V := gv_at G1 G2
       replace hk := hk.on hg
       clear G1 G2 hg)
    | (go_at_call 9; refine (vSucc_at (x := 101) (err := 0) V (Nat.le_refl _) (by decide +kernel) (by decide +kernel)).mono ?_; rintro e w1 ⟨rfl, h1⟩
       replace hk := hk.on h1
       clear V h1)
    | (go_at_call 11; refine (vPred_at (x := 90) (err := 0) V (Nat.le_refl _) (by decide +kernel) (by decide +kernel)).mono ?_; rintro e w1 ⟨rfl, h1⟩
       replace hk := hk.on h1
       clear V h1)
    | (go_at_call 13; clear o1; refine (vOwner_at (x := 100) (err := 0) V (Nat.le_refl _) (by decide +kernel) (by decide +kernel)).mono ?_; rintro e w1 ⟨rfl, h1⟩
       replace hk := hk.on h1
       clear V h1)
    | (go_at_call 13; refine (vOwner_at (x := 0) (err := 900) V (Nat.le_refl _) (by decide +kernel) (by decide +kernel)).mono ?_; rintro e w1 ⟨rfl, h1⟩
       replace hk := hk.on h1
       clear V h1)
    | (go_at_call 9; refine (vSucc_at (lo := 0) (hi := 0) (ps := []) (is := []) (x := 5) (err := 0) ⟨RowC.nil0, RowI.nil0⟩ (Nat.zero_le _) (by decide +kernel) (by decide +kernel)).mono ?_; rintro e w1 ⟨rfl, h1⟩
       replace hk := hk.on h1
       clear h1)
    | (go_at_call 11
       have BA := Box.new w1 #[.int .i64 5] 3
       refine (vPred_at (ps := []) (is := [5]) (x := 0) (err := 900) ⟨RowC.nil0, Box.rowI (n := 1) [5] BA rfl rfl (by decide)⟩ BA.1 (by decide +kernel) (by decide +kernel)).mono ?_; rintro e w2 ⟨rfl, h1⟩
       clear BA
       replace hk := (hk.onA _).on h1
       clear h1)
    | (go_at_call 16; refine (vMay_is (r := true) V (Nat.le_refl _) (by decide +kernel)).mono ?_; rintro e w1 ⟨rfl, h1⟩
       replace hk := hk.on h1
       clear V h1)
    | (go_at_call 15; refine (num_any _ _).mono ?_; rintro e w' ⟨rfl, hw'⟩; subst w'))
  go_ret
  exact ⟨rfl, hk⟩

end Go.Proofs.Ytpbfhnjdnkmpaaa
