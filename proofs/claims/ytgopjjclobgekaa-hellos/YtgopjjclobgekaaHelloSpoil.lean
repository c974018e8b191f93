
/-
  The statements' own helper that writes a view's lists over: nothing but those lists turns.
-/
import Derived.Test.YtgopjjclobgekaaViewRow
namespace Go.Proofs.Ytgopjjclobgekaa
open Go.ChangeShapes Go.WideShapes Go.ChangeAt Go.RowKit

set_option maxHeartbeats 400000 in
theorem spoilView_any {base : Nat} {w : World} {p q : Value} {ps : List Pe} {is : List Int} (i : Int) (h : VwNew base w p q ps is) (hb : base ≤ w.heap.size) :
    Calls Try.prog 16 #[.agg #[.int .i64 i, p, q]] w fun e w' => e = .returned (.tuple #[]) ∧ Below base w w' := by
  obtain ⟨lo1, hi1, lo2, hi2, P, Q, h1, h2, h3, h4, h5⟩ := h.out
  have H1 := toHid (fun o : Obj => spoilPeers_any (P.alloc o PeV_len))
  have H2 := toHid (fun (o : Obj) (w1 : World) (hw : Only lo1 hi1 (w.alloc o) w1) => spoilI_only ((Q.alloc o).only hw (by omega)))
  have B1 := toHid (fun (cs : Array Value) (t : TypeId) => Box.new w cs t)
  obtain ⟨a, c, a', c', ep, eq, hn, hn'⟩ := h.at.shape
  subst ep eq
  clear h P Q
  go_enter Try.func16, Try.ntmps16
  go_wp2_with (first
    | (go_at_call 37; refine (H1.out _).mono ?_; rintro e w1 ⟨rfl, k1⟩
       have b2 := fun o => (k1.cell w.heap.size o (.inr h2)).trans ((B1.out _ _).2.1 o))
    | (go_at_call 38; refine (H2.out _ _ k1).mono ?_; rintro e w2 ⟨rfl, k2⟩))
  go_end0
  exact ⟨rfl, (((Below.refl base w).alloc hb _).trans (k1.below.mono h1)).trans (k2.below.mono h3)⟩

end Go.Proofs.Ytgopjjclobgekaa
