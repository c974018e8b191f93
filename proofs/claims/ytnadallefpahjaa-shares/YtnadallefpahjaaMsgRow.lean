
/-
  Contracts of the statements' own helpers on messages (copying, comparing).
-/
import Derived.Test.YtnadallefpahjaaIntRow
import Derived.Test.YtnadallefpahjaaLit
namespace Go.Proofs.Ytnadallefpahjaa
open Go.ChangeShapes Go.WideShapes Go.ChangeAt Go.RowKit

set_option maxHeartbeats 2000000 in
theorem sameMsg_same {lo hi lo' hi' : Nat} {w : World} {v u : Value} {is : List Int} (hv : RowI lo hi w v is) (hu : RowI lo' hi' w u is) (n a b k tk tc tu tx : Int) (tg h : Bool) :
    Calls Try.prog 29 #[.agg #[.int .i64 n, .int .i64 a, .int .i64 b, v, .int .i64 k, .int .i64 tk, .int .i64 tc, .int .i64 tu, .int .i64 tx, .bool tg, .bool h], .agg #[.int .i64 n, .int .i64 a, .int .i64 b, u, .int .i64 k, .int .i64 tk, .int .i64 tc, .int .i64 tu, .int .i64 tx, .bool tg, .bool h]] w fun e w' => e = .returned (.bool true) ∧ Below w.heap.size w w' := by
  have S1 := fun (o1 o2 : Obj) => sameI_at ((hv.alloc o1).alloc o2) ((hu.alloc o1).alloc o2) (b := true) (by simp)
  obtain ⟨p, c, rfl, -⟩ := hv
  obtain ⟨p', c', rfl, -⟩ := hu
  have B1 := toHid (fun (o : Obj) (cs : Array Value) (t : TypeId) => ((Box.new w cs t).alloc o))
  have C1 := toHid (fun (o : Obj) (cs : Array Value) (t : TypeId) => (Box.new1 w o cs t))
  go_enter Try.func29, Try.ntmps29
  go_wp2_with (first
    | (go_at_call 49; refine (S1 _ _).mono ?_; rintro e w1 ⟨rfl, h1⟩
       obtain ⟨b1, b2, b3⟩ := (B1.out _ _ _).below h1
       obtain ⟨d1, d2, d3⟩ := (C1.out _ _ _).below h1))
  go_ret
  exact ⟨rfl, (((Below.refl _ w).onA _).onA _).on h1⟩

end Go.Proofs.Ytnadallefpahjaa
