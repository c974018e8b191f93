
/-
  Messages as bytes, plain: what a message's bytes are, which message bytes tell of, that they come back, and how many there are.
-/
import Derived.Test.YtnadallefpahjaaMsgsApp
import Derived.Test.YtnadallefpahjaaListMath
import Derived.Test.YtnadallefpahjaaMsgRow
namespace Go.Proofs.Ytnadallefpahjaa
open Go.RowKit

/-! ### There and back -/
/-! ### Lists of bytes, and strings -/
/-- A string's bytes; a string of bytes. -/
def bl (s : ByteArray) : List Int := s.data.toList.map fun x => (x.toNat : Int)
end Go.Proofs.Ytnadallefpahjaa

namespace Go.Proofs.Ytnadallefpahjaa
open Go.ChangeShapes Go.WideShapes Go.ChangeAt Go.RowKit

set_option maxHeartbeats 4000000 in
theorem sameMsg_any {lo hi lo' hi' : Nat} {w : World} {v u : Value} {is is' : List Int} (hv : RowI lo hi w v is) (hu : RowI lo' hi' w u is') (n a b k tk tc tu tx : Int) (tg h : Bool) (n' a' b' k' tk' tc' tu' tx' : Int) (tg' h' : Bool) :
    Calls Try.prog 29 #[.agg #[.int .i64 n, .int .i64 a, .int .i64 b, v, .int .i64 k, .int .i64 tk, .int .i64 tc, .int .i64 tu, .int .i64 tx, .bool tg, .bool h], .agg #[.int .i64 n', .int .i64 a', .int .i64 b', u, .int .i64 k', .int .i64 tk', .int .i64 tc', .int .i64 tu', .int .i64 tx', .bool tg', .bool h']] w fun e w' =>
      e = .returned (.bool (decide ((⟨n, a, b, is, k, ⟨tk, tc, tu, tx, tg⟩, h⟩ : Mg) = ⟨n', a', b', is', k', ⟨tk', tc', tu', tx', tg'⟩, h'⟩))) ∧ Below w.heap.size w w' := by
  by_cases d : n = n'
  rotate_left
  · have hf : decide ((⟨n, a, b, is, k, ⟨tk, tc, tu, tx, tg⟩, h⟩ : Mg) = ⟨n', a', b', is', k', ⟨tk', tc', tu', tx', tg'⟩, h'⟩) = false := decide_eq_false fun e => d (congrArg (Mg.n) e)
    rw [hf]
    clear hf
    obtain ⟨p, c, rfl, -⟩ := hv
    obtain ⟨p', c', rfl, -⟩ := hu
    go_enter Try.func29, Try.ntmps29
    go_wp2
    go_ret
    exact ⟨rfl, ((Below.refl _ w).onA _).onA _⟩
  subst d
  by_cases d : a = a'
  rotate_left
  · have hf : decide ((⟨n, a, b, is, k, ⟨tk, tc, tu, tx, tg⟩, h⟩ : Mg) = ⟨n, a', b', is', k', ⟨tk', tc', tu', tx', tg'⟩, h'⟩) = false := decide_eq_false fun e => d (congrArg (Mg.a) e)
    rw [hf]
    clear hf
    obtain ⟨p, c, rfl, -⟩ := hv
    obtain ⟨p', c', rfl, -⟩ := hu
    go_enter Try.func29, Try.ntmps29
    go_wp2
    go_ret
    exact ⟨rfl, ((Below.refl _ w).onA _).onA _⟩
  subst d
  by_cases d : b = b'
  rotate_left
  · have hf : decide ((⟨n, a, b, is, k, ⟨tk, tc, tu, tx, tg⟩, h⟩ : Mg) = ⟨n, a, b', is', k', ⟨tk', tc', tu', tx', tg'⟩, h'⟩) = false := decide_eq_false fun e => d (congrArg (Mg.b) e)
    rw [hf]
    clear hf
    obtain ⟨p, c, rfl, -⟩ := hv
    obtain ⟨p', c', rfl, -⟩ := hu
    go_enter Try.func29, Try.ntmps29
    go_wp2
    go_ret
    exact ⟨rfl, ((Below.refl _ w).onA _).onA _⟩
  subst d
  by_cases d : is = is'
  rotate_left
  · have hf : decide ((⟨n, a, b, is, k, ⟨tk, tc, tu, tx, tg⟩, h⟩ : Mg) = ⟨n, a, b, is', k', ⟨tk', tc', tu', tx', tg'⟩, h'⟩) = false := decide_eq_false fun e => d (congrArg (Mg.is) e)
    rw [hf]
    clear hf
    have S1 := fun (o1 o2 : Obj) => sameI_at ((hv.alloc o1).alloc o2) ((hu.alloc o1).alloc o2) (b := false) (decide_eq_false d)
    obtain ⟨p, c, rfl, -⟩ := hv
    obtain ⟨p', c', rfl, -⟩ := hu
    have B1 := toHid (fun (o : Obj) (cs : Array Value) (t : TypeId) => ((Box.new w cs t).alloc o))
    have C1 := toHid (fun (o : Obj) (cs : Array Value) (t : TypeId) => (Box.new1 w o cs t))
    go_enter Try.func29, Try.ntmps29
    go_wp2_with (first
      | (go_at_call 49; refine (S1 _ _).mono ?_; rintro e w1 ⟨rfl, h1⟩
         obtain ⟨b1, b2, b3⟩ := (B1.out _ _ _).below h1
         obtain ⟨d1, d2', d3⟩ := (C1.out _ _ _).below h1))
    go_ret
    exact ⟨rfl, (((Below.refl _ w).onA _).onA _).on h1⟩
  subst d
  by_cases d : k = k'
  rotate_left
  · have hf : decide ((⟨n, a, b, is, k, ⟨tk, tc, tu, tx, tg⟩, h⟩ : Mg) = ⟨n, a, b, is, k', ⟨tk', tc', tu', tx', tg'⟩, h'⟩) = false := decide_eq_false fun e => d (congrArg (Mg.k) e)
    rw [hf]
    clear hf
    have S1 := fun (o1 o2 : Obj) => sameI_at ((hv.alloc o1).alloc o2) ((hu.alloc o1).alloc o2) (b := true) (by simp)
    obtain ⟨p, c, rfl, -⟩ := hv
    obtain ⟨p', c', rfl, -⟩ := hu
    have B1 := toHid (fun (o : Obj) (cs : Array Value) (t : TypeId) => ((Box.new w cs t).alloc o))
    have C1 := toHid (fun (o : Obj) (cs : Array Value) (t : TypeId) => (Box.new1 w o cs t))
    go_enter Try.func29, Try.ntmps29
    go_wp2_with (first
      | (go_at_call 49; refine (S1 _ _).mono ?_; rintro e w1 ⟨rfl, h1⟩
         obtain ⟨b1, b2, b3⟩ := (B1.out _ _ _).below h1
         obtain ⟨d1, d2', d3⟩ := (C1.out _ _ _).below h1))
    go_ret
    exact ⟨rfl, (((Below.refl _ w).onA _).onA _).on h1⟩
  subst d
  by_cases d : tk = tk'
  rotate_left
  · have hf : decide ((⟨n, a, b, is, k, ⟨tk, tc, tu, tx, tg⟩, h⟩ : Mg) = ⟨n, a, b, is, k, ⟨tk', tc', tu', tx', tg'⟩, h'⟩) = false := decide_eq_false fun e => d (congrArg (fun m => m.t.k) e)
    rw [hf]
    clear hf
    have S1 := fun (o1 o2 : Obj) => sameI_at ((hv.alloc o1).alloc o2) ((hu.alloc o1).alloc o2) (b := true) (by simp)
    obtain ⟨p, c, rfl, -⟩ := hv
    obtain ⟨p', c', rfl, -⟩ := hu
    have B1 := toHid (fun (o : Obj) (cs : Array Value) (t : TypeId) => ((Box.new w cs t).alloc o))
    have C1 := toHid (fun (o : Obj) (cs : Array Value) (t : TypeId) => (Box.new1 w o cs t))
    go_enter Try.func29, Try.ntmps29
    go_wp2_with (first
      | (go_at_call 49; refine (S1 _ _).mono ?_; rintro e w1 ⟨rfl, h1⟩
         obtain ⟨b1, b2, b3⟩ := (B1.out _ _ _).below h1
         obtain ⟨d1, d2', d3⟩ := (C1.out _ _ _).below h1))
    go_ret
    exact ⟨rfl, (((Below.refl _ w).onA _).onA _).on h1⟩
  subst d
  by_cases d : tc = tc'
  rotate_left
  · have hf : decide ((⟨n, a, b, is, k, ⟨tk, tc, tu, tx, tg⟩, h⟩ : Mg) = ⟨n, a, b, is, k, ⟨tk, tc', tu', tx', tg'⟩, h'⟩) = false := decide_eq_false fun e => d (congrArg (fun m => m.t.c) e)
    rw [hf]
    clear hf
    have S1 := fun (o1 o2 : Obj) => sameI_at ((hv.alloc o1).alloc o2) ((hu.alloc o1).alloc o2) (b := true) (by simp)
    obtain ⟨p, c, rfl, -⟩ := hv
    obtain ⟨p', c', rfl, -⟩ := hu
    have B1 := toHid (fun (o : Obj) (cs : Array Value) (t : TypeId) => ((Box.new w cs t).alloc o))
    have C1 := toHid (fun (o : Obj) (cs : Array Value) (t : TypeId) => (Box.new1 w o cs t))
    go_enter Try.func29, Try.ntmps29
    go_wp2_with (first
      | (go_at_call 49; refine (S1 _ _).mono ?_; rintro e w1 ⟨rfl, h1⟩
         obtain ⟨b1, b2, b3⟩ := (B1.out _ _ _).below h1
         obtain ⟨d1, d2', d3⟩ := (C1.out _ _ _).below h1))
    go_ret
    exact ⟨rfl, (((Below.refl _ w).onA _).onA _).on h1⟩
  subst d
  by_cases d : tu = tu'
  rotate_left
  · have hf : decide ((⟨n, a, b, is, k, ⟨tk, tc, tu, tx, tg⟩, h⟩ : Mg) = ⟨n, a, b, is, k, ⟨tk, tc, tu', tx', tg'⟩, h'⟩) = false := decide_eq_false fun e => d (congrArg (fun m => m.t.u) e)
    rw [hf]
    clear hf
    have S1 := fun (o1 o2 : Obj) => sameI_at ((hv.alloc o1).alloc o2) ((hu.alloc o1).alloc o2) (b := true) (by simp)
    obtain ⟨p, c, rfl, -⟩ := hv
    obtain ⟨p', c', rfl, -⟩ := hu
    have B1 := toHid (fun (o : Obj) (cs : Array Value) (t : TypeId) => ((Box.new w cs t).alloc o))
    have C1 := toHid (fun (o : Obj) (cs : Array Value) (t : TypeId) => (Box.new1 w o cs t))
    go_enter Try.func29, Try.ntmps29
    go_wp2_with (first
      | (go_at_call 49; refine (S1 _ _).mono ?_; rintro e w1 ⟨rfl, h1⟩
         obtain ⟨b1, b2, b3⟩ := (B1.out _ _ _).below h1
         obtain ⟨d1, d2', d3⟩ := (C1.out _ _ _).below h1))
    go_ret
    exact ⟨rfl, (((Below.refl _ w).onA _).onA _).on h1⟩
  subst d
  by_cases d : tx = tx'
  rotate_left
  · have hf : decide ((⟨n, a, b, is, k, ⟨tk, tc, tu, tx, tg⟩, h⟩ : Mg) = ⟨n, a, b, is, k, ⟨tk, tc, tu, tx', tg'⟩, h'⟩) = false := decide_eq_false fun e => d (congrArg (fun m => m.t.x) e)
    rw [hf]
    clear hf
    have S1 := fun (o1 o2 : Obj) => sameI_at ((hv.alloc o1).alloc o2) ((hu.alloc o1).alloc o2) (b := true) (by simp)
    obtain ⟨p, c, rfl, -⟩ := hv
    obtain ⟨p', c', rfl, -⟩ := hu
    have B1 := toHid (fun (o : Obj) (cs : Array Value) (t : TypeId) => ((Box.new w cs t).alloc o))
    have C1 := toHid (fun (o : Obj) (cs : Array Value) (t : TypeId) => (Box.new1 w o cs t))
    go_enter Try.func29, Try.ntmps29
    go_wp2_with (first
      | (go_at_call 49; refine (S1 _ _).mono ?_; rintro e w1 ⟨rfl, h1⟩
         obtain ⟨b1, b2, b3⟩ := (B1.out _ _ _).below h1
         obtain ⟨d1, d2', d3⟩ := (C1.out _ _ _).below h1))
    go_ret
    exact ⟨rfl, (((Below.refl _ w).onA _).onA _).on h1⟩
  subst d
  by_cases d : tg = tg'
  rotate_left
  · have hf : decide ((⟨n, a, b, is, k, ⟨tk, tc, tu, tx, tg⟩, h⟩ : Mg) = ⟨n, a, b, is, k, ⟨tk, tc, tu, tx, tg'⟩, h'⟩) = false := decide_eq_false fun e => d (congrArg (fun m => m.t.g) e)
    rw [hf]
    clear hf
    have d2 : (tg == tg') = false := by cases tg <;> cases tg' <;> simp_all
    have S1 := fun (o1 o2 : Obj) => sameI_at ((hv.alloc o1).alloc o2) ((hu.alloc o1).alloc o2) (b := true) (by simp)
    obtain ⟨p, c, rfl, -⟩ := hv
    obtain ⟨p', c', rfl, -⟩ := hu
    have B1 := toHid (fun (o : Obj) (cs : Array Value) (t : TypeId) => ((Box.new w cs t).alloc o))
    have C1 := toHid (fun (o : Obj) (cs : Array Value) (t : TypeId) => (Box.new1 w o cs t))
    go_enter Try.func29, Try.ntmps29
    go_wp2_with (first
      | (go_at_call 49; refine (S1 _ _).mono ?_; rintro e w1 ⟨rfl, h1⟩
         obtain ⟨b1, b2, b3⟩ := (B1.out _ _ _).below h1
         obtain ⟨d1, d2', d3⟩ := (C1.out _ _ _).below h1))
    go_ret
    exact ⟨rfl, (((Below.refl _ w).onA _).onA _).on h1⟩
  subst d
  by_cases d : h = h'
  rotate_left
  · have hf : decide ((⟨n, a, b, is, k, ⟨tk, tc, tu, tx, tg⟩, h⟩ : Mg) = ⟨n, a, b, is, k, ⟨tk, tc, tu, tx, tg⟩, h'⟩) = false := decide_eq_false fun e => d (congrArg (Mg.h) e)
    rw [hf]
    clear hf
    have d2 : (h == h') = false := by cases h <;> cases h' <;> simp_all
    have S1 := fun (o1 o2 : Obj) => sameI_at ((hv.alloc o1).alloc o2) ((hu.alloc o1).alloc o2) (b := true) (by simp)
    obtain ⟨p, c, rfl, -⟩ := hv
    obtain ⟨p', c', rfl, -⟩ := hu
    have B1 := toHid (fun (o : Obj) (cs : Array Value) (t : TypeId) => ((Box.new w cs t).alloc o))
    have C1 := toHid (fun (o : Obj) (cs : Array Value) (t : TypeId) => (Box.new1 w o cs t))
    go_enter Try.func29, Try.ntmps29
    go_wp2_with (first
      | (go_at_call 49; refine (S1 _ _).mono ?_; rintro e w1 ⟨rfl, h1⟩
         obtain ⟨b1, b2, b3⟩ := (B1.out _ _ _).below h1
         obtain ⟨d1, d2', d3⟩ := (C1.out _ _ _).below h1))
    go_ret
    exact ⟨rfl, (((Below.refl _ w).onA _).onA _).on h1⟩
  subst d
  rw [show decide ((⟨n, a, b, is, k, ⟨tk, tc, tu, tx, tg⟩, h⟩ : Mg) = ⟨n, a, b, is, k, ⟨tk, tc, tu, tx, tg⟩, h⟩) = true from decide_eq_true rfl]
  exact sameMsg_same hv hu n a b k tk tc tu tx tg h

end Go.Proofs.Ytnadallefpahjaa
