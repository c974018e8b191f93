
/-
  Nodes in memory: four lists and a flag; what stays of them behind other writes; comparing two of them.
-/
import Derived.Test.YtghamcomjfholaaItemRow
import Derived.Test.YtghamcomjfholaaTellRow
import Derived.Test.YtghamcomjfholaaOnly
import Derived.Test.YtghamcomjfholaaRows
namespace Go.Proofs.Ytghamcomjfholaa
open Go.ChangeShapes Go.WideShapes Go.ChangeAt Go.RowKit

/-! ### A plain node -/
structure Nd where
  up : Bool
  i : Int
  ps : List Pe
  is : List Int
  ts : List It
  ls : List Te
deriving DecidableEq

/-- The four lists of a node read so; all their cells lie in blocks from lo on and below hi. -/
structure NdAt (lo hi : Nat) (w : World) (p q r s : Value) (ps : List Pe) (is : List Int) (ts : List It) (ls : List Te) : Prop where
  vw : VwAt lo hi w p q ps is
  ts : RowT lo hi w r ts
  ls : RowE lo hi w s ls
section
variable {lo hi : Nat} {w : World} {p q r s : Value} {ps : List Pe} {is : List Int} {ts : List It} {ls : List Te}
theorem NdAt.below {B : Nat} {w' : World} (h : NdAt lo hi w p q r s ps is ts ls) (hb : Below B w w') (hB : hi ≤ B) : NdAt lo hi w' p q r s ps is ts ls := ⟨h.vw.below hb hB, h.ts.below hb hB, h.ls.below hb hB⟩
theorem NdAt.wide {lo' hi' : Nat} (h : NdAt lo hi w p q r s ps is ts ls) (h1 : lo' ≤ lo) (h2 : hi ≤ hi') : NdAt lo' hi' w p q r s ps is ts ls := ⟨h.vw.wide h1 h2, h.ts.wide h1 h2, h.ls.wide h1 h2⟩
theorem NdAt.alloc (h : NdAt lo hi w p q r s ps is ts ls) (o : Obj) : NdAt lo hi (w.alloc o) p q r s ps is ts ls := ⟨h.vw.alloc o, h.ts.alloc o ItV_len, h.ls.alloc o TeV_len⟩
theorem NdAt.drewN (h : NdAt lo hi w p q r s ps is ts ls) (n : Nat) : NdAt lo hi (w.drewN n) p q r s ps is ts ls := ⟨h.vw.drewN n, h.ts.drewN n, h.ls.drewN n⟩
theorem NdAt.shape (h : NdAt lo hi w p q r s ps is ts ls) : ∃ a c a' c' a2 c2 a3 c3, p = .slice a ps.length c ∧ q = .slice a' is.length c' ∧ r = .slice a2 ts.length c2 ∧ s = .slice a3 ls.length c3 := by
  obtain ⟨a, c, a', c', e1, e2, -, -⟩ := h.vw.shape
  obtain ⟨a2, c2, e3, -⟩ := h.ts.out
  obtain ⟨a3, c3, e4, -⟩ := h.ls.out
  exact ⟨a, c, a', c', a2, c2, a3, c3, e1, e2, e3, e4⟩
end
theorem NdAt.nil0 {lo hi : Nat} {w : World} : NdAt lo hi w (.slice none 0 0) (.slice none 0 0) (.slice none 0 0) (.slice none 0 0) [] [] [] [] := ⟨⟨RowC.nil0, RowI.nil0⟩, RowC.nil0, RowC.nil0⟩

theorem sameT_same {lo hi lo' hi' : Nat} {w : World} {v u : Value} {xs : List It} (hx : RowT lo hi w v xs) (hy : RowT lo' hi' w u xs) :
    Calls Try.prog 16 #[v, u] w fun e w' => e = .returned (.bool true) ∧ Below w.heap.size w w' :=
  (sameItems_any hx hy).mono fun _ _ ⟨he, q, hq⟩ => ⟨by rw [he]; simp, hq ▸ (Below.refl _ w).onD q⟩

set_option maxHeartbeats 2000000 in
theorem sameNode_same {lo hi lo' hi' : Nat} {w : World} {p q r s p' q' r' s' : Value} {ps : List Pe} {is : List Int} {ts : List It} {ls : List Te} (up : Bool) (i : Int) (h : NdAt lo hi w p q r s ps is ts ls) (h' : NdAt lo' hi' w p' q' r' s' ps is ts ls) (hh : hi ≤ w.heap.size) (hh' : hi' ≤ w.heap.size) :
    Calls Try.prog 11 #[.agg #[.bool up, .int .i64 i, p, q, r, s], .agg #[.bool up, .int .i64 i, p', q', r', s']] w fun e w' => e = .returned (.bool true) ∧ Below w.heap.size w w' := by
  have S1 := fun (o1 o2 : Obj) => sameView_same i ((h.vw.alloc o1).alloc o2) ((h'.vw.alloc o1).alloc o2) (by simp; omega) (by simp; omega)
  have S2 := fun (o1 o2 : Obj) (w1 : World) (hb : Below ((w.alloc o1).alloc o2).heap.size ((w.alloc o1).alloc o2) w1) =>
    sameT_same ((((h.alloc o1).alloc o2).below hb (by simp; omega)).ts) ((((h'.alloc o1).alloc o2).below hb (by simp; omega)).ts)
  have S3 := fun (o1 o2 : Obj) (w1 : World) (hb : Below ((w.alloc o1).alloc o2).heap.size ((w.alloc o1).alloc o2) w1) =>
    sameE_at ((((h.alloc o1).alloc o2).below hb (by simp; omega)).ls) ((((h'.alloc o1).alloc o2).below hb (by simp; omega)).ls) (b := true) (by simp)
  obtain ⟨a, c, a', c', a2, c2, a3, c3, rfl, rfl, rfl, rfl⟩ := h.shape
  obtain ⟨b, d, b', d', b2, d2, b3, d3, rfl, rfl, rfl, rfl⟩ := h'.shape
  have B1 := toHid (fun (o : Obj) (cs : Array Value) (t : TypeId) => ((Box.new w cs t).alloc o))
  have C1 := toHid (fun (o : Obj) (cs : Array Value) (t : TypeId) => (Box.new1 w o cs t))
  clear h h' hh hh'
  replace S1 := toHid S1
  replace S2 := toHid S2
  replace S3 := toHid S3
  go_enter Try.func11, Try.ntmps11
  go_wp2_with (first
    | (go_at_call 24; refine (S1.out _ _).mono ?_; rintro e w1 ⟨rfl, h1⟩
       have k1 := toHid h1
       obtain ⟨b1, b2, b3⟩ := (B1.out _ _ _).below h1
       obtain ⟨d1, d2, d3⟩ := (C1.out _ _ _).below h1
       clear h1)
    | (go_at_call 16; refine (S2.out _ _ _ k1.out).mono ?_; rintro e w2 ⟨rfl, h2⟩
       have k2 := toHid (k1.out.on h2)
       clear b1 b2 b3 d1 d2 d3 h2
       obtain ⟨b1, b2, b3⟩ := (B1.out _ _ _).below k2.out
       obtain ⟨d1, d2, d3⟩ := (C1.out _ _ _).below k2.out)
    | (go_at_call 17; refine (S3.out _ _ _ k2.out).mono ?_; rintro e w3 ⟨rfl, h3⟩))
  go_ret
  exact ⟨rfl, ((((Below.refl _ w).onA _).onA _).on k2.out).on h3⟩

end Go.Proofs.Ytghamcomjfholaa

namespace Go.Proofs.Ytghamcomjfholaa
open Go.ChangeShapes Go.WideShapes Go.ChangeAt Go.RowKit

/-- Which of two numbers is less. -/
def cmpI (x y : Int) : Int := if x < y then -1 else if y < x then 1 else 0

theorem compare_any (x y : Int) (w : World) :
    Calls Try.prog 94 #[.int .i64 x, .int .i64 y] w fun e w' => e = .returned (.int .i64 (cmpI x y)) ∧ w' = w := by
  by_cases h1 : x < y
  · have e : cmpI x y = -1 := by simp [cmpI, h1]
    rw [e]
    clear e
    go_enter Try.func94, Try.ntmps94
    go_wp2
    go_ret
    exact ⟨rfl, rfl⟩
  · by_cases h2 : y < x
    · have e : cmpI x y = 1 := by simp [cmpI, h1, h2]
      rw [e]
      clear e
      go_enter Try.func94, Try.ntmps94
      go_wp2
      go_ret
      exact ⟨rfl, rfl⟩
    · have e : cmpI x y = 0 := by simp [cmpI, h1, h2]
      rw [e]
      clear e
      go_enter Try.func94, Try.ntmps94
      go_wp2
      go_ret
      exact ⟨rfl, rfl⟩

end Go.Proofs.Ytghamcomjfholaa

namespace Go.Proofs.Ytghamcomjfholaa
open Go.ChangeShapes Go.WideShapes Go.ChangeAt Go.RowKit

/-- A block that holds whole items reads as a row of them. -/
theorem Box.rowT {w : World} {b n : Nat} {cs : Array Value} (xs : List It) (h : Box w b cs) (hc : cs.toList = xs.flatMap ItV) (hn : n = xs.length) (hm : n ≤ maxLen) : RowT b (b + 1) w (.slice (some ⟨b, 0, none⟩) n n) xs := by
  subst hn
  refine ⟨_, _, rfl, ⟨Nat.le_refl _, fun h => by cases h⟩, hm, fun _ => ⟨b, 0, rfl, Nat.le_refl _, Nat.lt_succ_self _, fun j _ => ⟨?_, ?_⟩⟩⟩
  · rw [Nat.zero_add, h.2.1 j, ← hc]
    simp
  · rw [Nat.zero_add]
    exact h.2.2 j

end Go.Proofs.Ytghamcomjfholaa
