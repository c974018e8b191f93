
/-
  What the statements about time ask first: the view that they give, that the program answers at some views at all.
-/
import Derived.Test.YtagojonjohimfaaAgeB
import Derived.Test.YtagojonjohimfaaNum
namespace Go.Proofs.Ytagojonjohimfaa
open Go.ChangeShapes Go.WideShapes Go.ChangeAt Go.RowKit

/-- A tick, its answer in these words. -/
theorem aTick_at {lo hi : Nat} {w : World} {p q : Value} {ps s1 : List Pe} {is s2 gs : List Int} {i j err : Int} {n1 n2 n3 : Nat} (h : VwAt lo hi w p q ps is) (hh : hi ≤ w.heap.size)
    (hI : tkI i (ps, is) = j) (hV : tkV i (ps, is) = (s1, s2)) (hL : tkL i (ps, is) = gs) (hE : tkE i (ps, is) = err) (h1 : s1.length = n1) (h2 : s2.length = n2) (h3 : gs.length = n3) :
    Calls Try.prog 8 #[.agg #[.int .i64 i, p, q]] w fun e w' => ∃ a c a' c' b d, e = .returned (.tuple #[.agg #[.int .i64 j, .slice a n1 c, .slice a' n2 c'], .slice b n3 d, .int .i64 err]) ∧ VgNew w.heap.size w' (.slice a n1 c) (.slice a' n2 c') (.slice b n3 d) s1 s2 gs ∧ Below w.heap.size w w' := by
  subst h1 h2 h3
  refine (aTick_any i h hh).mono fun e w' k => ?_
  obtain ⟨p', q', g, he, X, hb⟩ := k
  rw [hV, hL] at X
  rw [hI, hE] at he
  dsimp only at X
  obtain ⟨a, c, a', c', e1, e2, -, -⟩ := X.vw.at.shape
  obtain ⟨b, d, e3, -⟩ := id X.row
  subst e1 e2 e3
  exact ⟨a, c, a', c', b, d, he, X, hb⟩

def g11P : List Pe := [⟨101, 2⟩, ⟨200, 0⟩, ⟨90, 1⟩]
def g11Q : List Int := [7, 150]
/-- The view that is given: its two lists in two new blocks. -/
theorem given11_any (w : World) :
    Calls Try.prog 18 #[] w fun e w' => ∃ ga gb, e = .returned (.agg #[.int .i64 100, .slice ga 3 3, .slice gb 2 2]) ∧ VwAt w.heap.size w'.heap.size w' (.slice ga 3 3) (.slice gb 2 2) g11P g11Q ∧ Below w.heap.size w w' := by
  go_enter Try.func18, Try.ntmps18
  go_wp2
  refine bodyPost_ret (v := .agg #[.int .i64 100, .slice (some ⟨w.heap.size + 1, 0, none⟩) 3 3, .slice (some ⟨w.heap.size + 1 + 1, 0, none⟩) 2 2]) (by simp [results, Try.results18, go_sem]) rfl ?_
  have G1 := (Box.new1 w (.cells #[.int .i64 100, .slice (some ⟨w.heap.size + 1, 0, none⟩) 3 3, .slice (some ⟨w.heap.size + 1 + 1, 0, none⟩) 2 2] 25) #[.int .i64 101, .int .i64 2, .int .i64 200, .int .i64 0, .int .i64 90, .int .i64 1] 42).alloc (.cells #[.int .i64 7, .int .i64 150] 3)
  have G2 := Box.new2 w (.cells #[.int .i64 100, .slice (some ⟨w.heap.size + 1, 0, none⟩) 3 3, .slice (some ⟨w.heap.size + 1 + 1, 0, none⟩) 2 2] 25) (.cells #[.int .i64 101, .int .i64 2, .int .i64 200, .int .i64 0, .int .i64 90, .int .i64 1] 42) #[.int .i64 7, .int .i64 150] 3
  exact ⟨_, _, rfl, ⟨(Box.rowP g11P G1 rfl rfl (by decide)).wide (by omega) G1.1, (Box.rowI g11Q G2 rfl rfl (by decide)).wide (by omega) G2.1⟩, (((Below.refl _ w).onA _).onA _).onA _⟩

def w11P : List Pe := [⟨200, 1⟩, ⟨90, 2⟩]
theorem want11_at {w : World} {k : Nat} (hk : k = w.heap.size) (o : Obj) :
    VwAt w.heap.size (w.heap.size + 1 + 1) (((w.alloc (.cells #[.int .i64 200, .int .i64 1, .int .i64 90, .int .i64 2] 42)).alloc (.cells #[.int .i64 7, .int .i64 101, .int .i64 150] 3)).alloc o)
      (.slice (some ⟨k, 0, none⟩) 2 2) (.slice (some ⟨k + 1, 0, none⟩) 3 3) w11P [7, 101, 150] := by
  subst hk
  exact ⟨(Box.rowP w11P (((Box.new w _ _).alloc _).alloc o) rfl rfl (by decide)).wide (Nat.le_refl _) (by omega), (Box.rowI [7, 101, 150] ((Box.new1 w _ _ _).alloc o) rfl rfl (by decide)).wide (by omega) (Nat.le_refl _)⟩

set_option maxHeartbeats 4000000 in
theorem awake11_any (w : World) :
    Calls Try.prog 15 #[] w fun e w' => e = .returned (.bool true) ∧ Below w.heap.size w w' := by
  have hk := Below.refl w.heap.size w
  have t1 := trivial
  go_enter Try.func15, Try.ntmps15
  go_wp2_with (first
    | (go_at_call 18; refine (given11_any _).mono ?_; rintro e wg ⟨ga, gb, rfl, V, hg⟩
       replace hk := hk.on hg
       clear hg)
    | (go_at_call 8; clear t1
       refine (aTick_at (j := 100) (s1 := w11P) (s2 := [7, 101, 150]) (gs := [200, 90, 7, 101, 150]) (err := 0) (n1 := 2) (n2 := 3) (n3 := 5) V (Nat.le_refl _) (by decide +kernel) (by decide +kernel) (by decide +kernel) (by decide +kernel) rfl rfl rfl).mono ?_; rintro e w1 ⟨a1, c1, a1', c1', d1, d1', rfl, X1, h1⟩
       clear V
       replace hk := hk.on h1
       clear h1
       have AX := toHid (Box.new w1 #[.int .i64 100, .slice a1 2 c1, .slice a1' 3 c1'] 25)
       have hy := Below.refl (w1.alloc (.cells #[.int .i64 100, .slice a1 2 c1, .slice a1' 3 c1'] 25)).heap.size (w1.alloc (.cells #[.int .i64 100, .slice a1 2 c1, .slice a1' 3 c1'] 25))
       have R1 := toHid (X1.row.alloc (.cells #[.int .i64 100, .slice a1 2 c1, .slice a1' 3 c1'] 25))
       replace X1 := toHid (X1.vw.at.alloc (.cells #[.int .i64 100, .slice a1 2 c1, .slice a1' 3 c1'] 25)))
    | (go_at_call 8
       refine (aTick_at (lo := 0) (hi := 0) (ps := []) (is := []) (j := 0) (s1 := []) (s2 := []) (gs := []) (err := 1100) (n1 := 0) (n2 := 0) (n3 := 0) ⟨RowC.nil0, RowI.nil0⟩ (Nat.zero_le _) (by decide +kernel) (by decide +kernel) (by decide +kernel) (by decide +kernel) rfl rfl rfl).mono ?_; rintro e w3 ⟨a3, c3, a3', c3', d3, d3', rfl, -, h3⟩
       replace hy := hy.on h3
       clear h3
       obtain ⟨b1, b2, b3⟩ := AX.out.below hy
       have z1 : w1.heap.size < w3.heap.size + 1 := by omega
       have z2 : w1.heap.size < w3.heap.size + 1 + 1 := by omega
       have z3 : w1.heap.size < w3.heap.size + 1 + 1 + 1 := by omega
       replace hy := hy.onA (.cells #[.int .i64 0, .slice a3 0 c3, .slice a3' 0 c3'] 25))
    | (go_at_call 10
       refine (sameView_same 100 ((((X1.out.below hy (by simp)).alloc _).alloc _).alloc _) (want11_at (w := w3.alloc _) (by simp) _) (by simp; omega) (by simp)).mono ?_; rintro e w4 ⟨rfl, h4⟩
       replace hy := (((hy.onA _).onA _).onA _).on h4
       clear h4)
    | (go_at_call 11
       have BI := Box.new w4 #[.int .i64 200, .int .i64 90, .int .i64 7, .int .i64 101, .int .i64 150] 3
       refine (sameI_at ((R1.out.below hy (by simp)).alloc _) (Box.rowI (n := 5) [200, 90, 7, 101, 150] BI rfl rfl (by decide)) (b := true) (by simp)).mono ?_; rintro e w5 ⟨rfl, h5⟩
       replace hy := (hy.onA _).on h5
       clear h5)
    | (go_at_call 12; refine (num_any _ _).mono ?_; rintro e w' ⟨rfl, hw'⟩; subst w'))
  go_ret
  exact ⟨rfl, (hk.onA _).on hy⟩

end Go.Proofs.Ytagojonjohimfaa
