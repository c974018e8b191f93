
/-
  What the statements about greetings ask first: the view that they give, that the program answers at some views at all; and their own helper 'in'.
-/
import Derived.Test.YtgopjjclobgekaaHelloB
import Derived.Test.YtgopjjclobgekaaNum
namespace Go.Proofs.Ytgopjjclobgekaa
open Go.ChangeShapes Go.WideShapes Go.ChangeAt Go.RowKit

/-- A greeting, its answer in these words. -/
theorem hTake_at {lo hi lo' hi' : Nat} {w : World} {p q x : Value} {ps s1 : List Pe} {is ids s2 : List Int} {i d j err : Int} {n1 n2 : Nat} (h : VwAt lo hi w p q ps is) (hh : hi ≤ w.heap.size) (R : RowI lo' hi' w x ids) (hh' : hi' ≤ w.heap.size)
    (hI : heI i (ps, is) d ids = j) (hV : heV i (ps, is) d ids = (s1, s2)) (hE : heE i (ps, is) d ids = err) (h1 : s1.length = n1) (h2 : s2.length = n2) :
    Calls Try.prog 12 #[.agg #[.int .i64 i, p, q], .int .i64 d, x] w fun e w' => ∃ a c a' c', e = .returned (.tuple #[.agg #[.int .i64 j, .slice a n1 c, .slice a' n2 c'], .int .i64 err]) ∧ VwNew w.heap.size w' (.slice a n1 c) (.slice a' n2 c') s1 s2 ∧ Below w.heap.size w w' := by
  subst h1 h2
  refine (hTake_any i d h hh R hh').mono fun e w' k => ?_
  obtain ⟨p', q', he, X, hb⟩ := k
  rw [hV] at X
  rw [hI, hE] at he
  dsimp only at X
  obtain ⟨a, c, a', c', e1, e2, -, -⟩ := X.at.shape
  subst e1 e2
  exact ⟨a, c, a', c', he, X, hb⟩

def g10P : List Pe := [⟨101, 2⟩, ⟨200, 0⟩, ⟨90, 1⟩]
def g10Q : List Int := [7, 150]
/-- The view that is given: its two lists in two new blocks. -/
theorem given10_any (w : World) :
    Calls Try.prog 21 #[] w fun e w' => ∃ ga gb, e = .returned (.agg #[.int .i64 100, .slice ga 3 3, .slice gb 2 2]) ∧ VwAt w.heap.size w'.heap.size w' (.slice ga 3 3) (.slice gb 2 2) g10P g10Q ∧ Below w.heap.size w w' := by
  go_enter Try.func21, Try.ntmps21
  go_wp2
  refine bodyPost_ret (v := .agg #[.int .i64 100, .slice (some ⟨w.heap.size + 1, 0, none⟩) 3 3, .slice (some ⟨w.heap.size + 1 + 1, 0, none⟩) 2 2]) (by simp [results, Try.results21, go_sem]) rfl ?_
  have G1 := (Box.new1 w (.cells #[.int .i64 100, .slice (some ⟨w.heap.size + 1, 0, none⟩) 3 3, .slice (some ⟨w.heap.size + 1 + 1, 0, none⟩) 2 2] 25) #[.int .i64 101, .int .i64 2, .int .i64 200, .int .i64 0, .int .i64 90, .int .i64 1] 42).alloc (.cells #[.int .i64 7, .int .i64 150] 3)
  have G2 := Box.new2 w (.cells #[.int .i64 100, .slice (some ⟨w.heap.size + 1, 0, none⟩) 3 3, .slice (some ⟨w.heap.size + 1 + 1, 0, none⟩) 2 2] 25) (.cells #[.int .i64 101, .int .i64 2, .int .i64 200, .int .i64 0, .int .i64 90, .int .i64 1] 42) #[.int .i64 7, .int .i64 150] 3
  exact ⟨_, _, rfl, ⟨(Box.rowP g10P G1 rfl rfl (by decide)).wide (by omega) G1.1, (Box.rowI g10Q G2 rfl rfl (by decide)).wide (by omega) G2.1⟩, (((Below.refl _ w).onA _).onA _).onA _⟩

def w10P : List Pe := [⟨101, 2⟩, ⟨102, 0⟩, ⟨150, 0⟩, ⟨200, 0⟩, ⟨90, 1⟩]
theorem want10_at {w : World} {k : Nat} (hk : k = w.heap.size) (o : Obj) :
    VwAt w.heap.size (w.heap.size + 1 + 1) (((w.alloc (.cells #[.int .i64 101, .int .i64 2, .int .i64 102, .int .i64 0, .int .i64 150, .int .i64 0, .int .i64 200, .int .i64 0, .int .i64 90, .int .i64 1] 42)).alloc (.cells #[.int .i64 7] 3)).alloc o)
      (.slice (some ⟨k, 0, none⟩) 5 5) (.slice (some ⟨k + 1, 0, none⟩) 1 1) w10P [7] := by
  subst hk
  exact ⟨(Box.rowP w10P (((Box.new w _ _).alloc _).alloc o) rfl rfl (by decide)).wide (Nat.le_refl _) (by omega), (Box.rowI [7] ((Box.new1 w _ _ _).alloc o) rfl rfl (by decide)).wide (by omega) (Nat.le_refl _)⟩

set_option maxHeartbeats 4000000 in
theorem awake10_any (w : World) :
    Calls Try.prog 18 #[] w fun e w' => e = .returned (.bool true) ∧ Below w.heap.size w w' := by
  have hk := Below.refl w.heap.size w
  have t1 := trivial
  have t2 := trivial
  have g1 := trivial
  have g2 := trivial
  go_enter Try.func18, Try.ntmps18
  go_wp2_with (first
    | (go_at_call 21; clear g1; refine (given10_any _).mono ?_; rintro e wg ⟨ga, gb, rfl, V, hg⟩
       replace hk := hk.on hg
       clear hg)
    | (go_at_call 21; clear g2; refine (given10_any _).mono ?_; rintro e wg ⟨ga, gb, rfl, V, hg⟩
       replace hy := hy.on hg
       clear hg b1 b2 b3)
    | (go_at_call 21; refine (given10_any _).mono ?_; rintro e wg ⟨ga, gb, rfl, V, hg⟩
       replace hy := hy.on hg
       clear hg)
    | (go_at_call 12; clear t1
       have BA := Box.new wg #[.int .i64 7, .int .i64 100, .int .i64 102, .int .i64 101] 3
       refine (hTake_at (j := 100) (s1 := w10P) (s2 := [7]) (err := 0) (n1 := 5) (n2 := 1) (V.alloc _) (by simp) (Box.rowI (n := 4) [7, 100, 102, 101] BA rfl rfl (by decide)) BA.1 (by decide +kernel) (by decide +kernel) (by decide +kernel) rfl rfl).mono ?_; rintro e w1 ⟨a1, c1, a1', c1', rfl, X1, h1⟩
       clear BA V
       replace hk := (hk.onA _).on h1
       clear h1
       have AX := toHid (Box.new w1 #[.int .i64 100, .slice a1 5 c1, .slice a1' 1 c1'] 25)
       have hy := Below.refl (w1.alloc (.cells #[.int .i64 100, .slice a1 5 c1, .slice a1' 1 c1'] 25)).heap.size (w1.alloc (.cells #[.int .i64 100, .slice a1 5 c1, .slice a1' 1 c1'] 25))
       replace X1 := toHid (X1.at.alloc (.cells #[.int .i64 100, .slice a1 5 c1, .slice a1' 1 c1'] 25))
       obtain ⟨b1, b2, b3⟩ := id AX.out)
    | (go_at_call 12; clear t2
       refine (hTake_at (lo' := 0) (hi' := 0) (ids := []) (j := 0) (s1 := []) (s2 := []) (err := 1000) (n1 := 0) (n2 := 0) V (Nat.le_refl _) RowI.nil0 (Nat.zero_le _) (by decide +kernel) (by decide +kernel) (by decide +kernel) rfl rfl).mono ?_; rintro e w2 ⟨a2, c2, a2', c2', rfl, -, h2⟩
       clear V
       replace hy := (hy.on h2).onA (.cells #[.int .i64 0, .slice a2 0 c2, .slice a2' 0 c2'] 25)
       clear h2)
    | (go_at_call 12
       have BA := Box.new wg #[.int .i64 256] 3
       refine (hTake_at (j := 0) (s1 := []) (s2 := []) (err := 1000) (n1 := 0) (n2 := 0) (V.alloc _) (by simp) (Box.rowI (n := 1) [256] BA rfl rfl (by decide)) BA.1 (by decide +kernel) (by decide +kernel) (by decide +kernel) rfl rfl).mono ?_; rintro e w3 ⟨a3, c3, a3', c3', rfl, -, h3⟩
       clear BA V
       replace hy := (hy.onA _).on h3
       clear h3
       obtain ⟨b1, b2, b3⟩ := AX.out.below hy
       have z1 : w1.heap.size < w3.heap.size + 1 := by omega
       have z2 : w1.heap.size < w3.heap.size + 1 + 1 := by omega
       have z3 : w1.heap.size < w3.heap.size + 1 + 1 + 1 := by omega
       replace hy := hy.onA (.cells #[.int .i64 0, .slice a3 0 c3, .slice a3' 0 c3'] 25))
    | (go_at_call 14
       refine (sameView_same 100 ((((X1.out.below hy (by simp)).alloc _).alloc _).alloc _) (want10_at (w := w3.alloc _) (by simp) _) (by simp; omega) (by simp)).mono ?_; rintro e w4 ⟨rfl, h4⟩
       replace hy := (((hy.onA _).onA _).onA _).on h4
       clear h4)
    | (go_at_call 15; refine (num_any _ _).mono ?_; rintro e w' ⟨rfl, hw'⟩; subst w'))
  go_ret
  exact ⟨rfl, (hk.onA _).on hy⟩

end Go.Proofs.Ytgopjjclobgekaa
