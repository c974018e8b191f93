
/-
  Contracts of the statements' own helpers on messages (copying, comparing).
-/
import Derived.Test.YtnnhnidefjhakaaIntRow
import Derived.Test.YtnnhnidefjhakaaLit
namespace Go.Proofs.Ytnnhnidefjhakaa
open Go.ChangeShapes Go.WideShapes Go.ChangeAt Go.RowKit

/-- Eleven cells of a block written over, one behind the other. -/
theorem Box.set11 {w : World} {x : Nat} {z0 z1 z2 z3 z4 z5 z6 z7 z8 z9 z10 : Value} (h : Box w x #[z0, z1, z2, z3, z4, z5, z6, z7, z8, z9, z10]) (v0 v1 v2 v3 v4 v5 v6 v7 v8 v9 v10 : Value) :
    Box (((((((((((w.setCell ⟨x, 0, none⟩ v0).setCell ⟨x, 1, none⟩ v1).setCell ⟨x, 2, none⟩ v2).setCell ⟨x, 3, none⟩ v3).setCell ⟨x, 4, none⟩ v4).setCell ⟨x, 5, none⟩ v5).setCell ⟨x, 6, none⟩ v6).setCell ⟨x, 7, none⟩ v7).setCell ⟨x, 8, none⟩ v8).setCell ⟨x, 9, none⟩ v9).setCell ⟨x, 10, none⟩ v10) x #[v0, v1, v2, v3, v4, v5, v6, v7, v8, v9, v10] ∧ Only x (x + 1) w (((((((((((w.setCell ⟨x, 0, none⟩ v0).setCell ⟨x, 1, none⟩ v1).setCell ⟨x, 2, none⟩ v2).setCell ⟨x, 3, none⟩ v3).setCell ⟨x, 4, none⟩ v4).setCell ⟨x, 5, none⟩ v5).setCell ⟨x, 6, none⟩ v6).setCell ⟨x, 7, none⟩ v7).setCell ⟨x, 8, none⟩ v8).setCell ⟨x, 9, none⟩ v9).setCell ⟨x, 10, none⟩ v10) :=
  ⟨(((((((((((h.setS (ys := #[v0, z1, z2, z3, z4, z5, z6, z7, z8, z9, z10]) 0 v0 (by simp) (by simp)).setS (ys := #[v0, v1, z2, z3, z4, z5, z6, z7, z8, z9, z10]) 1 v1 (by simp) (by simp)).setS (ys := #[v0, v1, v2, z3, z4, z5, z6, z7, z8, z9, z10]) 2 v2 (by simp) (by simp)).setS (ys := #[v0, v1, v2, v3, z4, z5, z6, z7, z8, z9, z10]) 3 v3 (by simp) (by simp)).setS (ys := #[v0, v1, v2, v3, v4, z5, z6, z7, z8, z9, z10]) 4 v4 (by simp) (by simp)).setS (ys := #[v0, v1, v2, v3, v4, v5, z6, z7, z8, z9, z10]) 5 v5 (by simp) (by simp)).setS (ys := #[v0, v1, v2, v3, v4, v5, v6, z7, z8, z9, z10]) 6 v6 (by simp) (by simp)).setS (ys := #[v0, v1, v2, v3, v4, v5, v6, v7, z8, z9, z10]) 7 v7 (by simp) (by simp)).setS (ys := #[v0, v1, v2, v3, v4, v5, v6, v7, v8, z9, z10]) 8 v8 (by simp) (by simp)).setS (ys := #[v0, v1, v2, v3, v4, v5, v6, v7, v8, v9, z10]) 9 v9 (by simp) (by simp)).setS (ys := #[v0, v1, v2, v3, v4, v5, v6, v7, v8, v9, v10]) 10 v10 (by simp) (by simp)), (((((((((((Only.refl x (x + 1) w).setCell (b := x) (o := 0) (Nat.le_refl _) (Nat.lt_succ_self _) v0).setCell (b := x) (o := 1) (Nat.le_refl _) (Nat.lt_succ_self _) v1).setCell (b := x) (o := 2) (Nat.le_refl _) (Nat.lt_succ_self _) v2).setCell (b := x) (o := 3) (Nat.le_refl _) (Nat.lt_succ_self _) v3).setCell (b := x) (o := 4) (Nat.le_refl _) (Nat.lt_succ_self _) v4).setCell (b := x) (o := 5) (Nat.le_refl _) (Nat.lt_succ_self _) v5).setCell (b := x) (o := 6) (Nat.le_refl _) (Nat.lt_succ_self _) v6).setCell (b := x) (o := 7) (Nat.le_refl _) (Nat.lt_succ_self _) v7).setCell (b := x) (o := 8) (Nat.le_refl _) (Nat.lt_succ_self _) v8).setCell (b := x) (o := 9) (Nat.le_refl _) (Nat.lt_succ_self _) v9).setCell (b := x) (o := 10) (Nat.le_refl _) (Nat.lt_succ_self _) v10⟩

set_option maxHeartbeats 2000000 in
theorem copyMsg_any {lo hi : Nat} {w : World} {v : Value} {is : List Int} (hv : RowI lo hi w v is) (h2 : is.length * 8 ≤ 140737488355328) (n a b k tk tc tu tx : Int) (tg h : Bool) :
    Calls Try.prog 8 #[.agg #[.int .i64 n, .int .i64 a, .int .i64 b, v, .int .i64 k, .int .i64 tk, .int .i64 tc, .int .i64 tu, .int .i64 tx, .bool tg, .bool h]] w fun e w' =>
      ∃ p c, e = .returned (.agg #[.int .i64 n, .int .i64 a, .int .i64 b, .slice p is.length c, .int .i64 k, .int .i64 tk, .int .i64 tc, .int .i64 tu, .int .i64 tx, .bool tg, .bool h]) ∧ RowI w.heap.size w'.heap.size w' (.slice p is.length c) is ∧ Below w.heap.size w w' := by
  have R1 := toHid (fun o1 o2 o3 : Obj => ((hv.alloc o1).alloc o2).alloc o3)
  have B1 := toHid (fun (o1 o2 : Obj) (cs : Array Value) (t : TypeId) => ((Box.new w cs t).alloc o1).alloc o2)
  have C1 := toHid (fun (o1 o2 : Obj) (cs : Array Value) (t : TypeId) => (Box.new1 w o1 cs t).alloc o2)
  clear hv
  go_enter Try.func8, Try.ntmps8
  go_wp2_with (at_builtin; refine app_row rfl (.tmp 3) (.tmp 5) rfl (w.heap.size + 1 + 1) (.slice (some ⟨w.heap.size + 1 + 1, 0, none⟩) 0 0) 0 [] rfl (lit_at (Nat.le_refl _) (by simp)) lo hi _ is rfl (R1.out _ _ _) (by omega) (by simp) ?_)
  intro v1 w1 hown1 hgr1 hb1
  have P1 : RowI (w.heap.size + 1 + 1) w1.heap.size w1 v1 is := RowI.of_owns (by simpa using hown1)
  have B2 := (B1.out _ _ _ _).belowAt hb1 (by omega)
  have C2 := (C1.out _ _ _ _).belowAt hb1 (by omega)
  have hk : Below w.heap.size w w1 := ((((Below.refl _ w).onA _).onA _).onA _).trans (hb1.mono (by omega))
  have hz := hb1.size
  simp only [World.size_alloc] at hz
  clear hown1 hgr1 B1 C1 R1 hb1
  obtain ⟨p, c, e1, -⟩ := P1.out
  subst e1
  obtain ⟨b1, b2, b3⟩ := B2
  obtain ⟨c1, c2, c3⟩ := C2
  replace P1 := toHid P1
  replace hk := toHid hk
  go_wp2
  have hS := toHid (((((((((((((Only.refl w.heap.size (w.heap.size + 1 + 1) w1).setCell (o := 3) (Nat.le_refl _) (by omega) (.slice p is.length c)).setCell (b := w.heap.size + 1) (o := 0) (by omega) (by omega) (.int .i64 n)).setCell (b := w.heap.size + 1) (o := 1) (by omega) (by omega) (.int .i64 a)).setCell (b := w.heap.size + 1) (o := 2) (by omega) (by omega) (.int .i64 b)).setCell (b := w.heap.size + 1) (o := 3) (by omega) (by omega) (.slice p is.length c)).setCell (b := w.heap.size + 1) (o := 4) (by omega) (by omega) (.int .i64 k)).setCell (b := w.heap.size + 1) (o := 5) (by omega) (by omega) (.int .i64 tk)).setCell (b := w.heap.size + 1) (o := 6) (by omega) (by omega) (.int .i64 tc)).setCell (b := w.heap.size + 1) (o := 7) (by omega) (by omega) (.int .i64 tu)).setCell (b := w.heap.size + 1) (o := 8) (by omega) (by omega) (.int .i64 tx)).setCell (b := w.heap.size + 1) (o := 9) (by omega) (by omega) (.bool tg)).setCell (b := w.heap.size + 1) (o := 10) (by omega) (by omega) (.bool h))
  clear b1 b2 b3
  have e := hS.out.size
  refine bodyPost_ret (v := .agg #[.int .i64 n, .int .i64 a, .int .i64 b, .slice p is.length c, .int .i64 k, .int .i64 tk, .int .i64 tc, .int .i64 tu, .int .i64 tx, .bool tg, .bool h]) (by simp [results, Try.results8, go_sem, c2]) rfl ?_
  exact ⟨_, _, rfl, (P1.out.only hS.out (.inr (by omega))).wide (by omega) (by omega), hk.out.trans hS.out.below⟩

set_option maxHeartbeats 2000000 in
theorem sameMsg_same {lo hi lo' hi' : Nat} {w : World} {v u : Value} {is : List Int} (hv : RowI lo hi w v is) (hu : RowI lo' hi' w u is) (n a b k tk tc tu tx : Int) (tg h : Bool) :
    Calls Try.prog 15 #[.agg #[.int .i64 n, .int .i64 a, .int .i64 b, v, .int .i64 k, .int .i64 tk, .int .i64 tc, .int .i64 tu, .int .i64 tx, .bool tg, .bool h], .agg #[.int .i64 n, .int .i64 a, .int .i64 b, u, .int .i64 k, .int .i64 tk, .int .i64 tc, .int .i64 tu, .int .i64 tx, .bool tg, .bool h]] w fun e w' => e = .returned (.bool true) ∧ Below w.heap.size w w' := by
  have S1 := fun (o1 o2 : Obj) => sameI_at ((hv.alloc o1).alloc o2) ((hu.alloc o1).alloc o2) (b := true) (by simp)
  obtain ⟨p, c, rfl, -⟩ := hv
  obtain ⟨p', c', rfl, -⟩ := hu
  have B1 := toHid (fun (o : Obj) (cs : Array Value) (t : TypeId) => ((Box.new w cs t).alloc o))
  have C1 := toHid (fun (o : Obj) (cs : Array Value) (t : TypeId) => (Box.new1 w o cs t))
  go_enter Try.func15, Try.ntmps15
  go_wp2_with (first
    | (go_at_call 26; refine (S1 _ _).mono ?_; rintro e w1 ⟨rfl, h1⟩
       obtain ⟨b1, b2, b3⟩ := (B1.out _ _ _).below h1
       obtain ⟨d1, d2, d3⟩ := (C1.out _ _ _).below h1))
  go_ret
  exact ⟨rfl, (((Below.refl _ w).onA _).onA _).on h1⟩

end Go.Proofs.Ytnnhnidefjhakaa
