/-
  Proved: 'gimmallaw2.RowOne' returns true at every two ints and list, and leaves its arguments as they were; no condition.
-/
import Derived.Test.YthfkoiodeipdeaaRows
import Derived.Test.YthfkoiodeipdeaaOpen
import Derived.Test.YthfkoiodeipdeaaRowLaw
import Derived.Test.YthfkoiodeipdeaaRowRef
namespace Go.Proofs.Ythfkoiodeipdeaa.rowOne
open Go.ChangeShapes Go.WideShapes Go.ChangeAt Go.RowKit
set_option linter.unusedVariables false

/-! ### The walk -/
set_option maxHeartbeats 1000000 in
set_option maxRecDepth 100000 in
theorem walk (a0 : Int) (a1 : Int) (v2 : Value) (x2 : List Int) (w : World) (w0 : (Lit.int .i64 a0).wf = true) (w1 : (Lit.int .i64 a1).wf = true) (r2 : RowI 0 w.heap.size w v2 x2) (s2 : x2.length * 8 ≤ 140737488351232) (w2 : ∀ x ∈ x2, (Lit.int .i64 x).wf = true) :
    Calls Try.prog 7 #[.int .i64 a0, .int .i64 a1, v2] w fun e w' => e = .returned (.bool true) ∧ Below w.heap.size w w' := by
  have ep : bits .and .i64 a0 255 = a0 % 256 := and255 a0
  have ek : bits .and .i64 a1 255 = a1 % 256 := and255 a1
  obtain ⟨p, hp⟩ : ∃ p, p = a0 % 256 := ⟨_, rfl⟩
  obtain ⟨key, hk⟩ : ∃ k, k = a1 % 256 := ⟨_, rfl⟩
  rw [← hp] at ep
  rw [← hk] at ek
  have pp : plB p = true := hp ▸ place_mod a0
  have pk : plB key = true := hk ▸ place_mod a1
  clear hp hk w0 w1 w2
  have o1 := ownV_yes (rowB_mk (xs := [p]) (by simp) pk (pls_cons pp rfl)) (by simp)
  have o2 : ownerOf [p] key = p := by simpa using ownerOf_mem (xs := [p]) key (by simp)
  rw [o2] at o1
  obtain ⟨o1a, o1b⟩ := o1
  obtain ⟨pt, c, rfl, hl, hc, hpx⟩ := r2
  unfold maxLen at hc
  have hpt : 0 < x2.length → ∃ b off, pt = some ⟨b, off, none⟩ ∧ b < w.heap.size ∧ ∀ j, j < x2.length → w.cell? ⟨b, off + j, none⟩ = some (.int .i64 (x2.getD j 0)) := by
    intro h0
    obtain ⟨b, off, e, h1, h2, h3⟩ := hpx (by intro e; simp [e] at h0)
    exact ⟨b, off, e, h2, fun j hj => (h3 j hj).1⟩
  clear hpx o2
  obtain ⟨n, hn⟩ : ∃ n, x2.length = n := ⟨_, rfl⟩
  have HN : Hid (x2.length = n) := hn
  rw [hn] at hl hpt ⊢
  clear hn s2
  have t1 := trivial
  go_enter Try.func7, Try.ntmps7
  go_wp2_with (first
    | (go_at_call 17; refine (awake2_any _).mono ?_; rintro e w9 ⟨rfl, bb9⟩)
    | (go_at_call 11; clear t1; refine (owner_any (RowI.lit1 (by simp) _) _).mono ?_; rintro e w1 ⟨rfl, bb1⟩))
  have hB1 : Below w.heap.size w w1 := (bb9.onA _).on bb1
  clear bb1 bb9
  go_loopw [11, 12] (fun v i wr => ∃ k : Nat, k ≤ n ∧ k ≤ 20 ∧ i = .int .i64 k ∧ wr.ownsRow w.heap.size 3 1 v (1 + k) ((key :: mask x2 k).map (Value.int .i64)) ∧ Below w.heap.size w wr) (fun _ i _ => n - (intOf i).toNat)
  case atStart => exact ⟨0, Nat.zero_le _, Nat.zero_le _, rfl, by simpa [mask] using World.ownsRow_lit (base := w.heap.size) (e := 3) (size := 1) w1 #[.int .i64 key] 1 hB1.size (by simp [maxLen]) rfl, hB1.onA _⟩
  case round =>
    clear hB1
    obtain ⟨k, hk, hk20, rfl, hown, hbel⟩ := hrel
    by_cases hlt : k < n ∧ k < 20
    · obtain ⟨hlt1, hlt2⟩ := hlt
      have hsu := mask_succ x2 k (by have := HN.out; omega)
      have hsz := hbel.size
      obtain ⟨bl, off, rfl, hbl, h1⟩ := hpt (by omega)
      have c1 : wr.cell? ⟨bl, off + k, none⟩ = some (.int .i64 (x2.getD k 0)) := (hbel.cell (p := ⟨bl, off + k, none⟩) hbl).trans (h1 k (by have := HN.out; omega))
      obtain ⟨y, hy⟩ : ∃ y, x2.getD k 0 = y := ⟨_, rfl⟩
      rw [hy] at c1 hsu
      have HS : Hid (mask x2 (k + 1) = mask x2 k ++ [y % 256]) := hsu
      have ey : bits .and .i64 y 255 = y % 256 := and255 y
      have hlt1' : (k : Int) < (n : Int) := by omega
      have hlt2' : (k : Int) < 20 := by omega
      clear hpt h1 hy hsu
      go_wp2_with (at_builtin; refine app_ints rfl (.tmp 40) (.tmp 46) rfl w.heap.size _ _ (key :: mask x2 k) rfl (hown.alloc _) ⟨wr.heap.size, 0, none⟩ 1 1 [y % 256] rfl rfl (fun j hj => ?_) (by omega) (by simp; omega) ?_; · (match j, hj with | 0, _ => simp [Addr.add]))
      intro v' w2 hown' hgr hbel'
      have R : w2.ownsRow w.heap.size 3 1 v' (1 + (k + 1)) ((key :: mask x2 (k + 1)).map (Value.int .i64)) ∧ Below w.heap.size w w2 := by
        rw [HS.out]
        exact ⟨by simpa [Nat.add_assoc] using hown', (hbel.onA _).trans hbel'⟩
      clear hown' hgr hbel' hown
      go_wp2
      go_roundw
      case rel => exact ⟨k + 1, by omega, by omega, by go_num, R.1, R.2⟩
      case measure => simp [intOf]; omega
    · have hr : RowI w.heap.size wr.heap.size wr u11 (key :: mask x2 k) := RowI.of_owns hown
      have hml := mask_len x2 k (by have := HN.out; omega)
      have o3 := ownV_yes (rowB_mk (xs := key :: mask x2 k) (by simp; omega) pk (pls_cons pk (mask_pls x2 k))) (by simp)
      rw [owner_self (pls_cons pk (mask_pls x2 k)) (by simp)] at o3
      obtain ⟨o3a, o3b⟩ := o3
      have t2 := trivial
      clear hown hpt hml
      by_cases hlt1 : k < n
      · have hlt1' : (k : Int) < (n : Int) := by omega
        have hlt2' : ¬ (k : Int) < 20 := by omega
        have hd : decide ((k : Int) < 20) = false := by simp; omega
        go_wp2_with (first
          | (go_at_call 11; clear t2; refine (owner_any hr _).mono ?_; rintro e w3 ⟨rfl, bb3⟩)
          | (go_at_call 14; refine (num_any _ _).mono ?_; rintro e w' ⟨rfl, hw'⟩; subst w'))
        go_ret
        exact ⟨rfl, hbel.on bb3⟩
      · have hlt1' : ¬ (k : Int) < (n : Int) := by omega
        have hd : decide ((k : Int) < (n : Int)) = false := by simp; omega
        go_wp2_with (first
          | (go_at_call 11; clear t2; refine (owner_any hr _).mono ?_; rintro e w3 ⟨rfl, bb3⟩)
          | (go_at_call 14; refine (num_any _ _).mono ?_; rintro e w' ⟨rfl, hw'⟩; subst w'))
        go_ret
        exact ⟨rfl, hbel.on bb3⟩

/-! ### The row's step -/
set_option maxRecDepth 100000 in
theorem lifted (os : Os) (started : os.Started) (H : Type) (enc : TypeId × Value → H) :
    ReturnsInHanded {} Try.checked os 7 .any (Rows.rowOneSpec.pre6 enc Try.prog Try.f7 Rows.rowOneRow.domain false) (Rows.rowOneSpec.post enc Try.prog Try.f7 false true false false) := by
  refine returnsInHanded_of_change_sized (C := Try.checked) ownK started (by kernel_rfl) Try.func7
    (ChangeSpec.witness6 (enc := enc) (C := Try.checked) false ⟨#[], #[.int .i64 0, .int .i64 0, .slice none 0 0], []⟩ 8 (by kernel_rfl) (by kernel_rfl) (by kernel_rfl) (by kernel_rfl)) ?_
  intro W base args ds gs before hval0 hW hcnd hsz0 _
  have hsz : (DataW.weightsEach Try.prog (Try.f7.params.toList ++ Rows.rowOneSpec.plain.varTypes Try.prog) (ds ++ gs)).all (· ≤ reachBytes) = true := hsz0
  have hval : ∀ (j : Nat) t v, Try.f7.params[j]? = some t → args[j]? = some v → Value.okWide Try.prog W .any base t v := hval0
  have hW' := hW
  obtain ⟨p, q, hA0, hV, rfl, hfz, hnd⟩ := hW
  have hA : DataW.TrodAll enc Try.prog W 0 (fun _ => true) true Try.f7.params.toList args.toList ds p := hA0
  rw [Try.params7] at hA hval hsz
  obtain ⟨v0, vs0, d0, ds0, p0, q0, hargs, rfl, rfl, h0, r0⟩ := trodAll_cons hA
  obtain ⟨v1, vs1, d1, ds1, p1, q1, rfl, rfl, rfl, h1, r1⟩ := trodAll_cons r0
  obtain ⟨v2, vs2, d2, ds2, p2, q2, rfl, rfl, rfl, h2, r2⟩ := trodAll_cons r1
  obtain ⟨rfl, rfl, rfl⟩ := trodAll_nil r2
  obtain rfl : args = #[v0, v1, v2] := by cases args; simp_all
  obtain ⟨rfl, rfl⟩ := trodVars_none hV
  clear r0 r1 r2
  have k0 := h0
  have lt0 : ∀ x ∈ p0, x.block < W.heap.size := by obtain ⟨m, hm⟩ := k0; exact DataW.trod_lt m _ _ _ hm
  have k1 := h1
  have lt1 : ∀ x ∈ p1, x.block < W.heap.size := by obtain ⟨m, hm⟩ := k1; exact DataW.trod_lt m _ _ _ hm
  have k2 := h2
  have lt2 : ∀ x ∈ p2, x.block < W.heap.size := by obtain ⟨m, hm⟩ := k2; exact DataW.trod_lt m _ _ _ hm
  have z2 : ∀ n ∈ d2.weights Try.prog 22, n ≤ reachBytes := fun n hn => by simpa using List.all_eq_true.1 hsz _ (DataW.weights_mem_each (j := 2) rfl rfl n hn)
  have f2 : W.noneFrozen p2 := fun b off hm => hfz b off (by simp [hm])
  obtain ⟨a0, rfl, rfl, rfl, w0⟩ := open_int Try.underlying3 (hval 0 3 v0 rfl rfl) h0
  obtain ⟨a1, rfl, rfl, rfl, w1⟩ := open_int Try.underlying3 (hval 1 3 v1 rfl rfl) h1
  obtain ⟨x2, r2, s2, w2⟩ := open_rowI (hval 2 22 v2 rfl rfl) h2 f2 z2
  clear hA0 hval0
  refine (walk a0 a1 v2 x2 W w0 w1 r2 s2 w2).mono fun e W' ⟨he, bel⟩ => ?_
  subst he
  exact ⟨_, rfl, _, _, _, [], _, [], hW', trodAll_mk1 (shut_bool Try.underlying4 _), (trodAll_cons_mk (Below.trod laidOut (by kernel_rfl) (of_decide_eq_true (by kernel_rfl)) k0 bel lt0) (trodAll_cons_mk (Below.trod laidOut (by kernel_rfl) (of_decide_eq_true (by kernel_rfl)) k1 bel lt1) (trodAll_cons_mk (Below.trod laidOut (by kernel_rfl) (of_decide_eq_true (by kernel_rfl)) k2 bel lt2) trodAll_mk0))), rfl, bel.frame _, fun h => by cases h⟩

theorem over : Rows.rowOneRow.holds Try.pinned (OpenSpec.ofChange Rows.rowOneSpec) :=
  OpenClaim.holds_of_wide 7 Try.f7 rfl rfl rfl rfl rfl rfl rfl ⟨rfl, rfl, rfl, rfl, rfl⟩ rfl rfl rfl rfl rfl (by kernel_rfl) Try.func7 (by kernel_rfl)
    (of_decide_eq_true (by kernel_rfl)) (by unfold Func.isWrapper; first | (rw [if_pos (by decide +kernel)]; kernel_rfl) | (rw [if_neg (by decide +kernel)]; exact ⟨rfl, rfl⟩))
    (fun os started H enc _ => lifted os started H enc)

end Go.Proofs.Ythfkoiodeipdeaa.rowOne

namespace Go.Proofs.Ythfkoiodeipdeaa
/-- The statement, by its short name. -/
theorem rowOne_holds : Rows.RowOneSaid := rowOne.over
#print axioms rowOne_holds
end Go.Proofs.Ythfkoiodeipdeaa
