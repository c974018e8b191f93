
/-
  The statement ViewMore: of any view, key and number: with one peer more (heard, by the document) the key's owner is the same as before, or that one.
-/
import Derived.Test.YtpbfhnjdnkmpaaaRows
import Derived.Test.YtpbfhnjdnkmpaaaOpen
import Derived.Test.YtpbfhnjdnkmpaaaViewLaw
import Derived.Test.YtpbfhnjdnkmpaaaViewRef
import Derived.Test.YtpbfhnjdnkmpaaaPeerDoc
import Derived.Test.YtpbfhnjdnkmpaaaOpenV
namespace Go.Proofs.Ytpbfhnjdnkmpaaa.viewMore
open Go.ChangeShapes Go.WideShapes Go.ChangeAt Go.RowKit
set_option linter.unusedVariables false

/-! ### The walk -/
theorem hdL_len (b : Int) (xs : List Pe) (d : Int) : (hdL b xs d).length ≤ 16 := by
  unfold hdL
  split
  · split
    · assumption
    · simp
  · simp

set_option maxRecDepth 20000 in
set_option maxHeartbeats 4000000 in
theorem walk (v0 : Value) (x0 : VwO) (a1 : Int) (a2 : Int) (w : World) (r0 : v0 = .agg #[.int .i64 x0.i, x0.p, x0.q]) (w0 : (Lit.int .i64 x0.i).wf = true) (h0 : VwAt 0 w.heap.size w x0.p x0.q x0.ps x0.is) (s0 : x0.ps.length * 16 ≤ 140737488351232) (t0 : x0.is.length * 8 ≤ 140737488351232) (u0 : ∀ y ∈ x0.ps, PeW y) (y0 : ∀ y ∈ x0.is, (Lit.int .i64 y).wf = true) (w1 : (Lit.int .i64 a1).wf = true) (w2 : (Lit.int .i64 a2).wf = true) :
    Calls Try.prog 7 #[v0, .int .i64 a1, .int .i64 a2] w fun e w' => e = .returned (.bool true) ∧ Below w.heap.size w w' := by
  obtain ⟨i, ps, is, p, q⟩ := x0
  dsimp only at r0 w0 h0 s0 t0 u0 y0
  subst r0
  clear w0 u0 y0 w1 w2 s0 t0
  obtain ⟨a, c, a', c', ep, eq, hn, hn'⟩ := h0.shape
  subst ep eq
  have B1 := toHid (fun (cs : Array Value) (t : TypeId) => Box.new w cs t)
  have hkm := and255 a1
  have hkp := place_mod a1
  have hdm := and255 a2
  have hdp := place_mod a2
  generalize a1 % 256 = k at hkm hkp
  generalize a2 % 256 = d at hdm hdp
  have H1 := toHid (fun (o : Obj) (w1 : World) (hb : Below (w.alloc o).heap.size (w.alloc o) w1) => vOwner_any i k ((h0.alloc o).below hb (by simp)) (Nat.le_trans (by simp) hb.size))
  have H2 := toHid (fun (o : Obj) (w1 : World) (hb : Below (w.alloc o).heap.size (w.alloc o) w1) => rHeard_any ((h0.ps.alloc o PeV_len).below hb (by simp)) (Nat.le_trans (by simp) hb.size) i d)
  have H3 := toHid (fun (o : Obj) (w1 : World) (hb : Below (w.alloc o).heap.size (w.alloc o) w1) => rWithout_any ((h0.is.alloc o).below hb (by simp)) (Nat.le_trans (by simp) hb.size) d)
  have H4 := toHid (fun (lo hi : Nat) (w : World) (p q : Value) (h : VwAt lo hi w p q (hdL i ps d) (woL is d)) (hh : hi ≤ w.heap.size) => rVMay_any i h hh (by have := hdL_len i ps d; omega))
  have H5 := toHid (fun (lo hi : Nat) (w : World) (p q : Value) (h : VwAt lo hi w p q (hdL i ps d) (woL is d)) (hh : hi ≤ w.heap.size) => vOwner_any i k h hh)
  clear h0
  have t1 := trivial
  rcases Bool.eq_false_or_eq_true (vwB i ps is) with h1 | h1
  · have hE : owE i ps is k = 0 := by simp [owE, h1, hkp]
    have hV : owV i ps is k = ownerOf (idL i ps) k := by simp [owV, h1, hkp]
    have hwo := (wo_ok (vwB_iff.1 h1).2.1 hdp).2
    rw [hE, hV] at H1
    rw [hwo] at H3
    by_cases h2 : hdE i ps d = 0
    · obtain ⟨-, -, -, -, h3⟩ := hdE_zero h2
      rw [h2] at H2
      rcases Bool.eq_false_or_eq_true (vwB i (hdL i ps d) (woL is d)) with h4 | h4
      · have hE' : owE i (hdL i ps d) (woL is d) k = 0 := by simp [owE, h4, hkp]
        have hV' : owV i (hdL i ps d) (woL is d) k = ownerOf (idL i (hdL i ps d)) k := by simp [owV, h4, hkp]
        have hM := vw_more (k := k) h1 hdp
        rw [← h3] at hM
        rw [hE', hV'] at H5
        rw [h4] at H4
        clear hE hV hwo h1 h2 h3 h4 hE' hV' hkp hdp
        generalize ownerOf (idL i (hdL i ps d)) k = y at *
        generalize ownerOf (idL i ps) k = x at *
        generalize hdL i ps d = P' at *
        generalize woL is d = Q' at *
        by_cases hxy : y = x
        · have hxy2 : (y == x) = true := by simpa using hxy
          replace hxy := toHid hxy
          clear hM
          go_enter Try.func7, Try.ntmps7
          go_wp2_with (first
            | (go_at_call 19; refine (awake9_any _).mono ?_; rintro e w1 ⟨rfl, hk⟩
               obtain ⟨b1, b2, b3⟩ := (B1.out _ _).below hk)
            | (go_at_call 13; clear t1; refine (H1.out _ _ hk).mono ?_; rintro e w2 ⟨rfl, h2⟩
               replace hk := hk.on h2
               clear h2 b1 b2 b3
               obtain ⟨b1, b2, b3⟩ := (B1.out _ _).below hk)
            | (go_at_call 24; refine (H2.out _ _ hk).mono ?_; rintro e w3 ⟨u3, rfl, R3, h3⟩
               have z3 := h3.size
               replace hk := hk.on h3
               clear b1 b2 b3
               obtain ⟨b1, b2, b3⟩ := (B1.out _ _).below hk)
            | (go_at_call 25; refine (H3.out _ _ hk).mono ?_; rintro e w4 ⟨u4, rfl, R4, h4⟩
               have X4 := toHid (⟨(R3.below h4 (Nat.le_refl _)).wide (Nat.zero_le _) h4.size, R4.wide (Nat.zero_le _) (Nat.le_refl _)⟩ : VwAt 0 w4.heap.size w4 u3 u4 _ _)
               obtain ⟨a4, c4, a4', c4', ep4, eq4, -, -⟩ := X4.out.shape
               subst ep4 eq4
               replace hk := hk.on h4
               clear b1 b2 b3 h3 h4 R3 R4 z3
               obtain ⟨b1, b2, b3⟩ := (B1.out _ _).below hk)
            | (go_at_call 15; refine (num_any _ _).mono ?_; rintro e w' ⟨rfl, hw'⟩; subst w')
            | (go_at_call 17; refine (H4.out _ _ _ _ _ (X4.out.alloc _) (by simp)).mono ?_; rintro e w5 ⟨rfl, h5⟩
               obtain ⟨d1, d2, d3⟩ := (Box.new w4 _ _).below h5)
            | (go_at_call 13; refine (H5.out _ _ _ _ _ ((X4.out.alloc _).below h5 (by simp)) (Nat.le_trans (by simp) h5.size)).mono ?_; rintro e w6 ⟨rfl, h6⟩))
          go_ret
          exact ⟨rfl, (((((Below.refl _ w).onA _).on hk).onA _).on h5).on h6⟩
        · have hyd : y = d := hM.resolve_left hxy
          have hxy2 : (y == x) = false := by simpa using hxy
          have hyd2 : (y == d) = true := by simpa using hyd
          replace hyd := toHid hyd
          clear hM
          go_enter Try.func7, Try.ntmps7
          go_wp2_with (first
            | (go_at_call 19; refine (awake9_any _).mono ?_; rintro e w1 ⟨rfl, hk⟩
               obtain ⟨b1, b2, b3⟩ := (B1.out _ _).below hk)
            | (go_at_call 13; clear t1; refine (H1.out _ _ hk).mono ?_; rintro e w2 ⟨rfl, h2⟩
               replace hk := hk.on h2
               clear h2 b1 b2 b3
               obtain ⟨b1, b2, b3⟩ := (B1.out _ _).below hk)
            | (go_at_call 24; refine (H2.out _ _ hk).mono ?_; rintro e w3 ⟨u3, rfl, R3, h3⟩
               have z3 := h3.size
               replace hk := hk.on h3
               clear b1 b2 b3
               obtain ⟨b1, b2, b3⟩ := (B1.out _ _).below hk)
            | (go_at_call 25; refine (H3.out _ _ hk).mono ?_; rintro e w4 ⟨u4, rfl, R4, h4⟩
               have X4 := toHid (⟨(R3.below h4 (Nat.le_refl _)).wide (Nat.zero_le _) h4.size, R4.wide (Nat.zero_le _) (Nat.le_refl _)⟩ : VwAt 0 w4.heap.size w4 u3 u4 _ _)
               obtain ⟨a4, c4, a4', c4', ep4, eq4, -, -⟩ := X4.out.shape
               subst ep4 eq4
               replace hk := hk.on h4
               clear b1 b2 b3 h3 h4 R3 R4 z3
               obtain ⟨b1, b2, b3⟩ := (B1.out _ _).below hk)
            | (go_at_call 15; refine (num_any _ _).mono ?_; rintro e w' ⟨rfl, hw'⟩; subst w')
            | (go_at_call 17; refine (H4.out _ _ _ _ _ (X4.out.alloc _) (by simp)).mono ?_; rintro e w5 ⟨rfl, h5⟩
               obtain ⟨d1, d2, d3⟩ := (Box.new w4 _ _).below h5)
            | (go_at_call 13; refine (H5.out _ _ _ _ _ ((X4.out.alloc _).below h5 (by simp)) (Nat.le_trans (by simp) h5.size)).mono ?_; rintro e w6 ⟨rfl, h6⟩))
          go_ret
          exact ⟨rfl, (((((Below.refl _ w).onA _).on hk).onA _).on h5).on h6⟩
      · rw [h4] at H4
        clear hE hV hwo h1 h2 h3 h4 hkp hdp H5
        generalize ownerOf (idL i ps) k = x at *
        generalize hdL i ps d = P' at *
        generalize woL is d = Q' at *
        go_enter Try.func7, Try.ntmps7
        go_wp2_with (first
          | (go_at_call 19; refine (awake9_any _).mono ?_; rintro e w1 ⟨rfl, hk⟩
             obtain ⟨b1, b2, b3⟩ := (B1.out _ _).below hk)
          | (go_at_call 13; clear t1; refine (H1.out _ _ hk).mono ?_; rintro e w2 ⟨rfl, h2⟩
             replace hk := hk.on h2
             clear h2 b1 b2 b3
             obtain ⟨b1, b2, b3⟩ := (B1.out _ _).below hk)
          | (go_at_call 24; refine (H2.out _ _ hk).mono ?_; rintro e w3 ⟨u3, rfl, R3, h3⟩
             have z3 := h3.size
             replace hk := hk.on h3
             clear b1 b2 b3
             obtain ⟨b1, b2, b3⟩ := (B1.out _ _).below hk)
          | (go_at_call 25; refine (H3.out _ _ hk).mono ?_; rintro e w4 ⟨u4, rfl, R4, h4⟩
             have X4 := toHid (⟨(R3.below h4 (Nat.le_refl _)).wide (Nat.zero_le _) h4.size, R4.wide (Nat.zero_le _) (Nat.le_refl _)⟩ : VwAt 0 w4.heap.size w4 u3 u4 _ _)
             obtain ⟨a4, c4, a4', c4', ep4, eq4, -, -⟩ := X4.out.shape
             subst ep4 eq4
             replace hk := hk.on h4
             clear b1 b2 b3 h3 h4 R3 R4 z3
             obtain ⟨b1, b2, b3⟩ := (B1.out _ _).below hk)
          | (go_at_call 15; refine (num_any _ _).mono ?_; rintro e w' ⟨rfl, hw'⟩; subst w')
          | (go_at_call 17; refine (H4.out _ _ _ _ _ (X4.out.alloc _) (by simp)).mono ?_; rintro e w5 ⟨rfl, h5⟩
             obtain ⟨d1, d2, d3⟩ := (Box.new w4 _ _).below h5))
        go_ret
        exact ⟨rfl, ((((Below.refl _ w).onA _).on hk).onA _).on h5⟩
    · have h2' : (hdE i ps d == 0) = false := by simpa using h2
      clear hE hV hwo h1 hkp hdp H4 H5
      generalize hdE i ps d = er at *
      generalize ownerOf (idL i ps) k = x at *
      generalize hdL i ps d = P' at *
      generalize woL is d = Q' at *
      go_enter Try.func7, Try.ntmps7
      go_wp2_with (first
        | (go_at_call 19; refine (awake9_any _).mono ?_; rintro e w1 ⟨rfl, hk⟩
           obtain ⟨b1, b2, b3⟩ := (B1.out _ _).below hk)
        | (go_at_call 13; clear t1; refine (H1.out _ _ hk).mono ?_; rintro e w2 ⟨rfl, h2⟩
           replace hk := hk.on h2
           clear h2 b1 b2 b3
           obtain ⟨b1, b2, b3⟩ := (B1.out _ _).below hk)
        | (go_at_call 24; refine (H2.out _ _ hk).mono ?_; rintro e w3 ⟨u3, rfl, R3, h3⟩
           have z3 := h3.size
           replace hk := hk.on h3
           clear b1 b2 b3
           obtain ⟨b1, b2, b3⟩ := (B1.out _ _).below hk)
        | (go_at_call 25; refine (H3.out _ _ hk).mono ?_; rintro e w4 ⟨u4, rfl, R4, h4⟩
           have X4 := toHid (⟨(R3.below h4 (Nat.le_refl _)).wide (Nat.zero_le _) h4.size, R4.wide (Nat.zero_le _) (Nat.le_refl _)⟩ : VwAt 0 w4.heap.size w4 u3 u4 _ _)
           obtain ⟨a4, c4, a4', c4', ep4, eq4, -, -⟩ := X4.out.shape
           subst ep4 eq4
           replace hk := hk.on h4
           clear b1 b2 b3 h3 h4 R3 R4 z3
           obtain ⟨b1, b2, b3⟩ := (B1.out _ _).below hk)
        | (go_at_call 15; refine (num_any _ _).mono ?_; rintro e w' ⟨rfl, hw'⟩; subst w'))
      go_ret
      exact ⟨rfl, (((Below.refl _ w).onA _).on hk).onA _⟩
  · have hE : owE i ps is k = 900 := by simp [owE, h1]
    have hV : owV i ps is k = 0 := by simp [owV, h1]
    rw [hE, hV] at H1
    clear hE hV h1 hkp hdp H4 H5
    generalize hdE i ps d = er at *
    generalize woE is d = er2 at *
    generalize hdL i ps d = P' at *
    generalize woL is d = Q' at *
    go_enter Try.func7, Try.ntmps7
    go_wp2_with (first
      | (go_at_call 19; refine (awake9_any _).mono ?_; rintro e w1 ⟨rfl, hk⟩
         obtain ⟨b1, b2, b3⟩ := (B1.out _ _).below hk)
      | (go_at_call 13; clear t1; refine (H1.out _ _ hk).mono ?_; rintro e w2 ⟨rfl, h2⟩
         replace hk := hk.on h2
         clear h2 b1 b2 b3
         obtain ⟨b1, b2, b3⟩ := (B1.out _ _).below hk)
      | (go_at_call 24; refine (H2.out _ _ hk).mono ?_; rintro e w3 ⟨u3, rfl, R3, h3⟩
         have z3 := h3.size
         replace hk := hk.on h3
         clear b1 b2 b3
         obtain ⟨b1, b2, b3⟩ := (B1.out _ _).below hk)
      | (go_at_call 25; refine (H3.out _ _ hk).mono ?_; rintro e w4 ⟨u4, rfl, R4, h4⟩
         have X4 := toHid (⟨(R3.below h4 (Nat.le_refl _)).wide (Nat.zero_le _) h4.size, R4.wide (Nat.zero_le _) (Nat.le_refl _)⟩ : VwAt 0 w4.heap.size w4 u3 u4 _ _)
         obtain ⟨a4, c4, a4', c4', ep4, eq4, -, -⟩ := X4.out.shape
         subst ep4 eq4
         replace hk := hk.on h4
         clear b1 b2 b3 h3 h4 R3 R4 z3
         obtain ⟨b1, b2, b3⟩ := (B1.out _ _).below hk)
      | (go_at_call 15; refine (num_any _ _).mono ?_; rintro e w' ⟨rfl, hw'⟩; subst w'))
    go_ret
    exact ⟨rfl, (((Below.refl _ w).onA _).on hk).onA _⟩

/-! ### The row's step -/
set_option maxRecDepth 100000 in
theorem lifted (os : Os) (started : os.Started) (H : Type) (enc : TypeId × Value → H) :
    ReturnsInHanded {} Try.checked os 7 .any (Rows.viewMoreSpec.pre6 enc Try.prog Try.f7 Rows.viewMoreRow.domain false) (Rows.viewMoreSpec.post enc Try.prog Try.f7 false true false false) := by
  refine returnsInHanded_of_change_sized (C := Try.checked) ownK started (by kernel_rfl) Try.func7
    (ChangeSpec.witness6 (enc := enc) (C := Try.checked) false ⟨#[], #[.agg #[.int .i64 0, .slice none 0 0, .slice none 0 0], .int .i64 0, .int .i64 0], []⟩ 8 (by kernel_rfl) (by kernel_rfl) (by kernel_rfl) (by kernel_rfl)) ?_
  intro W base args ds gs before hval0 hW hcnd hsz0 _
  have hsz : (DataW.weightsEach Try.prog (Try.f7.params.toList ++ Rows.viewMoreSpec.plain.varTypes Try.prog) (ds ++ gs)).all (· ≤ reachBytes) = true := hsz0
  have hval : ∀ (j : Nat) t v, Try.f7.params[j]? = some t → args[j]? = some v → Value.okWide Try.prog W .any base t v := hval0
  have hW' := hW
  obtain ⟨p, q, hA0, hV, rfl, hfz, hnd⟩ := hW
  have hA : DataW.TrodAll enc Try.prog W 0 (fun _ => true) true Try.f7.params.toList args.toList ds p := hA0
  rw [Try.params7] at hA hval hsz
  obtain ⟨v0, vs0, d0, ds0, p0, q0, hargs, rfl, rfl, h0, r0⟩ := trodAll_cons hA
  obtain ⟨v1, vs1, d1, ds1, p1, q1, rfl, rfl, rfl, h1, r1⟩ := trodAll_cons r0
  obtain ⟨v2, vs2, d2, ds2, p2, q2, rfl, rfl, rfl, h2, r2⟩ := trodAll_cons r1
  obtain ⟨rfl, rfl, rfl⟩ := trodAll_nil r2
  obtain rfl : args = #[v0, v1, v2] := by cases args; simp_all
  obtain ⟨rfl, rfl⟩ := trodVars_none hV
  clear r0 r1 r2
  have k0 := h0
  have lt0 : ∀ x ∈ p0, x.block < W.heap.size := by obtain ⟨m, hm⟩ := k0; exact DataW.trod_lt m _ _ _ hm
  have z0 : ∀ n ∈ d0.weights Try.prog 25, n ≤ reachBytes := fun n hn => by simpa using List.all_eq_true.1 hsz _ (DataW.weights_mem_each (j := 0) rfl rfl n hn)
  have f0 : W.noneFrozen p0 := fun b off hm => hfz b off (by simp [hm])
  have k1 := h1
  have lt1 : ∀ x ∈ p1, x.block < W.heap.size := by obtain ⟨m, hm⟩ := k1; exact DataW.trod_lt m _ _ _ hm
  have k2 := h2
  have lt2 : ∀ x ∈ p2, x.block < W.heap.size := by obtain ⟨m, hm⟩ := k2; exact DataW.trod_lt m _ _ _ hm
  obtain ⟨x0, r0, w0, h0, s0, t0, u0, y0⟩ := open_view (hval 0 25 v0 rfl rfl) h0 f0 z0
  obtain ⟨a1, rfl, rfl, rfl, w1⟩ := open_int Try.underlying3 (hval 1 3 v1 rfl rfl) h1
  obtain ⟨a2, rfl, rfl, rfl, w2⟩ := open_int Try.underlying3 (hval 2 3 v2 rfl rfl) h2
  clear hA0 hval0
  refine (walk v0 x0 a1 a2 W r0 w0 h0 s0 t0 u0 y0 w1 w2).mono fun e W' ⟨he, bel⟩ => ?_
  subst he
  exact ⟨_, rfl, _, _, _, [], _, [], hW', trodAll_mk1 (shut_bool Try.underlying4 _), (trodAll_cons_mk (Below.trod laidOut (by kernel_rfl) (of_decide_eq_true (by kernel_rfl)) k0 bel lt0) (trodAll_cons_mk (Below.trod laidOut (by kernel_rfl) (of_decide_eq_true (by kernel_rfl)) k1 bel lt1) (trodAll_cons_mk (Below.trod laidOut (by kernel_rfl) (of_decide_eq_true (by kernel_rfl)) k2 bel lt2) trodAll_mk0))), rfl, bel.frame _, fun h => by cases h⟩

theorem over : Rows.viewMoreRow.holds Try.pinned (OpenSpec.ofChange Rows.viewMoreSpec) :=
  OpenClaim.holds_of_wide 7 Try.f7 rfl rfl rfl rfl rfl rfl rfl ⟨rfl, rfl, rfl, rfl, rfl⟩ rfl rfl rfl rfl rfl (by kernel_rfl) Try.func7 (by kernel_rfl)
    (of_decide_eq_true (by kernel_rfl)) (by unfold Func.isWrapper; first | (rw [if_pos (by decide +kernel)]; kernel_rfl) | (rw [if_neg (by decide +kernel)]; exact ⟨rfl, rfl⟩))
    (fun os started H enc _ => lifted os started H enc)

end Go.Proofs.Ytpbfhnjdnkmpaaa.viewMore

namespace Go.Proofs.Ytpbfhnjdnkmpaaa
/-- The statement, by its short name. -/
theorem viewMore_holds : Rows.ViewMoreSaid := viewMore.over
#print axioms viewMore_holds
end Go.Proofs.Ytpbfhnjdnkmpaaa
