/-
  The statement StoreOther: putting an item leaves all of other keys, and of its own key there is then the one or the other.
-/
import Derived.Test.YtmbommkehchchaaRows
import Derived.Test.YtmbommkehchchaaOpen
import Derived.Test.YtmbommkehchchaaStoreLaw
import Derived.Test.YtmbommkehchchaaStorePut
import Derived.Test.YtmbommkehchchaaOpenT
namespace Go.Proofs.Ytmbommkehchchaa.storeOther
open Go.ChangeShapes Go.WideShapes Go.ChangeAt Go.RowKit
set_option linter.unusedVariables false

/-! ### The walk -/
set_option maxHeartbeats 4000000 in
theorem walk (v0 : Value) (x0 : List It) (v1 : Value) (x1 : It) (a2 : Int) (w : World) (r0 : RowT 0 w.heap.size w v0 x0) (s0 : x0.length * 40 ≤ 140737488351232) (w0 : ∀ x ∈ x0, ItW x) (r1 : v1 = .agg #[.int .i64 x1.k, .int .i64 x1.c, .int .i64 x1.u, .int .i64 x1.x, .bool x1.g]) (w1 : ItW x1) (w2 : (Lit.int .i64 a2).wf = true) :
    Calls Try.prog 6 #[v0, v1, .int .i64 a2] w fun e w' => e = .returned (.bool true) ∧ Below w.heap.size w w' := by
  obtain ⟨k, c, u, y, g⟩ := x1
  subst r1
  clear w0 w1 w2
  dsimp only
  have hr := r0.alloc (.cells #[.int .i64 k, .int .i64 c, .int .i64 u, .int .i64 y, .bool g] 26) ItV_len
  have hz : w.heap.size ≤ (w.alloc (.cells #[.int .i64 k, .int .i64 c, .int .i64 u, .int .i64 y, .bool g] 26)).heap.size := by simp
  have hlen : x0.length * 40 ≤ 140737488351232 := s0
  clear r0 s0
  have t1 := trivial
  have eq : bits .and .i64 a2 255 = a2 % 256 := and255 a2
  generalize a2 % 256 = q at eq
  by_cases hE : putE x0 ⟨k, c, u, y, g⟩ = 0
  · obtain ⟨hs, hi, hfit⟩ := putE_zero hE
    obtain ⟨hL, -, hs2⟩ := put_ok hs hi hfit
    obtain ⟨hval, hsrt, h16⟩ := stB_iff.1 hs
    have hlk := look_ins (x := ⟨k, c, u, y, g⟩) q hsrt
    have hI2 : getI (ins x0 ⟨k, c, u, y, g⟩) q = (look (ins x0 ⟨k, c, u, y, g⟩) q).getD zeroI ∧ getB (ins x0 ⟨k, c, u, y, g⟩) q = (look (ins x0 ⟨k, c, u, y, g⟩) q).isSome := by simp [getI, getB, hs2]
    have hI1 : getI x0 q = (look x0 q).getD zeroI ∧ getB x0 q = (look x0 q).isSome := by simp [getI, getB, hs]
    rw [hlk] at hI2
    clear hlk
    have hly : (ins x0 ⟨k, c, u, y, g⟩).length * 40 ≤ 140737488351232 := by omega
    generalize ins x0 ⟨k, c, u, y, g⟩ = ys at hL hI2 hly
    replace hL := toHid hL
    replace hE := toHid hE
    clear hs hs2 hi hfit
    obtain ⟨p0, c0, e0, n0, -⟩ := hr.its hz
    subst e0
    by_cases hq : q = k
    · subst hq
      dsimp only at hI2
      rw [if_pos rfl] at hI2
      cases hk0 : look x0 q with
      | none =>
        rw [hk0] at hI1 hI2
        have g1 : getI x0 q = ⟨0, 0, 0, 0, false⟩ := hI1.1
        have g2 : getB x0 q = false := hI1.2
        have g3 : getI ys q = ⟨q, c, u, y, g⟩ := hI2.1
        have g4 : getB ys q = true := hI2.2
        clear hI1 hI2 hk0 hval hsrt
        replace g1 := toHid g1
        replace g2 := toHid g2
        replace g3 := toHid g3
        replace g4 := toHid g4
        go_enter Try.func6, Try.ntmps6
        go_wp2_with (first
          | (go_at_call 20; refine (awake5_any _).mono ?_; rintro e w1 ⟨rfl, h1⟩
             have bX1 := (Box.new w _ _).below h1
             have r1 := hr.below h1 hz
             have z1 := Nat.le_trans hz h1.size
             obtain ⟨b1, b2, b3⟩ := id bX1)
          | (go_at_call 10; refine (sPut_at r1 z1 hlen _ _ _ _ _ hL.out hE.out).mono ?_; rintro e w2 ⟨o2, rfl, P2, h2⟩
             have r2 := r1.below h2 z1
             have z2 := Nat.le_trans z1 h2.size
             have bX2 := bX1.below h2
             clear b1 b2 b3)
          | (go_at_call 12; clear t1; refine (sGet_at r2 z2 hlen _ g1.out g2.out).mono ?_; rintro e w3 ⟨rfl, h3⟩)
          | (go_at_call 12; refine (sGet_at ((P2.below h3 (Nat.le_refl _)).alloc _ ItV_len) (by have := h3.size; simp; omega) hly _ g3.out g4.out).mono ?_; rintro e w4 ⟨rfl, h4⟩
             obtain ⟨b1, b2, b3⟩ := ((bX2.below h3).alloc _).below h4
             obtain ⟨m1, m2, m3⟩ := (Box.new w3 _ _).below h4)
          | (go_at_call 15; refine (num_any _ _).mono ?_; rintro e w' ⟨rfl, hw'⟩; subst w'))
        all_goals go_ret
        all_goals exact ⟨rfl, ((((((Below.refl _ w).onA _).on h1).on h2).on h3).onA _).on h4 |>.onA _⟩
      | some a =>
        rw [hk0] at hI1 hI2
        obtain ⟨hai, hak⟩ := look_val hval hk0
        obtain ⟨ak, ac, au, ax, ag⟩ := a
        dsimp only at hak
        subst hak
        have g1 : getI x0 ak = ⟨ak, ac, au, ax, ag⟩ := hI1.1
        have g2 : getB x0 ak = true := hI1.2
        have g4 : getB ys ak = true := hI2.2
        have g3' : getI ys ak = mx ⟨ak, ac, au, ax, ag⟩ ⟨ak, c, u, y, g⟩ := hI2.1
        rcases mx_or ⟨ak, ac, au, ax, ag⟩ ⟨ak, c, u, y, g⟩ with hm | hm
        · have g3 : getI ys ak = ⟨ak, ac, au, ax, ag⟩ := g3'.trans hm
          clear hI1 hI2 hk0 hval hsrt g3' hm hai
          replace g1 := toHid g1
          replace g2 := toHid g2
          replace g3 := toHid g3
          replace g4 := toHid g4
          go_enter Try.func6, Try.ntmps6
          go_wp2_with (first
            | (go_at_call 20; refine (awake5_any _).mono ?_; rintro e w1 ⟨rfl, h1⟩
               have bX1 := (Box.new w _ _).below h1
               have r1 := hr.below h1 hz
               have z1 := Nat.le_trans hz h1.size
               obtain ⟨b1, b2, b3⟩ := id bX1)
            | (go_at_call 10; refine (sPut_at r1 z1 hlen _ _ _ _ _ hL.out hE.out).mono ?_; rintro e w2 ⟨o2, rfl, P2, h2⟩
               have r2 := r1.below h2 z1
               have z2 := Nat.le_trans z1 h2.size
               have bX2 := bX1.below h2
               clear b1 b2 b3)
            | (go_at_call 12; clear t1; refine (sGet_at r2 z2 hlen _ g1.out g2.out).mono ?_; rintro e w3 ⟨rfl, h3⟩)
            | (go_at_call 12; refine (sGet_at ((P2.below h3 (Nat.le_refl _)).alloc _ ItV_len) (by have := h3.size; simp; omega) hly _ g3.out g4.out).mono ?_; rintro e w4 ⟨rfl, h4⟩
               obtain ⟨b1, b2, b3⟩ := ((bX2.below h3).alloc _).below h4
               obtain ⟨m1, m2, m3⟩ := (Box.new w3 _ _).below h4)
            | (go_at_call 15; refine (num_any _ _).mono ?_; rintro e w' ⟨rfl, hw'⟩; subst w'))
          all_goals go_ret
          all_goals exact ⟨rfl, ((((((Below.refl _ w).onA _).on h1).on h2).on h3).onA _).on h4 |>.onA _⟩
        · have g3 : getI ys ak = ⟨ak, c, u, y, g⟩ := g3'.trans hm
          clear hI1 hI2 hk0 hval hsrt g3' hm hai
          replace g1 := toHid g1
          replace g2 := toHid g2
          replace g3 := toHid g3
          replace g4 := toHid g4
          go_enter Try.func6, Try.ntmps6
          go_wp2_with (first
            | (go_at_call 20; refine (awake5_any _).mono ?_; rintro e w1 ⟨rfl, h1⟩
               have bX1 := (Box.new w _ _).below h1
               have r1 := hr.below h1 hz
               have z1 := Nat.le_trans hz h1.size
               obtain ⟨b1, b2, b3⟩ := id bX1)
            | (go_at_call 10; refine (sPut_at r1 z1 hlen _ _ _ _ _ hL.out hE.out).mono ?_; rintro e w2 ⟨o2, rfl, P2, h2⟩
               have r2 := r1.below h2 z1
               have z2 := Nat.le_trans z1 h2.size
               have bX2 := bX1.below h2
               clear b1 b2 b3)
            | (go_at_call 12; clear t1; refine (sGet_at r2 z2 hlen _ g1.out g2.out).mono ?_; rintro e w3 ⟨rfl, h3⟩)
            | (go_at_call 12; refine (sGet_at ((P2.below h3 (Nat.le_refl _)).alloc _ ItV_len) (by have := h3.size; simp; omega) hly _ g3.out g4.out).mono ?_; rintro e w4 ⟨rfl, h4⟩
               obtain ⟨b1, b2, b3⟩ := ((bX2.below h3).alloc _).below h4
               obtain ⟨m1, m2, m3⟩ := (Box.new w3 _ _).below h4)
            | (go_at_call 15; refine (num_any _ _).mono ?_; rintro e w' ⟨rfl, hw'⟩; subst w'))
          all_goals go_ret
          all_goals exact ⟨rfl, ((((((Below.refl _ w).onA _).on h1).on h2).on h3).onA _).on h4 |>.onA _⟩
    · have hq' : ¬ k = q := fun e => hq e.symm
      dsimp only at hI2
      rw [if_neg hq'] at hI2
      have g3' : getI ys q = getI x0 q := hI2.1.trans hI1.1.symm
      have g4' : getB ys q = getB x0 q := hI2.2.trans hI1.2.symm
      clear hI1 hI2 hval hsrt
      obtain ⟨zk, zc, zu, zx, zg, g1⟩ : ∃ zk zc zu zx zg, getI x0 q = ⟨zk, zc, zu, zx, zg⟩ := ⟨_, _, _, _, _, rfl⟩
      obtain ⟨bb, g2⟩ : ∃ b, getB x0 q = b := ⟨_, rfl⟩
      have g3 := g3'.trans g1
      have g4 := g4'.trans g2
      clear g3' g4'
      replace g1 := toHid g1
      replace g2 := toHid g2
      replace g3 := toHid g3
      replace g4 := toHid g4
      go_enter Try.func6, Try.ntmps6
      go_wp2_with (first
        | (go_at_call 20; refine (awake5_any _).mono ?_; rintro e w1 ⟨rfl, h1⟩
           have bX1 := (Box.new w _ _).below h1
           have r1 := hr.below h1 hz
           have z1 := Nat.le_trans hz h1.size
           obtain ⟨b1, b2, b3⟩ := id bX1)
        | (go_at_call 10; refine (sPut_at r1 z1 hlen _ _ _ _ _ hL.out hE.out).mono ?_; rintro e w2 ⟨o2, rfl, P2, h2⟩
           have r2 := r1.below h2 z1
           have z2 := Nat.le_trans z1 h2.size
           have bX2 := bX1.below h2
           clear b1 b2 b3)
        | (go_at_call 12; clear t1; refine (sGet_at r2 z2 hlen _ g1.out g2.out).mono ?_; rintro e w3 ⟨rfl, h3⟩)
        | (go_at_call 12; refine (sGet_at ((P2.below h3 (Nat.le_refl _)).alloc _ ItV_len) (by have := h3.size; simp; omega) hly _ g3.out g4.out).mono ?_; rintro e w4 ⟨rfl, h4⟩
           obtain ⟨b1, b2, b3⟩ := ((bX2.below h3).alloc _).below h4
           obtain ⟨m1, m2, m3⟩ := (Box.new w3 _ _).below h4)
        | (go_at_call 15; refine (num_any _ _).mono ?_; rintro e w' ⟨rfl, hw'⟩; subst w'))
      all_goals go_ret
      all_goals exact ⟨rfl, ((((((Below.refl _ w).onA _).on h1).on h2).on h3).onA _).on h4 |>.onA _⟩
  · have hL := putE_nz hE
    replace hL := toHid hL
    obtain ⟨p0, c0, e0, n0, -⟩ := hr.its hz
    subst e0
    go_enter Try.func6, Try.ntmps6
    go_wp2_with (first
      | (go_at_call 20; refine (awake5_any _).mono ?_; rintro e w1 ⟨rfl, h1⟩
         have bX1 := (Box.new w _ _).below h1
         have r1 := hr.below h1 hz
         have z1 := Nat.le_trans hz h1.size
         obtain ⟨b1, b2, b3⟩ := id bX1)
      | (go_at_call 10; refine (sPut_at r1 z1 hlen _ _ _ _ _ hL.out rfl).mono ?_; rintro e w2 ⟨o2, rfl, P2, h2⟩
         obtain ⟨p2, c2, e2, n2, -⟩ := P2.its (Nat.le_refl _)
         subst e2)
      | (go_at_call 15; refine (num_any _ _).mono ?_; rintro e w' ⟨rfl, hw'⟩; subst w'))
    go_ret
    exact ⟨rfl, (((Below.refl _ w).onA _).on h1).on h2⟩

/-! ### The row's step -/
set_option maxRecDepth 100000 in
theorem lifted (os : Os) (started : os.Started) (H : Type) (enc : TypeId × Value → H) :
    ReturnsInHanded {} Try.checked os 6 .any (Rows.storeOtherSpec.pre6 enc Try.prog Try.f6 Rows.storeOtherRow.domain false) (Rows.storeOtherSpec.post enc Try.prog Try.f6 false true false false) := by
  refine returnsInHanded_of_change_sized (C := Try.checked) ownK started (by kernel_rfl) Try.func6
    (ChangeSpec.witness6 (enc := enc) (C := Try.checked) false ⟨#[], #[.slice none 0 0, .agg #[.int .i64 0, .int .i64 0, .int .i64 0, .int .i64 0, .bool false], .int .i64 0], []⟩ 8 (by kernel_rfl) (by kernel_rfl) (by kernel_rfl) (by kernel_rfl)) ?_
  intro W base args ds gs before hval0 hW hcnd hsz0 _
  have hsz : (DataW.weightsEach Try.prog (Try.f6.params.toList ++ Rows.storeOtherSpec.plain.varTypes Try.prog) (ds ++ gs)).all (· ≤ reachBytes) = true := hsz0
  have hval : ∀ (j : Nat) t v, Try.f6.params[j]? = some t → args[j]? = some v → Value.okWide Try.prog W .any base t v := hval0
  have hW' := hW
  obtain ⟨p, q, hA0, hV, rfl, hfz, hnd⟩ := hW
  have hA : DataW.TrodAll enc Try.prog W 0 (fun _ => true) true Try.f6.params.toList args.toList ds p := hA0
  rw [Try.params6] at hA hval hsz
  obtain ⟨v0, vs0, d0, ds0, p0, q0, hargs, rfl, rfl, h0, r0⟩ := trodAll_cons hA
  obtain ⟨v1, vs1, d1, ds1, p1, q1, rfl, rfl, rfl, h1, r1⟩ := trodAll_cons r0
  obtain ⟨v2, vs2, d2, ds2, p2, q2, rfl, rfl, rfl, h2, r2⟩ := trodAll_cons r1
  obtain ⟨rfl, rfl, rfl⟩ := trodAll_nil r2
  obtain rfl : args = #[v0, v1, v2] := by cases args; simp_all
  obtain ⟨rfl, rfl⟩ := trodVars_none hV
  clear r0 r1 r2
  have k0 := h0
  have lt0 : ∀ x ∈ p0, x.block < W.heap.size := by obtain ⟨m, hm⟩ := k0; exact DataW.trod_lt m _ _ _ hm
  have z0 : ∀ n ∈ d0.weights Try.prog 22, n ≤ reachBytes := fun n hn => by simpa using List.all_eq_true.1 hsz _ (DataW.weights_mem_each (j := 0) rfl rfl n hn)
  have f0 : W.noneFrozen p0 := fun b off hm => hfz b off (by simp [hm])
  have k1 := h1
  have lt1 : ∀ x ∈ p1, x.block < W.heap.size := by obtain ⟨m, hm⟩ := k1; exact DataW.trod_lt m _ _ _ hm
  have z1 : ∀ n ∈ d1.weights Try.prog 26, n ≤ reachBytes := fun n hn => by simpa using List.all_eq_true.1 hsz _ (DataW.weights_mem_each (j := 1) rfl rfl n hn)
  have f1 : W.noneFrozen p1 := fun b off hm => hfz b off (by simp [hm])
  have k2 := h2
  have lt2 : ∀ x ∈ p2, x.block < W.heap.size := by obtain ⟨m, hm⟩ := k2; exact DataW.trod_lt m _ _ _ hm
  obtain ⟨x0, r0, s0, w0⟩ := open_rowT (hval 0 22 v0 rfl rfl) h0 f0 z0
  obtain ⟨x1, r1, w1⟩ := open_item (hval 1 26 v1 rfl rfl) h1 f1 z1
  obtain ⟨a2, rfl, rfl, rfl, w2⟩ := open_int Try.underlying3 (hval 2 3 v2 rfl rfl) h2
  clear hA0 hval0
  refine (walk v0 x0 v1 x1 a2 W r0 s0 w0 r1 w1 w2).mono fun e W' ⟨he, bel⟩ => ?_
  subst he
  exact ⟨_, rfl, _, _, _, [], _, [], hW', trodAll_mk1 (shut_bool Try.underlying4 _), (trodAll_cons_mk (Below.trod laidOut (by kernel_rfl) (of_decide_eq_true (by kernel_rfl)) k0 bel lt0) (trodAll_cons_mk (Below.trod laidOut (by kernel_rfl) (of_decide_eq_true (by kernel_rfl)) k1 bel lt1) (trodAll_cons_mk (Below.trod laidOut (by kernel_rfl) (of_decide_eq_true (by kernel_rfl)) k2 bel lt2) trodAll_mk0))), rfl, bel.frame _, fun h => by cases h⟩

theorem over : Rows.storeOtherRow.holds Try.pinned (OpenSpec.ofChange Rows.storeOtherSpec) :=
  OpenClaim.holds_of_wide 6 Try.f6 rfl rfl rfl rfl rfl rfl rfl ⟨rfl, rfl, rfl, rfl, rfl⟩ rfl rfl rfl rfl rfl (by kernel_rfl) Try.func6 (by kernel_rfl)
    (of_decide_eq_true (by kernel_rfl)) (by unfold Func.isWrapper; first | (rw [if_pos (by decide +kernel)]; kernel_rfl) | (rw [if_neg (by decide +kernel)]; exact ⟨rfl, rfl⟩))
    (fun os started H enc _ => lifted os started H enc)

end Go.Proofs.Ytmbommkehchchaa.storeOther

namespace Go.Proofs.Ytmbommkehchchaa
/-- The statement, by its short name. -/
theorem storeOther_holds : Rows.StoreOtherSaid := storeOther.over
#print axioms storeOther_holds
end Go.Proofs.Ytmbommkehchchaa
