/-
  The statement StoreTwice: an item that is put twice is as one that is put once, and a store's own items are put into the greater one in vain.
-/
import Derived.Test.YtmbommkehchchaaRows
import Derived.Test.YtmbommkehchchaaOpen
import Derived.Test.YtmbommkehchchaaStoreLaw
import Derived.Test.YtmbommkehchchaaStorePut
import Derived.Test.YtmbommkehchchaaOpenT
namespace Go.Proofs.Ytmbommkehchchaa.storeTwice
open Go.ChangeShapes Go.WideShapes Go.ChangeAt Go.RowKit
set_option linter.unusedVariables false

/-! ### The walk -/
set_option maxHeartbeats 4000000 in
theorem walk (v0 : Value) (x0 : List It) (v1 : Value) (x1 : It) (w : World) (r0 : RowT 0 w.heap.size w v0 x0) (s0 : x0.length * 40 ≤ 140737488351232) (w0 : ∀ x ∈ x0, ItW x) (r1 : v1 = .agg #[.int .i64 x1.k, .int .i64 x1.c, .int .i64 x1.u, .int .i64 x1.x, .bool x1.g]) (w1 : ItW x1) :
    Calls Try.prog 8 #[v0, v1] w fun e w' => e = .returned (.bool true) ∧ Below w.heap.size w w' := by
  obtain ⟨k, c, u, y, g⟩ := x1
  subst r1
  clear w0 w1
  dsimp only
  have hr := r0.alloc (.cells #[.int .i64 k, .int .i64 c, .int .i64 u, .int .i64 y, .bool g] 26) ItV_len
  have hz : w.heap.size ≤ (w.alloc (.cells #[.int .i64 k, .int .i64 c, .int .i64 u, .int .i64 y, .bool g] 26)).heap.size := by simp
  have hlen : x0.length * 40 ≤ 140737488351232 := s0
  clear r0 s0
  have t1 := trivial
  have t2 := trivial
  by_cases hE : putE x0 ⟨k, c, u, y, g⟩ = 0
  · obtain ⟨hs, hi, hfit⟩ := putE_zero hE
    obtain ⟨hL, -, hs2⟩ := put_ok hs hi hfit
    obtain ⟨hval, hsrt, h16⟩ := stB_iff.1 hs
    have tw := put_ok hs2 hi (by rw [ins_twice hsrt hval hi]; exact hfit)
    rw [ins_twice hsrt hval hi] at tw
    have held : ∀ j (hj : j < x0.length), putL (ins x0 ⟨k, c, u, y, g⟩) x0[j] = ins x0 ⟨k, c, u, y, g⟩ ∧ putE (ins x0 ⟨k, c, u, y, g⟩) x0[j] = 0 := fun j hj => by
      have hm : x0[j] ∈ x0 := List.getElem_mem hj
      have e := ins_held hsrt hval hi hm
      have := put_ok hs2 (hval _ hm) (by rw [e]; exact hfit)
      rw [e] at this
      exact ⟨this.1, this.2.1⟩
    generalize ins x0 ⟨k, c, u, y, g⟩ = ys at hL tw held hfit
    have hly : ys.length * 40 ≤ 140737488351232 := by omega
    replace hL := toHid hL
    replace hE := toHid hE
    replace tw := toHid tw
    replace held := toHid held
    clear hs hs2 hval hsrt hi hfit
    obtain ⟨p0, c0, e0, n0, hp⟩ := hr.its hz
    subst e0
    go_enter Try.func8, Try.ntmps8
    go_wp2_with (first
      | (go_at_call 20; refine (awake5_any _).mono ?_; rintro e w1 ⟨rfl, h1⟩
         have bX1 := (Box.new w _ _).below h1
         have r1 := hr.below h1 hz
         have z1 := Nat.le_trans hz h1.size
         obtain ⟨b1, b2, b3⟩ := id bX1)
      | (go_at_call 10; clear t1; refine (sPut_at r1 z1 hlen _ _ _ _ _ hL.out hE.out).mono ?_; rintro e w2 ⟨o2, rfl, P2, h2⟩
         clear b1 b2 b3
         obtain ⟨b1, b2, b3⟩ := bX1.below h2)
      | (go_at_call 10; clear t2; refine (sPut_at P2 (Nat.le_refl _) hly _ _ _ _ _ tw.out.1 tw.out.2.1).mono ?_; rintro e w3 ⟨o3, rfl, P3, h3⟩
         have P23 := P2.below h3 (Nat.le_refl _)
         clear b1 b2 b3)
      | (go_at_call 14; refine (same_at P23 P3 (b := true) (by simp)).mono ?_; rintro e w4 ⟨rfl, h4⟩
         have P24 := P23.below h4 h3.size
         have y4 := Nat.le_trans h3.size h4.size)
      | (go_at_call 15; refine (num_any _ _).mono ?_; rintro e w' ⟨rfl, hw'⟩; subst w'))
    have hB : Below (w.alloc (.cells #[.int .i64 k, .int .i64 c, .int .i64 u, .int .i64 y, .bool g] 26)).heap.size (w.alloc (.cells #[.int .i64 k, .int .i64 c, .int .i64 u, .int .i64 y, .bool g] 26)) w4 := ((h1.on h2).on h3).on h4
    clear h1 h2 h3 h4 bX1 r1 P2 P23 P3
    go_loopw [9] (fun i wr => ∃ m : Nat, m ≤ x0.length ∧ i = .int .i64 m ∧ Below w4.heap.size w4 wr) (fun i _ => x0.length - (intOf i).toNat)
    case atStart => exact ⟨0, Nat.zero_le _, rfl, Below.refl _ _⟩
    case round =>
      obtain ⟨m, hm, rfl, hbr⟩ := hrel
      by_cases hlt : m < x0.length
      · have hlt' : (m : Int) < (x0.length : Int) := by omega
        obtain ⟨b, off, rfl, _, hb, hc⟩ := hp (by omega)
        have it1 := (hc m hlt).below (hB.on hbr) hb
        have hd := held.out m hlt
        rw [getD_at _ _ hlt] at it1
        clear hc hp held
        generalize x0[m] = a at *
        obtain ⟨ak, ac, au, ax, ag⟩ := a
        obtain ⟨c1, c2, c3, c4, c5⟩ := it1
        dsimp only at c1 c2 c3 c4 c5
        replace hd := toHid hd
        go_wp2_with (first
          | (go_at_call 10; refine (sPut_at (P24.below hbr y4) (Nat.le_trans y4 hbr.size) hly _ _ _ _ _ hd.out.1 hd.out.2).mono ?_; rintro e w5 ⟨o5, rfl, P5, h5⟩
             have P25 := (P24.below hbr y4).below h5 (Nat.le_trans y4 hbr.size))
          | (go_at_call 14; refine (same_at P5 P25 (b := true) (by simp)).mono ?_; rintro e w6 ⟨rfl, h6⟩)
          | (go_at_call 15; refine (num_any _ _).mono ?_; rintro e w' ⟨rfl, hw'⟩; subst w'))
        go_roundw
        case rel => exact ⟨m + 1, by omega, by go_num, hbr.on (h5.on h6)⟩
        case measure => simp [intOf]; omega
      · go_wp2
        go_ret
        exact ⟨rfl, ((Below.refl _ w).onA _).on (hB.on hbr)⟩
  · have hL := putE_nz hE
    replace hL := toHid hL
    obtain ⟨p0, c0, e0, n0, -⟩ := hr.its hz
    subst e0
    go_enter Try.func8, Try.ntmps8
    go_wp2_with (first
      | (go_at_call 20; refine (awake5_any _).mono ?_; rintro e w1 ⟨rfl, h1⟩
         have bX1 := (Box.new w _ _).below h1
         have r1 := hr.below h1 hz
         have z1 := Nat.le_trans hz h1.size
         obtain ⟨b1, b2, b3⟩ := id bX1)
      | (go_at_call 10; refine (sPut_at r1 z1 hlen _ _ _ _ _ hL.out rfl).mono ?_; rintro e w2 ⟨o2, rfl, P2, h2⟩
         obtain ⟨p2, c2, e2, n2, -⟩ := P2.its (Nat.le_refl _)
         subst e2)
      | (go_at_call 15; refine (num_any _ _).mono ?_; rintro e w' ⟨rfl, hw'⟩; subst w'))
    go_ret
    exact ⟨rfl, (((Below.refl _ w).onA _).on h1).on h2⟩

/-! ### The row's step -/
set_option maxRecDepth 100000 in
theorem lifted (os : Os) (started : os.Started) (H : Type) (enc : TypeId × Value → H) :
    ReturnsInHanded {} Try.checked os 8 .any (Rows.storeTwiceSpec.pre6 enc Try.prog Try.f8 Rows.storeTwiceRow.domain false) (Rows.storeTwiceSpec.post enc Try.prog Try.f8 false true false false) := by
  refine returnsInHanded_of_change_sized (C := Try.checked) ownK started (by kernel_rfl) Try.func8
    (ChangeSpec.witness6 (enc := enc) (C := Try.checked) false ⟨#[], #[.slice none 0 0, .agg #[.int .i64 0, .int .i64 0, .int .i64 0, .int .i64 0, .bool false]], []⟩ 8 (by kernel_rfl) (by kernel_rfl) (by kernel_rfl) (by kernel_rfl)) ?_
  intro W base args ds gs before hval0 hW hcnd hsz0 _
  have hsz : (DataW.weightsEach Try.prog (Try.f8.params.toList ++ Rows.storeTwiceSpec.plain.varTypes Try.prog) (ds ++ gs)).all (· ≤ reachBytes) = true := hsz0
  have hval : ∀ (j : Nat) t v, Try.f8.params[j]? = some t → args[j]? = some v → Value.okWide Try.prog W .any base t v := hval0
  have hW' := hW
  obtain ⟨p, q, hA0, hV, rfl, hfz, hnd⟩ := hW
  have hA : DataW.TrodAll enc Try.prog W 0 (fun _ => true) true Try.f8.params.toList args.toList ds p := hA0
  rw [Try.params8] at hA hval hsz
  obtain ⟨v0, vs0, d0, ds0, p0, q0, hargs, rfl, rfl, h0, r0⟩ := trodAll_cons hA
  obtain ⟨v1, vs1, d1, ds1, p1, q1, rfl, rfl, rfl, h1, r1⟩ := trodAll_cons r0
  obtain ⟨rfl, rfl, rfl⟩ := trodAll_nil r1
  obtain rfl : args = #[v0, v1] := by cases args; simp_all
  obtain ⟨rfl, rfl⟩ := trodVars_none hV
  clear r0 r1
  have k0 := h0
  have lt0 : ∀ x ∈ p0, x.block < W.heap.size := by obtain ⟨m, hm⟩ := k0; exact DataW.trod_lt m _ _ _ hm
  have z0 : ∀ n ∈ d0.weights Try.prog 22, n ≤ reachBytes := fun n hn => by simpa using List.all_eq_true.1 hsz _ (DataW.weights_mem_each (j := 0) rfl rfl n hn)
  have f0 : W.noneFrozen p0 := fun b off hm => hfz b off (by simp [hm])
  have k1 := h1
  have lt1 : ∀ x ∈ p1, x.block < W.heap.size := by obtain ⟨m, hm⟩ := k1; exact DataW.trod_lt m _ _ _ hm
  have z1 : ∀ n ∈ d1.weights Try.prog 26, n ≤ reachBytes := fun n hn => by simpa using List.all_eq_true.1 hsz _ (DataW.weights_mem_each (j := 1) rfl rfl n hn)
  have f1 : W.noneFrozen p1 := fun b off hm => hfz b off (by simp [hm])
  obtain ⟨x0, r0, s0, w0⟩ := open_rowT (hval 0 22 v0 rfl rfl) h0 f0 z0
  obtain ⟨x1, r1, w1⟩ := open_item (hval 1 26 v1 rfl rfl) h1 f1 z1
  clear hA0 hval0
  refine (walk v0 x0 v1 x1 W r0 s0 w0 r1 w1).mono fun e W' ⟨he, bel⟩ => ?_
  subst he
  exact ⟨_, rfl, _, _, _, [], _, [], hW', trodAll_mk1 (shut_bool Try.underlying4 _), (trodAll_cons_mk (Below.trod laidOut (by kernel_rfl) (of_decide_eq_true (by kernel_rfl)) k0 bel lt0) (trodAll_cons_mk (Below.trod laidOut (by kernel_rfl) (of_decide_eq_true (by kernel_rfl)) k1 bel lt1) trodAll_mk0)), rfl, bel.frame _, fun h => by cases h⟩

theorem over : Rows.storeTwiceRow.holds Try.pinned (OpenSpec.ofChange Rows.storeTwiceSpec) :=
  OpenClaim.holds_of_wide 8 Try.f8 rfl rfl rfl rfl rfl rfl rfl ⟨rfl, rfl, rfl, rfl, rfl⟩ rfl rfl rfl rfl rfl (by kernel_rfl) Try.func8 (by kernel_rfl)
    (of_decide_eq_true (by kernel_rfl)) (by unfold Func.isWrapper; first | (rw [if_pos (by decide +kernel)]; kernel_rfl) | (rw [if_neg (by decide +kernel)]; exact ⟨rfl, rfl⟩))
    (fun os started H enc _ => lifted os started H enc)

end Go.Proofs.Ytmbommkehchchaa.storeTwice

namespace Go.Proofs.Ytmbommkehchchaa
/-- The statement, by its short name. -/
theorem storeTwice_holds : Rows.StoreTwiceSaid := storeTwice.over
#print axioms storeTwice_holds
end Go.Proofs.Ytmbommkehchchaa
