
/-
  The statement HelloFull: where all places are taken, somebody new is left out and the view stays; one who was lost and greets is a peer, heard now.
-/
import Derived.Test.YtgopjjclobgekaaRows
import Derived.Test.YtgopjjclobgekaaOpen
import Derived.Test.YtgopjjclobgekaaHelloLaw
namespace Go.Proofs.Ytgopjjclobgekaa.helloFull
open Go.ChangeShapes Go.WideShapes Go.ChangeAt Go.RowKit
set_option linter.unusedVariables false

/-! ### The walk -/
theorem and63 (n : Int) : bits .and .i64 n 63 = n % 64 := by
  have h1 : (BitVec.ofInt 64 63).toNat = 2 ^ 6 - 1 := by decide
  have key : (BitVec.ofInt 64 n &&& BitVec.ofInt 64 63).toNat = (n % ((2 ^ 64 : Nat) : Int)).toNat % 2 ^ 6 := by
    rw [BitVec.toNat_and, BitVec.toNat_ofInt, h1, Nat.and_two_pow_sub_one_eq_mod]
  show IntKind.i64.wrap ((BitVec.ofInt 64 n &&& BitVec.ofInt 64 63).toNat : Nat) = n % 64
  rw [key, IntKind.wrap_i64]
  omega

set_option maxRecDepth 20000 in
set_option maxHeartbeats 8000000 in
theorem walk (a0 : Int) (a1 : Int) (w : World) (w0 : (Lit.int .i64 a0).wf = true) (w1 : (Lit.int .i64 a1).wf = true) :
    Calls Try.prog 6 #[.int .i64 a0, .int .i64 a1] w fun e w' => e = .returned (.bool true) ∧ Below w.heap.size w w' := by
  have e63 : bits .and .i64 a0 63 = a0 % 64 := and63 a0
  have e1 : bits .and .i64 a1 1 = a1 % 2 := and1 a1
  obtain ⟨k, hk1⟩ : ∃ r : Nat, (r : Int) = a0 % 64 := ⟨(a0 % 64).toNat, by omega⟩
  have hk2 : k < 64 := by omega
  rw [← hk1] at e63
  obtain ⟨o, ho1⟩ : ∃ r : Nat, (r : Int) = a1 % 2 := ⟨(a1 % 2).toNat, by omega⟩
  have ho2 : o < 2 := by omega
  rw [← ho1] at e1
  clear hk1 ho1 w0 w1
  obtain ⟨f1, f2⟩ := fu_out k hk2
  obtain ⟨g1, g2⟩ := fu_in o ho2
  obtain ⟨f3, f4, f5⟩ := he_yes f1
  obtain ⟨g3, g4, g5⟩ := he_yes g1
  rw [f2] at f4
  rw [g2] at g4
  have K1 := toHid (fun (W : World) (p q x : Value) (lo hi lo' hi' : Nat) (h : VwAt lo hi W p q (fuP 14) [5, 6]) (hh : hi ≤ W.heap.size) (R : RowI lo' hi' W x [200, 5, 12]) (hh' : hi' ≤ W.heap.size) => hTake_at (n1 := 14) (n2 := 2) h hh R hh' f3 f4 f5 rfl rfl)
  have K2 := toHid (fun (W : World) (p q x : Value) (lo hi lo' hi' : Nat) (h : VwAt lo hi W p q (fuP 14) [5, 6]) (hh : hi ≤ W.heap.size) (R : RowI lo' hi' W x [200]) (hh' : hi' ≤ W.heap.size) => hTake_at (n1 := 15) (n2 := 1) h hh R hh' g3 g4 g5 rfl rfl)
  clear f1 f2 g1 g2 f3 f4 f5 g3 g4 g5
  go_enter Try.func6, Try.ntmps6
  go_wp2_with (first
    | (go_at_call 18; refine (awake10_any _).mono ?_; rintro e w1 ⟨rfl, h1⟩))
  go_loopw [6] (fun i wr => ∃ (m : Nat) (P : Value), m ≤ 14 ∧ i = .int .i64 m ∧ Hid (wr.ownsRow (w1.heap.size + 1) 42 2 P m ((fuP m).flatMap PeV)) ∧ Hid (Box wr w1.heap.size #[.int .i64 0, P, .slice none 0 0]) ∧ Below w1.heap.size w1 wr ∧ w1.heap.size + 1 ≤ wr.heap.size) (fun i _ => 14 - (intOf i).toNat)
  case atStart => exact ⟨0, .slice none 0 0, Nat.zero_le _, rfl, toHid ⟨rfl, .inl ⟨rfl, rfl⟩⟩, toHid (Box.new w1 _ _), (Below.refl _ w1).onA _, by simp⟩
  case round =>
    obtain ⟨m, P, hm, rfl, own, BX, hbr, hsz⟩ := hrel
    have M1 := toHid (RowC.of_owns (by omega) PeV_len own.out : RowP (w1.heap.size + 1) wr.heap.size wr P (fuP m))
    obtain ⟨am, cm, em, -⟩ := M1.out
    rw [fuP_len] at em
    subst em
    obtain ⟨b1, b2, b3⟩ := id BX.out
    by_cases hlt : m < 14
    · have hlt' : (m : Int) < 14 := by omega
      clear M1 K1 K2
      go_wp2_with (at_builtin; refine app_pes rfl (.tmp 19) (.tmp 23) rfl (w1.heap.size + 1) _ m (fuP m) rfl (own.out.alloc _) ⟨wr.heap.size, 0, none⟩ 1 1 [⟨10 + (m : Int), 1⟩] rfl rfl (fun j hj => ?_) (by omega) (by simp; omega) ?_; · (match j, hj with | 0, _ => simp [Addr.add, PeV] | 1, _ => simp [Addr.add, PeV]))
      intro v' w3 hown' hgr hbel'
      replace hown' : w3.ownsRow (w1.heap.size + 1) 42 2 v' (m + 1) ((fuP (m + 1)).flatMap PeV) := by
        rw [fuP_next]
        simpa using hown'
      have M3 : RowP (w1.heap.size + 1) w3.heap.size w3 v' (fuP (m + 1)) := RowC.of_owns (by omega) PeV_len hown'
      obtain ⟨a3, c3, e3, -⟩ := M3.out
      rw [fuP_len] at e3
      subst e3
      clear M3
      have B3 := (BX.out.alloc _).belowAt hbel' (Nat.lt_succ_self _)
      have B4 := toHid (B3.setS (ys := #[.int .i64 0, .slice a3 (m + 1) c3, .slice none 0 0]) 1 (.slice a3 (m + 1) c3) (by simp) (by simp))
      have O4 := toHid (ownsRow_setCell_below hown' (a := ⟨w1.heap.size, 1, none⟩) (Nat.lt_succ_self _) (.slice a3 (m + 1) c3))
      have H4 := toHid (((hbr.onA _).trans (hbel'.mono (Nat.le_succ _))).setCell (p := ⟨w1.heap.size, 1, none⟩) (Nat.le_refl _) (.slice a3 (m + 1) c3))
      have Z4 : w1.heap.size + 1 ≤ w3.heap.size := by
        have := hbel'.size
        simp at this
        omega
      clear hgr hbel' own BX b1 b2 b3 hown'
      obtain ⟨b1, b2, b3⟩ := id B3
      go_wp2
      go_roundw
      case rel => exact ⟨m + 1, _, by omega, by go_num, O4, B4, H4.out, by simpa using Z4⟩
      case measure => simp [intOf]; omega
    · obtain rfl : m = 14 := by omega
      clear own hm hlt
      have hS := toHid ((Only.refl w1.heap.size (w1.heap.size + 1) wr).setCell (o := 2) (Nat.le_refl _) (Nat.lt_succ_self _) (.slice (some ⟨wr.heap.size, 0, none⟩) 2 2))
      have BV := toHid ((BX.out.setS (ys := #[.int .i64 0, .slice am 14 cm, .slice (some ⟨wr.heap.size, 0, none⟩) 2 2]) 2 (.slice (some ⟨wr.heap.size, 0, none⟩) 2 2) (by simp) (by simp)).alloc (.cells #[.int .i64 5, .int .i64 6] 3))
      have VV : Hid (VwAt (w1.heap.size + 1) (wr.heap.size + 1) ((wr.setCell ⟨w1.heap.size, 2, none⟩ (.slice (some ⟨wr.heap.size, 0, none⟩) 2 2)).alloc (.cells #[.int .i64 5, .int .i64 6] 3)) (.slice am 14 cm) (.slice (some ⟨wr.heap.size, 0, none⟩) 2 2) (fuP 14) [5, 6]) :=
        toHid ⟨((M1.out.only hS.out (.inr (Nat.le_refl _))).alloc _ PeV_len).wide (Nat.le_refl _) (Nat.le_succ _), (Box.rowI [5, 6] (Box.newAt (n := wr.heap.size) #[.int .i64 5, .int .i64 6] 3 (by simp)) rfl rfl (by decide)).wide hsz (Nat.le_refl _)⟩
      have hB := toHid (h1.on ((hbr.trans hS.out.below).onA (.cells #[.int .i64 5, .int .i64 6] 3)))
      clear hS BX M1 hbr
      have t1 := trivial
      go_wp2_with (first
        | (go_at_call 12; clear t1
           have BA := Box.newAt (n := wr.heap.size + 1) (w := ((wr.setCell ⟨w1.heap.size, 2, none⟩ (.slice (some ⟨wr.heap.size, 0, none⟩) 2 2)).alloc (.cells #[.int .i64 5, .int .i64 6] 3))) #[.int .i64 200, .int .i64 5, .int .i64 12] 3 (by simp)
           refine (K1.out _ _ _ _ _ _ _ _ (VV.out.alloc _) (by simp) (Box.rowI (n := 3) [200, 5, 12] BA rfl rfl (by decide)) BA.1).mono ?_; rintro e w6 ⟨a6, d6, a6', d6', rfl, X6, h6⟩
           clear BA b1 b2 b3
           have hq := ((Below.refl _ ((wr.setCell ⟨w1.heap.size, 2, none⟩ (.slice (some ⟨wr.heap.size, 0, none⟩) 2 2)).alloc (.cells #[.int .i64 5, .int .i64 6] 3))).onA _).on h6
           obtain ⟨b1, b2, b3⟩ := BV.out.below hq
           replace hq := hq.onA (.cells #[.int .i64 0, .slice a6 14 d6, .slice a6' 2 d6'] 25)
           have XA := toHid (X6.at.alloc (.cells #[.int .i64 0, .slice a6 14 d6, .slice a6' 2 d6'] 25))
           have BA6 := toHid (Box.new w6 #[.int .i64 0, .slice a6 14 d6, .slice a6' 2 d6'] 25)
           have zq : wr.heap.size + 1 ≤ w6.heap.size + 1 := by
             have := hq.size
             simp at this
             omega
           clear X6 h6)
        | (go_at_call 12
           have BA := Box.newAt (n := w6.heap.size + 1) (w := w6.alloc (.cells #[.int .i64 0, .slice a6 14 d6, .slice a6' 2 d6'] 25)) #[.int .i64 200] 3 (by simp)
           refine (K2.out _ _ _ _ _ _ _ _ ((VV.out.below hq (by simp)).alloc _) (by simp; omega) (Box.rowI (n := 1) [200] BA rfl rfl (by decide)) BA.1).mono ?_; rintro e w7 ⟨a7, d7, a7', d7', rfl, X7, h7⟩
           clear BA b1 b2 b3
           have hr := ((Below.refl _ (w6.alloc (.cells #[.int .i64 0, .slice a6 14 d6, .slice a6' 2 d6'] 25))).onA _).on h7
           replace hq := (hq.onA _).on h7
           obtain ⟨b1, b2, b3⟩ := BV.out.below hq
           obtain ⟨y1, y2, y3⟩ := BA6.out.below hr
           obtain ⟨pp, cp, ep, -, hcs⟩ := X7.at.ps.pes (Nat.le_refl _)
           obtain ⟨ea, -, -⟩ := Value.slice.inj ep
           obtain ⟨bp, off, eb, -, hbp, hc⟩ := hcs (by simp)
           have c0 := hc 0 (by simp)
           simp only [List.getD_cons_zero, Nat.zero_mul, Nat.add_zero] at c0
           have ec := ea.trans eb
           subst ec
           clear ep ea eb hc hcs
           replace c0 := toHid (c0.below ((Below.refl _ w7).onA (.cells #[.int .i64 0, .slice (some ⟨bp, off, none⟩) 15 d7, .slice a7' 1 d7'] 25)) hbp)
           have zr : w6.heap.size < w7.heap.size := y1
           have XB := toHid (X7.at.alloc (.cells #[.int .i64 0, .slice (some ⟨bp, off, none⟩) 15 d7, .slice a7' 1 d7'] 25))
           have BB := toHid (Box.new w7 #[.int .i64 0, .slice (some ⟨bp, off, none⟩) 15 d7, .slice a7' 1 d7'] 25)
           clear X7 h7)
        | (go_at_call 14; refine (sameView_same 0 ((XA.out.below hr (by simp)).alloc _) ((VV.out.below hq (by simp)).alloc _) (by simp; omega) (by have := hq.size; simp at this ⊢; omega)).mono ?_; rintro e w8 ⟨rfl, h8⟩
           clear b1 b2 b3 y1 y2 y3
           obtain ⟨b1, b2, b3⟩ := BB.out.below h8
           obtain ⟨c1, c2⟩ := c0.out.below h8 (by simp; omega)
           have XB8 := toHid (XB.out.below h8 (by simp)))
        | (go_at_call 22; refine (sameI_at (b := true) (XB8.out.is.alloc _) (Box.rowI (n := 1) [6 - (o : Int)] (Box.new w8 #[.int .i64 (6 - (o : Int))] 3) rfl rfl (by decide)) (by simp)).mono ?_; rintro e w9 ⟨rfl, h9⟩)
        | (go_at_call 15; refine (num_any _ _).mono ?_; rintro e w' ⟨rfl, hw'⟩; subst w'))
      go_ret
      exact ⟨rfl, ((((hB.out.on hq).onA _).on h8).onA _).on h9⟩

/-! ### The row's step -/
set_option maxRecDepth 100000 in
theorem lifted (os : Os) (started : os.Started) (H : Type) (enc : TypeId × Value → H) :
    ReturnsInHanded {} Try.checked os 6 .any (Rows.helloFullSpec.pre6 enc Try.prog Try.f6 Rows.helloFullRow.domain false) (Rows.helloFullSpec.post enc Try.prog Try.f6 false true false false) := by
  refine returnsInHanded_of_change_sized (C := Try.checked) ownK started (by kernel_rfl) Try.func6
    (ChangeSpec.witness6 (enc := enc) (C := Try.checked) false ⟨#[], #[.int .i64 0, .int .i64 0], []⟩ 8 (by kernel_rfl) (by kernel_rfl) (by kernel_rfl) (by kernel_rfl)) ?_
  intro W base args ds gs before hval0 hW hcnd hsz0 _
  have hsz : (DataW.weightsEach Try.prog (Try.f6.params.toList ++ Rows.helloFullSpec.plain.varTypes Try.prog) (ds ++ gs)).all (· ≤ reachBytes) = true := hsz0
  have hval : ∀ (j : Nat) t v, Try.f6.params[j]? = some t → args[j]? = some v → Value.okWide Try.prog W .any base t v := hval0
  have hW' := hW
  obtain ⟨p, q, hA0, hV, rfl, hfz, hnd⟩ := hW
  have hA : DataW.TrodAll enc Try.prog W 0 (fun _ => true) true Try.f6.params.toList args.toList ds p := hA0
  rw [Try.params6] at hA hval hsz
  obtain ⟨v0, vs0, d0, ds0, p0, q0, hargs, rfl, rfl, h0, r0⟩ := trodAll_cons hA
  obtain ⟨v1, vs1, d1, ds1, p1, q1, rfl, rfl, rfl, h1, r1⟩ := trodAll_cons r0
  obtain ⟨rfl, rfl, rfl⟩ := trodAll_nil r1
  obtain rfl : args = #[v0, v1] := by cases args; simp_all
  obtain ⟨rfl, rfl⟩ := trodVars_none hV
  clear r0 r1
  have k0 := h0
  have lt0 : ∀ x ∈ p0, x.block < W.heap.size := by obtain ⟨m, hm⟩ := k0; exact DataW.trod_lt m _ _ _ hm
  have k1 := h1
  have lt1 : ∀ x ∈ p1, x.block < W.heap.size := by obtain ⟨m, hm⟩ := k1; exact DataW.trod_lt m _ _ _ hm
  obtain ⟨a0, rfl, rfl, rfl, w0⟩ := open_int Try.underlying3 (hval 0 3 v0 rfl rfl) h0
  obtain ⟨a1, rfl, rfl, rfl, w1⟩ := open_int Try.underlying3 (hval 1 3 v1 rfl rfl) h1
  clear hA0 hval0
  refine (walk a0 a1 W w0 w1).mono fun e W' ⟨he, bel⟩ => ?_
  subst he
  exact ⟨_, rfl, _, _, _, [], _, [], hW', trodAll_mk1 (shut_bool Try.underlying4 _), (trodAll_cons_mk (Below.trod laidOut (by kernel_rfl) (of_decide_eq_true (by kernel_rfl)) k0 bel lt0) (trodAll_cons_mk (Below.trod laidOut (by kernel_rfl) (of_decide_eq_true (by kernel_rfl)) k1 bel lt1) trodAll_mk0)), rfl, bel.frame _, fun h => by cases h⟩

theorem over : Rows.helloFullRow.holds Try.pinned (OpenSpec.ofChange Rows.helloFullSpec) :=
  OpenClaim.holds_of_wide 6 Try.f6 rfl rfl rfl rfl rfl rfl rfl ⟨rfl, rfl, rfl, rfl, rfl⟩ rfl rfl rfl rfl rfl (by kernel_rfl) Try.func6 (by kernel_rfl)
    (of_decide_eq_true (by kernel_rfl)) (by unfold Func.isWrapper; first | (rw [if_pos (by decide +kernel)]; kernel_rfl) | (rw [if_neg (by decide +kernel)]; exact ⟨rfl, rfl⟩))
    (fun os started H enc _ => lifted os started H enc)

end Go.Proofs.Ytgopjjclobgekaa.helloFull

namespace Go.Proofs.Ytgopjjclobgekaa
/-- The statement, by its short name. -/
theorem helloFull_holds : Rows.HelloFullSaid := helloFull.over
#print axioms helloFull_holds
end Go.Proofs.Ytgopjjclobgekaa
