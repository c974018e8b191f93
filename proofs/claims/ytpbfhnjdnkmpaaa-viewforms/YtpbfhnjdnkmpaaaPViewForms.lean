
/-
  The statement ViewForms: each of seven kinds of views that may not be is refused by every call, at any number, and so is a key that is no place; the view that is given may be.
-/
import Derived.Test.YtpbfhnjdnkmpaaaRows
import Derived.Test.YtpbfhnjdnkmpaaaOpen
import Derived.Test.YtpbfhnjdnkmpaaaViewLaw
import Derived.Test.YtpbfhnjdnkmpaaaRingRef
import Derived.Test.YtpbfhnjdnkmpaaaOld
import Derived.Deep.DeepCutAuto
import Derived.Deep.CutRange
import Derived.Deep.CutBlock
import Derived.Deep.RegionHeld3
namespace Go.Proofs.Ytpbfhnjdnkmpaaa.viewForms
open Go.ChangeShapes Go.WideShapes Go.ChangeAt Go.RowKit
set_option linter.unusedVariables false

/-! ### The walk -/
theorem bad_missed {d : Int} (h : 0 ≤ d) : vwB 100 [⟨101, 2⟩, ⟨200, 2 + (1 + d)⟩, ⟨90, 1⟩] gvQ = false := by
  rw [Bool.eq_false_iff]
  intro e
  have := miB_yes (peB_iff.1 ((psB_iff.1 (vwB_iff.1 e).1).2.1 ⟨200, 2 + (1 + d)⟩ (by simp))).2.2
  dsimp only at this
  omega
theorem bad_id {d : Int} (h : 0 ≤ d) : vwB (255 + (1 + d)) gvP gvQ = false := by
  rw [Bool.eq_false_iff]
  intro e
  have := plB_yes (vw_base e)
  omega
/-- What the switch leaves: a view in a variable, which may not be. -/
def BadV (b lo : Nat) (w wx : World) : Prop := ∃ (i : Int) (p q : Value) (ps : List Pe) (is : List Int), Box wx b #[.int .i64 i, p, q] ∧ VwAt 0 wx.heap.size wx p q ps is ∧ vwB i ps is = false ∧ Below lo w wx

theorem w64i {n : Int} (h0 : -2000 ≤ n) (h1 : n ≤ 2000) : IntKind.i64.wrap n = n := by
  rw [IntKind.wrap_i64]
  omega
theorem vw_allocS {lo : Nat} {w : World} {p q : Value} {ps : List Pe} {is : List Int} (h : VwAt lo w.heap.size w p q ps is) (o : Obj) : VwAt lo (w.alloc o).heap.size (w.alloc o) p q ps is := (h.alloc o).wide (Nat.le_refl _) (by simp)

section bad
variable {w2 wr : World} (G1 : Box w2 (wr.heap.size + 1) #[.int .i64 101, .int .i64 2, .int .i64 200, .int .i64 0, .int .i64 90, .int .i64 1]) (G2 : Box w2 (wr.heap.size + 1 + 1) #[.int .i64 7, .int .i64 150]) (h2 : Below wr.heap.size wr w2)
include G1 G2 h2
theorem bad_same {i : Int} {t : TypeId} (hb : vwB i gvP gvQ = false) : BadV w2.heap.size wr.heap.size wr (w2.alloc (.cells #[.int .i64 i, .slice (some ⟨wr.heap.size + 1, 0, none⟩) 3 3, .slice (some ⟨wr.heap.size + 1 + 1, 0, none⟩) 2 2] t)) :=
  ⟨i, _, _, gvP, gvQ, Box.new w2 _ _, ((gv_at G1 G2).alloc _).wide (Nat.zero_le _) (by simp), hb, h2.onA _⟩
theorem bad_pass {t t' : TypeId} {n : Nat} {cs : Array Value} (is : List Int) (hc : cs.toList = is.map (Value.int .i64)) (hn : n = is.length) (hm : n ≤ maxLen) (hb : vwB 100 gvP is = false) :
    BadV w2.heap.size wr.heap.size wr ((w2.alloc (.cells #[.int .i64 100, .slice (some ⟨wr.heap.size + 1, 0, none⟩) 3 3, .slice (some ⟨w2.heap.size + 1, 0, none⟩) n n] t)).alloc (.cells cs t')) :=
  ⟨100, _, _, gvP, is, (Box.new w2 _ _).alloc _, ⟨(((gv_at G1 G2).ps.alloc _ PeV_len).alloc _ PeV_len).wide (Nat.zero_le _) (by simp; omega), (Box.rowI is (Box.new1 w2 _ cs t') hc hn hm).wide (Nat.zero_le _) (by simp)⟩, hb, (h2.onA _).onA _⟩
theorem bad_peer {d : Int} {t : TypeId} (hd : 0 ≤ d) :
    BadV w2.heap.size wr.heap.size wr ((w2.setCell ⟨wr.heap.size + 1, 3, none⟩ (.int .i64 (2 + (1 + d)))).alloc (.cells #[.int .i64 100, .slice (some ⟨wr.heap.size + 1, 0, none⟩) 3 3, .slice (some ⟨wr.heap.size + 1 + 1, 0, none⟩) 2 2] t)) := by
  have K1 := G1.setS (ys := #[.int .i64 101, .int .i64 2, .int .i64 200, .int .i64 (2 + (1 + d)), .int .i64 90, .int .i64 1]) 3 (.int .i64 (2 + (1 + d))) (by simp) (by simp)
  have K2 := G2.setO (wr.heap.size + 1) 3 (.int .i64 (2 + (1 + d))) (by omega)
  have e : (w2.setCell ⟨wr.heap.size + 1, 3, none⟩ (.int .i64 (2 + (1 + d)))).heap.size = w2.heap.size := World.size_setCell _ _ _
  refine ⟨100, _, _, [⟨101, 2⟩, ⟨200, 2 + (1 + d)⟩, ⟨90, 1⟩], gvQ, e ▸ Box.new _ _ _, ⟨(((Box.rowP [⟨101, 2⟩, ⟨200, 2 + (1 + d)⟩, ⟨90, 1⟩] K1 rfl rfl (by simp [maxLen])).alloc _ PeV_len).wide (Nat.zero_le _) ?_), (((Box.rowI gvQ K2 rfl rfl (by decide)).alloc _).wide (Nat.zero_le _) ?_)⟩, bad_missed hd, (h2.setCell (p := ⟨wr.heap.size + 1, 3, none⟩) (Nat.le_succ _) _).onA _⟩
  · have := K1.1
    simp only [World.size_alloc]
    omega
  · have := K2.1
    simp only [World.size_alloc]
    omega
theorem bad_many {lo : Nat} {t : TypeId} {q : Value} {is : List Int} (hq : RowI lo wr.heap.size wr q is) (hb : vwB 100 gvP is = false) :
    BadV w2.heap.size wr.heap.size wr (w2.alloc (.cells #[.int .i64 100, .slice (some ⟨wr.heap.size + 1, 0, none⟩) 3 3, q] t)) :=
  ⟨100, _, _, gvP, is, Box.new w2 _ _, ⟨((gv_at G1 G2).ps.alloc _ PeV_len).wide (Nat.zero_le _) (by simp), ((hq.below h2 (Nat.le_refl _)).alloc _).wide (Nat.zero_le _) (by have := h2.size; simp; omega)⟩, hb, h2.onA _⟩
end bad

def fullV (m : Nat) : List Int := (List.range m).map fun (i : Nat) => 2 * (i : Int)
theorem fullV_next (m : Nat) : fullV (m + 1) = fullV m ++ [2 * (m : Int)] := by simp [fullV, List.range_succ]
theorem fullV_len (m : Nat) : (fullV m).length = m := by simp [fullV]

set_option maxRecDepth 20000 in
set_option maxHeartbeats 8000000 in
theorem walk (a0 : Int) (a1 : Int) (w : World) (w0 : (Lit.int .i64 a0).wf = true) (w1 : (Lit.int .i64 a1).wf = true) :
    Calls Try.prog 4 #[.int .i64 a0, .int .i64 a1] w fun e w' => e = .returned (.bool true) ∧ Below w.heap.size w w' := by
  have ed : bits .and .i64 a1 1023 = a1 % 1024 := and1023 a1
  have e1 : bits .and .i64 a0 1 = a0 % 2 := and1 a0
  obtain ⟨d, hd⟩ : ∃ x, x = a1 % 1024 := ⟨_, rfl⟩
  have d0 : 0 ≤ d := by omega
  have d1 : d < 1024 := by omega
  rw [← hd] at ed
  obtain ⟨r2, hr1⟩ : ∃ r : Nat, (r : Int) = a0 % 2 := ⟨(a0 % 2).toNat, by omega⟩
  have hr2 : r2 < 2 := by omega
  rw [← hr1] at e1
  obtain ⟨r7, h7⟩ : ∃ r : Nat, r = (a0 % 18446744073709551616).toNat % 7 := ⟨_, rfl⟩
  have e7 := toHid (rem_u64 a0 7 r7 h7)
  have hr7 : r7 < 7 := by omega
  clear hd hr1 h7 w0 w1
  go_enter Try.func4, Try.ntmps4
  go_wp2_with (first
    | (go_at_call 19; refine (awake9_any _).mono ?_; rintro e w1 ⟨rfl, h1⟩))
  go_loopw [6, 7] (fun o i wr => ∃ m : Nat, m ≤ 16 ∧ i = .int .i64 m ∧ Hid (wr.ownsRow w1.heap.size 3 1 o m ((fullV m).map (Value.int .i64))) ∧ Below w1.heap.size w1 wr) (fun _ i _ => 16 - (intOf i).toNat)
  case atStart => exact ⟨0, Nat.zero_le _, rfl, toHid ⟨rfl, .inl ⟨rfl, rfl⟩⟩, Below.refl _ _⟩
  case round =>
    obtain ⟨m, hm, rfl, own, hbr⟩ := hrel
    by_cases hlt : m < 16
    · have hlt' : (m : Int) < 16 := by omega
      have hsz := hbr.size
      go_wp2_with (at_builtin; refine app_ints rfl (.tmp 26) (.tmp 29) rfl w1.heap.size _ m (fullV m) rfl (own.out.alloc _) ⟨wr.heap.size, 0, none⟩ 1 1 [2 * (m : Int)] rfl rfl (fun j hj => ?_) (by omega) (by simp; omega) ?_; · (match j, hj with | 0, _ => simp [Addr.add]))
      intro v' w3 hown' hgr hbel'
      have R : w3.ownsRow w1.heap.size 3 1 v' (m + 1) ((fullV (m + 1)).map (Value.int .i64)) ∧ Below w1.heap.size w1 w3 :=
        ⟨by rw [fullV_next]; simpa using hown', (hbr.onA _).trans hbel'⟩
      clear hown' hgr hbel' own
      go_wp2
      go_roundw
      case rel => exact ⟨m + 1, by omega, by go_num, toHid R.1, R.2⟩
      case measure => simp [intOf]; omega
    · obtain rfl : m = 16 := by omega
      have M1 := toHid (RowI.of_owns own.out)
      obtain ⟨am, cm, em, -⟩ := M1.out
      rw [fullV_len] at em
      subst em
      clear own hm hlt
      have e7' : (IntKind.u64.wrap a0).tmod 7 = (r7 : Int) := e7.out
      go_upto_block 2 with (first
        | (go_at_call 20; refine (given_any _).mono ?_; rintro e w2 ⟨rfl, G1, G2, h2⟩))
      clear e7 e7'
      go_cut [] from 35 to 64 (fun wx => BadV w2.heap.size wr.heap.size wr wx)
      case first =>
        obtain ⟨g1, g2, g3⟩ := id G1
        match r7, hr7 with
        | 0, _ =>
          go_wp2
          go_meet
          exact bad_same G1 G2 h2 (by decide +kernel)
        | 1, _ =>
          go_wp2
          go_meet
          exact bad_pass G1 G2 h2 [100] rfl rfl (by decide) (by decide +kernel)
        | 2, _ =>
          go_wp2
          go_meet
          exact bad_pass G1 G2 h2 [90] rfl rfl (by decide) (by decide +kernel)
        | 3, _ =>
          go_wp2
          go_meet
          exact bad_pass G1 G2 h2 [150, 7] rfl rfl (by decide) (by decide +kernel)
        | 4, _ =>
          go_wp2
          go_meet
          exact bad_peer G1 G2 h2 d0
        | 5, _ =>
          go_wp2
          go_meet
          exact bad_many G1 G2 h2 M1.out (by decide +kernel)
        | 6, _ =>
          go_wp2
          go_meet
          exact bad_same G1 G2 h2 (bad_id d0)
      case rest =>
        obtain ⟨i, p, q, ps, is, BX, VX, hbad, hB⟩ := hcut
        clear G1 G2 h2 M1 hr7
        obtain ⟨pa, pc, qa, qc, ep, eq, -, -⟩ := VX.shape
        subst ep eq
        have hE : vwE i ps is = 900 := by simp [vwE, hbad]
        have hS : sucV i ps is = 0 := by simp [sucV, hbad]
        have hP : preV i ps is = 0 := by simp [preV, hbad]
        have hV : owV i ps is 5 = 0 := by simp [owV, hbad]
        have hO : owE i ps is 5 = 900 := by simp [owE, hbad]
        have VA := toHid VX
        have HB := toHid BX
        obtain ⟨y, hy, hyb⟩ : ∃ y : Int, ([.int .i64 (-(1 + d)), .int .i64 (255 + (1 + d))] : List Value)[r2]'(by simpa using hr2) = .int .i64 y ∧ Hid (plB y = false) := by
          match r2, hr2 with
          | 0, _ => exact ⟨_, rfl, toHid (by simp [plB]; omega)⟩
          | 1, _ => exact ⟨_, rfl, toHid (by simp [plB]; omega)⟩
        have hk := Below.refl wc.heap.size wc
        obtain ⟨b1, b2, b3⟩ := BX
        clear VX
        have k2 : (r2 : Int) < 2 := by omega
        have t1 := trivial
        replace hE := toHid hE
        replace hS := toHid hS
        replace hP := toHid hP
        replace hV := toHid hV
        replace hO := toHid hO
        replace hbad := toHid hbad
        have hBB := toHid ((h1.on hbr).on hB)
        clear hB hbr h1
        generalize w2.heap.size = bx at *
        go_upto_region 27 with (first
          | (go_at_call 9; refine (vSucc_at VA.out (Nat.le_refl _) hS.out hE.out).mono ?_; rintro e w3 ⟨rfl, h3⟩
             replace hk := hk.on h3
             clear h3 b1 b2 b3
             obtain ⟨b1, b2, b3⟩ := HB.out.below hk)
          | (go_at_call 11; refine (vPred_at (VA.out.below hk (Nat.le_refl _)) hk.size hP.out hE.out).mono ?_; rintro e w4 ⟨rfl, h4⟩
             replace hk := hk.on h4
             clear h4 b1 b2 b3
             obtain ⟨b1, b2, b3⟩ := HB.out.below hk)
          | (go_at_call 13; clear t1; refine (vOwner_at (VA.out.below hk (Nat.le_refl _)) hk.size hV.out hO.out).mono ?_; rintro e w5 ⟨rfl, h5⟩
             replace hk := hk.on h5
             clear h5 b1 b2 b3
             obtain ⟨b1, b2, b3⟩ := HB.out.below hk))
        have hV9 : Hid (owV 100 gvP gvQ y = 0) := toHid (by simp [owV, hyb.out])
        have hE9 : Hid (owE 100 gvP gvQ y = 900) := toHid (by simp [owE, hyb.out])
        have H9 := toHid (fun (W : World) (p q : Value) (h : VwAt 0 W.heap.size W p q gvP gvQ) => vOwner_at (i := 100) (k := y) h (Nat.le_refl _) hV9.out hE9.out)
        have B5 := toHid (HB.out.below hk)
        have VA5 := toHid ((VA.out.below hk (Nat.le_refl _)).wide (Nat.le_refl _) hk.size)
        have hB5 := toHid (hBB.out.on hk)
        clear b1 b2 b3 hk hyb hE hS hP hV hO HB VA hBB
        go_cut [15, 16] from 80 to 93 (fun v15 v16 wx => v15 = .int .i64 0 ∧ v16 = .int .i64 900 ∧ Below w5.heap.size w5 wx)
        case first =>
          have y5 := w64i (n := -(1 + d)) (by omega) (by omega)
          have y6 := w64i (n := 255 + (1 + d)) (by omega) (by omega)
          go_region_with (first
            | (go_at_call 20; refine (given_any _).mono ?_; rintro e w6 ⟨rfl, G1, G2, h6⟩
               have V6 := toHid ((gv_at G1 G2).wide (Nat.zero_le _) (Nat.le_refl _))
               have hc6 := (bcell h6).1
               replace h6 := toHid h6
               clear G1 G2)
            | (go_at_call 13; refine (H9.out _ _ _ ?_).mono ?_
               · first
                   | exact V6.out
                   | simpa using V6.out
                   | exact vw_allocS V6.out _
               rintro e w7 ⟨rfl, h7⟩; replace h7 := toHid h7))
          all_goals (go_wp2_with fail; go_meet)
          all_goals exact ⟨rfl, rfl, by first | exact ((((Below.refl _ w5).onD 1).on h6.out).onA _).on h7.out | exact ((((Below.refl _ w5).onA _).onD 1).on h6.out).on h7.out⟩
        case rest =>
          obtain ⟨rfl, rfl, hx⟩ := hcut
          clear H9 hV9 hE9 hy k2 ed e1
          have t1 := trivial
          obtain ⟨b1, b2, b3⟩ := B5.out.below hx
          go_wp2_with (first
            | (go_at_call 20; refine (given_any _).mono ?_; rintro e w8 ⟨rfl, G1, G2, h8⟩
               have V8 := toHid (gv_at G1 G2)
               replace hx := hx.on h8
               clear G1 G2 h8 b1 b2 b3)
            | (go_at_call 16; clear t1; refine (vMay_is (r := true) V8.out (Nat.le_refl _) (by decide +kernel)).mono ?_; rintro e w9 ⟨rfl, h9⟩
               replace hx := hx.on h9
               clear h9 V8
               obtain ⟨b1, b2, b3⟩ := B5.out.below hx)
            | (go_at_call 16; refine (vMay_is (VA5.out.below hx (Nat.le_refl _)) hx.size hbad.out).mono ?_; rintro e wa ⟨rfl, ha⟩)
            | (go_at_call 15; refine (num_any _ _).mono ?_; rintro e w' ⟨rfl, hw'⟩; subst w')
            | (go_at_call 21; refine (rPlaceMay_any _ _).mono ?_; rintro e w' ⟨rfl, hw'⟩; subst w'))
          go_ret
          exact ⟨rfl, (hB5.out.on hx).on ha⟩

/-! ### The row's step -/
set_option maxRecDepth 100000 in
theorem lifted (os : Os) (started : os.Started) (H : Type) (enc : TypeId × Value → H) :
    ReturnsInHanded {} Try.checked os 4 .any (Rows.viewFormsSpec.pre6 enc Try.prog Try.f4 Rows.viewFormsRow.domain false) (Rows.viewFormsSpec.post enc Try.prog Try.f4 false true false false) := by
  refine returnsInHanded_of_change_sized (C := Try.checked) ownK started (by kernel_rfl) Try.func4
    (ChangeSpec.witness6 (enc := enc) (C := Try.checked) false ⟨#[], #[.int .i64 0, .int .i64 0], []⟩ 8 (by kernel_rfl) (by kernel_rfl) (by kernel_rfl) (by kernel_rfl)) ?_
  intro W base args ds gs before hval0 hW hcnd hsz0 _
  have hsz : (DataW.weightsEach Try.prog (Try.f4.params.toList ++ Rows.viewFormsSpec.plain.varTypes Try.prog) (ds ++ gs)).all (· ≤ reachBytes) = true := hsz0
  have hval : ∀ (j : Nat) t v, Try.f4.params[j]? = some t → args[j]? = some v → Value.okWide Try.prog W .any base t v := hval0
  have hW' := hW
  obtain ⟨p, q, hA0, hV, rfl, hfz, hnd⟩ := hW
  have hA : DataW.TrodAll enc Try.prog W 0 (fun _ => true) true Try.f4.params.toList args.toList ds p := hA0
  rw [Try.params4] at hA hval hsz
  obtain ⟨v0, vs0, d0, ds0, p0, q0, hargs, rfl, rfl, h0, r0⟩ := trodAll_cons hA
  obtain ⟨v1, vs1, d1, ds1, p1, q1, rfl, rfl, rfl, h1, r1⟩ := trodAll_cons r0
  obtain ⟨rfl, rfl, rfl⟩ := trodAll_nil r1
  obtain rfl : args = #[v0, v1] := by cases args; simp_all
  obtain ⟨rfl, rfl⟩ := trodVars_none hV
  clear r0 r1
  have k0 := h0
  have lt0 : ∀ x ∈ p0, x.block < W.heap.size := by obtain ⟨m, hm⟩ := k0; exact DataW.trod_lt m _ _ _ hm
  have k1 := h1
  have lt1 : ∀ x ∈ p1, x.block < W.heap.size := by obtain ⟨m, hm⟩ := k1; exact DataW.trod_lt m _ _ _ hm
  obtain ⟨a0, rfl, rfl, rfl, w0⟩ := open_int Try.underlying3 (hval 0 3 v0 rfl rfl) h0
  obtain ⟨a1, rfl, rfl, rfl, w1⟩ := open_int Try.underlying3 (hval 1 3 v1 rfl rfl) h1
  clear hA0 hval0
  refine (walk a0 a1 W w0 w1).mono fun e W' ⟨he, bel⟩ => ?_
  subst he
  exact ⟨_, rfl, _, _, _, [], _, [], hW', trodAll_mk1 (shut_bool Try.underlying4 _), (trodAll_cons_mk (Below.trod laidOut (by kernel_rfl) (of_decide_eq_true (by kernel_rfl)) k0 bel lt0) (trodAll_cons_mk (Below.trod laidOut (by kernel_rfl) (of_decide_eq_true (by kernel_rfl)) k1 bel lt1) trodAll_mk0)), rfl, bel.frame _, fun h => by cases h⟩

theorem over : Rows.viewFormsRow.holds Try.pinned (OpenSpec.ofChange Rows.viewFormsSpec) :=
  OpenClaim.holds_of_wide 4 Try.f4 rfl rfl rfl rfl rfl rfl rfl ⟨rfl, rfl, rfl, rfl, rfl⟩ rfl rfl rfl rfl rfl (by kernel_rfl) Try.func4 (by kernel_rfl)
    (of_decide_eq_true (by kernel_rfl)) (by unfold Func.isWrapper; first | (rw [if_pos (by decide +kernel)]; kernel_rfl) | (rw [if_neg (by decide +kernel)]; exact ⟨rfl, rfl⟩))
    (fun os started H enc _ => lifted os started H enc)

end Go.Proofs.Ytpbfhnjdnkmpaaa.viewForms

namespace Go.Proofs.Ytpbfhnjdnkmpaaa
/-- The statement, by its short name. -/
theorem viewForms_holds : Rows.ViewFormsSaid := viewForms.over
#print axioms viewForms_holds
end Go.Proofs.Ytpbfhnjdnkmpaaa
