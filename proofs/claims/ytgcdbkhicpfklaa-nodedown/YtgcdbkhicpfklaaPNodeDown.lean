
/-
  The statement NodeDown: at any numbers, a node that is down and is nothing but its Id may be; with a peer, a lost one, an item or a note it may not; and that one may be once it is up.
-/
import Derived.Test.YtgcdbkhicpfklaaRows
import Derived.Test.YtgcdbkhicpfklaaOpen
import Derived.Test.YtgcdbkhicpfklaaNodeLaw
import Derived.Deep.DeepCutAuto
import Derived.Deep.CutRange
import Derived.Deep.CutBlock
namespace Go.Proofs.Ytgcdbkhicpfklaa.nodeDown
open Go.ChangeShapes Go.WideShapes Go.ChangeAt Go.RowKit
set_option linter.unusedVariables false

/-! ### The walk -/
/-- What the switch leaves: the node as it was in block b, one with one thing more in the next block. -/
def DownN (b k lo : Nat) (w wx : World) : Prop := ∃ (p q r s : Value) (ps : List Pe) (is : List Int) (ts : List It) (ls : List Te), Box wx b #[.bool false, .int .i64 k, .slice none 0 0, .slice none 0 0, .slice none 0 0, .slice none 0 0] ∧ Box wx (b + 1) #[.bool false, .int .i64 k, p, q, r, s] ∧
  NdAt 0 wx.heap.size wx p q r s ps is ts ls ∧ ndB ⟨false, k, ps, is, ts, ls⟩ = false ∧ ndB ⟨true, k, ps, is, ts, ls⟩ = true ∧ Below lo w wx

def nextK (k : Nat) : Int := ((k : Int) + 1) % 256
theorem nextK_pl (k : Nat) : plB (nextK k) = true := plB_mk (by unfold nextK; omega) (by unfold nextK; omega)
theorem down_id {k : Nat} (hk : k < 256) : ndB ⟨false, (k : Int), [], [], [], []⟩ = true := by
  simp [ndB, plB_mk (a := (k : Int)) (by omega) (by omega)]
theorem down_more {k : Int} {ps : List Pe} {is : List Int} {ts : List It} {ls : List Te} (h : ps.length + is.length + ts.length + ls.length = 1) : ndB ⟨false, k, ps, is, ts, ls⟩ = false := by
  simp [ndB, h]
theorem up_all : ∀ k : Nat, k < 256 → ndB ⟨true, (k : Int), [⟨nextK k, 0⟩], [], [], []⟩ = true ∧ ndB ⟨true, (k : Int), [], [nextK k], [], []⟩ = true ∧ ndB ⟨true, (k : Int), [], [], [⟨3, 1, 1, 1, false⟩], []⟩ = true ∧ ndB ⟨true, (k : Int), [], [], [], [⟨0, false, 0⟩]⟩ = true := by
  decide +kernel

set_option maxRecDepth 20000 in
set_option maxHeartbeats 8000000 in
theorem walk (a0 : Int) (a1 : Int) (w : World) (w0 : (Lit.int .i64 a0).wf = true) (w1 : (Lit.int .i64 a1).wf = true) :
    Calls Try.prog 6 #[.int .i64 a0, .int .i64 a1] w fun e w' => e = .returned (.bool true) ∧ Below w.heap.size w w' := by
  have e0 : bits .and .i64 a0 255 = a0 % 256 := and255 a0
  have e1 : bits .and .i64 a1 3 = a1 % 4 := and3 a1
  obtain ⟨k, hk⟩ : ∃ r : Nat, (r : Int) = a0 % 256 := ⟨(a0 % 256).toNat, by omega⟩
  have hk2 : k < 256 := by omega
  rw [← hk] at e0
  obtain ⟨r4, hr⟩ : ∃ r : Nat, (r : Int) = a1 % 4 := ⟨(a1 % 4).toNat, by omega⟩
  have hr4 : r4 < 4 := by omega
  rw [← hr] at e1
  clear hk hr w0 w1
  have en : bits .and .i64 ((k : Int) + 1) 255 = nextK k := and255 _
  have hU := toHid (up_all k hk2)
  go_enter Try.func6, Try.ntmps6
  go_upto_block 0 with (first
    | (go_at_call 17; refine (awake16_any _).mono ?_; rintro e w1 ⟨rfl, h1⟩))
  go_cut [] from 19 to 43 (fun wx => DownN w1.heap.size k w1.heap.size w1 wx)
  case first =>
    match r4, hr4 with
    | 0, _ =>
      go_wp2
      go_meet
      exact ⟨_, _, _, _, [⟨nextK k, 0⟩], [], [], [], ((Box.new w1 _ _).alloc _).alloc _, (Box.new1 w1 _ _ _).alloc _,
        NdAt.wide ⟨⟨Box.rowP [⟨nextK k, 0⟩] (Box.new2 w1 _ _ _ _) rfl rfl (by decide), RowI.nil0⟩, RowC.nil0, RowC.nil0⟩ (Nat.zero_le _) (by simp), down_more rfl, hU.out.1, (((Below.refl _ w1).onA _).onA _).onA _⟩
    | 1, _ =>
      go_wp2
      go_meet
      exact ⟨_, _, _, _, [], [nextK k], [], [], ((Box.new w1 _ _).alloc _).alloc _, (Box.new1 w1 _ _ _).alloc _,
        NdAt.wide ⟨⟨RowC.nil0, Box.rowI [nextK k] (Box.new2 w1 _ _ _ _) rfl rfl (by decide)⟩, RowC.nil0, RowC.nil0⟩ (Nat.zero_le _) (by simp), down_more rfl, hU.out.2.1, (((Below.refl _ w1).onA _).onA _).onA _⟩
    | 2, _ =>
      go_wp2_with (first
        | (go_at_call 19; refine (it_any _ _ _).mono ?_; rintro e w2 ⟨rfl, h2⟩
           have BX := ((Box.new w1 _ _).alloc _).below h2
           have BY := (Box.new1 w1 _ _ _).below h2
           have hk := (((Below.refl _ w1).onA _).onA _).on h2
           clear h2
           obtain ⟨b1, b2, b3⟩ := id BY))
      go_meet
      exact ⟨_, _, _, _, [], [], [⟨3, 1, 1, 1, false⟩], [], (BX.setO (w1.heap.size + 1) 4 _ (by omega)).alloc _,
        (BY.setS (ys := #[.bool false, .int .i64 k, .slice none 0 0, .slice none 0 0, .slice (some ⟨w2.heap.size, 0, none⟩) 1 1, .slice none 0 0]) 4 _ (by simp) (by simp)).alloc _,
        NdAt.wide ⟨⟨RowC.nil0, RowI.nil0⟩, Box.rowT [⟨3, 1, 1, 1, false⟩] (Box.newAt _ _ (World.size_setCell _ _ _).symm) rfl rfl (by decide), RowC.nil0⟩ (Nat.zero_le _) (by simp), down_more rfl, hU.out.2.2.1,
        (hk.setCell (p := ⟨w1.heap.size + 1, 4, none⟩) (Nat.le_succ _) _).onA _⟩
    | 3, _ =>
      go_wp2
      go_meet
      exact ⟨_, _, _, _, [], [], [], [⟨0, false, 0⟩], ((Box.new w1 _ _).alloc _).alloc _, (Box.new1 w1 _ _ _).alloc _,
        NdAt.wide ⟨⟨RowC.nil0, RowI.nil0⟩, RowC.nil0, Box.rowE [⟨0, false, 0⟩] (Box.new2 w1 _ _ _ _) rfl rfl (by decide)⟩ (Nat.zero_le _) (by simp), down_more rfl, hU.out.2.2.2, (((Below.refl _ w1).onA _).onA _).onA _⟩
  case rest =>
    obtain ⟨p, q, r, s, ps, is, ts, ls, BX, BY, N, f1, f2, hB⟩ := hcut
    have f0 := toHid (down_id hk2)
    replace f1 := toHid f1
    replace f2 := toHid f2
    obtain ⟨a, c, a', c', a2, c2, a3, c3, rfl, rfl, rfl, rfl⟩ := N.shape
    have HX := toHid (fun o : Obj => BX.alloc o)
    have HY := toHid (fun o : Obj => BY.alloc o)
    have HZ := toHid (fun (cs : Array Value) (t : TypeId) => Box.new wc cs t)
    have HN := toHid (fun o : Obj => N.alloc o)
    have zN : Hid (∀ o : Obj, wc.heap.size ≤ (wc.alloc o).heap.size) := toHid (fun o => by simp)
    obtain ⟨b1, b2, b3⟩ := BX
    obtain ⟨d1, d2, d3⟩ := BY
    have t1 := trivial
    have t2 := trivial
    replace hB := toHid hB
    replace h1 := toHid h1
    clear hU en e0 e1 hr4 N
    go_wp2_with (first
      | (go_at_call 13; clear t1; refine (nMay_is (lo := 0) (hi := 0) NdAt.nil0 (Nat.zero_le _) f0.out).mono ?_; rintro e w3 ⟨rfl, h3⟩
         clear b1 b2 b3 d1 d2 d3
         obtain ⟨b1, b2, b3⟩ := (HY.out _).below h3
         obtain ⟨d1, d2, d3⟩ := (HZ.out _ _).below h3
         have k3 := toHid h3
         have z3 := h3.size
         clear h3)
      | (go_at_call 13; clear t2; refine (nMay_is ((HN.out _).below k3.out (zN.out _)) (Nat.le_trans (zN.out _) z3) f1.out).mono ?_; rintro e w4 ⟨rfl, h4⟩
         have k4 := toHid (k3.out.on h4)
         have z4 := k4.out.size
         clear b1 b2 b3 d1 d2 d3 k3 h4
         obtain ⟨b1, b2, b3⟩ := (HZ.out _ _).below k4.out)
      | (go_at_call 13; refine (nMay_is ((HN.out _).below k4.out (zN.out _)) (Nat.le_trans (zN.out _) z4) f2.out).mono ?_; rintro e w5 ⟨rfl, h5⟩
         have k5 := toHid (k4.out.on h5)
         clear k4 h5 b1 b2 b3)
      | (go_at_call 12; refine (num_any _ _).mono ?_; rintro e w' ⟨rfl, hw'⟩; subst w')
      | (go_at_call 18; refine (node100_any _).mono ?_; rintro e w6 ⟨x, y, z, rfl, N6, h6⟩
         clear N6)
      | (rw [node_items _ _ _ _ _ _ _ ⟨_, _, _, rfl⟩]))
    go_ret
    exact ⟨rfl, h1.out.on ((((hB.out).onA _).on k5.out).on h6)⟩

/-! ### The row's step -/
set_option maxRecDepth 100000 in
theorem lifted (os : Os) (started : os.Started) (H : Type) (enc : TypeId × Value → H) :
    ReturnsInHanded {} Try.checked os 6 .any (Rows.nodeDownSpec.pre6 enc Try.prog Try.f6 Rows.nodeDownRow.domain false) (Rows.nodeDownSpec.post enc Try.prog Try.f6 false true false false) := by
  refine returnsInHanded_of_change_sized (C := Try.checked) ownK started (by kernel_rfl) Try.func6
    (ChangeSpec.witness6 (enc := enc) (C := Try.checked) false ⟨#[], #[.int .i64 0, .int .i64 0], []⟩ 8 (by kernel_rfl) (by kernel_rfl) (by kernel_rfl) (by kernel_rfl)) ?_
  intro W base args ds gs before hval0 hW hcnd hsz0 _
  have hsz : (DataW.weightsEach Try.prog (Try.f6.params.toList ++ Rows.nodeDownSpec.plain.varTypes Try.prog) (ds ++ gs)).all (· ≤ reachBytes) = true := hsz0
  have hval : ∀ (j : Nat) t v, Try.f6.params[j]? = some t → args[j]? = some v → Value.okWide Try.prog W .any base t v := hval0
  have hW' := hW
  obtain ⟨p, q, hA0, hV, rfl, hfz, hnd⟩ := hW
  have hA : DataW.TrodAll enc Try.prog W 0 (fun _ => true) true Try.f6.params.toList args.toList ds p := hA0
  rw [Try.params6] at hA hval hsz
  obtain ⟨v0, vs0, d0, ds0, p0, q0, hargs, rfl, rfl, h0, r0⟩ := trodAll_cons hA
  obtain ⟨v1, vs1, d1, ds1, p1, q1, rfl, rfl, rfl, h1, r1⟩ := trodAll_cons r0
  obtain ⟨rfl, rfl, rfl⟩ := trodAll_nil r1
  obtain rfl : args = #[v0, v1] := by cases args; simp_all
  obtain ⟨rfl, rfl⟩ := trodVars_none hV
  clear r0 r1
  have k0 := h0
  have lt0 : ∀ x ∈ p0, x.block < W.heap.size := by obtain ⟨m, hm⟩ := k0; exact DataW.trod_lt m _ _ _ hm
  have k1 := h1
  have lt1 : ∀ x ∈ p1, x.block < W.heap.size := by obtain ⟨m, hm⟩ := k1; exact DataW.trod_lt m _ _ _ hm
  obtain ⟨a0, rfl, rfl, rfl, w0⟩ := open_int Try.underlying3 (hval 0 3 v0 rfl rfl) h0
  obtain ⟨a1, rfl, rfl, rfl, w1⟩ := open_int Try.underlying3 (hval 1 3 v1 rfl rfl) h1
  clear hA0 hval0
  refine (walk a0 a1 W w0 w1).mono fun e W' ⟨he, bel⟩ => ?_
  subst he
  exact ⟨_, rfl, _, _, _, [], _, [], hW', trodAll_mk1 (shut_bool Try.underlying4 _), (trodAll_cons_mk (Below.trod laidOut (by kernel_rfl) (of_decide_eq_true (by kernel_rfl)) k0 bel lt0) (trodAll_cons_mk (Below.trod laidOut (by kernel_rfl) (of_decide_eq_true (by kernel_rfl)) k1 bel lt1) trodAll_mk0)), rfl, bel.frame _, fun h => by cases h⟩

theorem over : Rows.nodeDownRow.holds Try.pinned (OpenSpec.ofChange Rows.nodeDownSpec) :=
  OpenClaim.holds_of_wide 6 Try.f6 rfl rfl rfl rfl rfl rfl rfl ⟨rfl, rfl, rfl, rfl, rfl⟩ rfl rfl rfl rfl rfl (by kernel_rfl) Try.func6 (by kernel_rfl)
    (of_decide_eq_true (by kernel_rfl)) (by unfold Func.isWrapper; first | (rw [if_pos (by decide +kernel)]; kernel_rfl) | (rw [if_neg (by decide +kernel)]; exact ⟨rfl, rfl⟩))
    (fun os started H enc _ => lifted os started H enc)

end Go.Proofs.Ytgcdbkhicpfklaa.nodeDown

namespace Go.Proofs.Ytgcdbkhicpfklaa
/-- The statement, by its short name. -/
theorem nodeDown_holds : Rows.NodeDownSaid := nodeDown.over
#print axioms nodeDown_holds
end Go.Proofs.Ytgcdbkhicpfklaa
