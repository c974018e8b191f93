
/-
  The statement QueueForms, for all numbers: what the document says of queues, messages and places that may not be, and of a full queue.
-/
import Derived.Test.YtnnhnidefjhakaaRows
import Derived.Test.YtnnhnidefjhakaaOpen
import Derived.Test.YtnnhnidefjhakaaQueueAw
import Derived.Test.YtnnhnidefjhakaaAnyInv
import Derived.Test.YtnnhnidefjhakaaMsgsFill
import Derived.Deep.DeepCutAuto
import Derived.Deep.CutRange
import Derived.Deep.CutBlock
namespace Go.Proofs.Ytnnhnidefjhakaa.queueForms
open Go.ChangeShapes Go.WideShapes Go.ChangeAt Go.RowKit
set_option linter.unusedVariables false

/-! ### The walk -/
def fG : Mg := ⟨0, 1, 2, [], 0, ⟨0, 0, 0, 0, false⟩, false⟩
def fB : Mg := ⟨0, 1, 1, [], 0, ⟨0, 0, 0, 0, false⟩, false⟩
theorem fB1 {lo hi : Nat} {w : World} {v : Value} (h : RowM lo hi w v [fG, fB]) (hh : hi ≤ w.heap.size) :
    Calls Try.prog 9 #[v, .agg #[.int .i64 0, .int .i64 1, .int .i64 2, .slice none 0 0, .int .i64 0, .int .i64 0, .int .i64 0, .int .i64 0, .int .i64 0, .bool false, .bool false]] w fun e w' => ∃ v', e = .returned (.tuple #[v', .int .i64 1400]) ∧ Below w.heap.size w w' :=
  (qAdd_at h hh (RowI.nil0 (lo := 0) (hi := 0)) (Nat.zero_le _) 0 1 2 0 0 0 0 0 false false (L := []) (E := 1400) (by decide +kernel) (by decide +kernel)).mono fun _ _ ⟨v, he, _, hb⟩ => ⟨v, he, hb⟩
theorem fB2 {lo hi : Nat} {w : World} {v : Value} (h : RowM lo hi w v [fG, fB]) (hh : hi ≤ w.heap.size) :
    Calls Try.prog 11 #[v, .int .i64 0] w fun e w' => e = .returned (.tuple #[.agg #[.int .i64 0, .int .i64 0, .int .i64 0, .slice none 0 0, .int .i64 0, .int .i64 0, .int .i64 0, .int .i64 0, .int .i64 0, .bool false, .bool false], .slice none 0 0, .int .i64 1400]) ∧ Below w.heap.size w w' := qTake_no h hh 0 (by decide +kernel)
theorem fB3 (w : World) :
    Calls Try.prog 9 #[.slice none 0 0, .agg #[.int .i64 0, .int .i64 1, .int .i64 1, .slice none 0 0, .int .i64 0, .int .i64 0, .int .i64 0, .int .i64 0, .int .i64 0, .bool false, .bool false]] w fun e w' => ∃ v', e = .returned (.tuple #[v', .int .i64 1400]) ∧ Below w.heap.size w w' :=
  (qAdd_at (ms := []) (RowM.nil0 (lo := 0) (hi := 0)) (Nat.zero_le _) (RowI.nil0 (lo := 0) (hi := 0)) (Nat.zero_le _) 0 1 1 0 0 0 0 0 false false (L := []) (E := 1400) (by decide +kernel) (by decide +kernel)).mono fun _ _ ⟨v, he, _, hb⟩ => ⟨v, he, hb⟩

def fGO : MgO := ⟨0, 1, 2, [], 0, ⟨0, 0, 0, 0, false⟩, false, .slice none 0 0⟩
theorem fB6 : quB (List.replicate 512 fGO.mg) = true := by
  simp only [quB, List.length_replicate, List.all_replicate]
  decide +kernel
theorem fB4 {lo hi : Nat} {w : World} {v : Value} (h : RowM lo hi w v (List.replicate 512 fGO.mg)) (hh : hi ≤ w.heap.size) :
    Calls Try.prog 9 #[v, .agg #[.int .i64 0, .int .i64 1, .int .i64 2, .slice none 0 0, .int .i64 0, .int .i64 0, .int .i64 0, .int .i64 0, .int .i64 0, .bool false, .bool false]] w fun e w' => ∃ v', e = .returned (.tuple #[v', .int .i64 1401]) ∧ Below w.heap.size w w' :=
  (qAdd_at h hh (RowI.nil0 (lo := 0) (hi := 0)) (Nat.zero_le _) 0 1 2 0 0 0 0 0 false false (L := []) (E := 1401) (by simp only [adE, fB6, List.length_replicate]; decide +kernel) (by simp only [adL, adE, fB6, List.length_replicate]; decide +kernel)).mono fun _ _ ⟨v, he, _, hb⟩ => ⟨v, he, hb⟩
theorem fB5 : quB [fG, fB] = false := by decide +kernel

set_option maxHeartbeats 8000000 in
theorem walk (a0 : Int) (a1 : Int) (w : World) (w0 : (Lit.int .i64 a0).wf = true) (w1 : (Lit.int .i64 a1).wf = true) :
    Calls Try.prog 4 #[.int .i64 a0, .int .i64 a1] w fun e w' => e = .returned (.bool true) ∧ Below w.heap.size w w' := by
  obtain ⟨u, hu⟩ : ∃ u, bits .and .i64 a0 1 = u := ⟨_, rfl⟩
  have hu2 : u = 0 ∨ u = 1 := by rw [← hu, and1]; omega
  obtain ⟨v, hv⟩ : ∃ v, bits .and .i64 a1 1023 = v := ⟨_, rfl⟩
  have hv2 : 0 ≤ v ∧ v ≤ 1023 := by rw [← hv, and1023]; omega
  obtain ⟨d, hd⟩ : ∃ d, 1 + v = d := ⟨_, rfl⟩
  have hd2 : 1 ≤ d ∧ d ≤ 1024 := by omega
  replace hu2 := toHid hu2
  clear w0 w1
  go_enter Try.func4, Try.ntmps4
  have BG := toHid (fun (W : World) (o : Obj) => (Box.new W #[.int .i64 0, .int .i64 1, .int .i64 2, .slice none 0 0, .int .i64 0, .int .i64 0, .int .i64 0, .int .i64 0, .int .i64 0, .bool false, .bool false] 29).alloc o)
  have t1 := trivial
  have t2 := trivial
  go_upto_region 6 with (first
    | (go_at_call 20; refine (awake14_any _).mono ?_; rintro e wA ⟨rfl, hA⟩))
  replace BG := toHid (BG.out wA (.cells #[.int .i64 0, .int .i64 1, .int .i64 2, .slice none 0 0, .int .i64 0, .int .i64 0, .int .i64 0, .int .i64 0, .int .i64 0, .bool false, .bool false, .int .i64 0, .int .i64 1, .int .i64 1, .slice none 0 0, .int .i64 0, .int .i64 0, .int .i64 0, .int .i64 0, .int .i64 0, .bool false, .bool false] 29))
  have BB := toHid (Box.new1 wA (.cells #[.int .i64 0, .int .i64 1, .int .i64 2, .slice none 0 0, .int .i64 0, .int .i64 0, .int .i64 0, .int .i64 0, .int .i64 0, .bool false, .bool false] 29) #[.int .i64 0, .int .i64 1, .int .i64 2, .slice none 0 0, .int .i64 0, .int .i64 0, .int .i64 0, .int .i64 0, .int .i64 0, .bool false, .bool false, .int .i64 0, .int .i64 1, .int .i64 1, .slice none 0 0, .int .i64 0, .int .i64 0, .int .i64 0, .int .i64 0, .int .i64 0, .bool false, .bool false] 29)
  have RB := toHid ((RowM.lits [⟨0, 1, 2, [], 0, ⟨0, 0, 0, 0, false⟩, false, .slice none 0 0⟩, ⟨0, 1, 1, [], 0, ⟨0, 0, 0, 0, false⟩, false, .slice none 0 0⟩] (cs := #[.int .i64 0, .int .i64 1, .int .i64 2, .slice none 0 0, .int .i64 0, .int .i64 0, .int .i64 0, .int .i64 0, .int .i64 0, .bool false, .bool false, .int .i64 0, .int .i64 1, .int .i64 1, .slice none 0 0, .int .i64 0, .int .i64 0, .int .i64 0, .int .i64 0, .int .i64 0, .bool false, .bool false]) rfl rfl (lo := 0) (hi := 0) (fun x hx => by rcases List.mem_cons.1 hx with rfl | hx; exact RowI.nil0; obtain rfl := List.mem_singleton.1 hx; exact RowI.nil0) (show 2 ≤ maxLen by decide) (w := wA.alloc (.cells #[.int .i64 0, .int .i64 1, .int .i64 2, .slice none 0 0, .int .i64 0, .int .i64 0, .int .i64 0, .int .i64 0, .int .i64 0, .bool false, .bool false] 29)) rfl).wide (Nat.le_refl _) (hi' := ((wA.alloc (.cells #[.int .i64 0, .int .i64 1, .int .i64 2, .slice none 0 0, .int .i64 0, .int .i64 0, .int .i64 0, .int .i64 0, .int .i64 0, .bool false, .bool false] 29)).alloc (.cells #[.int .i64 0, .int .i64 1, .int .i64 2, .slice none 0 0, .int .i64 0, .int .i64 0, .int .i64 0, .int .i64 0, .int .i64 0, .bool false, .bool false, .int .i64 0, .int .i64 1, .int .i64 1, .slice none 0 0, .int .i64 0, .int .i64 0, .int .i64 0, .int .i64 0, .int .i64 0, .bool false, .bool false] 29)).heap.size) (by simp))
  have hk := toHid ((hA.onA (.cells #[.int .i64 0, .int .i64 1, .int .i64 2, .slice none 0 0, .int .i64 0, .int .i64 0, .int .i64 0, .int .i64 0, .int .i64 0, .bool false, .bool false] 29)).onA (.cells #[.int .i64 0, .int .i64 1, .int .i64 2, .slice none 0 0, .int .i64 0, .int .i64 0, .int .i64 0, .int .i64 0, .int .i64 0, .bool false, .bool false, .int .i64 0, .int .i64 1, .int .i64 1, .slice none 0 0, .int .i64 0, .int .i64 0, .int .i64 0, .int .i64 0, .int .i64 0, .bool false, .bool false] 29))
  have hbx : (wA.alloc (.cells #[.int .i64 0, .int .i64 1, .int .i64 2, .slice none 0 0, .int .i64 0, .int .i64 0, .int .i64 0, .int .i64 0, .int .i64 0, .bool false, .bool false] 29)).heap.size = wA.heap.size + 1 := by simp
  rw [hbx] at RB
  generalize (wA.alloc (.cells #[.int .i64 0, .int .i64 1, .int .i64 2, .slice none 0 0, .int .i64 0, .int .i64 0, .int .i64 0, .int .i64 0, .int .i64 0, .bool false, .bool false] 29)).alloc (.cells #[.int .i64 0, .int .i64 1, .int .i64 2, .slice none 0 0, .int .i64 0, .int .i64 0, .int .i64 0, .int .i64 0, .int .i64 0, .bool false, .bool false, .int .i64 0, .int .i64 1, .int .i64 1, .slice none 0 0, .int .i64 0, .int .i64 0, .int .i64 0, .int .i64 0, .int .i64 0, .bool false, .bool false] 29) = wB at BG BB RB hk ⊢
  generalize wA.heap.size = gA at BG BB RB ⊢
  clear hA hbx
  obtain ⟨g1, g2, g3⟩ := BG.out
  go_upto_region 9 with (first
    | (go_at_call 9; clear t1; refine (fB1 RB.out (Nat.le_refl _)).mono ?_; rintro e w2 ⟨va, rfl, h2⟩
       replace BG := toHid (BG.out.below h2)
       replace BB := toHid (BB.out.below h2)
       replace RB := toHid (RB.out.fwd h2)
       replace hk := toHid (hk.out.on h2)
       clear g1 g2 g3 h2)
    | (go_at_call 11; refine (fB2 RB.out (Nat.le_refl _)).mono ?_; rintro e w3 ⟨rfl, h3⟩
       have hb3 := h3.onA (.cells #[.int .i64 0, .int .i64 0, .int .i64 0, .slice none 0 0, .int .i64 0, .int .i64 0, .int .i64 0, .int .i64 0, .int .i64 0, .bool false, .bool false] 29)
       replace BG := toHid (BG.out.below hb3)
       replace BB := toHid (BB.out.below hb3)
       replace RB := toHid (RB.out.fwd hb3)
       replace hk := toHid (hk.out.on hb3)
       obtain ⟨b1, b2, b3⟩ := BB.out
       clear h3 hb3)
    | (go_at_call 9; clear t2; refine (fB3 _).mono ?_; rintro e w4 ⟨vh, rfl, h4⟩
       replace BG := toHid (BG.out.below h4)
       replace BB := toHid (BB.out.below h4)
       replace RB := toHid (RB.out.fwd h4)
       replace hk := toHid (hk.out.on h4)
       clear b1 b2 b3 h4))
  have hn := toHid (show IntKind.i64.wrap (-d) = -d by rw [IntKind.wrap_i64]; omega)
  obtain ⟨y, hy⟩ : ∃ y, y = (if u = 0 then -d else d) := ⟨_, rfl⟩
  have hyB : tkB [fG] y = false := by
    have : ¬ (0 ≤ y ∧ y < (([fG] : List Mg).length : Int)) := by
      simp only [List.length_cons, List.length_nil]
      split at hy <;> omega
    simp only [tkB, decide_eq_false this, Bool.and_false]
  have HT := toHid (fun (W : World) (v : Value) (lo hi : Nat) (R : RowM lo hi W v [fG]) (hh : hi ≤ W.heap.size) => qTake_no R hh y hyB)
  replace hy := toHid hy
  clear hyB
  go_cut [15, 16, 17] from 50 to 64 (fun v15 v16 v17 wx => v17 = .int .i64 1400 ∧ Below w4.heap.size w4 wx)
  case first =>
    rcases hu2.out with hu0 | hu0
    all_goals
      subst hu0
      have hy0 := hy.out
      simp at hy0
      have hy1 := hy0.symm
      clear hy0
    · obtain rfl := hy1
      refine wp_region_inv (by kernel_rfl) (by kernel_rfl) (fun (f : Nat → Bool) (ac : Act) (w' : World) => ∃ (v51 v52 v53 v54 v55 v56 v57 v58 v59 v60 v61 v50 v62 v63 v64 v15 v16 v17 : Value) (x52 x56 x15 : Nat),
      ac = { tmps := #[.int .i64 a0, .int .i64 a1, undef, undef, .bool false, .int .i64 d, .pointer (some ⟨gA, 0, none⟩), .slice (some ⟨gA + 1, 0, none⟩) 2 2, va, .int .i64 1400, .pointer (some ⟨w3.heap.size, 0, none⟩), .slice none 0 0, .int .i64 1400, vh, .int .i64 1400, v15, v16, v17, undef, undef, undef, undef, .bool true, .bool false, .int .i64 a1, .int .i64 v, .int .i64 d, .agg #[.int .i64 0, .int .i64 1, .int .i64 2, .slice none 0 0, .int .i64 0, .int .i64 0, .int .i64 0, .int .i64 0, .int .i64 0, .bool false, .bool false], .agg #[.int .i64 0, .int .i64 1, .int .i64 2, .slice none 0 0, .int .i64 0, .int .i64 0, .int .i64 0, .int .i64 0, .int .i64 0, .bool false, .bool false], .agg #[.int .i64 0, .int .i64 1, .int .i64 1, .slice none 0 0, .int .i64 0, .int .i64 0, .int .i64 0, .int .i64 0, .int .i64 0, .bool false, .bool false], .slice (some ⟨gA + 1, 0, none⟩) 2 2, .tuple #[va, .int .i64 1400], .slice (some ⟨gA + 1, 0, none⟩) 2 2, .agg #[.int .i64 0, .int .i64 1, .int .i64 2, .slice none 0 0, .int .i64 0, .int .i64 0, .int .i64 0, .int .i64 0, .int .i64 0, .bool false, .bool false], .tuple #[va, .int .i64 1400], va, .int .i64 1400, .tuple #[.agg #[.int .i64 0, .int .i64 0, .int .i64 0, .slice none 0 0, .int .i64 0, .int .i64 0, .int .i64 0, .int .i64 0, .int .i64 0, .bool false, .bool false], .slice none 0 0, .int .i64 1400], .slice (some ⟨gA + 1, 0, none⟩) 2 2, .tuple #[.agg #[.int .i64 0, .int .i64 0, .int .i64 0, .slice none 0 0, .int .i64 0, .int .i64 0, .int .i64 0, .int .i64 0, .int .i64 0, .bool false, .bool false], .slice none 0 0, .int .i64 1400], .agg #[.int .i64 0, .int .i64 0, .int .i64 0, .slice none 0 0, .int .i64 0, .int .i64 0, .int .i64 0, .int .i64 0, .int .i64 0, .bool false, .bool false], .slice none 0 0, .int .i64 1400, .tuple #[vh, .int .i64 1400], .slice (some ⟨gA + 1, 0, none⟩) 2 2, .pointer (some ⟨gA + 1, 11, none⟩), .agg #[.int .i64 0, .int .i64 1, .int .i64 1, .slice none 0 0, .int .i64 0, .int .i64 0, .int .i64 0, .int .i64 0, .int .i64 0, .bool false, .bool false], .tuple #[vh, .int .i64 1400], vh, .int .i64 1400, v50, v51, v52, v53, v54, v55, v56, v57, v58, v59, v60, v61, v62, v63, v64, undef, undef, undef, undef, undef, undef, undef, undef, undef, undef, undef, undef, undef, undef, undef, undef, undef, undef, undef, undef, undef, undef, undef, undef, undef, undef, undef, undef, undef, undef, undef, undef, undef, undef, undef, undef, undef, undef, undef, undef, undef, undef, undef, undef, undef, undef, undef], defers := [] } ∧ Below w4.heap.size w4 w' ∧
      (f 0 = true → v51 = .agg #[.int .i64 0, .int .i64 1, .int .i64 2, .slice none 0 0, .int .i64 0, .int .i64 0, .int .i64 0, .int .i64 0, .int .i64 0, .bool false, .bool false]) ∧
      (f 1 = true → v52 = .slice (some ⟨x52, 0, none⟩) 1 1 ∧ (f 10 = false → RowM 0 w'.heap.size w' (.slice (some ⟨x52, 0, none⟩) 1 1) [fG])) ∧
      (f 2 = true → v53 = .int .i64 d) ∧
      (f 3 = true → v54 = .int .i64 (-d)) ∧
      (f 4 = true → v55 = .int .i64 d) ∧
      (f 5 = true → v56 = .slice (some ⟨x56, 0, none⟩) 2 2 ∧ (f 9 = false → Box w' x56 #[.int .i64 (-d), .int .i64 d])) ∧
      (f 6 = true → v57 = .int .i64 a0) ∧
      (f 7 = true → v58 = .int .i64 0) ∧
      (f 8 = true → f 5 = true ∧ v59 = .pointer (some ⟨x56, 0, none⟩)) ∧
      (f 9 = true → v60 = .int .i64 (-d)) ∧
      (f 10 = true → v61 = .tuple #[.agg #[.int .i64 0, .int .i64 0, .int .i64 0, .slice none 0 0, .int .i64 0, .int .i64 0, .int .i64 0, .int .i64 0, .int .i64 0, .bool false, .bool false], .slice none 0 0, .int .i64 1400]) ∧
      (f 11 = true → v50 = .tuple #[.agg #[.int .i64 0, .int .i64 0, .int .i64 0, .slice none 0 0, .int .i64 0, .int .i64 0, .int .i64 0, .int .i64 0, .int .i64 0, .bool false, .bool false], .slice none 0 0, .int .i64 1400]) ∧
      (f 12 = true → v62 = .agg #[.int .i64 0, .int .i64 0, .int .i64 0, .slice none 0 0, .int .i64 0, .int .i64 0, .int .i64 0, .int .i64 0, .int .i64 0, .bool false, .bool false]) ∧
      (f 13 = true → v63 = .slice none 0 0) ∧
      (f 14 = true → v64 = .int .i64 1400) ∧
      (f 15 = true → v15 = .pointer (some ⟨x15, 0, none⟩) ∧ w4.heap.size ≤ x15 ∧ Box w' x15 #[.int .i64 0, .int .i64 0, .int .i64 0, .slice none 0 0, .int .i64 0, .int .i64 0, .int .i64 0, .int .i64 0, .int .i64 0, .bool false, .bool false]) ∧
      (f 16 = true → True) ∧
      (f 17 = true → v16 = .slice none 0 0) ∧
      (f 18 = true → v17 = .int .i64 1400)) ?_ ?_ ?_
      · exact ⟨undef, undef, undef, undef, undef, undef, undef, undef, undef, undef, undef, undef, undef, undef, undef, undef, undef, undef, 0, 0, 0, rfl, (Below.refl _ w4).onD 1, nofun, nofun, nofun, nofun, nofun, nofun, nofun, nofun, nofun, nofun, nofun, nofun, nofun, nofun, nofun, nofun, nofun, nofun, nofun⟩
      · intro f i o ho hf hd
        match i, ho, hf with
        | 0, ho, hf =>
          simp only [List.getElem?_toArray, List.getElem?_cons_zero, Option.some.injEq] at ho
          subst ho
          rintro ac w' ⟨v51, v52, v53, v54, v55, v56, v57, v58, v59, v60, v61, v50, v62, v63, v64, v15, v16, v17, x52, x56, x15, rfl, hb, c0, c1, c2, c3, c4, c5, c6, c7, c8, c9, c10, c11, c12, c13, c14, c15, c16, c17, c18⟩ K hK
          replace hK := toHid hK
          obtain ⟨m1, m2, m3⟩ := BG.out.below hb
          go_wp2
          exact hK.out _ _ ⟨_, v52, v53, v54, v55, v56, v57, v58, v59, v60, v61, v50, v62, v63, v64, v15, v16, v17, x52, x56, x15, rfl, hb, fun _ => rfl, c1, c2, c3, c4, c5, c6, c7, c8, c9, c10, c11, c12, c13, c14, c15, c16, c17, c18⟩
        | 1, ho, hf =>
          simp only [List.getElem?_toArray, List.getElem?_cons_zero, List.getElem?_cons_succ, Option.some.injEq] at ho
          subst ho
          have q0 := hd ⟨0, .data⟩ (by simp) (by rfl)
          rintro ac w' ⟨v51, v52, v53, v54, v55, v56, v57, v58, v59, v60, v61, v50, v62, v63, v64, v15, v16, v17, x52, x56, x15, rfl, hb, c0, c1, c2, c3, c4, c5, c6, c7, c8, c9, c10, c11, c12, c13, c14, c15, c16, c17, c18⟩ K hK
          replace hK := toHid hK
          obtain rfl := c0 q0
          go_wp2
          exact hK.out _ _ ⟨_, _, v53, v54, v55, v56, v57, v58, v59, v60, v61, v50, v62, v63, v64, v15, v16, v17, w'.heap.size, x56, x15, rfl, hb.onA _, fun _ => rfl, fun _ => ⟨rfl, fun _ => (RowM.lit1 ⟨0, 1, 2, [], 0, ⟨0, 0, 0, 0, false⟩, false, .slice none 0 0⟩ rfl (RowI.nil0 (lo := 0) (hi := 0)) rfl).wide (Nat.le_refl _) (by simp)⟩, c2, c3, c4, fun q => ⟨(c5 q).1, fun r => ((c5 q).2 r).below ((Below.refl _ w').onA (.cells #[.int .i64 0, .int .i64 1, .int .i64 2, .slice none 0 0, .int .i64 0, .int .i64 0, .int .i64 0, .int .i64 0, .int .i64 0, .bool false, .bool false] 29))⟩, c6, c7, c8, c9, c10, c11, c12, c13, c14, fun q => ⟨(c15 q).1, (c15 q).2.1, (c15 q).2.2.below ((Below.refl _ w').onA (.cells #[.int .i64 0, .int .i64 1, .int .i64 2, .slice none 0 0, .int .i64 0, .int .i64 0, .int .i64 0, .int .i64 0, .int .i64 0, .bool false, .bool false] 29))⟩, c16, c17, c18⟩
        | 2, ho, hf =>
          simp only [List.getElem?_toArray, List.getElem?_cons_zero, List.getElem?_cons_succ, Option.some.injEq] at ho
          subst ho
          rintro ac w' ⟨v51, v52, v53, v54, v55, v56, v57, v58, v59, v60, v61, v50, v62, v63, v64, v15, v16, v17, x52, x56, x15, rfl, hb, c0, c1, c2, c3, c4, c5, c6, c7, c8, c9, c10, c11, c12, c13, c14, c15, c16, c17, c18⟩ K hK
          replace hK := toHid hK
          go_wp2
          exact hK.out _ _ ⟨v51, v52, _, v54, v55, v56, v57, v58, v59, v60, v61, v50, v62, v63, v64, v15, v16, v17, x52, x56, x15, rfl, hb, c0, c1, fun _ => rfl, c3, c4, c5, c6, c7, c8, c9, c10, c11, c12, c13, c14, c15, c16, c17, c18⟩
        | 3, ho, hf =>
          simp only [List.getElem?_toArray, List.getElem?_cons_zero, List.getElem?_cons_succ, Option.some.injEq] at ho
          subst ho
          have q2 := hd ⟨2, .data⟩ (by simp) (by rfl)
          rintro ac w' ⟨v51, v52, v53, v54, v55, v56, v57, v58, v59, v60, v61, v50, v62, v63, v64, v15, v16, v17, x52, x56, x15, rfl, hb, c0, c1, c2, c3, c4, c5, c6, c7, c8, c9, c10, c11, c12, c13, c14, c15, c16, c17, c18⟩ K hK
          replace hK := toHid hK
          obtain rfl := c2 q2
          have hn1 := hn.out
          go_wp2
          exact hK.out _ _ ⟨v51, v52, _, _, v55, v56, v57, v58, v59, v60, v61, v50, v62, v63, v64, v15, v16, v17, x52, x56, x15, rfl, hb, c0, c1, fun _ => rfl, fun _ => rfl, c4, c5, c6, c7, c8, c9, c10, c11, c12, c13, c14, c15, c16, c17, c18⟩
        | 4, ho, hf =>
          simp only [List.getElem?_toArray, List.getElem?_cons_zero, List.getElem?_cons_succ, Option.some.injEq] at ho
          subst ho
          rintro ac w' ⟨v51, v52, v53, v54, v55, v56, v57, v58, v59, v60, v61, v50, v62, v63, v64, v15, v16, v17, x52, x56, x15, rfl, hb, c0, c1, c2, c3, c4, c5, c6, c7, c8, c9, c10, c11, c12, c13, c14, c15, c16, c17, c18⟩ K hK
          replace hK := toHid hK
          go_wp2
          exact hK.out _ _ ⟨v51, v52, v53, v54, _, v56, v57, v58, v59, v60, v61, v50, v62, v63, v64, v15, v16, v17, x52, x56, x15, rfl, hb, c0, c1, c2, c3, fun _ => rfl, c5, c6, c7, c8, c9, c10, c11, c12, c13, c14, c15, c16, c17, c18⟩
        | 5, ho, hf =>
          simp only [List.getElem?_toArray, List.getElem?_cons_zero, List.getElem?_cons_succ, Option.some.injEq] at ho
          subst ho
          have q3 := hd ⟨3, .data⟩ (by simp) (by rfl)
          have q4 := hd ⟨4, .data⟩ (by simp) (by rfl)
          rintro ac w' ⟨v51, v52, v53, v54, v55, v56, v57, v58, v59, v60, v61, v50, v62, v63, v64, v15, v16, v17, x52, x56, x15, rfl, hb, c0, c1, c2, c3, c4, c5, c6, c7, c8, c9, c10, c11, c12, c13, c14, c15, c16, c17, c18⟩ K hK
          replace hK := toHid hK
          obtain rfl := c3 q3
          obtain rfl := c4 q4
          go_wp2
          exact hK.out _ _ ⟨v51, v52, v53, _, _, _, v57, v58, v59, v60, v61, v50, v62, v63, v64, v15, v16, v17, x52, w'.heap.size, x15, rfl, hb.onA _, c0, fun q => ⟨(c1 q).1, fun r => ((c1 q).2 r).fwd ((Below.refl _ w').onA (.cells #[.int .i64 (-d), .int .i64 d] 3))⟩, c2, fun _ => rfl, fun _ => rfl, fun _ => ⟨rfl, fun _ => Box.new w' _ _⟩, c6, c7, fun q => absurd (c8 q).1 (by simp [hf]), c9, c10, c11, c12, c13, c14, fun q => ⟨(c15 q).1, (c15 q).2.1, (c15 q).2.2.below ((Below.refl _ w').onA (.cells #[.int .i64 (-d), .int .i64 d] 3))⟩, c16, c17, c18⟩
        | 6, ho, hf =>
          simp only [List.getElem?_toArray, List.getElem?_cons_zero, List.getElem?_cons_succ, Option.some.injEq] at ho
          subst ho
          rintro ac w' ⟨v51, v52, v53, v54, v55, v56, v57, v58, v59, v60, v61, v50, v62, v63, v64, v15, v16, v17, x52, x56, x15, rfl, hb, c0, c1, c2, c3, c4, c5, c6, c7, c8, c9, c10, c11, c12, c13, c14, c15, c16, c17, c18⟩ K hK
          replace hK := toHid hK
          go_wp2
          exact hK.out _ _ ⟨v51, v52, v53, v54, v55, v56, _, v58, v59, v60, v61, v50, v62, v63, v64, v15, v16, v17, x52, x56, x15, rfl, hb, c0, c1, c2, c3, c4, c5, fun _ => rfl, c7, c8, c9, c10, c11, c12, c13, c14, c15, c16, c17, c18⟩
        | 7, ho, hf =>
          simp only [List.getElem?_toArray, List.getElem?_cons_zero, List.getElem?_cons_succ, Option.some.injEq] at ho
          subst ho
          have q6 := hd ⟨6, .data⟩ (by simp) (by rfl)
          rintro ac w' ⟨v51, v52, v53, v54, v55, v56, v57, v58, v59, v60, v61, v50, v62, v63, v64, v15, v16, v17, x52, x56, x15, rfl, hb, c0, c1, c2, c3, c4, c5, c6, c7, c8, c9, c10, c11, c12, c13, c14, c15, c16, c17, c18⟩ K hK
          replace hK := toHid hK
          obtain rfl := c6 q6
          go_wp2
          exact hK.out _ _ ⟨v51, v52, v53, v54, v55, v56, _, _, v59, v60, v61, v50, v62, v63, v64, v15, v16, v17, x52, x56, x15, rfl, hb, c0, c1, c2, c3, c4, c5, fun _ => rfl, fun _ => rfl, c8, c9, c10, c11, c12, c13, c14, c15, c16, c17, c18⟩
        | 8, ho, hf =>
          simp only [List.getElem?_toArray, List.getElem?_cons_zero, List.getElem?_cons_succ, Option.some.injEq] at ho
          subst ho
          have q5 := hd ⟨5, .data⟩ (by simp) (by rfl)
          have q7 := hd ⟨7, .data⟩ (by simp) (by rfl)
          rintro ac w' ⟨v51, v52, v53, v54, v55, v56, v57, v58, v59, v60, v61, v50, v62, v63, v64, v15, v16, v17, x52, x56, x15, rfl, hb, c0, c1, c2, c3, c4, c5, c6, c7, c8, c9, c10, c11, c12, c13, c14, c15, c16, c17, c18⟩ K hK
          replace hK := toHid hK
          obtain ⟨rfl, -⟩ := c5 q5
          replace c5 := toHid c5
          obtain rfl := c7 q7
          go_wp2
          exact hK.out _ _ ⟨v51, v52, v53, v54, v55, _, v57, _, _, v60, v61, v50, v62, v63, v64, v15, v16, v17, x52, x56, x15, rfl, hb, c0, c1, c2, c3, c4, fun q => ⟨rfl, (c5.out q).2⟩, c6, fun _ => rfl, fun _ => ⟨q5, rfl⟩, c9, c10, c11, c12, c13, c14, c15, c16, c17, c18⟩
        | 9, ho, hf =>
          simp only [List.getElem?_toArray, List.getElem?_cons_zero, List.getElem?_cons_succ, Option.some.injEq] at ho
          subst ho
          have q8 := hd ⟨8, .data⟩ (by simp) (by rfl)
          rintro ac w' ⟨v51, v52, v53, v54, v55, v56, v57, v58, v59, v60, v61, v50, v62, v63, v64, v15, v16, v17, x52, x56, x15, rfl, hb, c0, c1, c2, c3, c4, c5, c6, c7, c8, c9, c10, c11, c12, c13, c14, c15, c16, c17, c18⟩ K hK
          replace hK := toHid hK
          obtain ⟨q5, rfl⟩ := c8 q8
          obtain ⟨rfl, B5⟩ := c5 q5
          obtain ⟨-, m2, m3⟩ := B5 hf
          replace c8 := toHid c8
          clear c5 B5
          go_wp2
          exact hK.out _ _ ⟨v51, v52, v53, v54, v55, _, v57, v58, _, _, v61, v50, v62, v63, v64, v15, v16, v17, x52, x56, x15, rfl, hb, c0, c1, c2, c3, c4, fun q => ⟨rfl, fun r => by cases r⟩, c6, c7, fun q => ⟨(c8.out q).1, rfl⟩, fun _ => rfl, c10, c11, c12, c13, c14, c15, c16, c17, c18⟩
        | 10, ho, hf =>
          simp only [List.getElem?_toArray, List.getElem?_cons_zero, List.getElem?_cons_succ, Option.some.injEq] at ho
          subst ho
          have q1 := hd ⟨1, .data⟩ (by simp) (by rfl)
          have q9 := hd ⟨9, .data⟩ (by simp) (by rfl)
          rintro ac w' ⟨v51, v52, v53, v54, v55, v56, v57, v58, v59, v60, v61, v50, v62, v63, v64, v15, v16, v17, x52, x56, x15, rfl, hb, c0, c1, c2, c3, c4, c5, c6, c7, c8, c9, c10, c11, c12, c13, c14, c15, c16, c17, c18⟩ K hK
          replace hK := toHid hK
          obtain ⟨rfl, R1⟩ := c1 q1
          replace R1 := toHid (R1 hf)
          obtain rfl := c9 q9
          go_wp2_with (go_at_call 11; refine (HT.out _ _ _ _ R1.out (Nat.le_refl _)).mono ?_; rintro e w9 ⟨rfl, h9⟩)
          exact hK.out _ _ ⟨v51, _, v53, v54, v55, v56, v57, v58, v59, _, _, v50, v62, v63, v64, v15, v16, v17, x52, x56, x15, rfl, hb.on h9, c0, fun q => ⟨rfl, fun r => by cases r⟩, c2, c3, c4, fun q => ⟨(c5 q).1, fun r => ((c5 q).2 r).below h9⟩, c6, c7, c8, fun _ => rfl, fun _ => rfl, c11, c12, c13, c14, fun q => ⟨(c15 q).1, (c15 q).2.1, (c15 q).2.2.below h9⟩, c16, c17, c18⟩
        | 11, ho, hf =>
          simp only [List.getElem?_toArray, List.getElem?_cons_zero, List.getElem?_cons_succ, Option.some.injEq] at ho
          subst ho
          have q10 := hd ⟨10, .data⟩ (by simp) (by rfl)
          rintro ac w' ⟨v51, v52, v53, v54, v55, v56, v57, v58, v59, v60, v61, v50, v62, v63, v64, v15, v16, v17, x52, x56, x15, rfl, hb, c0, c1, c2, c3, c4, c5, c6, c7, c8, c9, c10, c11, c12, c13, c14, c15, c16, c17, c18⟩ K hK
          replace hK := toHid hK
          obtain rfl := c10 q10
          go_wp2
          exact hK.out _ _ ⟨v51, v52, v53, v54, v55, v56, v57, v58, v59, v60, _, _, v62, v63, v64, v15, v16, v17, x52, x56, x15, rfl, hb, c0, c1, c2, c3, c4, c5, c6, c7, c8, c9, fun _ => rfl, fun _ => rfl, c12, c13, c14, c15, c16, c17, c18⟩
        | 12, ho, hf =>
          simp only [List.getElem?_toArray, List.getElem?_cons_zero, List.getElem?_cons_succ, Option.some.injEq] at ho
          subst ho
          have q11 := hd ⟨11, .data⟩ (by simp) (by rfl)
          rintro ac w' ⟨v51, v52, v53, v54, v55, v56, v57, v58, v59, v60, v61, v50, v62, v63, v64, v15, v16, v17, x52, x56, x15, rfl, hb, c0, c1, c2, c3, c4, c5, c6, c7, c8, c9, c10, c11, c12, c13, c14, c15, c16, c17, c18⟩ K hK
          replace hK := toHid hK
          obtain rfl := c11 q11
          go_wp2
          exact hK.out _ _ ⟨v51, v52, v53, v54, v55, v56, v57, v58, v59, v60, v61, _, _, v63, v64, v15, v16, v17, x52, x56, x15, rfl, hb, c0, c1, c2, c3, c4, c5, c6, c7, c8, c9, c10, fun _ => rfl, fun _ => rfl, c13, c14, c15, c16, c17, c18⟩
        | 13, ho, hf =>
          simp only [List.getElem?_toArray, List.getElem?_cons_zero, List.getElem?_cons_succ, Option.some.injEq] at ho
          subst ho
          have q11 := hd ⟨11, .data⟩ (by simp) (by rfl)
          rintro ac w' ⟨v51, v52, v53, v54, v55, v56, v57, v58, v59, v60, v61, v50, v62, v63, v64, v15, v16, v17, x52, x56, x15, rfl, hb, c0, c1, c2, c3, c4, c5, c6, c7, c8, c9, c10, c11, c12, c13, c14, c15, c16, c17, c18⟩ K hK
          replace hK := toHid hK
          obtain rfl := c11 q11
          go_wp2
          exact hK.out _ _ ⟨v51, v52, v53, v54, v55, v56, v57, v58, v59, v60, v61, _, v62, _, v64, v15, v16, v17, x52, x56, x15, rfl, hb, c0, c1, c2, c3, c4, c5, c6, c7, c8, c9, c10, fun _ => rfl, c12, fun _ => rfl, c14, c15, c16, c17, c18⟩
        | 14, ho, hf =>
          simp only [List.getElem?_toArray, List.getElem?_cons_zero, List.getElem?_cons_succ, Option.some.injEq] at ho
          subst ho
          have q11 := hd ⟨11, .data⟩ (by simp) (by rfl)
          rintro ac w' ⟨v51, v52, v53, v54, v55, v56, v57, v58, v59, v60, v61, v50, v62, v63, v64, v15, v16, v17, x52, x56, x15, rfl, hb, c0, c1, c2, c3, c4, c5, c6, c7, c8, c9, c10, c11, c12, c13, c14, c15, c16, c17, c18⟩ K hK
          replace hK := toHid hK
          obtain rfl := c11 q11
          go_wp2
          exact hK.out _ _ ⟨v51, v52, v53, v54, v55, v56, v57, v58, v59, v60, v61, _, v62, v63, _, v15, v16, v17, x52, x56, x15, rfl, hb, c0, c1, c2, c3, c4, c5, c6, c7, c8, c9, c10, fun _ => rfl, c12, c13, fun _ => rfl, c15, c16, c17, c18⟩
        | 15, ho, hf =>
          simp only [List.getElem?_toArray, List.getElem?_cons_zero, List.getElem?_cons_succ, Option.some.injEq] at ho
          subst ho
          rintro ac w' ⟨v51, v52, v53, v54, v55, v56, v57, v58, v59, v60, v61, v50, v62, v63, v64, v15, v16, v17, x52, x56, x15, rfl, hb, c0, c1, c2, c3, c4, c5, c6, c7, c8, c9, c10, c11, c12, c13, c14, c15, c16, c17, c18⟩ K hK
          replace hK := toHid hK
          go_wp2
          exact hK.out _ _ ⟨v51, v52, v53, v54, v55, v56, v57, v58, v59, v60, v61, v50, v62, v63, v64, _, v16, v17, x52, x56, w'.heap.size, rfl, hb.onA _, c0, fun q => ⟨(c1 q).1, fun r => ((c1 q).2 r).fwd ((Below.refl _ w').onA (.cells #[.int .i64 0, .int .i64 0, .int .i64 0, .slice none 0 0, .int .i64 0, .int .i64 0, .int .i64 0, .int .i64 0, .int .i64 0, .bool false, .bool false] 29))⟩, c2, c3, c4, fun q => ⟨(c5 q).1, fun r => ((c5 q).2 r).below ((Below.refl _ w').onA (.cells #[.int .i64 0, .int .i64 0, .int .i64 0, .slice none 0 0, .int .i64 0, .int .i64 0, .int .i64 0, .int .i64 0, .int .i64 0, .bool false, .bool false] 29))⟩, c6, c7, c8, c9, c10, c11, c12, c13, c14, fun _ => ⟨rfl, hb.size, Box.new w' _ _⟩, c16, c17, c18⟩
        | 16, ho, hf =>
          simp only [List.getElem?_toArray, List.getElem?_cons_zero, List.getElem?_cons_succ, Option.some.injEq] at ho
          subst ho
          have q15 := hd ⟨15, .data⟩ (by simp) (by rfl)
          have q12 := hd ⟨12, .data⟩ (by simp) (by rfl)
          have q9 := hd ⟨9, .phase⟩ (by simp) (by rfl)
          have q10 := hd ⟨10, .phase⟩ (by simp) (by rfl)
          rintro ac w' ⟨v51, v52, v53, v54, v55, v56, v57, v58, v59, v60, v61, v50, v62, v63, v64, v15, v16, v17, x52, x56, x15, rfl, hb, c0, c1, c2, c3, c4, c5, c6, c7, c8, c9, c10, c11, c12, c13, c14, c15, c16, c17, c18⟩ K hK
          replace hK := toHid hK
          obtain ⟨rfl, k15, BX⟩ := c15 q15
          obtain rfl := c12 q12
          obtain rfl := c9 q9
          obtain rfl := c10 q10
          obtain ⟨bx1, bx2, bx3⟩ := id BX
          obtain ⟨BY, ON⟩ := BX.set11 (.int .i64 0) (.int .i64 0) (.int .i64 0) (.slice none 0 0) (.int .i64 0) (.int .i64 0) (.int .i64 0) (.int .i64 0) (.int .i64 0) (.bool false) (.bool false)
          replace BY := toHid BY
          replace ON := toHid ON
          clear BX
          go_wp2
          exact hK.out _ _ ⟨v51, v52, v53, v54, v55, v56, v57, v58, v59, _, _, v50, _, v63, v64, _, v16, v17, x52, x56, x15, rfl, hb.trans (ON.out.below.mono k15), c0, fun q => ⟨(c1 q).1, fun r => by simp [q10] at r⟩, c2, c3, c4, fun q => ⟨(c5 q).1, fun r => by simp [q9] at r⟩, c6, c7, c8, fun _ => rfl, fun _ => rfl, c11, fun _ => rfl, c13, c14, fun _ => ⟨rfl, k15, BY.out⟩, fun _ => trivial, c17, c18⟩
        | 17, ho, hf =>
          simp only [List.getElem?_toArray, List.getElem?_cons_zero, List.getElem?_cons_succ, Option.some.injEq] at ho
          subst ho
          have q13 := hd ⟨13, .data⟩ (by simp) (by rfl)
          rintro ac w' ⟨v51, v52, v53, v54, v55, v56, v57, v58, v59, v60, v61, v50, v62, v63, v64, v15, v16, v17, x52, x56, x15, rfl, hb, c0, c1, c2, c3, c4, c5, c6, c7, c8, c9, c10, c11, c12, c13, c14, c15, c16, c17, c18⟩ K hK
          replace hK := toHid hK
          obtain rfl := c13 q13
          go_wp2
          exact hK.out _ _ ⟨v51, v52, v53, v54, v55, v56, v57, v58, v59, v60, v61, v50, v62, _, v64, v15, _, v17, x52, x56, x15, rfl, hb, c0, c1, c2, c3, c4, c5, c6, c7, c8, c9, c10, c11, c12, fun _ => rfl, c14, c15, c16, fun _ => rfl, c18⟩
        | 18, ho, hf =>
          simp only [List.getElem?_toArray, List.getElem?_cons_zero, List.getElem?_cons_succ, Option.some.injEq] at ho
          subst ho
          have q14 := hd ⟨14, .data⟩ (by simp) (by rfl)
          rintro ac w' ⟨v51, v52, v53, v54, v55, v56, v57, v58, v59, v60, v61, v50, v62, v63, v64, v15, v16, v17, x52, x56, x15, rfl, hb, c0, c1, c2, c3, c4, c5, c6, c7, c8, c9, c10, c11, c12, c13, c14, c15, c16, c17, c18⟩ K hK
          replace hK := toHid hK
          obtain rfl := c14 q14
          go_wp2
          exact hK.out _ _ ⟨v51, v52, v53, v54, v55, v56, v57, v58, v59, v60, v61, v50, v62, v63, _, v15, v16, _, x52, x56, x15, rfl, hb, c0, c1, c2, c3, c4, c5, c6, c7, c8, c9, c10, c11, c12, c13, fun _ => rfl, c15, c16, c17, fun _ => rfl⟩
        | j + 19, ho, hf => simp at ho
      · rintro f ac w' hf ⟨v51, v52, v53, v54, v55, v56, v57, v58, v59, v60, v61, v50, v62, v63, v64, v15, v16, v17, x52, x56, x15, rfl, hb, c0, c1, c2, c3, c4, c5, c6, c7, c8, c9, c10, c11, c12, c13, c14, c15, c16, c17, c18⟩
        obtain rfl := c18 (hf 18 (by simp))
        clear c0 c1 c2 c3 c4 c5 c6 c7 c8 c9 c10 c11 c12 c13 c14 c15 c16 c17 c18
        replace hf := toHid hf
        go_wp2
        go_meet
        exact ⟨rfl, hb⟩
    · obtain rfl := hy1
      refine wp_region_inv (by kernel_rfl) (by kernel_rfl) (fun (f : Nat → Bool) (ac : Act) (w' : World) => ∃ (v51 v52 v53 v54 v55 v56 v57 v58 v59 v60 v61 v50 v62 v63 v64 v15 v16 v17 : Value) (x52 x56 x15 : Nat),
      ac = { tmps := #[.int .i64 a0, .int .i64 a1, undef, undef, .bool false, .int .i64 d, .pointer (some ⟨gA, 0, none⟩), .slice (some ⟨gA + 1, 0, none⟩) 2 2, va, .int .i64 1400, .pointer (some ⟨w3.heap.size, 0, none⟩), .slice none 0 0, .int .i64 1400, vh, .int .i64 1400, v15, v16, v17, undef, undef, undef, undef, .bool true, .bool false, .int .i64 a1, .int .i64 v, .int .i64 d, .agg #[.int .i64 0, .int .i64 1, .int .i64 2, .slice none 0 0, .int .i64 0, .int .i64 0, .int .i64 0, .int .i64 0, .int .i64 0, .bool false, .bool false], .agg #[.int .i64 0, .int .i64 1, .int .i64 2, .slice none 0 0, .int .i64 0, .int .i64 0, .int .i64 0, .int .i64 0, .int .i64 0, .bool false, .bool false], .agg #[.int .i64 0, .int .i64 1, .int .i64 1, .slice none 0 0, .int .i64 0, .int .i64 0, .int .i64 0, .int .i64 0, .int .i64 0, .bool false, .bool false], .slice (some ⟨gA + 1, 0, none⟩) 2 2, .tuple #[va, .int .i64 1400], .slice (some ⟨gA + 1, 0, none⟩) 2 2, .agg #[.int .i64 0, .int .i64 1, .int .i64 2, .slice none 0 0, .int .i64 0, .int .i64 0, .int .i64 0, .int .i64 0, .int .i64 0, .bool false, .bool false], .tuple #[va, .int .i64 1400], va, .int .i64 1400, .tuple #[.agg #[.int .i64 0, .int .i64 0, .int .i64 0, .slice none 0 0, .int .i64 0, .int .i64 0, .int .i64 0, .int .i64 0, .int .i64 0, .bool false, .bool false], .slice none 0 0, .int .i64 1400], .slice (some ⟨gA + 1, 0, none⟩) 2 2, .tuple #[.agg #[.int .i64 0, .int .i64 0, .int .i64 0, .slice none 0 0, .int .i64 0, .int .i64 0, .int .i64 0, .int .i64 0, .int .i64 0, .bool false, .bool false], .slice none 0 0, .int .i64 1400], .agg #[.int .i64 0, .int .i64 0, .int .i64 0, .slice none 0 0, .int .i64 0, .int .i64 0, .int .i64 0, .int .i64 0, .int .i64 0, .bool false, .bool false], .slice none 0 0, .int .i64 1400, .tuple #[vh, .int .i64 1400], .slice (some ⟨gA + 1, 0, none⟩) 2 2, .pointer (some ⟨gA + 1, 11, none⟩), .agg #[.int .i64 0, .int .i64 1, .int .i64 1, .slice none 0 0, .int .i64 0, .int .i64 0, .int .i64 0, .int .i64 0, .int .i64 0, .bool false, .bool false], .tuple #[vh, .int .i64 1400], vh, .int .i64 1400, v50, v51, v52, v53, v54, v55, v56, v57, v58, v59, v60, v61, v62, v63, v64, undef, undef, undef, undef, undef, undef, undef, undef, undef, undef, undef, undef, undef, undef, undef, undef, undef, undef, undef, undef, undef, undef, undef, undef, undef, undef, undef, undef, undef, undef, undef, undef, undef, undef, undef, undef, undef, undef, undef, undef, undef, undef, undef, undef, undef, undef, undef], defers := [] } ∧ Below w4.heap.size w4 w' ∧
      (f 0 = true → v51 = .agg #[.int .i64 0, .int .i64 1, .int .i64 2, .slice none 0 0, .int .i64 0, .int .i64 0, .int .i64 0, .int .i64 0, .int .i64 0, .bool false, .bool false]) ∧
      (f 1 = true → v52 = .slice (some ⟨x52, 0, none⟩) 1 1 ∧ (f 10 = false → RowM 0 w'.heap.size w' (.slice (some ⟨x52, 0, none⟩) 1 1) [fG])) ∧
      (f 2 = true → v53 = .int .i64 d) ∧
      (f 3 = true → v54 = .int .i64 (-d)) ∧
      (f 4 = true → v55 = .int .i64 d) ∧
      (f 5 = true → v56 = .slice (some ⟨x56, 0, none⟩) 2 2 ∧ (f 9 = false → Box w' x56 #[.int .i64 (-d), .int .i64 d])) ∧
      (f 6 = true → v57 = .int .i64 a0) ∧
      (f 7 = true → v58 = .int .i64 1) ∧
      (f 8 = true → f 5 = true ∧ v59 = .pointer (some ⟨x56, 1, none⟩)) ∧
      (f 9 = true → v60 = .int .i64 d) ∧
      (f 10 = true → v61 = .tuple #[.agg #[.int .i64 0, .int .i64 0, .int .i64 0, .slice none 0 0, .int .i64 0, .int .i64 0, .int .i64 0, .int .i64 0, .int .i64 0, .bool false, .bool false], .slice none 0 0, .int .i64 1400]) ∧
      (f 11 = true → v50 = .tuple #[.agg #[.int .i64 0, .int .i64 0, .int .i64 0, .slice none 0 0, .int .i64 0, .int .i64 0, .int .i64 0, .int .i64 0, .int .i64 0, .bool false, .bool false], .slice none 0 0, .int .i64 1400]) ∧
      (f 12 = true → v62 = .agg #[.int .i64 0, .int .i64 0, .int .i64 0, .slice none 0 0, .int .i64 0, .int .i64 0, .int .i64 0, .int .i64 0, .int .i64 0, .bool false, .bool false]) ∧
      (f 13 = true → v63 = .slice none 0 0) ∧
      (f 14 = true → v64 = .int .i64 1400) ∧
      (f 15 = true → v15 = .pointer (some ⟨x15, 0, none⟩) ∧ w4.heap.size ≤ x15 ∧ Box w' x15 #[.int .i64 0, .int .i64 0, .int .i64 0, .slice none 0 0, .int .i64 0, .int .i64 0, .int .i64 0, .int .i64 0, .int .i64 0, .bool false, .bool false]) ∧
      (f 16 = true → True) ∧
      (f 17 = true → v16 = .slice none 0 0) ∧
      (f 18 = true → v17 = .int .i64 1400)) ?_ ?_ ?_
      · exact ⟨undef, undef, undef, undef, undef, undef, undef, undef, undef, undef, undef, undef, undef, undef, undef, undef, undef, undef, 0, 0, 0, rfl, (Below.refl _ w4).onD 1, nofun, nofun, nofun, nofun, nofun, nofun, nofun, nofun, nofun, nofun, nofun, nofun, nofun, nofun, nofun, nofun, nofun, nofun, nofun⟩
      · intro f i o ho hf hd
        match i, ho, hf with
        | 0, ho, hf =>
          simp only [List.getElem?_toArray, List.getElem?_cons_zero, Option.some.injEq] at ho
          subst ho
          rintro ac w' ⟨v51, v52, v53, v54, v55, v56, v57, v58, v59, v60, v61, v50, v62, v63, v64, v15, v16, v17, x52, x56, x15, rfl, hb, c0, c1, c2, c3, c4, c5, c6, c7, c8, c9, c10, c11, c12, c13, c14, c15, c16, c17, c18⟩ K hK
          replace hK := toHid hK
          obtain ⟨m1, m2, m3⟩ := BG.out.below hb
          go_wp2
          exact hK.out _ _ ⟨_, v52, v53, v54, v55, v56, v57, v58, v59, v60, v61, v50, v62, v63, v64, v15, v16, v17, x52, x56, x15, rfl, hb, fun _ => rfl, c1, c2, c3, c4, c5, c6, c7, c8, c9, c10, c11, c12, c13, c14, c15, c16, c17, c18⟩
        | 1, ho, hf =>
          simp only [List.getElem?_toArray, List.getElem?_cons_zero, List.getElem?_cons_succ, Option.some.injEq] at ho
          subst ho
          have q0 := hd ⟨0, .data⟩ (by simp) (by rfl)
          rintro ac w' ⟨v51, v52, v53, v54, v55, v56, v57, v58, v59, v60, v61, v50, v62, v63, v64, v15, v16, v17, x52, x56, x15, rfl, hb, c0, c1, c2, c3, c4, c5, c6, c7, c8, c9, c10, c11, c12, c13, c14, c15, c16, c17, c18⟩ K hK
          replace hK := toHid hK
          obtain rfl := c0 q0
          go_wp2
          exact hK.out _ _ ⟨_, _, v53, v54, v55, v56, v57, v58, v59, v60, v61, v50, v62, v63, v64, v15, v16, v17, w'.heap.size, x56, x15, rfl, hb.onA _, fun _ => rfl, fun _ => ⟨rfl, fun _ => (RowM.lit1 ⟨0, 1, 2, [], 0, ⟨0, 0, 0, 0, false⟩, false, .slice none 0 0⟩ rfl (RowI.nil0 (lo := 0) (hi := 0)) rfl).wide (Nat.le_refl _) (by simp)⟩, c2, c3, c4, fun q => ⟨(c5 q).1, fun r => ((c5 q).2 r).below ((Below.refl _ w').onA (.cells #[.int .i64 0, .int .i64 1, .int .i64 2, .slice none 0 0, .int .i64 0, .int .i64 0, .int .i64 0, .int .i64 0, .int .i64 0, .bool false, .bool false] 29))⟩, c6, c7, c8, c9, c10, c11, c12, c13, c14, fun q => ⟨(c15 q).1, (c15 q).2.1, (c15 q).2.2.below ((Below.refl _ w').onA (.cells #[.int .i64 0, .int .i64 1, .int .i64 2, .slice none 0 0, .int .i64 0, .int .i64 0, .int .i64 0, .int .i64 0, .int .i64 0, .bool false, .bool false] 29))⟩, c16, c17, c18⟩
        | 2, ho, hf =>
          simp only [List.getElem?_toArray, List.getElem?_cons_zero, List.getElem?_cons_succ, Option.some.injEq] at ho
          subst ho
          rintro ac w' ⟨v51, v52, v53, v54, v55, v56, v57, v58, v59, v60, v61, v50, v62, v63, v64, v15, v16, v17, x52, x56, x15, rfl, hb, c0, c1, c2, c3, c4, c5, c6, c7, c8, c9, c10, c11, c12, c13, c14, c15, c16, c17, c18⟩ K hK
          replace hK := toHid hK
          go_wp2
          exact hK.out _ _ ⟨v51, v52, _, v54, v55, v56, v57, v58, v59, v60, v61, v50, v62, v63, v64, v15, v16, v17, x52, x56, x15, rfl, hb, c0, c1, fun _ => rfl, c3, c4, c5, c6, c7, c8, c9, c10, c11, c12, c13, c14, c15, c16, c17, c18⟩
        | 3, ho, hf =>
          simp only [List.getElem?_toArray, List.getElem?_cons_zero, List.getElem?_cons_succ, Option.some.injEq] at ho
          subst ho
          have q2 := hd ⟨2, .data⟩ (by simp) (by rfl)
          rintro ac w' ⟨v51, v52, v53, v54, v55, v56, v57, v58, v59, v60, v61, v50, v62, v63, v64, v15, v16, v17, x52, x56, x15, rfl, hb, c0, c1, c2, c3, c4, c5, c6, c7, c8, c9, c10, c11, c12, c13, c14, c15, c16, c17, c18⟩ K hK
          replace hK := toHid hK
          obtain rfl := c2 q2
          have hn1 := hn.out
          go_wp2
          exact hK.out _ _ ⟨v51, v52, _, _, v55, v56, v57, v58, v59, v60, v61, v50, v62, v63, v64, v15, v16, v17, x52, x56, x15, rfl, hb, c0, c1, fun _ => rfl, fun _ => rfl, c4, c5, c6, c7, c8, c9, c10, c11, c12, c13, c14, c15, c16, c17, c18⟩
        | 4, ho, hf =>
          simp only [List.getElem?_toArray, List.getElem?_cons_zero, List.getElem?_cons_succ, Option.some.injEq] at ho
          subst ho
          rintro ac w' ⟨v51, v52, v53, v54, v55, v56, v57, v58, v59, v60, v61, v50, v62, v63, v64, v15, v16, v17, x52, x56, x15, rfl, hb, c0, c1, c2, c3, c4, c5, c6, c7, c8, c9, c10, c11, c12, c13, c14, c15, c16, c17, c18⟩ K hK
          replace hK := toHid hK
          go_wp2
          exact hK.out _ _ ⟨v51, v52, v53, v54, _, v56, v57, v58, v59, v60, v61, v50, v62, v63, v64, v15, v16, v17, x52, x56, x15, rfl, hb, c0, c1, c2, c3, fun _ => rfl, c5, c6, c7, c8, c9, c10, c11, c12, c13, c14, c15, c16, c17, c18⟩
        | 5, ho, hf =>
          simp only [List.getElem?_toArray, List.getElem?_cons_zero, List.getElem?_cons_succ, Option.some.injEq] at ho
          subst ho
          have q3 := hd ⟨3, .data⟩ (by simp) (by rfl)
          have q4 := hd ⟨4, .data⟩ (by simp) (by rfl)
          rintro ac w' ⟨v51, v52, v53, v54, v55, v56, v57, v58, v59, v60, v61, v50, v62, v63, v64, v15, v16, v17, x52, x56, x15, rfl, hb, c0, c1, c2, c3, c4, c5, c6, c7, c8, c9, c10, c11, c12, c13, c14, c15, c16, c17, c18⟩ K hK
          replace hK := toHid hK
          obtain rfl := c3 q3
          obtain rfl := c4 q4
          go_wp2
          exact hK.out _ _ ⟨v51, v52, v53, _, _, _, v57, v58, v59, v60, v61, v50, v62, v63, v64, v15, v16, v17, x52, w'.heap.size, x15, rfl, hb.onA _, c0, fun q => ⟨(c1 q).1, fun r => ((c1 q).2 r).fwd ((Below.refl _ w').onA (.cells #[.int .i64 (-d), .int .i64 d] 3))⟩, c2, fun _ => rfl, fun _ => rfl, fun _ => ⟨rfl, fun _ => Box.new w' _ _⟩, c6, c7, fun q => absurd (c8 q).1 (by simp [hf]), c9, c10, c11, c12, c13, c14, fun q => ⟨(c15 q).1, (c15 q).2.1, (c15 q).2.2.below ((Below.refl _ w').onA (.cells #[.int .i64 (-d), .int .i64 d] 3))⟩, c16, c17, c18⟩
        | 6, ho, hf =>
          simp only [List.getElem?_toArray, List.getElem?_cons_zero, List.getElem?_cons_succ, Option.some.injEq] at ho
          subst ho
          rintro ac w' ⟨v51, v52, v53, v54, v55, v56, v57, v58, v59, v60, v61, v50, v62, v63, v64, v15, v16, v17, x52, x56, x15, rfl, hb, c0, c1, c2, c3, c4, c5, c6, c7, c8, c9, c10, c11, c12, c13, c14, c15, c16, c17, c18⟩ K hK
          replace hK := toHid hK
          go_wp2
          exact hK.out _ _ ⟨v51, v52, v53, v54, v55, v56, _, v58, v59, v60, v61, v50, v62, v63, v64, v15, v16, v17, x52, x56, x15, rfl, hb, c0, c1, c2, c3, c4, c5, fun _ => rfl, c7, c8, c9, c10, c11, c12, c13, c14, c15, c16, c17, c18⟩
        | 7, ho, hf =>
          simp only [List.getElem?_toArray, List.getElem?_cons_zero, List.getElem?_cons_succ, Option.some.injEq] at ho
          subst ho
          have q6 := hd ⟨6, .data⟩ (by simp) (by rfl)
          rintro ac w' ⟨v51, v52, v53, v54, v55, v56, v57, v58, v59, v60, v61, v50, v62, v63, v64, v15, v16, v17, x52, x56, x15, rfl, hb, c0, c1, c2, c3, c4, c5, c6, c7, c8, c9, c10, c11, c12, c13, c14, c15, c16, c17, c18⟩ K hK
          replace hK := toHid hK
          obtain rfl := c6 q6
          go_wp2
          exact hK.out _ _ ⟨v51, v52, v53, v54, v55, v56, _, _, v59, v60, v61, v50, v62, v63, v64, v15, v16, v17, x52, x56, x15, rfl, hb, c0, c1, c2, c3, c4, c5, fun _ => rfl, fun _ => rfl, c8, c9, c10, c11, c12, c13, c14, c15, c16, c17, c18⟩
        | 8, ho, hf =>
          simp only [List.getElem?_toArray, List.getElem?_cons_zero, List.getElem?_cons_succ, Option.some.injEq] at ho
          subst ho
          have q5 := hd ⟨5, .data⟩ (by simp) (by rfl)
          have q7 := hd ⟨7, .data⟩ (by simp) (by rfl)
          rintro ac w' ⟨v51, v52, v53, v54, v55, v56, v57, v58, v59, v60, v61, v50, v62, v63, v64, v15, v16, v17, x52, x56, x15, rfl, hb, c0, c1, c2, c3, c4, c5, c6, c7, c8, c9, c10, c11, c12, c13, c14, c15, c16, c17, c18⟩ K hK
          replace hK := toHid hK
          obtain ⟨rfl, -⟩ := c5 q5
          replace c5 := toHid c5
          obtain rfl := c7 q7
          go_wp2
          exact hK.out _ _ ⟨v51, v52, v53, v54, v55, _, v57, _, _, v60, v61, v50, v62, v63, v64, v15, v16, v17, x52, x56, x15, rfl, hb, c0, c1, c2, c3, c4, fun q => ⟨rfl, (c5.out q).2⟩, c6, fun _ => rfl, fun _ => ⟨q5, rfl⟩, c9, c10, c11, c12, c13, c14, c15, c16, c17, c18⟩
        | 9, ho, hf =>
          simp only [List.getElem?_toArray, List.getElem?_cons_zero, List.getElem?_cons_succ, Option.some.injEq] at ho
          subst ho
          have q8 := hd ⟨8, .data⟩ (by simp) (by rfl)
          rintro ac w' ⟨v51, v52, v53, v54, v55, v56, v57, v58, v59, v60, v61, v50, v62, v63, v64, v15, v16, v17, x52, x56, x15, rfl, hb, c0, c1, c2, c3, c4, c5, c6, c7, c8, c9, c10, c11, c12, c13, c14, c15, c16, c17, c18⟩ K hK
          replace hK := toHid hK
          obtain ⟨q5, rfl⟩ := c8 q8
          obtain ⟨rfl, B5⟩ := c5 q5
          obtain ⟨-, m2, m3⟩ := B5 hf
          replace c8 := toHid c8
          clear c5 B5
          go_wp2
          exact hK.out _ _ ⟨v51, v52, v53, v54, v55, _, v57, v58, _, _, v61, v50, v62, v63, v64, v15, v16, v17, x52, x56, x15, rfl, hb, c0, c1, c2, c3, c4, fun q => ⟨rfl, fun r => by cases r⟩, c6, c7, fun q => ⟨(c8.out q).1, rfl⟩, fun _ => rfl, c10, c11, c12, c13, c14, c15, c16, c17, c18⟩
        | 10, ho, hf =>
          simp only [List.getElem?_toArray, List.getElem?_cons_zero, List.getElem?_cons_succ, Option.some.injEq] at ho
          subst ho
          have q1 := hd ⟨1, .data⟩ (by simp) (by rfl)
          have q9 := hd ⟨9, .data⟩ (by simp) (by rfl)
          rintro ac w' ⟨v51, v52, v53, v54, v55, v56, v57, v58, v59, v60, v61, v50, v62, v63, v64, v15, v16, v17, x52, x56, x15, rfl, hb, c0, c1, c2, c3, c4, c5, c6, c7, c8, c9, c10, c11, c12, c13, c14, c15, c16, c17, c18⟩ K hK
          replace hK := toHid hK
          obtain ⟨rfl, R1⟩ := c1 q1
          replace R1 := toHid (R1 hf)
          obtain rfl := c9 q9
          go_wp2_with (go_at_call 11; refine (HT.out _ _ _ _ R1.out (Nat.le_refl _)).mono ?_; rintro e w9 ⟨rfl, h9⟩)
          exact hK.out _ _ ⟨v51, _, v53, v54, v55, v56, v57, v58, v59, _, _, v50, v62, v63, v64, v15, v16, v17, x52, x56, x15, rfl, hb.on h9, c0, fun q => ⟨rfl, fun r => by cases r⟩, c2, c3, c4, fun q => ⟨(c5 q).1, fun r => ((c5 q).2 r).below h9⟩, c6, c7, c8, fun _ => rfl, fun _ => rfl, c11, c12, c13, c14, fun q => ⟨(c15 q).1, (c15 q).2.1, (c15 q).2.2.below h9⟩, c16, c17, c18⟩
        | 11, ho, hf =>
          simp only [List.getElem?_toArray, List.getElem?_cons_zero, List.getElem?_cons_succ, Option.some.injEq] at ho
          subst ho
          have q10 := hd ⟨10, .data⟩ (by simp) (by rfl)
          rintro ac w' ⟨v51, v52, v53, v54, v55, v56, v57, v58, v59, v60, v61, v50, v62, v63, v64, v15, v16, v17, x52, x56, x15, rfl, hb, c0, c1, c2, c3, c4, c5, c6, c7, c8, c9, c10, c11, c12, c13, c14, c15, c16, c17, c18⟩ K hK
          replace hK := toHid hK
          obtain rfl := c10 q10
          go_wp2
          exact hK.out _ _ ⟨v51, v52, v53, v54, v55, v56, v57, v58, v59, v60, _, _, v62, v63, v64, v15, v16, v17, x52, x56, x15, rfl, hb, c0, c1, c2, c3, c4, c5, c6, c7, c8, c9, fun _ => rfl, fun _ => rfl, c12, c13, c14, c15, c16, c17, c18⟩
        | 12, ho, hf =>
          simp only [List.getElem?_toArray, List.getElem?_cons_zero, List.getElem?_cons_succ, Option.some.injEq] at ho
          subst ho
          have q11 := hd ⟨11, .data⟩ (by simp) (by rfl)
          rintro ac w' ⟨v51, v52, v53, v54, v55, v56, v57, v58, v59, v60, v61, v50, v62, v63, v64, v15, v16, v17, x52, x56, x15, rfl, hb, c0, c1, c2, c3, c4, c5, c6, c7, c8, c9, c10, c11, c12, c13, c14, c15, c16, c17, c18⟩ K hK
          replace hK := toHid hK
          obtain rfl := c11 q11
          go_wp2
          exact hK.out _ _ ⟨v51, v52, v53, v54, v55, v56, v57, v58, v59, v60, v61, _, _, v63, v64, v15, v16, v17, x52, x56, x15, rfl, hb, c0, c1, c2, c3, c4, c5, c6, c7, c8, c9, c10, fun _ => rfl, fun _ => rfl, c13, c14, c15, c16, c17, c18⟩
        | 13, ho, hf =>
          simp only [List.getElem?_toArray, List.getElem?_cons_zero, List.getElem?_cons_succ, Option.some.injEq] at ho
          subst ho
          have q11 := hd ⟨11, .data⟩ (by simp) (by rfl)
          rintro ac w' ⟨v51, v52, v53, v54, v55, v56, v57, v58, v59, v60, v61, v50, v62, v63, v64, v15, v16, v17, x52, x56, x15, rfl, hb, c0, c1, c2, c3, c4, c5, c6, c7, c8, c9, c10, c11, c12, c13, c14, c15, c16, c17, c18⟩ K hK
          replace hK := toHid hK
          obtain rfl := c11 q11
          go_wp2
          exact hK.out _ _ ⟨v51, v52, v53, v54, v55, v56, v57, v58, v59, v60, v61, _, v62, _, v64, v15, v16, v17, x52, x56, x15, rfl, hb, c0, c1, c2, c3, c4, c5, c6, c7, c8, c9, c10, fun _ => rfl, c12, fun _ => rfl, c14, c15, c16, c17, c18⟩
        | 14, ho, hf =>
          simp only [List.getElem?_toArray, List.getElem?_cons_zero, List.getElem?_cons_succ, Option.some.injEq] at ho
          subst ho
          have q11 := hd ⟨11, .data⟩ (by simp) (by rfl)
          rintro ac w' ⟨v51, v52, v53, v54, v55, v56, v57, v58, v59, v60, v61, v50, v62, v63, v64, v15, v16, v17, x52, x56, x15, rfl, hb, c0, c1, c2, c3, c4, c5, c6, c7, c8, c9, c10, c11, c12, c13, c14, c15, c16, c17, c18⟩ K hK
          replace hK := toHid hK
          obtain rfl := c11 q11
          go_wp2
          exact hK.out _ _ ⟨v51, v52, v53, v54, v55, v56, v57, v58, v59, v60, v61, _, v62, v63, _, v15, v16, v17, x52, x56, x15, rfl, hb, c0, c1, c2, c3, c4, c5, c6, c7, c8, c9, c10, fun _ => rfl, c12, c13, fun _ => rfl, c15, c16, c17, c18⟩
        | 15, ho, hf =>
          simp only [List.getElem?_toArray, List.getElem?_cons_zero, List.getElem?_cons_succ, Option.some.injEq] at ho
          subst ho
          rintro ac w' ⟨v51, v52, v53, v54, v55, v56, v57, v58, v59, v60, v61, v50, v62, v63, v64, v15, v16, v17, x52, x56, x15, rfl, hb, c0, c1, c2, c3, c4, c5, c6, c7, c8, c9, c10, c11, c12, c13, c14, c15, c16, c17, c18⟩ K hK
          replace hK := toHid hK
          go_wp2
          exact hK.out _ _ ⟨v51, v52, v53, v54, v55, v56, v57, v58, v59, v60, v61, v50, v62, v63, v64, _, v16, v17, x52, x56, w'.heap.size, rfl, hb.onA _, c0, fun q => ⟨(c1 q).1, fun r => ((c1 q).2 r).fwd ((Below.refl _ w').onA (.cells #[.int .i64 0, .int .i64 0, .int .i64 0, .slice none 0 0, .int .i64 0, .int .i64 0, .int .i64 0, .int .i64 0, .int .i64 0, .bool false, .bool false] 29))⟩, c2, c3, c4, fun q => ⟨(c5 q).1, fun r => ((c5 q).2 r).below ((Below.refl _ w').onA (.cells #[.int .i64 0, .int .i64 0, .int .i64 0, .slice none 0 0, .int .i64 0, .int .i64 0, .int .i64 0, .int .i64 0, .int .i64 0, .bool false, .bool false] 29))⟩, c6, c7, c8, c9, c10, c11, c12, c13, c14, fun _ => ⟨rfl, hb.size, Box.new w' _ _⟩, c16, c17, c18⟩
        | 16, ho, hf =>
          simp only [List.getElem?_toArray, List.getElem?_cons_zero, List.getElem?_cons_succ, Option.some.injEq] at ho
          subst ho
          have q15 := hd ⟨15, .data⟩ (by simp) (by rfl)
          have q12 := hd ⟨12, .data⟩ (by simp) (by rfl)
          have q9 := hd ⟨9, .phase⟩ (by simp) (by rfl)
          have q10 := hd ⟨10, .phase⟩ (by simp) (by rfl)
          rintro ac w' ⟨v51, v52, v53, v54, v55, v56, v57, v58, v59, v60, v61, v50, v62, v63, v64, v15, v16, v17, x52, x56, x15, rfl, hb, c0, c1, c2, c3, c4, c5, c6, c7, c8, c9, c10, c11, c12, c13, c14, c15, c16, c17, c18⟩ K hK
          replace hK := toHid hK
          obtain ⟨rfl, k15, BX⟩ := c15 q15
          obtain rfl := c12 q12
          obtain rfl := c9 q9
          obtain rfl := c10 q10
          obtain ⟨bx1, bx2, bx3⟩ := id BX
          obtain ⟨BY, ON⟩ := BX.set11 (.int .i64 0) (.int .i64 0) (.int .i64 0) (.slice none 0 0) (.int .i64 0) (.int .i64 0) (.int .i64 0) (.int .i64 0) (.int .i64 0) (.bool false) (.bool false)
          replace BY := toHid BY
          replace ON := toHid ON
          clear BX
          go_wp2
          exact hK.out _ _ ⟨v51, v52, v53, v54, v55, v56, v57, v58, v59, _, _, v50, _, v63, v64, _, v16, v17, x52, x56, x15, rfl, hb.trans (ON.out.below.mono k15), c0, fun q => ⟨(c1 q).1, fun r => by simp [q10] at r⟩, c2, c3, c4, fun q => ⟨(c5 q).1, fun r => by simp [q9] at r⟩, c6, c7, c8, fun _ => rfl, fun _ => rfl, c11, fun _ => rfl, c13, c14, fun _ => ⟨rfl, k15, BY.out⟩, fun _ => trivial, c17, c18⟩
        | 17, ho, hf =>
          simp only [List.getElem?_toArray, List.getElem?_cons_zero, List.getElem?_cons_succ, Option.some.injEq] at ho
          subst ho
          have q13 := hd ⟨13, .data⟩ (by simp) (by rfl)
          rintro ac w' ⟨v51, v52, v53, v54, v55, v56, v57, v58, v59, v60, v61, v50, v62, v63, v64, v15, v16, v17, x52, x56, x15, rfl, hb, c0, c1, c2, c3, c4, c5, c6, c7, c8, c9, c10, c11, c12, c13, c14, c15, c16, c17, c18⟩ K hK
          replace hK := toHid hK
          obtain rfl := c13 q13
          go_wp2
          exact hK.out _ _ ⟨v51, v52, v53, v54, v55, v56, v57, v58, v59, v60, v61, v50, v62, _, v64, v15, _, v17, x52, x56, x15, rfl, hb, c0, c1, c2, c3, c4, c5, c6, c7, c8, c9, c10, c11, c12, fun _ => rfl, c14, c15, c16, fun _ => rfl, c18⟩
        | 18, ho, hf =>
          simp only [List.getElem?_toArray, List.getElem?_cons_zero, List.getElem?_cons_succ, Option.some.injEq] at ho
          subst ho
          have q14 := hd ⟨14, .data⟩ (by simp) (by rfl)
          rintro ac w' ⟨v51, v52, v53, v54, v55, v56, v57, v58, v59, v60, v61, v50, v62, v63, v64, v15, v16, v17, x52, x56, x15, rfl, hb, c0, c1, c2, c3, c4, c5, c6, c7, c8, c9, c10, c11, c12, c13, c14, c15, c16, c17, c18⟩ K hK
          replace hK := toHid hK
          obtain rfl := c14 q14
          go_wp2
          exact hK.out _ _ ⟨v51, v52, v53, v54, v55, v56, v57, v58, v59, v60, v61, v50, v62, v63, _, v15, v16, _, x52, x56, x15, rfl, hb, c0, c1, c2, c3, c4, c5, c6, c7, c8, c9, c10, c11, c12, c13, fun _ => rfl, c15, c16, c17, fun _ => rfl⟩
        | j + 19, ho, hf => simp at ho
      · rintro f ac w' hf ⟨v51, v52, v53, v54, v55, v56, v57, v58, v59, v60, v61, v50, v62, v63, v64, v15, v16, v17, x52, x56, x15, rfl, hb, c0, c1, c2, c3, c4, c5, c6, c7, c8, c9, c10, c11, c12, c13, c14, c15, c16, c17, c18⟩
        obtain rfl := c18 (hf 18 (by simp))
        clear c0 c1 c2 c3 c4 c5 c6 c7 c8 c9 c10 c11 c12 c13 c14 c15 c16 c17 c18
        replace hf := toHid hf
        go_wp2
        go_meet
        exact ⟨rfl, hb⟩
  case rest =>
    obtain ⟨rfl, hbc⟩ := hcut
    replace BG := toHid (BG.out.below hbc)
    replace RB := toHid (RB.out.fwd hbc)
    replace hk := toHid (hk.out.on hbc)
    clear hbc HT hn hy hu2
    obtain ⟨i0, hi0, hz0, hz1, hz2⟩ := info_parts Try.infoMsg
    go_wp2_with (at_make; refine wpList_make_full _ rfl _ _ 22 rfl wc.heap.size 29 i0 _ 11 Try.underlying22 hi0 hz0 hz1 _ _ _ _ 512 rfl rfl rfl rfl (by rw [hz2]; omega) (by decide) (Nat.le_refl _) ?_)
    intro w5 own5 hg5
    have F5 := toHid (Full.of_made (V := MvV ⟨0, 1, 2, [], 0, ⟨0, 0, 0, 0, false⟩, false, .slice none 0 0⟩) own5)
    have hb5 : Below wc.heap.size wc w5 := (Below.refl _ _).grown hg5 (Nat.le_refl _) (fun j hj => by cases hj)
    have hk0 := hk.out.size
    clear own5 hg5 hz0 hz1 hz2 hi0
    go_wp2
    go_loopw [19] (fun s19 wr => ∃ i : Nat, i ≤ 512 ∧ s19 = .int .i64 i ∧ Full 512 i (MvV ⟨0, 1, 2, [], 0, ⟨0, 0, 0, 0, false⟩, false, .slice none 0 0⟩) wr wc.heap.size ∧ Below wc.heap.size wc wr) (fun s19 _ => 512 - (intOf s19).toNat)
    case atStart => exact ⟨0, Nat.zero_le _, rfl, F5.out, hb5⟩
    case round =>
      clear hb5 F5
      obtain ⟨i, hi, rfl, FF, hkr⟩ := hrel
      obtain ⟨g1, g2, g3⟩ := BG.out.below hkr
      by_cases hlt : i < 512
      · have hlt' : (i : Int) < 512 := by omega
        have hi1 : 0 ≤ (i : Int) := by omega
        have FS := toHid (FF.step hlt rfl)
        have FO := toHid ((setL_only (MvV ⟨0, 1, 2, [], 0, ⟨0, 0, 0, 0, false⟩, false, .slice none 0 0⟩) wr wr (i * 11) (Only.refl wc.heap.size _ _)).below)
        have fa := FF.at hlt rfl
        obtain ⟨⟨u0, e0⟩, k0⟩ := fa 0 (by decide)
        obtain ⟨⟨u1, e1⟩, k1⟩ := fa 1 (by decide)
        obtain ⟨⟨u2, e2⟩, k2⟩ := fa 2 (by decide)
        obtain ⟨⟨u3, e3⟩, k3⟩ := fa 3 (by decide)
        obtain ⟨⟨u4, e4⟩, k4⟩ := fa 4 (by decide)
        obtain ⟨⟨u5, e5⟩, k5⟩ := fa 5 (by decide)
        obtain ⟨⟨u6, e6⟩, k6⟩ := fa 6 (by decide)
        obtain ⟨⟨u7, e7⟩, k7⟩ := fa 7 (by decide)
        obtain ⟨⟨u8, e8⟩, k8⟩ := fa 8 (by decide)
        obtain ⟨⟨u9, e9⟩, k9⟩ := fa 9 (by decide)
        obtain ⟨⟨u10, e10⟩, k10⟩ := fa 10 (by decide)
        rw [Nat.add_zero] at e0 k0
        have hkr' := toHid hkr
        clear fa FF hkr
        go_wp2
        go_roundw
        case rel => exact ⟨i + 1, by omega, by go_num, FS.out, hkr'.out.trans FO.out⟩
        case measure => simp [intOf]; omega
      · obtain rfl : i = 512 := by omega
        have RF := toHid ((FF.row (RowI.nil0 (lo := 0) (hi := 0)) (by decide)).wide (Nat.le_refl _) (hi' := wr.heap.size) (by have := FF.lt; simp; omega))
        replace RB := toHid (RB.out.fwd hkr)
        replace hk := toHid (hk.out.on hkr)
        clear FF hkr BG
        go_wp2_with (first
          | (go_at_call 9; refine (fB4 RF.out (Nat.le_refl _)).mono ?_; rintro e w6 ⟨vj, rfl, h6⟩
             replace RF := toHid (RF.out.fwd h6)
             replace RB := toHid (RB.out.fwd h6)
             replace hk := toHid (hk.out.on h6)
             have t3 := trivial
             clear h6 g1 g2 g3)
          | (go_at_call 16; clear t3; refine (qMay_is RB.out (Nat.le_refl _) fB5).mono ?_; rintro e w7 ⟨rfl, h7⟩
             replace RF := toHid (RF.out.fwd h7)
             replace hk := toHid (hk.out.on h7)
             clear h7)
          | (go_at_call 16; refine (qMay_is RF.out (Nat.le_refl _) fB6).mono ?_; rintro e w8 ⟨rfl, h8⟩
             replace hk := toHid (hk.out.on h8)
             clear h8)
          | (go_at_call 14; refine (num_any _ _).mono ?_; rintro e w9 ⟨rfl, hw9⟩; subst w9))
        go_ret
        exact ⟨rfl, hk.out⟩

/-! ### The row's step -/
set_option maxRecDepth 100000 in
theorem lifted (os : Os) (started : os.Started) (H : Type) (enc : TypeId × Value → H) :
    ReturnsInHanded {} Try.checked os 4 .any (Rows.queueFormsSpec.pre6 enc Try.prog Try.f4 Rows.queueFormsRow.domain false) (Rows.queueFormsSpec.post enc Try.prog Try.f4 false true false false) := by
  refine returnsInHanded_of_change_sized (C := Try.checked) ownK started (by kernel_rfl) Try.func4
    (ChangeSpec.witness6 (enc := enc) (C := Try.checked) false ⟨#[], #[.int .i64 0, .int .i64 0], []⟩ 8 (by kernel_rfl) (by kernel_rfl) (by kernel_rfl) (by kernel_rfl)) ?_
  intro W base args ds gs before hval0 hW hcnd hsz0 _
  have hsz : (DataW.weightsEach Try.prog (Try.f4.params.toList ++ Rows.queueFormsSpec.plain.varTypes Try.prog) (ds ++ gs)).all (· ≤ reachBytes) = true := hsz0
  have hval : ∀ (j : Nat) t v, Try.f4.params[j]? = some t → args[j]? = some v → Value.okWide Try.prog W .any base t v := hval0
  have hW' := hW
  obtain ⟨p, q, hA0, hV, rfl, hfz, hnd⟩ := hW
  have hA : DataW.TrodAll enc Try.prog W 0 (fun _ => true) true Try.f4.params.toList args.toList ds p := hA0
  rw [Try.params4] at hA hval hsz
  obtain ⟨v0, vs0, d0, ds0, p0, q0, hargs, rfl, rfl, h0, r0⟩ := trodAll_cons hA
  obtain ⟨v1, vs1, d1, ds1, p1, q1, rfl, rfl, rfl, h1, r1⟩ := trodAll_cons r0
  obtain ⟨rfl, rfl, rfl⟩ := trodAll_nil r1
  obtain rfl : args = #[v0, v1] := by cases args; simp_all
  obtain ⟨rfl, rfl⟩ := trodVars_none hV
  clear r0 r1
  have k0 := h0
  have lt0 : ∀ x ∈ p0, x.block < W.heap.size := by obtain ⟨m, hm⟩ := k0; exact DataW.trod_lt m _ _ _ hm
  have k1 := h1
  have lt1 : ∀ x ∈ p1, x.block < W.heap.size := by obtain ⟨m, hm⟩ := k1; exact DataW.trod_lt m _ _ _ hm
  obtain ⟨a0, rfl, rfl, rfl, w0⟩ := open_int Try.underlying3 (hval 0 3 v0 rfl rfl) h0
  obtain ⟨a1, rfl, rfl, rfl, w1⟩ := open_int Try.underlying3 (hval 1 3 v1 rfl rfl) h1
  clear hA0 hval0
  refine (walk a0 a1 W w0 w1).mono fun e W' ⟨he, bel⟩ => ?_
  subst he
  exact ⟨_, rfl, _, _, _, [], _, [], hW', trodAll_mk1 (shut_bool Try.underlying4 _), (trodAll_cons_mk (Below.trod laidOut (by kernel_rfl) (of_decide_eq_true (by kernel_rfl)) k0 bel lt0) (trodAll_cons_mk (Below.trod laidOut (by kernel_rfl) (of_decide_eq_true (by kernel_rfl)) k1 bel lt1) trodAll_mk0)), rfl, bel.frame _, fun h => by cases h⟩

theorem over : Rows.queueFormsRow.holds Try.pinned (OpenSpec.ofChange Rows.queueFormsSpec) :=
  OpenClaim.holds_of_wide 4 Try.f4 rfl rfl rfl rfl rfl rfl rfl ⟨rfl, rfl, rfl, rfl, rfl⟩ rfl rfl rfl rfl rfl (by kernel_rfl) Try.func4 (by kernel_rfl)
    (of_decide_eq_true (by kernel_rfl)) (by unfold Func.isWrapper; first | (rw [if_pos (by decide +kernel)]; kernel_rfl) | (rw [if_neg (by decide +kernel)]; exact ⟨rfl, rfl⟩))
    (fun os started H enc _ => lifted os started H enc)

end Go.Proofs.Ytnnhnidefjhakaa.queueForms

namespace Go.Proofs.Ytnnhnidefjhakaa
/-- The statement, by its short name. -/
theorem queueForms_holds : Rows.QueueFormsSaid := queueForms.over
#print axioms queueForms_holds
end Go.Proofs.Ytnnhnidefjhakaa
