
/-
  What every program answers that is one, of queues.
-/
import Derived.Test.YtnnhnidefjhakaaQueueLaw
namespace Go.Proofs.Ytnnhnidefjhakaa
open Go.ChangeShapes Go.WideShapes Go.ChangeAt Go.RowKit

theorem RowM.fwd {w w' : World} {v : Value} {ms : List Mg} (h : RowM 0 w.heap.size w v ms) (hb : Below w.heap.size w w') : RowM 0 w'.heap.size w' v ms := (h.below hb (Nat.le_refl _)).wide (Nat.le_refl _) hb.size
theorem RowI.fwd {w w' : World} {v : Value} {xs : List Int} (h : RowI 0 w.heap.size w v xs) (hb : Below w.heap.size w w') : RowI 0 w'.heap.size w' v xs := (h.below hb (Nat.le_refl _)).wide (Nat.le_refl _) hb.size

def qA : Mg := ⟨0, 1, 2, [7], 0, ⟨0, 0, 0, 0, false⟩, false⟩
def qB : Mg := ⟨2, 2, 1, [], 9, ⟨0, 0, 0, 0, false⟩, false⟩
theorem aw1 {lo hi : Nat} {w : World} {v : Value} (h : RowM lo hi w v [qA]) (hh : hi ≤ w.heap.size) :
    Calls Try.prog 9 #[v, .agg #[.int .i64 2, .int .i64 2, .int .i64 1, .slice none 0 0, .int .i64 9, .int .i64 0, .int .i64 0, .int .i64 0, .int .i64 0, .bool false, .bool false]] w fun e w' => ∃ v', e = .returned (.tuple #[v', .int .i64 0]) ∧ OwnM w.heap.size w' v' [qA, qB] ∧ Below w.heap.size w w' :=
  qAdd_at h hh (RowI.nil0 (lo := 0) (hi := 0)) (Nat.zero_le _) 2 2 1 9 0 0 0 0 false false (by decide +kernel) (by decide +kernel)
theorem aw2 {lo hi : Nat} {w : World} {v : Value} (h : RowM lo hi w v [qA, qB]) (hh : hi ≤ w.heap.size) :
    Calls Try.prog 11 #[v, .int .i64 0] w fun e w' => ∃ p c v', e = .returned (.tuple #[.agg #[.int .i64 0, .int .i64 1, .int .i64 2, .slice p 1 c, .int .i64 0, .int .i64 0, .int .i64 0, .int .i64 0, .int .i64 0, .bool false, .bool false], v', .int .i64 0]) ∧
      w'.ownsRow w.heap.size 3 1 (.slice p 1 c) 1 (([7] : List Int).map (Value.int .i64)) ∧ OwnM w.heap.size w' v' [qB] ∧ Below w.heap.size w w' :=
  qTake_any h hh 0 (is := [7]) (by decide +kernel) (by decide +kernel) (by decide +kernel)
theorem aw3 {lo hi : Nat} {w : World} {v : Value} (h : RowM lo hi w v [qA, qB]) (hh : hi ≤ w.heap.size) :
    Calls Try.prog 9 #[v, .agg #[.int .i64 0, .int .i64 0, .int .i64 0, .slice none 0 0, .int .i64 0, .int .i64 0, .int .i64 0, .int .i64 0, .int .i64 0, .bool false, .bool false]] w fun e w' => ∃ v', e = .returned (.tuple #[v', .int .i64 1400]) ∧ Below w.heap.size w w' :=
  (qAdd_at h hh (RowI.nil0 (lo := 0) (hi := 0)) (Nat.zero_le _) 0 0 0 0 0 0 0 0 false false (L := []) (E := 1400) (by decide +kernel) (by decide +kernel)).mono fun _ _ ⟨v, he, _, hb⟩ => ⟨v, he, hb⟩
theorem aw4 {lo hi : Nat} {w : World} {v : Value} (h : RowM lo hi w v [qA, qB]) (hh : hi ≤ w.heap.size) :
    Calls Try.prog 11 #[v, .int .i64 2] w fun e w' => ∃ p c v', e = .returned (.tuple #[.agg #[.int .i64 0, .int .i64 0, .int .i64 0, .slice p 0 c, .int .i64 0, .int .i64 0, .int .i64 0, .int .i64 0, .int .i64 0, .bool false, .bool false], v', .int .i64 1400]) ∧ Below w.heap.size w w' :=
  (qTake_any h hh 2 (is := []) (n := 0) (a := 0) (b := 0) (k := 0) (tk := 0) (tc := 0) (tu := 0) (tx := 0) (tg := false) (g := false) (L := []) (E := 1400) (by decide +kernel) (by decide +kernel) (by decide +kernel)).mono fun _ _ ⟨p, c, v, he, _, _, hb⟩ => ⟨p, c, v, he, hb⟩

set_option maxHeartbeats 4000000 in
theorem awake14_any (w : World) :
    Calls Try.prog 20 #[] w fun e w' => e = .returned (.bool true) ∧ Below w.heap.size w w' := by
  have BI := toHid (((Box.new w #[.int .i64 7] 3).alloc (.cells #[.int .i64 0, .int .i64 1, .int .i64 2, .slice (some ⟨w.heap.size, 0, none⟩) 1 1, .int .i64 0, .int .i64 0, .int .i64 0, .int .i64 0, .int .i64 0, .bool false, .bool false] 29)).alloc (.cells #[.int .i64 2, .int .i64 2, .int .i64 1, .slice none 0 0, .int .i64 9, .int .i64 0, .int .i64 0, .int .i64 0, .int .i64 0, .bool false, .bool false] 29))
  have BA := toHid ((Box.new1 w (.cells #[.int .i64 7] 3) #[.int .i64 0, .int .i64 1, .int .i64 2, .slice (some ⟨w.heap.size, 0, none⟩) 1 1, .int .i64 0, .int .i64 0, .int .i64 0, .int .i64 0, .int .i64 0, .bool false, .bool false] 29).alloc (.cells #[.int .i64 2, .int .i64 2, .int .i64 1, .slice none 0 0, .int .i64 9, .int .i64 0, .int .i64 0, .int .i64 0, .int .i64 0, .bool false, .bool false] 29))
  have BB := toHid (Box.new2 w (.cells #[.int .i64 7] 3) (.cells #[.int .i64 0, .int .i64 1, .int .i64 2, .slice (some ⟨w.heap.size, 0, none⟩) 1 1, .int .i64 0, .int .i64 0, .int .i64 0, .int .i64 0, .int .i64 0, .bool false, .bool false] 29) #[.int .i64 2, .int .i64 2, .int .i64 1, .slice none 0 0, .int .i64 9, .int .i64 0, .int .i64 0, .int .i64 0, .int .i64 0, .bool false, .bool false] 29)
  have hk := toHid ((((Below.refl _ w).onA (.cells #[.int .i64 7] 3)).onA (.cells #[.int .i64 0, .int .i64 1, .int .i64 2, .slice (some ⟨w.heap.size, 0, none⟩) 1 1, .int .i64 0, .int .i64 0, .int .i64 0, .int .i64 0, .int .i64 0, .bool false, .bool false] 29)).onA (.cells #[.int .i64 2, .int .i64 2, .int .i64 1, .slice none 0 0, .int .i64 9, .int .i64 0, .int .i64 0, .int .i64 0, .int .i64 0, .bool false, .bool false] 29))
  have t1 := trivial
  have t2 := trivial
  have t3 := trivial
  go_enter Try.func20, Try.ntmps20
  go_upto_region 2 with (fail)
  generalize ((w.alloc (.cells #[.int .i64 7] 3)).alloc (.cells #[.int .i64 0, .int .i64 1, .int .i64 2, .slice (some ⟨w.heap.size, 0, none⟩) 1 1, .int .i64 0, .int .i64 0, .int .i64 0, .int .i64 0, .int .i64 0, .bool false, .bool false] 29)).alloc (.cells #[.int .i64 2, .int .i64 2, .int .i64 1, .slice none 0 0, .int .i64 9, .int .i64 0, .int .i64 0, .int .i64 0, .int .i64 0, .bool false, .bool false] 29) = wB at BI BA BB hk ⊢
  have zI := BI.out.1
  obtain ⟨a1, a2, a3⟩ := BA.out
  obtain ⟨b1, b2, b3⟩ := BB.out
  go_wp2_with (first
    | (go_at_call 9; clear t1; refine (aw1 (RowM.lit1 ⟨0, 1, 2, [7], 0, ⟨0, 0, 0, 0, false⟩, false, .slice (some ⟨w.heap.size, 0, none⟩) 1 1⟩ rfl (Box.rowI [7] BI.out rfl rfl (by decide)) rfl) (by simp; omega)).mono ?_; rintro e w1 ⟨v1, rfl, O1, h1⟩
       have hb1 := ((Below.refl _ wB).onA (.cells #[.int .i64 0, .int .i64 1, .int .i64 2, .slice (some ⟨w.heap.size, 0, none⟩) 1 1, .int .i64 0, .int .i64 0, .int .i64 0, .int .i64 0, .int .i64 0, .bool false, .bool false] 29)).on h1
       replace BI := toHid (BI.out.below hb1)
       replace BA := toHid (BA.out.below hb1)
       replace BB := toHid (BB.out.below hb1)
       replace hk := toHid (hk.out.on hb1)
       have R1 := toHid (O1.row.wide (Nat.zero_le _) (Nat.le_refl _))
       clear O1 h1 hb1 a1 a2 a3 b1 b2 b3)
    | (go_at_call 11; clear t2; refine (aw2 R1.out (Nat.le_refl _)).mono ?_; rintro e w2 ⟨p2, c2, v2, rfl, own2, O2, h2⟩
       have hb2 := h2.onA (.cells #[.int .i64 0, .int .i64 1, .int .i64 2, .slice p2 1 c2, .int .i64 0, .int .i64 0, .int .i64 0, .int .i64 0, .int .i64 0, .bool false, .bool false] 29)
       replace BI := toHid (BI.out.below hb2)
       replace BA := toHid (BA.out.below hb2)
       replace BB := toHid (BB.out.below hb2)
       replace R1 := toHid (R1.out.fwd hb2)
       replace hk := toHid (hk.out.on hb2)
       have BX := toHid (Box.new w2 #[.int .i64 0, .int .i64 1, .int .i64 2, .slice p2 1 c2, .int .i64 0, .int .i64 0, .int .i64 0, .int .i64 0, .int .i64 0, .bool false, .bool false] 29)
       have RX := toHid (((RowI.of_owns (zs := [7]) own2).wide (Nat.zero_le _) (Nat.le_refl _)).fwd ((Below.refl _ w2).onA (.cells #[.int .i64 0, .int .i64 1, .int .i64 2, .slice p2 1 c2, .int .i64 0, .int .i64 0, .int .i64 0, .int .i64 0, .int .i64 0, .bool false, .bool false] 29)))
       have R2 := toHid ((O2.row.wide (Nat.zero_le _) (Nat.le_refl _)).fwd ((Below.refl _ w2).onA (.cells #[.int .i64 0, .int .i64 1, .int .i64 2, .slice p2 1 c2, .int .i64 0, .int .i64 0, .int .i64 0, .int .i64 0, .int .i64 0, .bool false, .bool false] 29)))
       clear own2 O2 h2 hb2)
    | (go_at_call 9; refine (aw3 R1.out (Nat.le_refl _)).mono ?_; rintro e w3 ⟨v3, rfl, h3⟩
       replace BI := toHid (BI.out.below h3)
       replace BA := toHid (BA.out.below h3)
       replace BB := toHid (BB.out.below h3)
       replace BX := toHid (BX.out.below h3)
       replace R1 := toHid (R1.out.fwd h3)
       replace R2 := toHid (R2.out.fwd h3)
       replace RX := toHid (RX.out.fwd h3)
       replace hk := toHid (hk.out.on h3)
       clear h3)
    | (go_at_call 11; refine (aw4 R1.out (Nat.le_refl _)).mono ?_; rintro e w4 ⟨p4, c4, v4, rfl, h4⟩
       have hb4 := h4.onA (.cells #[.int .i64 0, .int .i64 0, .int .i64 0, .slice p4 0 c4, .int .i64 0, .int .i64 0, .int .i64 0, .int .i64 0, .int .i64 0, .bool false, .bool false] 29)
       replace BI := toHid (BI.out.below hb4)
       replace BA := toHid (BA.out.below hb4)
       replace BB := toHid (BB.out.below hb4)
       replace BX := toHid (BX.out.below hb4)
       replace R1 := toHid (R1.out.fwd hb4)
       replace R2 := toHid (R2.out.fwd hb4)
       replace RX := toHid (RX.out.fwd hb4)
       replace hk := toHid (hk.out.on hb4)
       have zI := BI.out.1
       obtain ⟨a1, a2, a3⟩ := BA.out
       obtain ⟨b1, b2, b3⟩ := BB.out
       clear h4 hb4)
    | (go_at_call 13; clear t3; refine (sameMsgs_at (R1.out.alloc _) (Nat.le_trans (Nat.le_refl _) (by simp)) (RowM.lits [⟨0, 1, 2, [7], 0, ⟨0, 0, 0, 0, false⟩, false, .slice (some ⟨w.heap.size, 0, none⟩) 1 1⟩, ⟨2, 2, 1, [], 9, ⟨0, 0, 0, 0, false⟩, false, .slice none 0 0⟩] rfl rfl (lo := 0) (hi := w.heap.size + 1) (fun x hx => ?_) (show 2 ≤ maxLen by decide) (by simp)) (by simp at zI ⊢; omega) (ms := [qA, qB]) (r := true) (by simp [qA, qB, MgO.mg])).mono ?_
       · (rcases List.mem_cons.1 hx with rfl | hx
          · exact (Box.rowI [7] BI.out rfl rfl (by decide)).wide (Nat.zero_le _) (Nat.le_refl _)
          · obtain rfl := List.mem_singleton.1 hx
            exact RowI.nil0)
       skip; rintro e w6 ⟨rfl, h6⟩
       have hb6 := ((Below.refl _ _).onA _).on h6
       replace BI := toHid (BI.out.below hb6)
       replace BA := toHid (BA.out.below hb6)
       replace BB := toHid (BB.out.below hb6)
       replace BX := toHid (BX.out.below hb6)
       replace R1 := toHid (R1.out.fwd hb6)
       replace R2 := toHid (R2.out.fwd hb6)
       replace RX := toHid (RX.out.fwd hb6)
       replace hk := toHid (hk.out.on hb6)
       clear h6 hb6 a1 a2 a3 b1 b2 b3 zI
       have zI := BI.out.1
       obtain ⟨a1, a2, a3⟩ := BA.out
       obtain ⟨b1, b2, b3⟩ := BX.out)
    | (go_at_call 14; refine (num_any _ _).mono ?_; rintro e w9 ⟨rfl, hw9⟩; subst w9)
    | (go_at_call 15; refine (sameMsg_same (is := [7]) RX.out (Box.rowI [7] BI.out rfl rfl (by decide)) 0 1 2 0 0 0 0 0 false false).mono ?_; rintro e w7 ⟨rfl, h7⟩
       replace BI := toHid (BI.out.below h7)
       replace BA := toHid (BA.out.below h7)
       replace BB := toHid (BB.out.below h7)
       replace R1 := toHid (R1.out.fwd h7)
       replace R2 := toHid (R2.out.fwd h7)
       replace hk := toHid (hk.out.on h7)
       clear h7 a1 a2 a3 b1 b2 b3 zI
       have zI := BI.out.1
       obtain ⟨b1, b2, b3⟩ := BB.out)
    | (go_at_call 13; refine (sameMsgs_at (R2.out.alloc _) (Nat.le_trans (Nat.le_refl _) (by simp)) (RowM.lit1 (lo := 0) (hi := 0) ⟨2, 2, 1, [], 9, ⟨0, 0, 0, 0, false⟩, false, .slice none 0 0⟩ rfl RowI.nil0 rfl) (by simp) (ms := [qB]) (r := true) (by simp [qB, MgO.mg])).mono ?_; rintro e w8 ⟨rfl, h8⟩
       have hb8 := ((Below.refl _ _).onA _).on h8
       replace R1 := toHid (R1.out.fwd hb8)
       replace hk := toHid (hk.out.on hb8)
       clear h8 hb8 b1 b2 b3 zI)
    | (go_at_call 16; refine (qMay_is R1.out (Nat.le_refl _) (show quB [qA, qB] = true by decide +kernel)).mono ?_; rintro e w10 ⟨rfl, h10⟩))
  go_ret
  exact ⟨rfl, hk.out.on h10⟩

end Go.Proofs.Ytnnhnidefjhakaa
