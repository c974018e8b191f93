
/-
  Contracts of the program's own functions that fill a message's bytes in behind its head, one for each kind.
-/
import Derived.Test.YtkalamplagopnaaWireFill
namespace Go.Proofs.Ytkalamplagopnaa
open Go.ChangeShapes Go.WideShapes Go.ChangeAt Go.RowKit

set_option maxHeartbeats 2000000 in
theorem wFill1_any {base lo hi n bM : Nat} {w : World} {v : Value} {zs is : List Int} {c : Nat} {pa : Option Addr} {x0 x1 x2 x4 x5 x6 x7 x8 x9 x10 : Value} (hown : w.ownsRow base 5 1 v n (zs.map (Value.int .u8)))
    (hM : Box w bM #[x0, x1, x2, .slice pa is.length c, x4, x5, x6, x7, x8, x9, x10]) (hR : RowI lo hi w (.slice pa is.length c) is) (hhi : hi ≤ base) (hb : n + 1 + is.length ≤ 1099511627776) (hbM : bM < base) (hbase : base ≤ w.heap.size) :
    Calls Try.prog 34 #[v, .pointer (some ⟨bM, 0, none⟩)] w fun e w' => ∃ v', e = .returned v' ∧ w'.ownsRow base 5 1 v' (n + 1 + is.length) ((zs ++ [by8 (is.length : Int)] ++ is.map by8).map (Value.int .u8)) ∧ Below base w w' := by
  have BM := toHid hM
  have R0 := toHid (fun (wr : World) (h : Below base w wr) => hR.below h hhi)
  have hB := toHid (Below.refl base w)
  replace hown := toHid hown
  obtain ⟨q0, q1, -⟩ := id hM
  clear hM hR
  go_enter Try.func34, Try.ntmps34
  go_upto_region 1 with (fail)
  go_region_law (first
    | (refine step_bytes rfl (.tmp 4) (.tmp 9) rfl base _ n zs rfl (by first | exact (own_drew hown.out 1).alloc _ | exact own_drew (hown.out.alloc _) 1) ⟨w.heap.size, 0, none⟩ 1 1 [by8 (is.length : Int)] rfl rfl (fun j hj => ?_) (by omega) (by simp; omega) ?_; · (rw [add_plain, Nat.zero_add]; refine ((Box.newAt _ _ (by simp)).2.1 j).trans ?_; (obtain rfl : j = 0 := by omega); first | rfl | (rw [u8_by8]; rfl))
       intro v4 w4 hown4 hgr4 hbel4
       first
         | (have B4 := ((BM.out.drewN 1).alloc _).belowAt hbel4 hbM
            have hk4 := ((hB.out.onD 1).alloc (by simpa using hbase) _).trans hbel4)
         | (have B4 := ((BM.out.alloc _).drewN 1).belowAt hbel4 hbM
            have hk4 := ((hB.out.alloc hbase _).onD 1).trans hbel4)
       have q4 := B4.2.1
       have hz4 := hk4.size
       replace hk4 := toHid hk4
       replace hown4 := toHid hown4
       clear B4 hbel4 hgr4)
    | (refine step_call rfl (F := 35) (args := #[v4, .slice pa is.length c]) (by first | (go_simp; done) | (go_simp; rfl)) (wWith_any hown4.out (R0.out _ hk4.out) hhi (by omega) (by omega)) ?_
       rintro e w9 ⟨v9, rfl, own9, h9⟩
       refine ⟨_, rfl, ?_⟩
       replace own9 := toHid own9
       replace h9 := toHid h9))
  all_goals
    go_wp2
    go_ret
    exact ⟨_, rfl, own9.out, hk4.out.trans h9.out⟩


set_option maxHeartbeats 2000000 in
theorem wFill3_any {base n bM : Nat} {w : World} {v : Value} {zs : List Int} {k : Int} {x0 x1 x2 x3 x5 x6 x7 x8 x9 x10 : Value} (hown : w.ownsRow base 5 1 v n (zs.map (Value.int .u8)))
    (hM : Box w bM #[x0, x1, x2, x3, .int .i64 k, x5, x6, x7, x8, x9, x10]) (hb : n ≤ 1099511627776) (hbase : base ≤ w.heap.size) :
    Calls Try.prog 38 #[v, .pointer (some ⟨bM, 0, none⟩)] w fun e w' => ∃ v', e = .returned v' ∧ w'.ownsRow base 5 1 v' (n + 1) ((zs ++ [by8 k]).map (Value.int .u8)) ∧ Below base w w' := by
  have hB := toHid (Below.refl base w)
  replace hown := toHid hown
  obtain ⟨q0, q1, -⟩ := id hM
  clear hM
  go_enter Try.func38, Try.ntmps38
  go_wp2_with (at_builtin; refine app_bytes rfl (.tmp 4) (.tmp 8) rfl base _ n zs rfl (hown.out.alloc _) ⟨w.heap.size, 0, none⟩ 1 1 [by8 k] rfl rfl (fun j hj => ?_) (by omega) (by simp; omega) ?_; · (rw [add_plain, Nat.zero_add]; refine ((Box.newAt _ _ (by simp)).2.1 j).trans ?_; (obtain rfl : j = 0 := by omega); first | rfl | (rw [u8_by8]; rfl)))
  intro v4 w4 hown4 hgr4 hbel4
  replace hown4 := toHid hown4
  have hk4 := toHid ((hB.out.alloc hbase _).trans hbel4)
  clear hbel4 hgr4
  go_wp2
  go_ret
  exact ⟨_, rfl, by simpa using hown4.out, hk4.out⟩

set_option maxHeartbeats 2000000 in
theorem wFill2_any {base n bM : Nat} {w : World} {v : Value} {zs : List Int} {k c u x : Int} {g : Bool} {x0 x1 x2 x3 x4 x10 : Value} (hown : w.ownsRow base 5 1 v n (zs.map (Value.int .u8)))
    (hM : Box w bM #[x0, x1, x2, x3, x4, .int .i64 k, .int .i64 c, .int .i64 u, .int .i64 x, .bool g, x10]) (hc0 : 0 ≤ c) (hc1 : c < 65536) (hb : n ≤ 1099511627776) (hbase : base ≤ w.heap.size) :
    Calls Try.prog 36 #[v, .pointer (some ⟨bM, 0, none⟩)] w fun e w' => ∃ v', e = .returned v' ∧ w'.ownsRow base 5 1 v' (n + 7) ((zs ++ encI ⟨k, c, u, x, g⟩).map (Value.int .u8)) ∧ Below base w w' := by
  have hB := toHid (Below.refl base w)
  have HI := toHid (wItem_any k hc0 hc1 u x g w)
  replace hown := toHid hown
  obtain ⟨q0, q1, -⟩ := id hM
  clear hM hc0 hc1
  obtain ⟨I, hI⟩ : ∃ I, encI ⟨k, c, u, x, g⟩ = I := ⟨_, rfl⟩
  have hIl : I.length = 7 := by rw [← hI]; rfl
  rw [hI] at HI ⊢
  clear hI
  go_enter Try.func36, Try.ntmps36
  go_wp2_with (first
    | (go_at_call 37; refine HI.out.mono ?_; rintro e w5 ⟨v5, rfl, own5, h5⟩
       have C5 := own_cells own5 (by intro e; rw [e] at hIl; cases hIl)
       obtain ⟨g5, c5, rfl, -, -, -, C5⟩ := C5
       have hk5 := toHid (hB.out.trans (h5.mono hbase))
       have OW := toHid (ownsRow_below hown.out h5)
       have hz5 : base ≤ w5.heap.size := Nat.le_trans hbase h5.size
       replace C5 := toHid C5
       clear own5 h5)
    | (at_builtin; refine app_bytes rfl (.tmp 4) (.tmp 7) rfl base _ n zs rfl OW.out ⟨g5, 0, none⟩ 7 c5 I rfl hIl (fun j hj => by rw [add_plain, Nat.zero_add]; exact C5.out j hj) (by omega) hz5 ?_))
  intro v4 w4 hown4 hgr4 hbel4
  replace hown4 : Hid (w4.ownsRow base 5 1 v4 (n + 7) ((zs ++ I).map (Value.int .u8))) := toHid (by rw [List.map_append]; exact hown4)
  have hk4 := toHid (hk5.out.trans hbel4)
  clear hbel4 hgr4
  go_wp2
  go_ret
  exact ⟨_, rfl, hown4.out, hk4.out⟩

end Go.Proofs.Ytkalamplagopnaa
