
/-
  Contracts of package age's functions (those who are lost go among the passive ones; whom to greet), at every list: what they return, in new memory, and that no old memory has turned.
-/
import Derived.Test.YtghamcomjfholaaAgeMath
import Derived.Test.YtghamcomjfholaaAgeBox
import Derived.Test.YtghamcomjfholaaViewA
import Derived.Test.YtghamcomjfholaaPeerC
import Derived.Test.YtghamcomjfholaaPassB
namespace Go.Proofs.Ytghamcomjfholaa
open Go.ChangeShapes Go.WideShapes Go.ChangeAt Go.RowKit

set_option maxHeartbeats 1000000 in
/-- The names of the peers, then the passive ones, in new memory. -/
theorem aGreet_any {lo hi : Nat} {w : World} {p q : Value} {ps : List Pe} {is : List Int} (i : Int) (h : VwAt lo hi w p q ps is) (hh : hi ≤ w.heap.size) (hl : ps.length + is.length ≤ 1024) :
    Calls Try.prog 40 #[.agg #[.int .i64 i, p, q]] w fun e w' => ∃ u, e = .returned u ∧ RowI w.heap.size w'.heap.size w' u (nmL ps ++ is) ∧ Below w.heap.size w w' := by
  obtain ⟨i0, hi0, hz0, hz1, hz2⟩ := info_parts Try.info3
  obtain ⟨a, c, rfl, hn, hp⟩ := h.ps.pes hh
  have HI := toHid h.is
  obtain ⟨a', c', rfl, -⟩ := h.is
  have B1 := toHid (fun (cs : Array Value) (t : TypeId) => Box.new w cs t)
  clear h
  go_enter Try.func40, Try.ntmps40
  go_wp2_with (at_make; refine wpList_make_own _ rfl _ _ 24 rfl (w.heap.size + 1) 3 i0 (.int .i64 0) 1 Try.underlying24 hi0 hz0 hz1 _ _ _ (ps.length + is.length) rfl rfl (by simp) (by rw [hz2]; omega) (by unfold maxLen; omega) (by simp) ?_)
  intro w1 hown1 hgr1
  have hb1 : Below (w.heap.size + 1) _ w1 := (Below.refl _ _).grown hgr1 (by simp) (fun j hj => by cases hj)
  have hk1 : Below w.heap.size w w1 := ((Below.refl _ w).onA _).trans (hb1.mono (Nat.le_succ _))
  have BX := toHid ((B1.out _ _).belowAt hb1 (by omega))
  obtain ⟨b1, b2, b3⟩ := id BX.out
  have hW1 : w.heap.size + 1 ≤ w1.heap.size := by have := hb1.size; simpa using this
  have hown2 : Hid (w1.ownsRow (w.heap.size + 1) 3 1 _ 0 ((nmL (ps.take 0)).map (Value.int .i64))) := toHid (by simpa [nmL] using hown1)
  clear hgr1 hown1 B1 hb1
  replace hp := toHid hp
  go_wp2
  clear b1 b2 b3
  obtain ⟨n, hN⟩ : ∃ n, ps.length = n := ⟨_, rfl⟩
  rw [hN] at hp hl hn BX hown2
  rw [hN]
  replace hN := toHid hN
  go_loopw [3, 17] (fun v j wr => ∃ k : Nat, k ≤ n ∧ j = .int .i64 k ∧ Hid (wr.ownsRow (w.heap.size + 1) 3 1 v k ((nmL (ps.take k)).map (Value.int .i64))) ∧ Below w.heap.size w wr ∧ w.heap.size + 1 ≤ wr.heap.size ∧ Hid (Box wr w.heap.size #[.int .i64 i, .slice a n c, .slice a' is.length c'])) (fun _ j _ => n - (intOf j).toNat)
  case atStart => exact ⟨0, Nat.zero_le _, rfl, hown2, hk1, hW1, BX⟩
  case round =>
    clear hown2 hk1 hW1 BX
    obtain ⟨k, hk, rfl, hown, hbel, hsz, BX⟩ := hrel
    by_cases hlt : k < n
    · obtain ⟨b, off, rfl, -, hb, h1⟩ := hp.out (by omega)
      obtain ⟨c1, c2⟩ := (h1 k (by omega)).below hbel hb
      have HS := toHid (nmL_take ps k (by have := hN.out; omega))
      have hlt' : (k : Int) < (n : Int) := by omega
      clear h1 hp
      generalize ps.getD k ⟨0, 0⟩ = z at c1 c2 HS
      obtain ⟨zn, zm⟩ := z
      dsimp only at c1 c2 HS
      go_wp2_with (at_builtin; refine app_ints rfl (.tmp 21) (.tmp 24) rfl (w.heap.size + 1) _ k (nmL (ps.take k)) rfl ((hown.out.alloc _).alloc _) ⟨wr.heap.size + 1, 0, none⟩ 1 1 [zn] rfl rfl (fun j hj => ?_) (by omega) (by simp; omega) ?_; · (match j, hj with | 0, _ => simp [Addr.add]))
      intro v' w3 hown' hgr hbel'
      have R : w3.ownsRow (w.heap.size + 1) 3 1 v' (k + 1) ((nmL (ps.take (k + 1))).map (Value.int .i64)) ∧ Below w.heap.size w w3 ∧ w.heap.size + 1 ≤ w3.heap.size ∧ Box w3 w.heap.size #[.int .i64 i, .slice (some ⟨b, off, none⟩) n c, .slice a' is.length c'] := by
        refine ⟨by rw [HS.out]; simpa using hown', ((hbel.onA _).onA _).trans (hbel'.mono (Nat.le_succ _)), ?_, ((BX.out.alloc _).alloc _).belowAt hbel' (by omega)⟩
        have := hbel'.size
        simp at this
        omega
      clear hown' hgr hbel' hown c1 c2 BX
      go_wp2
      go_roundw
      case rel => exact ⟨k + 1, by omega, by go_num, toHid R.1, R.2.1, R.2.2.1, toHid R.2.2.2⟩
      case measure => simp [intOf]; omega
    · obtain rfl : k = n := by omega
      have hkn : ps.take k = ps := List.take_of_length_le (by have := hN.out; omega)
      rw [hkn] at hown
      obtain ⟨b1, b2, b3⟩ := id BX.out
      have HI' := toHid (HI.out.below hbel hh)
      clear hkn hp HI
      go_wp2_with (at_builtin; refine app_row rfl (.tmp 27) (.tmp 29) rfl (w.heap.size + 1) _ k (nmL ps) rfl hown.out lo hi _ is rfl HI'.out (by omega) hsz ?_)
      intro v' w3 hown' hgr hbel'
      have R := toHid ((RowI.of_owns (zs := nmL ps ++ is) (base := w.heap.size + 1) (by simpa using hown')).wide (Nat.le_succ _) (Nat.le_refl _))
      clear hown' hgr
      go_wp2
      go_ret
      exact ⟨_, rfl, R.out, hbel.trans (hbel'.mono (Nat.le_succ _))⟩

set_option maxHeartbeats 1000000 in
/-- Those who are lost go among the passive ones, one by one, in new memory. -/
theorem aWith_any {lo hi lo' hi' : Nat} {w : World} {v u : Value} {is ls : List Int} (hx : RowI lo hi w v is) (hy : RowI lo' hi' w u ls) (hh' : hi' ≤ w.heap.size) (h47 : is.length * 8 ≤ 140737488355328) :
    Calls Try.prog 39 #[v, u] w fun e w' => ∃ o, e = .returned o ∧ RowI w.heap.size w'.heap.size w' o (tkF is ls) ∧ Below w.heap.size w w' := by
  have HC := qClone_any hx h47
  have HR := toHid (hy.ints hh')
  obtain ⟨ax, cx, ex, hlx, hcx, -⟩ := hy
  subst ex
  unfold maxLen at hcx
  go_enter Try.func39, Try.ntmps39
  go_wp2_with (go_at_call 62; refine HC.mono ?_; rintro e w1 ⟨o1, rfl, hown, hb1⟩; have R1 := toHid (RowI.of_owns hown); clear hown HC)
  go_loopw [5, 12] (fun v j wr => ∃ k : Nat, k ≤ ls.length ∧ j = .int .i64 k ∧ Hid (RowI w.heap.size wr.heap.size wr v (tkF is (ls.take k))) ∧ Below w.heap.size w wr) (fun _ j _ => ls.length - (intOf j).toNat)
  case atStart => exact ⟨0, Nat.zero_le _, rfl, R1, hb1⟩
  case round =>
    clear R1 hb1
    obtain ⟨k, hk, rfl, R, hbel⟩ := hrel
    by_cases hlt : k < ls.length
    · obtain ⟨px, cx', ex, -, hcs⟩ := HR.out
      cases ex
      obtain ⟨b, off, rfl, -, hb, h1⟩ := hcs (by omega)
      have c1 := (hbel.cell (p := ⟨b, off + k, none⟩) hb).trans (h1 k hlt)
      have HS := toHid (tkF_step is ls k hlt)
      have hlt' : (k : Int) < (ls.length : Int) := by omega
      have hsz := hbel.size
      clear h1 hcs HR
      generalize ls.getD k 0 = z at *
      go_wp2_with (go_at_call 63; refine (qWith_any R.out (Nat.le_refl _) z).mono ?_; rintro e w2 ⟨u2, rfl, R2, h2⟩)
      go_roundw
      case rel => exact ⟨k + 1, by omega, by go_num, by rw [HS.out]; exact toHid (R2.wide hsz (Nat.le_refl _)), hbel.on h2⟩
      case measure => simp [intOf]; omega
    · obtain rfl : k = ls.length := by omega
      rw [List.take_length] at R
      clear HR
      go_wp2
      go_ret
      exact ⟨_, rfl, R.out, hbel⟩

end Go.Proofs.Ytghamcomjfholaa
