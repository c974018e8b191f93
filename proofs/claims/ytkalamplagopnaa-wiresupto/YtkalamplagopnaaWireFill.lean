
/-
  Contracts of the program's own functions that fill a message's bytes in behind its head, one for each kind.
-/
import Derived.Test.YtkalamplagopnaaWireA
namespace Go.Proofs.Ytkalamplagopnaa
open Go.ChangeShapes Go.WideShapes Go.ChangeAt Go.RowKit

/-- A call of a Go function, as one step of a region that draws its order. -/
theorem step_call {ops : Array Oper} {o : Oper} {a : Act} {w : World} {K : Act → World → Prop} {Q : Exit → Act → World → Prop} {E : Prop} (hg : o.guard = none) {F : FuncId} {args : Array Value} {R : Ending → World → Prop}
    (hrun : (execOp a.eval o).run Try.prog w = .ok (.enter F args) w) (hc : Calls Try.prog F args w R) (hK : ∀ e w', R e w' → ∃ v, e = .returned v ∧ K (a.put o.dst v) w') :
    if Region.wanted o (yielded ops a.tmps) = true then Oper.wp Try.prog o a w K Q else E := by
  have hw : Region.wanted o (yielded ops a.tmps) = true := by simp [Region.wanted, hg]
  rw [if_pos hw]
  unfold Oper.wp
  rw [hrun]
  refine hc.mono fun e w' h => ?_
  obtain ⟨v, rfl, h2⟩ := hK e w' h
  exact h2

set_option maxHeartbeats 2000000 in
theorem wWith_any {base lo hi n : Nat} {w : World} {v u : Value} {zs is : List Int} (hown : w.ownsRow base 5 1 v n (zs.map (Value.int .u8))) (hR : RowI lo hi w u is) (hhi : hi ≤ base) (hb : n + is.length ≤ 1099511627776) (hbase : base ≤ w.heap.size) :
    Calls Try.prog 35 #[v, u] w fun e w' => ∃ v', e = .returned v' ∧ w'.ownsRow base 5 1 v' (n + is.length) ((zs ++ is.map by8).map (Value.int .u8)) ∧ Below base w w' := by
  have R0 := toHid (fun (wr : World) (h : Below base w wr) => hR.below h hhi)
  obtain ⟨p, c, rfl, -⟩ := hR
  have hl9 : is.length ≤ 9223372036854775807 := by omega
  replace hown := toHid hown
  go_enter Try.func35, Try.ntmps35
  go_wp2
  go_loopw [0, 9] (fun s0 s9 wr => ∃ i : Nat, i ≤ is.length ∧ s9 = .int .i64 i ∧ wr.ownsRow base 5 1 s0 (n + i) ((zs ++ (is.take i).map by8).map (Value.int .u8)) ∧ Below base w wr) (fun _ s9 _ => is.length - (intOf s9).toNat)
  case atStart => exact ⟨0, Nat.zero_le _, rfl, by simpa using hown.out, Below.refl _ w⟩
  case round =>
    obtain ⟨i, hi, rfl, own, hk⟩ := hrel
    by_cases hlt : i < is.length
    · obtain ⟨p', c', e, hl, hc, hx⟩ := (R0.out _ hk).out
      cases e
      obtain ⟨bb, off, rfl, -, -, h3⟩ := hx (by intro e; simp [e] at hlt)
      have c1 := (h3 i hlt).1
      obtain ⟨z, hz⟩ : ∃ z, is.getD i 0 = z := ⟨_, rfl⟩
      rw [hz] at c1
      have hlt' : (i : Int) < (is.length : Int) := by omega
      have hi0 : 0 ≤ (i : Int) := by omega
      have hzn : Hid ((zs ++ (is.take i).map by8) ++ [by8 z] = zs ++ (is.take (i + 1)).map by8) := toHid (by
        have e : is[i] = is.getD i 0 := by simp [List.getD, hlt]
        rw [List.take_add_one, List.getElem?_eq_getElem hlt, ← hz, Option.toList_some, List.map_append, ← List.append_assoc, e]
        rfl)
      obtain ⟨X, hX⟩ : ∃ X, X = zs ++ (is.take i).map by8 := ⟨_, rfl⟩
      rw [← hX] at own hzn
      clear hX
      have hsz : base ≤ wr.heap.size := Nat.le_trans hbase hk.size
      replace own := toHid own
      replace hk := toHid hk
      clear hz h3 hx hl hc
      go_wp2_with (at_builtin; refine app_bytes rfl (.tmp 13) (.tmp 16) rfl base _ (n + i) X rfl (own.out.alloc _) ⟨wr.heap.size, 0, none⟩ 1 1 [by8 z] rfl rfl (fun j hj => ?_) (by omega) (by simp; omega) ?_; · (rw [add_plain, Nat.zero_add]; refine ((Box.newAt _ _ (by simp)).2.1 j).trans ?_; (obtain rfl : j = 0 := by omega); first | rfl | (rw [u8_by8]; rfl)))
      intro v' w4 hown4 hgr4 hbel4
      replace hown4 : Hid (w4.ownsRow base 5 1 v' (n + i + 1) ((zs ++ (is.take (i + 1)).map by8).map (Value.int .u8))) := toHid (by rw [← hzn.out, List.map_append]; exact hown4)
      replace hk := toHid ((hk.out.alloc (by simpa using hsz) _).trans hbel4)
      clear hbel4 hgr4
      go_wp2
      go_roundw
      case rel => exact ⟨i + 1, by omega, by go_num, by rw [← Nat.add_assoc]; exact hown4.out, hk.out⟩
      case measure => simp [intOf]; omega
    · obtain rfl : i = is.length := by omega
      rw [List.take_length] at own
      replace own := toHid own
      go_wp2
      go_ret
      exact ⟨_, rfl, own.out, hk⟩

end Go.Proofs.Ytkalamplagopnaa
