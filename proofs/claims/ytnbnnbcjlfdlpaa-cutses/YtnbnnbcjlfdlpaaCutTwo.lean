
/-
  Contracts of the document's own answers on cuts: without one.
-/
import Derived.Test.YtnbnnbcjlfdlpaaCutDoc
namespace Go.Proofs.Ytnbnnbcjlfdlpaa
open Go.ChangeShapes Go.WideShapes Go.ChangeAt Go.RowKit

set_option maxHeartbeats 4000000 in
theorem rWithoutCut_any {lo hi : Nat} {w : World} {v : Value} {cs : List Cu} (hx : RowU lo hi w v cs) (hh : hi ≤ w.heap.size) (a b : Int) (hlen : cs.length * 16 ≤ 140737488351232) :
    Calls Try.prog 11 #[v, .int .i64 a, .int .i64 b] w fun e w' => ∃ u, e = .returned (.tuple #[u, .int .i64 (icE cs a b)]) ∧ RowU w.heap.size w'.heap.size w' u (ocL cs a b) ∧ Below w.heap.size w w' := by
  have HI := rIsCut_any hx hh a b
  cases hok : cOk cs a b with
  | false =>
    have e2 : icE cs a b = 1500 := by simp [icE, hok]
    have e3 : ocL cs a b = [] := by simp [ocL, hok]
    rw [e2] at HI ⊢
    rw [e3]
    obtain ⟨p, c, rfl, hn, -⟩ := hx.cus hh
    replace HI := toHid HI
    clear e2 e3 hx hok
    go_enter Try.func11, Try.ntmps11
    go_wp2_with (go_at_call 13; refine HI.out.mono ?_; rintro e w1 ⟨rfl, h5⟩)
    go_ret2
    exact ⟨_, rfl, RowC.nil0, h5⟩
  | true =>
    have e2 : icE cs a b = 0 := by simp [icE, hok]
    have e3 : ocL cs a b = cs.filter (neC (mkC a b)) := by simp [ocL, hok]
    rw [e2] at HI ⊢
    rw [e3]
    obtain ⟨-, -, -, h4⟩ := cOk_iff.1 hok
    obtain ⟨p, c, rfl, hn, hp⟩ := hx.cus hh
    replace HI := toHid HI
    obtain ⟨d, hd⟩ : ∃ d, mkC a b = d := ⟨_, rfl⟩
    rw [hd]
    clear e2 e3 hx hok
    rcases mk_two h4 with ⟨hlt, he⟩ | ⟨hlt, he⟩
    all_goals
      have hmn : min a b = d.a := by rw [← hd, mkC]
      have hmx : max a b = d.b := by rw [← hd, mkC]
      rw [hd] at he
      rw [he] at hmn hmx
      dsimp only at hmn hmx
      replace he := toHid he
      clear hd
      go_enter Try.func11, Try.ntmps11
      go_wp2_with (go_at_call 13; refine HI.out.mono ?_; rintro e w1 ⟨rfl, h5⟩)
      go_loopw [10, 11] (fun o s11 wr => ∃ i : Nat, i ≤ cs.length ∧ s11 = .int .i64 i ∧ wr.ownsRow w.heap.size 40 2 o ((cs.take i).filter (neC d)).length (((cs.take i).filter (neC d)).flatMap CuV) ∧ Below w.heap.size w wr) (fun _ s11 _ => cs.length - (intOf s11).toNat)
      case atStart => exact ⟨0, Nat.zero_le _, rfl, ⟨rfl, .inl ⟨rfl, rfl⟩⟩, h5⟩
      case round =>
        obtain ⟨i, hi, rfl, own, hbr⟩ := hrel
        by_cases hl : i < cs.length
        · obtain ⟨bb, off, rfl, -, hb, h6⟩ := hp (by omega)
          have hat := (h6 i hl).below hbr hb
          rw [getD_in _ _ hl] at hat
          have hnx := filter_step (p := neC d) hl
          have hol := filter_upto (xs := cs) (p := neC d) i
          obtain ⟨⟨za, zb⟩, hz⟩ : ∃ z, cs[i] = z := ⟨_, rfl⟩
          rw [hz] at hat hnx
          obtain ⟨c1, c2⟩ := hat
          dsimp only at c1 c2
          have hl' : (i : Int) < (cs.length : Int) := by omega
          have hi0 : 0 ≤ (i : Int) := by omega
          generalize (cs.take i).filter (neC d) = out at own hnx hol
          clear hp h6 hz
          by_cases hq : (⟨za, zb⟩ : Cu) = d
          · have hf : neC d ⟨za, zb⟩ = false := by simp [neC, hq]
            rw [hf] at hnx
            rw [he.out] at hq
            obtain ⟨rfl, rfl⟩ := Cu.mk.inj hq
            have hn2 : Hid ((cs.take (i + 1)).filter (neC d) = out) := toHid (by rw [hnx]; simp)
            clear hq hnx hf
            replace own := toHid own
            go_wp2
            go_roundw
            case rel => exact ⟨i + 1, by omega, by go_num, by rw [hn2.out]; exact own.out, hbr⟩
            case measure => simp [intOf]; omega
          · have hf : neC d ⟨za, zb⟩ = true := by simp [neC, hq]
            rw [hf, if_pos rfl] at hnx
            rw [he.out] at hq
            replace hnx := toHid hnx
            clear hf
            rcases Cu.ne hq with h7 | ⟨h7, h8⟩
            rotate_left
            · replace h7 := h7.symm
              subst h7
              clear hq
              go_wp2_with (at_builtin; refine app_cus rfl (.tmp 40) (.tmp 45) rfl w.heap.size _ out.length out rfl (own.alloc _) ⟨wr.heap.size, 0, none⟩ 1 1 [⟨za, zb⟩] rfl rfl (fun j hj => ?_) (by omega) (by have := hbr.size; simp; omega) ?_; · (rw [add_plain, Nat.zero_add]; refine ((Box.newAt _ _ rfl).2.1 j).trans ?_; simp [CuV]))
              intro v' w4 hown4 hgr4 hbel4
              clear hgr4
              have O4 := toHid hown4
              clear hown4
              go_wp2
              go_roundw
              case rel => exact ⟨i + 1, by omega, by go_num, by rw [hnx.out]; simpa [Nat.add_assoc] using O4.out, (hbr.onA _).trans hbel4⟩
              case measure => simp [intOf]; omega
            · clear hq
              go_wp2_with (at_builtin; refine app_cus rfl (.tmp 40) (.tmp 45) rfl w.heap.size _ out.length out rfl (own.alloc _) ⟨wr.heap.size, 0, none⟩ 1 1 [⟨za, zb⟩] rfl rfl (fun j hj => ?_) (by omega) (by have := hbr.size; simp; omega) ?_; · (rw [add_plain, Nat.zero_add]; refine ((Box.newAt _ _ rfl).2.1 j).trans ?_; simp [CuV]))
              intro v' w4 hown4 hgr4 hbel4
              clear hgr4
              have O4 := toHid hown4
              clear hown4
              go_wp2
              go_roundw
              case rel => exact ⟨i + 1, by omega, by go_num, by rw [hnx.out]; simpa [Nat.add_assoc] using O4.out, (hbr.onA _).trans hbel4⟩
              case measure => simp [intOf]; omega
        · obtain rfl : i = cs.length := by omega
          rw [List.take_length] at own
          replace own := toHid own
          go_wp2
          go_ret2
          exact ⟨_, rfl, RowC.of_owns (by decide) CuV_len own.out, hbr⟩

end Go.Proofs.Ytnbnnbcjlfdlpaa
