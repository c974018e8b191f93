
/-
  Contracts of the document's own answers on cuts: with one more.
-/
import Derived.Test.YtnbnnbcjlfdlpaaCutTwo
import Derived.Test.YtnbnnbcjlfdlpaaLit
import Derived.Deep.DeepCutAuto
import Derived.Deep.CutRange
import Derived.Deep.CutBlock
namespace Go.Proofs.Ytnbnnbcjlfdlpaa
open Go.ChangeShapes Go.WideShapes Go.ChangeAt Go.RowKit

theorem wc_hi {cs : List Cu} {d : Cu} {i : Nat} (hl : i < cs.length) (hz : cuK d < cuK cs[i]) : wcI (cs.take (i + 1)) d = wcI (cs.take i) d ++ [cs[i]] := by
  have h1 : loC d cs[i] = false := by simp [loC]; omega
  have h2 : hiC d cs[i] = true := by simp [hiC]; omega
  unfold wcI
  rw [filter_step hl, filter_step hl, h1, h2]
  simp
theorem wc_lo {ys : List Cu} {d : Cu} (h : ∀ x ∈ ys, cuK x < cuK d) : wcI ys d = ys ++ [d] := by
  have h1 : ys.filter (loC d) = ys := List.filter_eq_self.2 fun x hx => by simp [loC, h x hx]
  have h2 : ys.filter (hiC d) = [] := List.filter_eq_nil_iff.2 fun x hx => by have := h x hx; simp [hiC]; omega
  unfold wcI
  rw [h1, h2]
theorem wc_len_not {cs : List Cu} {d : Cu} (h : UpC cs) (hx : ∀ c ∈ cs, cuB c = true) (hd : cuB d = true) (hn : ¬ d ∈ cs) : (wcI cs d).length = cs.length + 1 := by
  rw [wc_len h hx hd, List.filter_eq_self.2 fun x hx => by simp [neC]; intro e; exact hn (e ▸ hx)]

set_option maxHeartbeats 4000000 in
theorem rWithCut_any {lo hi : Nat} {w : World} {v : Value} {cs : List Cu} (hx : RowU lo hi w v cs) (hh : hi ≤ w.heap.size) (a b : Int) (hlen : cs.length * 16 ≤ 140737488351232) :
    Calls Try.prog 9 #[v, .int .i64 a, .int .i64 b] w fun e w' => ∃ u, e = .returned (.tuple #[u, .int .i64 (wcE cs a b)]) ∧ RowU w.heap.size w'.heap.size w' u (wcL cs a b) ∧ Below w.heap.size w w' := by
  have HI := rIsCut_any hx hh a b
  cases hok : cOk cs a b with
  | false =>
    have e1 : icE cs a b = 1500 := by simp [icE, hok]
    have e2 : wcE cs a b = 1500 := by simp [wcE, hok]
    have e3 : wcL cs a b = [] := by simp [wcL, hok]
    rw [e1] at HI
    rw [e2, e3]
    obtain ⟨p, c, rfl, hn, -⟩ := hx.cus hh
    replace HI := toHid HI
    clear e1 e2 e3 hx hok
    go_enter Try.func9, Try.ntmps9
    go_wp2_with (go_at_call 13; refine HI.out.mono ?_; rintro e w1 ⟨rfl, h5⟩)
    go_ret2
    exact ⟨_, rfl, RowC.nil0, h5⟩
  | true =>
    obtain ⟨hcs, hpa, hpb, h4⟩ := cOk_iff.1 hok
    obtain ⟨hl32, hcb, hup⟩ := csB_iff.1 hcs
    have hdB := mk_ok hpa hpb h4
    have e1 : icE cs a b = 0 := by simp [icE, hok]
    have er : icR cs a b = decide (mkC a b ∈ cs) := by simp [icR, hok]
    rw [e1, er] at HI
    by_cases hin : mkC a b ∈ cs
    · have hws := wc_same hup hcb hin
      have e2 : wcE cs a b = 0 := by simp [wcE, hok, hws, hl32]
      have e3 : wcL cs a b = cs := by simp [wcL, hok, hws, hl32]
      rw [e2, e3]
      rw [decide_eq_true hin] at HI
      have RX := fun (W : World) (hb : Below w.heap.size w W) => hx.below hb hh
      obtain ⟨p, c, rfl, hn, -⟩ := hx.cus hh
      replace HI := toHid HI
      replace RX := toHid RX
      clear e1 e2 e3 er hx hok hws hin hdB hcb hup hcs
      go_enter Try.func9, Try.ntmps9
      go_wp2_with (first
        | (go_at_call 13; refine HI.out.mono ?_; rintro e w1 ⟨rfl, h5⟩)
        | (at_builtin; refine app_rowU rfl (.tmp 26) (.tmp 27) rfl w1.heap.size _ 0 [] rfl (World.ownsRow_lit w1 #[] 0 (Nat.le_refl _) (Nat.zero_le _) rfl) lo hi _ cs rfl ((RX.out _ h5).alloc _ CuV_len) (by omega) (by simp) ?_))
      intro v5 w5 hown5 hgr5 hbel5
      have O5 := toHid hown5
      have hk5 := toHid ((h5.onA (.cells #[] 40)).trans (hbel5.mono h5.size))
      have hz := h5.size
      clear hown5 hgr5 hbel5
      go_wp2
      go_ret2
      exact ⟨_, rfl, (RowC.of_owns (by decide) CuV_len (by simpa using O5.out)).wide hz (Nat.le_refl _), hk5.out⟩
    · rw [decide_eq_false hin] at HI
      have hwl := wc_len_not hup hcb hdB hin
      by_cases hf : cs.length = 32
      · have e2 : wcE cs a b = 1501 := by simp [wcE, hok, hwl, hf]
        have e3 : wcL cs a b = [] := by simp [wcL, hok, hwl, hf]
        rw [e2, e3]
        obtain ⟨p, c, rfl, hn, -⟩ := hx.cus hh
        have hf' : (cs.length : Int) = 32 := by omega
        replace HI := toHid HI
        clear e1 e2 e3 er hx hok hin hdB hcb hup hcs hwl hf
        go_enter Try.func9, Try.ntmps9
        go_wp2_with (go_at_call 13; refine HI.out.mono ?_; rintro e w1 ⟨rfl, h5⟩)
        go_ret2
        exact ⟨_, rfl, RowC.nil0, h5⟩
      · have hle : cs.length + 1 ≤ 32 := by omega
        have e2 : wcE cs a b = 0 := by simp [wcE, hok, hwl, hle]
        have e3 : wcL cs a b = wcI cs (mkC a b) := by simp [wcL, hok, hwl, hle]
        rw [e2, e3]
        obtain ⟨p, c, rfl, hn, hp⟩ := hx.cus hh
        have hf' : ¬ (cs.length : Int) = 32 := by omega
        have hf2 : ((cs.length : Int) == 32) = false := by simpa using hf'
        replace HI := toHid HI
        obtain ⟨d, hd⟩ : ∃ d, mkC a b = d := ⟨_, rfl⟩
        rw [hd] at hdB hin ⊢
        have hdi := cu_in hdB
        have hmn : min a b = d.a := by rw [← hd, mkC]
        have hmx : max a b = d.b := by rw [← hd, mkC]
        have hab := mk_two h4
        rw [hd] at hab
        have hdB2 := toHid hdB
        replace hup := toHid hup
        replace hcb := toHid hcb
        replace hin := toHid hin
        obtain ⟨da, db⟩ := d
        dsimp only at hdi hmn hmx
        clear e1 e2 e3 er hx hok hcs hwl hf hdB hd
        have w1d := wmul hdi.1
        have w2d := wadd hdi.1 hdi.2.1
        have hBX := toHid (fun (W : World) => Box.new W #[.int .i64 da, .int .i64 db] 40)
        rcases hab with ⟨hlt, he⟩ | ⟨hlt, he⟩
        all_goals
          obtain ⟨rfl, rfl⟩ := Cu.mk.inj he
          clear he
          go_enter Try.func9, Try.ntmps9
          go_upto_region 10 with (first
            | (go_at_call 13; refine HI.out.mono ?_; rintro e w1 ⟨rfl, h5⟩))
          have BX := toHid (hBX.out w1)
          have kb := h5.onA (.cells #[.int .i64 da, .int .i64 db] 40)
          have hz5 := h5.size
          have hzb : (w1.alloc (.cells #[.int .i64 da, .int .i64 db] 40)).heap.size = w1.heap.size + 1 := by simp
          generalize w1.alloc (.cells #[.int .i64 da, .int .i64 db] 40) = wb at BX kb hzb ⊢
          have hwz : w.heap.size ≤ wb.heap.size := by omega
          replace kb := toHid kb
          clear hzb
          go_wp2
          go_loopw [12, 13, 14] (fun o s13 s14 wr => ∃ i : Nat, i ≤ cs.length ∧ s14 = .int .i64 i ∧ Below wb.heap.size wb wr ∧ ((s13 = .bool false ∧ (∀ x ∈ cs.take i, cuK x < cuK ⟨da, db⟩) ∧ wr.ownsRow wb.heap.size 40 2 o i ((cs.take i).flatMap CuV)) ∨
            (s13 = .bool true ∧ (∃ j, ∃ h : j < cs.length, j < i ∧ cuK ⟨da, db⟩ < cuK cs[j]) ∧ wr.ownsRow wb.heap.size 40 2 o (i + 1) ((wcI (cs.take i) ⟨da, db⟩).flatMap CuV)))) (fun _ _ s14 _ => cs.length - (intOf s14).toNat)
          case atStart => exact ⟨0, Nat.zero_le _, rfl, Below.refl _ _, .inl ⟨rfl, by simp, ⟨rfl, .inl ⟨rfl, rfl⟩⟩⟩⟩
          case round =>
            obtain ⟨i, hi, rfl, hk, hrel⟩ := hrel
            have hkz := hk.size
            obtain ⟨b1, b2, b3⟩ := BX.out.below hk
            by_cases hl : i < cs.length
            · obtain ⟨bb, off, rfl, -, hb, h6⟩ := hp (by omega)
              have hat := (h6 i hl).below (kb.out.trans (hk.mono hwz)) hb
              rw [getD_in _ _ hl] at hat
              have hzi := cu_in (hcb.out _ (List.getElem_mem hl))
              have hstep := take_step hl
              have hwh := wc_hi (d := ⟨da, db⟩) hl
              have hne : ¬ cs[i] = ⟨da, db⟩ := fun e => hin.out (e ▸ List.getElem_mem hl)
              have hnk : ¬ cuK cs[i] = cuK ⟨da, db⟩ := fun e => hne (cu_key (hcb.out _ (List.getElem_mem hl)) hdB2.out e)
              have hrise : ∀ j (h : j < cs.length), j < i → cuK cs[j] < cuK cs[i] := fun j h hji => List.pairwise_iff_getElem.1 hup.out j i h hl hji
              obtain ⟨⟨za, zb⟩, hz⟩ : ∃ z, cs[i] = z := ⟨_, rfl⟩
              have hz2 := toHid hz
              rw [hz] at hat hstep hwh hne hnk hrise hzi
              obtain ⟨c1, c2⟩ := hat
              dsimp only at c1 c2 hzi
              have w3d := wmul hzi.1
              have w4d := wadd hzi.1 hzi.2.1
              have hl' : (i : Int) < (cs.length : Int) := by omega
              have hi0 : 0 ≤ (i : Int) := by omega
              have hbr : bb < wr.heap.size := by omega
              have HAT := toHid (fun (W : World) (hb2 : Below wb.heap.size wb W) => show CuAt W bb (off + i * 2) ⟨za, zb⟩ by have := (h6 i hl).below (kb.out.trans (hb2.mono hwz)) hb; rw [getD_in _ _ hl, hz] at this; exact this)
              clear hp h6 hz hne
              replace hk := toHid hk
              rcases hrel with ⟨rfl, hlo, own⟩ | ⟨rfl, ⟨j, hjl, hji, hjk⟩, own⟩
              · by_cases hq : cuK ⟨da, db⟩ < cuK ⟨za, zb⟩
                · have hd1 : decide (da * 256 + db < za * 256 + zb) = true := decide_eq_true hq
                  have hd2 : da * 256 + db < za * 256 + zb := hq
                  have hwi := hwh hq
                  rw [wc_lo (d := ⟨da, db⟩) (ys := cs.take i) hlo] at hwi
                  have hnew : Hid (∃ j, ∃ h : j < cs.length, j < i + 1 ∧ cuK ⟨da, db⟩ < cuK cs[j]) := toHid ⟨i, hl, by omega, by rw [hz2.out]; exact hq⟩
                  have ow := toHid own
                  clear hlo hstep hwh hq hrise
                  go_wp2
                  refine wp_region_below (by kernel_rfl) (by kernel_rfl) ?_
                  repeat (first
                    | go_big_quiet_skip
                    | (go_big_quiet_want; go_big_quiet_op; go_big_quiet_on)
                    | (refine wpQuiet_step (fun K hK => ?_)
                       go_simp
                       first
                         | (refine hK _ ?_; clear hK K)
                         | (refine ⟨_, fun w' hw' => rfl, hK _ ?_⟩; clear hK K)
                         | (apply Exists.intro
                            refine ⟨fun w' hw' => ?_, hK _ ?_⟩
                            · (obtain ⟨hc', hf'⟩ := bcell hw'
                               first
                                 | (go_simp; rfl)
                                 | (fail))
                            clear hK K)))
                  refine wpQuiet_nil ?_
                  intro wc hc0
                  have hkc := hk.out.on hc0
                  have OC := toHid (ownsRow_below ow.out hc0)
                  clear b1 b2 b3
                  obtain ⟨b1, b2, b3⟩ := BX.out.below hkc
                  go_wp2_with (at_builtin; refine app_cus rfl (.tmp 69) (.tmp 71) rfl wb.heap.size _ i (cs.take i) rfl (ownsRow_below OC.out ((Below.refl _ _).onA _)) ⟨wc.heap.size, 0, none⟩ 1 1 [⟨da, db⟩] rfl rfl (fun j hj => ?_) (by omega) (by have := hkc.size; simp; omega) ?_; · (rw [add_plain, Nat.zero_add]; refine ((Box.newAt _ _ (by simp)).2.1 j).trans ?_; simp [CuV]))
                  intro v4 w4 o4 g4 l4
                  have hk4 := (hkc.onA (.cells #[.int .i64 da, .int .i64 db] 40)).trans l4
                  have O4 := toHid o4
                  clear g4 l4 o4
                  obtain ⟨c1, c2⟩ := HAT.out _ hk4
                  have O4' : Hid (w4.ownsRow wb.heap.size 40 2 v4 (i + 1) ((cs.take i ++ ([⟨da, db⟩] : List Cu)).flatMap CuV)) := toHid (by simpa using O4.out)
                  go_wp2_with (at_builtin; refine app_cus rfl (.tmp 73) (.tmp 78) rfl wb.heap.size _ (i + 1) (cs.take i ++ ([⟨da, db⟩] : List Cu)) rfl (ownsRow_below O4'.out ((Below.refl _ _).onA _)) ⟨w4.heap.size, 0, none⟩ 1 1 [⟨za, zb⟩] rfl rfl (fun j hj => ?_) (by omega) (by have := hk4.size; simp; omega) ?_; · (rw [add_plain, Nat.zero_add]; refine ((Box.newAt _ _ (by simp)).2.1 j).trans ?_; simp [CuV]))
                  intro v5 w5 o5 g5 l5
                  have hk5 := (hk4.onA (.cells #[.int .i64 za, .int .i64 zb] 40)).trans l5
                  have O5 := toHid o5
                  clear g5 l5 o5
                  go_wp2
                  go_roundw
                  case rel => exact ⟨i + 1, by omega, by go_num, hk5, .inr ⟨rfl, hnew.out, by rw [hwi]; simpa using O5.out⟩⟩
                  case measure => simp [intOf]; omega
                · have hq2 : cuK ⟨za, zb⟩ < cuK ⟨da, db⟩ := by omega
                  have hd1 : decide (da * 256 + db < za * 256 + zb) = false := decide_eq_false hq
                  have hd2 : ¬ da * 256 + db < za * 256 + zb := hq
                  have ow := toHid own
                  have hlo2 : Hid (∀ x ∈ cs.take (i + 1), cuK x < cuK ⟨da, db⟩) := toHid (by
                    rw [hstep]
                    intro x hx
                    rcases List.mem_append.1 hx with hx | hx
                    · exact hlo x hx
                    · rw [List.mem_singleton.1 hx]
                      exact hq2)
                  replace hstep := toHid hstep
                  clear hlo hwh hq hq2 hrise hnk own
                  go_wp2
                  refine wp_region_below (by kernel_rfl) (by kernel_rfl) ?_
                  repeat (first
                    | go_big_quiet_skip
                    | (go_big_quiet_want; go_big_quiet_op; go_big_quiet_on)
                    | (refine wpQuiet_step (fun K hK => ?_)
                       go_simp
                       first
                         | (refine hK _ ?_; clear hK K)
                         | (refine ⟨_, fun w' hw' => rfl, hK _ ?_⟩; clear hK K)
                         | (apply Exists.intro
                            refine ⟨fun w' hw' => ?_, hK _ ?_⟩
                            · (obtain ⟨hc', hf'⟩ := bcell hw'
                               first
                                 | (go_simp; rfl)
                                 | (fail))
                            clear hK K)))
                  refine wpQuiet_nil ?_
                  intro wc hc0
                  have hkc := hk.out.on hc0
                  have OC := toHid (ownsRow_below ow.out hc0)
                  clear b1 b2 b3 c1 c2
                  obtain ⟨c1, c2⟩ := HAT.out _ hkc
                  go_wp2_with (at_builtin; refine app_cus rfl (.tmp 73) (.tmp 78) rfl wb.heap.size _ i (cs.take i) rfl (ownsRow_below OC.out ((Below.refl _ _).onA _)) ⟨wc.heap.size, 0, none⟩ 1 1 [⟨za, zb⟩] rfl rfl (fun j hj => ?_) (by omega) (by have := hkc.size; simp; omega) ?_; · (rw [add_plain, Nat.zero_add]; refine ((Box.newAt _ _ (by simp)).2.1 j).trans ?_; simp [CuV]))
                  intro v5 w5 o5 g5 l5
                  have hk5 := (hkc.onA (.cells #[.int .i64 za, .int .i64 zb] 40)).trans l5
                  have O5 := toHid o5
                  clear g5 l5 o5
                  go_wp2
                  go_roundw
                  case rel => exact ⟨i + 1, by omega, by go_num, hk5, .inl ⟨rfl, hlo2.out, by rw [hstep.out]; simpa using O5.out⟩⟩
                  case measure => simp [intOf]; omega
              · have hq : cuK ⟨da, db⟩ < cuK ⟨za, zb⟩ := by have := hrise j hjl hji; omega
                have hwi := hwh hq
                have ow := toHid own
                have hnew : Hid (∃ j, ∃ h : j < cs.length, j < i + 1 ∧ cuK ⟨da, db⟩ < cuK cs[j]) := toHid ⟨j, hjl, by omega, hjk⟩
                clear hstep hwh hq hrise hnk own hjk hji
                go_wp2
                refine wp_region_below (by kernel_rfl) (by kernel_rfl) ?_
                repeat (first
                  | go_big_quiet_skip
                  | (go_big_quiet_want; go_big_quiet_op; go_big_quiet_on)
                  | (refine wpQuiet_step (fun K hK => ?_)
                     go_simp
                     first
                       | (refine hK _ ?_; clear hK K)
                       | (refine ⟨_, fun w' hw' => rfl, hK _ ?_⟩; clear hK K)
                       | (apply Exists.intro
                          refine ⟨fun w' hw' => ?_, hK _ ?_⟩
                          · (obtain ⟨hc', hf'⟩ := bcell hw'
                             first
                               | (go_simp; rfl)
                               | (fail))
                          clear hK K)))
                refine wpQuiet_nil ?_
                intro wc hc0
                have hkc := hk.out.on hc0
                have OC := toHid (ownsRow_below ow.out hc0)
                clear b1 b2 b3 c1 c2
                obtain ⟨c1, c2⟩ := HAT.out _ hkc
                go_wp2_with (at_builtin; refine app_cus rfl (.tmp 73) (.tmp 78) rfl wb.heap.size _ (i + 1) (wcI (cs.take i) ⟨da, db⟩) rfl (ownsRow_below OC.out ((Below.refl _ _).onA _)) ⟨wc.heap.size, 0, none⟩ 1 1 [⟨za, zb⟩] rfl rfl (fun j hj => ?_) (by omega) (by have := hkc.size; simp; omega) ?_; · (rw [add_plain, Nat.zero_add]; refine ((Box.newAt _ _ (by simp)).2.1 j).trans ?_; simp [CuV]))
                intro v5 w5 o5 g5 l5
                have hk5 := (hkc.onA (.cells #[.int .i64 za, .int .i64 zb] 40)).trans l5
                have O5 := toHid o5
                clear g5 l5 o5
                go_wp2
                go_roundw
                case rel => exact ⟨i + 1, by omega, by go_num, hk5, .inr ⟨rfl, hnew.out, by rw [hwi]; simpa using O5.out⟩⟩
                case measure => simp [intOf]; omega
            · obtain rfl : i = cs.length := by omega
              have hl' : ¬ (cs.length : Int) < (cs.length : Int) := by omega
              rcases hrel with ⟨rfl, hlo, own⟩ | ⟨rfl, -, own⟩
              · have hwi := wc_lo (d := ⟨da, db⟩) (ys := cs.take cs.length) hlo
                rw [List.take_length] at hwi own
                have ow := toHid own
                have OC := ow
                clear hlo own
                have hkw := hk
                go_wp2_with (at_builtin; refine app_cus rfl (.tmp 82) (.tmp 84) rfl wb.heap.size _ cs.length cs rfl (ownsRow_below OC.out ((Below.refl _ _).onA _)) ⟨wr.heap.size, 0, none⟩ 1 1 [⟨da, db⟩] rfl rfl (fun j hj => ?_) (by omega) (by have := hkw.size; simp; omega) ?_; · (rw [add_plain, Nat.zero_add]; refine ((Box.newAt _ _ (by simp)).2.1 j).trans ?_; simp [CuV]))
                intro v5 w5 o5 g5 l5
                have hk5 := (hkw.onA (.cells #[.int .i64 da, .int .i64 db] 40)).trans l5
                have O5 := toHid o5
                clear g5 l5 o5
                go_wp2
                go_ret2
                exact ⟨_, rfl, by rw [hwi]; exact (RowC.of_owns (zs := cs ++ [⟨da, db⟩]) (by decide) CuV_len (by simpa using O5.out)).wide hwz (Nat.le_refl _), kb.out.trans (hk5.mono hwz)⟩
              · rw [List.take_length] at own
                have ow := toHid own
                clear own
                go_wp2
                go_ret2
                exact ⟨_, rfl, (RowC.of_owns (by decide) CuV_len ow.out).wide hwz (Nat.le_refl _), kb.out.trans (hk.mono hwz)⟩

end Go.Proofs.Ytnbnnbcjlfdlpaa
