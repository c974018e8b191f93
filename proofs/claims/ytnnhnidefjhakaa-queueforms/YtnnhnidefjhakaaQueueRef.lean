
/-
  Contracts of the document's own answers on queues: which may be; copies.
-/
import Derived.Test.YtnnhnidefjhakaaMsgsLaw
import Derived.Test.YtnnhnidefjhakaaQueueMath
import Derived.Test.YtnnhnidefjhakaaMsgRef
namespace Go.Proofs.Ytnnhnidefjhakaa
open Go.ChangeShapes Go.WideShapes Go.ChangeAt Go.RowKit

set_option maxHeartbeats 4000000 in
theorem rQueueMay_any {lo hi : Nat} {w : World} {v : Value} {ms : List Mg} (h : RowM lo hi w v ms) (hh : hi ≤ w.heap.size) :
    Calls Try.prog 17 #[v] w fun e w' => e = .returned (.bool (quB ms)) ∧ Below w.heap.size w w' := by
  have R0 := toHid (fun (wr : World) (hk : Below w.heap.size w wr) => h.below hk hh)
  obtain ⟨p, c, rfl, hn, -⟩ := h.at
  obtain ⟨R, hR⟩ : ∃ R, quB ms = R := ⟨_, rfl⟩
  rw [hR]
  replace hR := toHid hR
  clear h
  go_enter Try.func17, Try.ntmps17
  go_wp2
  go_loopw [3] (fun s3 wr => ∃ i : Nat, i ≤ ms.length ∧ s3 = .int .i64 i ∧ (ms.take i).all mayB = true ∧ Below w.heap.size w wr) (fun s3 _ => ms.length - (intOf s3).toNat)
  case atStart => exact ⟨0, Nat.zero_le _, rfl, rfl, Below.refl _ w⟩
  case round =>
    obtain ⟨i, hi, rfl, ha, hk⟩ := hrel
    by_cases hlt : i < ms.length
    · obtain ⟨q, d, e, -, hx⟩ := (R0.out _ hk).at
      cases e
      obtain ⟨bb, off, rfl, -, hbb, h3⟩ := hx (by omega)
      obtain ⟨⟨n, a, b, is, k, ⟨tk, tc, tu, tx, tg⟩, g, y⟩, hm, hc⟩ := h3 i hlt
      have hy := hc.2
      obtain ⟨c0, c1, c2, c3, c4, c5, c6, c7, c8, c9, c10⟩ := hc.cells
      dsimp only at c0 c1 c2 c3 c4 c5 c6 c7 c8 c9 c10 hy
      have hlt' : (i : Int) < (ms.length : Int) := by omega
      have hi0 : 0 ≤ (i : Int) := by omega
      have HM := rMsgMay_any hy n a b k tk tc tu tx tg g
      obtain ⟨q2, d2, e6, -⟩ := hy.cap
      subst e6
      obtain ⟨r, hr⟩ : ∃ r, mgB n a b is k ⟨tk, tc, tu, tx, tg⟩ g = r := ⟨_, rfl⟩
      rw [hr] at HM
      have hr2 : mayB ms[i] = r := by rw [← hm]; exact hr
      have hrs : Hid ((ms.take (i + 1)).all mayB = r) := toHid (by
        rw [List.take_add_one, List.getElem?_eq_getElem hlt, List.all_append, ha]
        simp [hr2])
      have hrf : Hid (r = false → R = false) := toHid (fun e => by
        rw [← hR.out]
        cases hq : quB ms with
        | false => rfl
        | true =>
          have := qu_mem hq _ (List.getElem_mem hlt)
          rw [hr2, e] at this
          cases this)
      replace HM := toHid HM
      replace hk := toHid hk
      replace ha := toHid ha
      clear h3 hx hc hm hy hr hr2
      cases r with
      | true =>
        go_wp2_with (go_at_call 24; refine HM.out.mono ?_; rintro e w5 ⟨rfl, h5⟩)
        go_roundw
        case rel => exact ⟨i + 1, by omega, by go_num, hrs.out, hk.out.on h5⟩
        case measure => simp [intOf]; omega
      | false =>
        go_wp2_with (go_at_call 24; refine HM.out.mono ?_; rintro e w5 ⟨rfl, h5⟩)
        go_ret
        exact ⟨by rw [hrf.out (by trivial)]; rfl, hk.out.on h5⟩
    · obtain rfl : i = ms.length := by omega
      rw [List.take_length] at ha
      by_cases h5 : ms.length ≤ 512
      · have hRt : Hid (R = true) := toHid (by rw [← hR.out]; simp only [quB, ha, Bool.true_and]; exact decide_eq_true h5)
        have h5' : (ms.length : Int) ≤ 512 := by omega
        replace hk := toHid hk
        clear ha
        go_wp2
        go_ret
        exact ⟨by rw [hRt.out]; rfl, hk.out⟩
      · have hRf : Hid (R = false) := toHid (by rw [← hR.out]; simp only [quB, ha, Bool.true_and]; exact decide_eq_false h5)
        have h5' : ¬ (ms.length : Int) ≤ 512 := by omega
        have h6 : decide ((ms.length : Int) ≤ 512) = false := decide_eq_false h5'
        replace hk := toHid hk
        clear ha
        go_wp2
        go_ret
        exact ⟨by rw [hRf.out]; rfl, hk.out⟩

set_option maxHeartbeats 4000000 in
theorem rCopyMsgs_any {lo hi : Nat} {w : World} {v : Value} {ms : List Mg} (h : RowM lo hi w v ms) (hh : hi ≤ w.heap.size) (hl : ms.length * 104 ≤ 140737488355328) (hs : ∀ m ∈ ms, m.is.length * 8 ≤ 140737488355328) :
    Calls Try.prog 25 #[v] w fun e w' => ∃ v', e = .returned v' ∧ OwnM w.heap.size w' v' ms ∧ Below w.heap.size w w' := by
  have R0 := toHid (fun (wr : World) (hk : Below w.heap.size w wr) => h.below hk hh)
  obtain ⟨p, c, rfl, hn, -⟩ := h.at
  replace hs := toHid hs
  clear h
  go_enter Try.func25, Try.ntmps25
  go_wp2
  go_loopw [3, 4] (fun s3 s4 wr => ∃ i : Nat, i ≤ ms.length ∧ s4 = .int .i64 i ∧ OwnM w.heap.size wr s3 (ms.take i) ∧ Below w.heap.size w wr) (fun _ s4 _ => ms.length - (intOf s4).toNat)
  case atStart => exact ⟨0, Nat.zero_le _, rfl, OwnM.nil0, Below.refl _ w⟩
  case round =>
    obtain ⟨i, hi, rfl, own, hk⟩ := hrel
    by_cases hlt : i < ms.length
    · obtain ⟨p', c', e, -, hx⟩ := (R0.out _ hk).at
      cases e
      obtain ⟨bb, off, rfl, -, hbb, h3⟩ := hx (by omega)
      obtain ⟨⟨n, a, b, is, k, ⟨tk, tc, tu, tx, tg⟩, g, y⟩, hm, hc⟩ := h3 i hlt
      have hy := hc.2
      obtain ⟨c0, c1, c2, c3, c4, c5, c6, c7, c8, c9, c10⟩ := hc.cells
      dsimp only at c0 c1 c2 c3 c4 c5 c6 c7 c8 c9 c10 hy
      have his : is.length * 8 ≤ 140737488355328 := by
        have := hs.out _ (List.getElem_mem hlt)
        rw [← hm] at this
        exact this
      have hlt' : (i : Int) < (ms.length : Int) := by omega
      have hi0 : 0 ≤ (i : Int) := by omega
      have hmn : Hid (ms.take i ++ [(⟨n, a, b, is, k, ⟨tk, tc, tu, tx, tg⟩, g⟩ : Mg)] = ms.take (i + 1)) := toHid (by
        rw [List.take_add_one, List.getElem?_eq_getElem hlt, ← hm]
        rfl)
      have hsz : w.heap.size ≤ wr.heap.size := hk.size
      have htl : (ms.take i).length = i := by simp; omega
      obtain ⟨q, d, e5⟩ := own.cap
      rw [htl] at e5
      obtain ⟨q2, d2, e6, -⟩ := hy.cap
      subst e6
      have BV := toHid ((Box.new wr #[.int .i64 n, .int .i64 a, .int .i64 b, .slice q2 is.length d2, .int .i64 k, .int .i64 tk, .int .i64 tc, .int .i64 tu, .int .i64 tx, .bool tg, .bool g] 29).alloc (.cells #[] 3))
      have HY := toHid (fun o1 o2 : Obj => (hy.alloc o1).alloc o2)
      obtain ⟨X, hX⟩ : ∃ X, ms.take i = X := ⟨_, rfl⟩
      rw [hX] at own hmn htl
      replace own := toHid own
      replace hk := toHid hk
      replace htl := toHid htl
      replace e5 := toHid e5
      replace his := toHid his
      clear hX h3 hx hc hm hy
      go_wp2_with (at_builtin; refine app_row rfl (.tmp 16) (.tmp 18) rfl (wr.heap.size + 1) (.slice (some ⟨wr.heap.size + 1, 0, none⟩) 0 0) 0 [] rfl (lit_at (Nat.le_refl _) (by simp)) _ _ _ is rfl (HY.out _ _) (by have := his.out; omega) (by simp) ?_)
      intro v5 w5 hown5 hgr5 hbel5
      obtain ⟨p5, c5', e8⟩ := own_slice hown5
      subst e8
      have BV5 := BV.out.belowAt hbel5 (Nat.lt_succ_self _)
      obtain ⟨b1, b2, b3⟩ := id BV5
      have hw5 : Below wr.heap.size wr w5 := (((Below.refl _ wr).onA _).onA _).trans (hbel5.mono (by omega))
      have z6 : w.heap.size ≤ w5.heap.size := Nat.le_trans hsz hw5.size
      have O6 := toHid (own_low (base' := w.heap.size) (ownsRow_setCell_below (a := ⟨wr.heap.size, 3, none⟩) (show w5.ownsRow (wr.heap.size + 1) 3 1 (.slice p5 is.length c5') is.length (is.map (Value.int .i64)) by simpa using hown5) (Nat.lt_succ_self _) (.slice p5 is.length c5')) (by omega))
      have own6 := toHid (own.out.below (hw5.setCell (p := ⟨wr.heap.size, 3, none⟩) (Nat.le_refl _) (.slice p5 is.length c5')))
      replace hk := toHid ((hk.out.trans (hw5.mono hsz)).setCell (p := ⟨wr.heap.size, 3, none⟩) hsz (.slice p5 is.length c5'))
      have z5 : w.heap.size ≤ (w5.setCell ⟨wr.heap.size, 3, none⟩ (.slice p5 is.length c5')).heap.size := by rw [World.size_setCell]; exact z6
      have hw5s := toHid (hw5.size)
      clear hown5 hgr5 hbel5 hw5 BV5 own
      go_wp2_with (first
        | (at_builtin; refine app_msgs rfl (.tmp 21) (.tmp 23) rfl w.heap.size _ X rfl (own6.out.alloc _) ⟨w5.heap.size, 0, none⟩ 1 1 [⟨n, a, b, is, k, ⟨tk, tc, tu, tx, tg⟩, g, .slice p5 is.length c5'⟩] rfl rfl (fun j hj => ?_) (fun y hy => ?_) (by have := htl.out; omega) (by simp; omega) ?_
           · (rw [add_plain, Nat.zero_add]; exact ((Box.newAt _ _ (by simp)).2.1 j).trans (by simp [MvV]))
           · (obtain rfl := List.mem_singleton.1 hy; exact ownsRow_below O6.out ((Below.refl _ _).onA _))))
      intro v' w7 hown7 hgr7 hbel7
      replace hown7 : Hid (OwnM w.heap.size w7 v' (ms.take (i + 1))) := toHid (by rw [← hmn.out]; exact hown7)
      replace hk := toHid ((hk.out.alloc (by simpa using z5) _).trans hbel7)
      clear hgr7 hbel7
      go_wp2
      go_roundw
      case rel => exact ⟨i + 1, by omega, by go_num, hown7.out, hk.out⟩
      case measure => simp [intOf]; omega
    · obtain rfl : i = ms.length := by omega
      rw [List.take_length] at own
      replace own := toHid own
      replace hk := toHid hk
      go_wp2
      go_ret
      exact ⟨_, rfl, own.out, hk.out⟩

end Go.Proofs.Ytnnhnidefjhakaa
