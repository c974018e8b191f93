
/-
  Contract of the document's own answer about a part of the ring.
-/
import Derived.Test.YtekefbhpkpoghaaStoreRef
import Derived.Test.YtekefbhpkpoghaaStorePut
import Derived.Test.YtekefbhpkpoghaaSpanMath
import Derived.Test.YtekefbhpkpoghaaRingRef
namespace Go.Proofs.Ytekefbhpkpoghaa
open Go.ChangeShapes Go.WideShapes Go.ChangeAt Go.RowKit

theorem rStoreMay_is {lo hi : Nat} {w : World} {v : Value} {xs : List It} (hx : RowT lo hi w v xs) (hh : hi ≤ w.heap.size) {r : Bool} (h : stB xs = r) :
    Calls Try.prog 20 #[v] w fun e w' => e = .returned (.bool r) ∧ Below w.heap.size w w' := h ▸ rStoreMay_any hx hh

set_option maxHeartbeats 4000000 in
theorem rSpan_yes {lo hi : Nat} {w : World} {v : Value} {xs : List It} (hx : RowT lo hi w v xs) (hh : hi ≤ w.heap.size) (a b : Int) (hs : stB xs = true) (ha : plB a = true) (hb : plB b = true) :
    Calls Try.prog 9 #[v, .int .i64 a, .int .i64 b] w fun e w' => ∃ o, e = .returned (.tuple #[o, .int .i64 0]) ∧ RowT w.heap.size w'.heap.size w' o (xs.filter (spP a b)) ∧ Below w.heap.size w w' := by
  obtain ⟨hval, hsrt, hlen⟩ := stB_iff.1 hs
  have HM := rStoreMay_is hx hh hs
  obtain ⟨p, cc, rfl, hn, hp⟩ := hx.its hh
  go_enter Try.func9, Try.ntmps9
  go_wp2_with (first
    | (go_at_call 20; refine HM.mono ?_; rintro e w1 ⟨rfl, h1⟩)
    | (go_at_call 21; refine (rPlaceMay_any _ _).mono ?_; rintro e w' ⟨rfl, hw'⟩; subst w'))
  clear hs hsrt hx HM
  go_loopw [8, 9] (fun o i wr => ∃ (m : Nat), m ≤ xs.length ∧ i = .int .i64 m ∧ wr.ownsRow w.heap.size 37 5 o ((xs.take m).filter (spP a b)).length (((xs.take m).filter (spP a b)).flatMap ItV) ∧ Below w.heap.size w wr) (fun _ i _ => xs.length - (intOf i).toNat)
  case atStart => exact ⟨0, Nat.zero_le _, rfl, ⟨rfl, .inl ⟨rfl, rfl⟩⟩, h1⟩
  case round =>
    obtain ⟨m, hm, rfl, own, hbr⟩ := hrel
    by_cases hlt : m < xs.length
    · have hlt' : (m : Int) < (xs.length : Int) := by omega
      have hnx := filter_next (p := spP a b) hlt
      have hol := filter_take_len (xs := xs) (p := spP a b) m
      have hpl : plB xs[m].k = true := itB_place (hval _ (List.getElem_mem hlt))
      obtain ⟨bb, off, rfl, _, hbb, hc⟩ := hp (by omega)
      have it1 := (hc m hlt).below hbr hbb
      rw [getD_at _ _ hlt] at it1
      obtain ⟨c1, c2, c3, c4, c5⟩ := it1
      generalize (xs.take m).filter (spP a b) = out at own hnx hol
      by_cases hin : spP a b xs[m] = true
      · rw [if_pos hin] at hnx
        have hin2 : inB a xs[m].k b = true := hin
        replace hnx := toHid hnx
        clear hc hp hin
        generalize xs[m] = z at *
        obtain ⟨zk, zc, zu, zx, zg⟩ := z
        dsimp only at c1 c2 c3 c4 c5 hpl hin2
        go_wp2_with (first
          | (go_at_call 22; refine (rwithin_yes _ _ _ _ ha hpl hb).mono ?_; rintro e w' ⟨rfl, hw'⟩; subst w')
          | (at_builtin; refine app_its rfl (.tmp 43) (.tmp 48) rfl w.heap.size _ out.length out rfl (own.alloc _) ⟨wr.heap.size, 0, none⟩ 1 1 [⟨zk, zc, zu, zx, zg⟩] rfl rfl (fun j hj => ?_) (by omega) (by have := hbr.size; simp; omega) ?_; · (rw [add_plain, Nat.zero_add]; refine ((Box.newAt _ _ rfl).2.1 j).trans ?_; simp [ItV])))
        intro v' w4 hown4 hgr4 hbel4
        go_wp2
        go_roundw
        case rel => exact ⟨m + 1, by omega, by go_num, by rw [hnx.out]; simpa [Nat.add_assoc] using hown4, (hbr.onA _).trans hbel4⟩
        case measure => simp [intOf]; omega
      · rw [if_neg hin, List.append_nil] at hnx
        have hin2 : inB a xs[m].k b = false := Bool.eq_false_iff.2 hin
        replace hnx := toHid hnx
        clear hc hp hin
        generalize xs[m] = z at *
        obtain ⟨zk, zc, zu, zx, zg⟩ := z
        dsimp only at c1 c2 c3 c4 c5 hpl hin2
        go_wp2_with (first
          | (go_at_call 22; refine (rwithin_yes _ _ _ _ ha hpl hb).mono ?_; rintro e w' ⟨rfl, hw'⟩; subst w'))
        go_roundw
        case rel => exact ⟨m + 1, by omega, by go_num, by rw [hnx.out]; exact own, hbr⟩
        case measure => simp [intOf]; omega
    · have hm2 : m = xs.length := by omega
      subst hm2
      rw [List.take_length] at own
      have hR := RowC.of_owns (by decide) ItV_len own
      go_wp2
      go_ret2
      exact ⟨_, rfl, hR, hbr⟩

theorem rSpan_any {lo hi : Nat} {w : World} {v : Value} {xs : List It} (hx : RowT lo hi w v xs) (hh : hi ≤ w.heap.size) (a b : Int) :
    Calls Try.prog 9 #[v, .int .i64 a, .int .i64 b] w fun e w' => ∃ o, e = .returned (.tuple #[o, .int .i64 (spE xs a b)]) ∧ RowT w.heap.size w'.heap.size w' o (spL xs a b) ∧ Below w.heap.size w w' := by
  rcases Bool.eq_false_or_eq_true (stB xs) with hs | hs
  · rcases Bool.eq_false_or_eq_true (plB a) with ha | ha
    · rcases Bool.eq_false_or_eq_true (plB b) with hb | hb
      · rw [(sp_yes hs ha hb).1, (sp_yes hs ha hb).2]
        exact rSpan_yes hx hh a b hs ha hb
      · rw [(sp_no (xs := xs) (a := a) (.inr (.inr hb))).1, (sp_no (xs := xs) (a := a) (.inr (.inr hb))).2]
        have HM := rStoreMay_is hx hh hs
        obtain ⟨p, cc, rfl, hn, -⟩ := hx.its hh
        go_enter Try.func9, Try.ntmps9
        go_wp2_with (first
          | (go_at_call 20; refine HM.mono ?_; rintro e w1 ⟨rfl, h1⟩)
          | (go_at_call 21; refine (rPlaceMay_any _ _).mono ?_; rintro e w' ⟨rfl, hw'⟩; subst w'))
        go_ret2
        exact ⟨_, rfl, RowC.nil0, h1⟩
    · rw [(sp_no (xs := xs) (b := b) (.inr (.inl ha))).1, (sp_no (xs := xs) (b := b) (.inr (.inl ha))).2]
      have HM := rStoreMay_is hx hh hs
      obtain ⟨p, cc, rfl, hn, -⟩ := hx.its hh
      go_enter Try.func9, Try.ntmps9
      go_wp2_with (first
        | (go_at_call 20; refine HM.mono ?_; rintro e w1 ⟨rfl, h1⟩)
        | (go_at_call 21; refine (rPlaceMay_any _ _).mono ?_; rintro e w' ⟨rfl, hw'⟩; subst w'))
      go_ret2
      exact ⟨_, rfl, RowC.nil0, h1⟩
  · rw [(sp_no (a := a) (b := b) (.inl hs)).1, (sp_no (a := a) (b := b) (.inl hs)).2]
    have HM := rStoreMay_is hx hh hs
    obtain ⟨p, cc, rfl, hn, -⟩ := hx.its hh
    go_enter Try.func9, Try.ntmps9
    go_wp2_with (first
      | (go_at_call 20; refine HM.mono ?_; rintro e w1 ⟨rfl, h1⟩)
      | (go_at_call 21; refine (rPlaceMay_any _ _).mono ?_; rintro e w' ⟨rfl, hw'⟩; subst w'))
    go_ret2
    exact ⟨_, rfl, RowC.nil0, h1⟩

end Go.Proofs.Ytekefbhpkpoghaa
