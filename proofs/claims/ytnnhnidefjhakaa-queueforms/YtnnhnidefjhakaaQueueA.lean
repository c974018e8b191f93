
/-
  Contracts of package queue's copies: a message with a list of its own; a list of them behind another.
-/
import Derived.Test.YtnnhnidefjhakaaMsgsLaw
import Derived.Test.YtnnhnidefjhakaaMsgsApp
namespace Go.Proofs.Ytnnhnidefjhakaa
open Go.ChangeShapes Go.WideShapes Go.ChangeAt Go.RowKit

set_option maxHeartbeats 2000000 in
theorem qCopied_any {lo hi : Nat} {w : World} {v : Value} {is : List Int} (hv : RowI lo hi w v is) (h2 : is.length * 8 ≤ 140737488355328) (n a b k tk tc tu tx : Int) (tg h : Bool) :
    Calls Try.prog 23 #[.agg #[.int .i64 n, .int .i64 a, .int .i64 b, v, .int .i64 k, .int .i64 tk, .int .i64 tc, .int .i64 tu, .int .i64 tx, .bool tg, .bool h]] w fun e w' =>
      ∃ p c, e = .returned (.agg #[.int .i64 n, .int .i64 a, .int .i64 b, .slice p is.length c, .int .i64 k, .int .i64 tk, .int .i64 tc, .int .i64 tu, .int .i64 tx, .bool tg, .bool h]) ∧ w'.ownsRow w.heap.size 3 1 (.slice p is.length c) is.length (is.map (Value.int .i64)) ∧ Below w.heap.size w w' := by
  have R1 := toHid (fun o1 o2 : Obj => (hv.alloc o1).alloc o2)
  have B1 := toHid (fun (o1 : Obj) (cs : Array Value) (t : TypeId) => (Box.new w cs t).alloc o1)
  have C1 := toHid (fun (o1 : Obj) (cs : Array Value) (t : TypeId) => Box.new1 w o1 cs t)
  clear hv
  go_enter Try.func23, Try.ntmps23
  go_wp2_with (at_builtin; refine app_row rfl _ _ rfl (w.heap.size + 1 + 1) (.slice none 0 0) 0 [] rfl ⟨rfl, .inl ⟨rfl, rfl⟩⟩ lo hi _ is rfl (R1.out _ _) (by omega) (by simp) ?_)
  intro v1 w1 hown1 hgr1 hb1
  have P1 : w1.ownsRow (w.heap.size + 1 + 1) 3 1 v1 is.length (is.map (Value.int .i64)) := by simpa using hown1
  have B2 := (B1.out _ _ _).belowAt hb1 (by omega)
  have C2 := (C1.out _ _ _).belowAt hb1 (by omega)
  have hk : Below w.heap.size w w1 := (((Below.refl _ w).onA _).onA _).trans (hb1.mono (by omega))
  have hz := hb1.size
  simp only [World.size_alloc] at hz
  clear hown1 hgr1 B1 C1 R1 hb1
  obtain ⟨p, c, e1⟩ := own_slice P1
  subst e1
  obtain ⟨b1, b2, b3⟩ := B2
  obtain ⟨c1, c2, c3⟩ := C2
  replace P1 := toHid P1
  replace hk := toHid hk
  go_wp2
  have hS := toHid (((((((((((((Only.refl w.heap.size (w.heap.size + 1 + 1) w1).setCell (o := 3) (Nat.le_refl _) (by omega) (.slice p is.length c)).setCell (b := w.heap.size + 1) (o := 0) (by omega) (by omega) (.int .i64 n)).setCell (b := w.heap.size + 1) (o := 1) (by omega) (by omega) (.int .i64 a)).setCell (b := w.heap.size + 1) (o := 2) (by omega) (by omega) (.int .i64 b)).setCell (b := w.heap.size + 1) (o := 3) (by omega) (by omega) (.slice p is.length c)).setCell (b := w.heap.size + 1) (o := 4) (by omega) (by omega) (.int .i64 k)).setCell (b := w.heap.size + 1) (o := 5) (by omega) (by omega) (.int .i64 tk)).setCell (b := w.heap.size + 1) (o := 6) (by omega) (by omega) (.int .i64 tc)).setCell (b := w.heap.size + 1) (o := 7) (by omega) (by omega) (.int .i64 tu)).setCell (b := w.heap.size + 1) (o := 8) (by omega) (by omega) (.int .i64 tx)).setCell (b := w.heap.size + 1) (o := 9) (by omega) (by omega) (.bool tg)).setCell (b := w.heap.size + 1) (o := 10) (by omega) (by omega) (.bool h))
  clear b1 b2 b3
  refine bodyPost_ret (v := .agg #[.int .i64 n, .int .i64 a, .int .i64 b, .slice p is.length c, .int .i64 k, .int .i64 tk, .int .i64 tc, .int .i64 tu, .int .i64 tx, .bool tg, .bool h]) (by simp [results, Try.results23, go_sem, c2]) rfl ?_
  refine ⟨_, _, rfl, own_low ?_ (base := w.heap.size + 1 + 1) (by omega), hk.out.trans hS.out.below⟩
  repeat refine ownsRow_setCell_below ?_ (by simp <;> omega) _
  exact P1.out

set_option maxHeartbeats 4000000 in
theorem qCopies_any {base lo hi : Nat} {w : World} {u v : Value} {ns ms : List Mg} (own : OwnM base w u ns) (h : RowM lo hi w v ms) (hh : hi ≤ base) (hb : base ≤ w.heap.size) (hl : (ns.length + ms.length) * 104 ≤ 140737488355328) (hs : ∀ m ∈ ms, m.is.length * 8 ≤ 140737488355328) :
    Calls Try.prog 22 #[u, v] w fun e w' => ∃ v', e = .returned v' ∧ OwnM base w' v' (ns ++ ms) ∧ Below base w w' := by
  have R0 := toHid (fun (wr : World) (hk : Below base w wr) => h.below hk hh)
  obtain ⟨p, c, rfl, hn, -⟩ := h.at
  replace hs := toHid hs
  replace hl := toHid hl
  clear h
  go_enter Try.func22, Try.ntmps22
  go_wp2
  go_loopw [0, 9] (fun s0 s9 wr => ∃ i : Nat, i ≤ ms.length ∧ s9 = .int .i64 i ∧ OwnM base wr s0 (ns ++ ms.take i) ∧ Below base w wr) (fun _ s9 _ => ms.length - (intOf s9).toNat)
  case atStart => exact ⟨0, Nat.zero_le _, rfl, by simpa using own, Below.refl _ w⟩
  case round =>
    clear own
    obtain ⟨i, hi, rfl, own, hk⟩ := hrel
    by_cases hlt : i < ms.length
    · obtain ⟨p', c', e, -, hx⟩ := (R0.out _ hk).at
      cases e
      obtain ⟨bb, off, rfl, -, hbb, h3⟩ := hx (by omega)
      obtain ⟨⟨n, a, b, is, k, ⟨tk, tc, tu, tx, tg⟩, g, y⟩, hm, hc⟩ := h3 i hlt
      have hy := hc.2
      obtain ⟨c0, c1, c2, c3, c4, c5, c6, c7, c8, c9, c10⟩ := hc.cells
      dsimp only at c0 c1 c2 c3 c4 c5 c6 c7 c8 c9 c10 hy
      have his : is.length * 8 ≤ 140737488355328 := by
        have := hs.out _ (List.getElem_mem hlt)
        rw [← hm] at this
        exact this
      have hlt' : (i : Int) < (ms.length : Int) := by omega
      have hi0 : 0 ≤ (i : Int) := by omega
      have hmn : Hid ((ns ++ ms.take i) ++ [(⟨n, a, b, is, k, ⟨tk, tc, tu, tx, tg⟩, g⟩ : Mg)] = ns ++ ms.take (i + 1)) := toHid (by
        rw [List.take_add_one, List.getElem?_eq_getElem hlt, ← hm, List.append_assoc]
        rfl)
      have hsz : base ≤ wr.heap.size := Nat.le_trans hb hk.size
      have htl : (ns ++ ms.take i).length = ns.length + i := by simp; omega
      obtain ⟨q, d, e5⟩ := own.cap
      rw [htl] at e5
      obtain ⟨q2, d2, e6, -⟩ := hy.cap
      subst e6
      have HC := toHid (fun o => qCopied_any (hy.alloc o) his n a b k tk tc tu tx tg g)
      obtain ⟨X, hX⟩ : ∃ X, ns ++ ms.take i = X := ⟨_, rfl⟩
      rw [hX] at own hmn htl
      replace own := toHid own
      replace hk := toHid hk
      replace htl := toHid htl
      replace e5 := toHid e5
      clear hX h3 hx hc hm hy his
      go_wp2_with (first
        | (go_at_call 23; refine (HC.out _).mono ?_; rintro e w5 ⟨p5, c5', rfl, own5, h5⟩
           have O5 := toHid (own_low (base' := base) own5 (Nat.le_trans hsz (by simp)))
           replace own := toHid ((own.out.alloc _).below h5)
           have z5 : base ≤ w5.heap.size := Nat.le_trans (Nat.le_trans hsz (by simp)) h5.size
           replace hk := toHid ((hk.out.alloc hsz _).trans (h5.mono (Nat.le_trans hsz (by simp))))
           clear own5 h5 c0 c1 c2 c3 c4 c5 c6 c7 c8 c9 c10)
        | (at_builtin; refine app_msgs rfl (.tmp 13) (.tmp 16) rfl base _ X rfl (own.out.alloc _) ⟨w5.heap.size, 0, none⟩ 1 1 [⟨n, a, b, is, k, ⟨tk, tc, tu, tx, tg⟩, g, .slice p5 is.length c5'⟩] rfl rfl (fun j hj => ?_) (fun y hy => ?_) (by have := htl.out; have := hl.out; omega) (by simp; omega) ?_
           · (rw [add_plain, Nat.zero_add]; exact ((Box.newAt _ _ (by simp)).2.1 j).trans (by simp [MvV]))
           · (obtain rfl := List.mem_singleton.1 hy; exact ownsRow_below O5.out ((Below.refl _ w5).onA _))))
      intro v' w7 hown7 hgr7 hbel7
      replace hown7 : Hid (OwnM base w7 v' (ns ++ ms.take (i + 1))) := toHid (by rw [← hmn.out]; exact hown7)
      replace hk := toHid ((hk.out.alloc (by simpa using z5) _).trans hbel7)
      clear hgr7 hbel7
      go_wp2
      go_roundw
      case rel => exact ⟨i + 1, by omega, by go_num, hown7.out, hk.out⟩
      case measure => simp [intOf]; omega
    · obtain rfl : i = ms.length := by omega
      rw [List.take_length] at own
      replace own := toHid own
      replace hk := toHid hk
      go_wp2
      go_ret
      exact ⟨_, rfl, own.out, hk.out⟩

end Go.Proofs.Ytnnhnidefjhakaa
