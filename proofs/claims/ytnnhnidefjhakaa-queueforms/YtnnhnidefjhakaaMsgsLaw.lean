
/-
  The statements' own helpers on lists of messages: copying, comparing.
-/
import Derived.Test.YtnnhnidefjhakaaMsgsMem
import Derived.Test.YtnnhnidefjhakaaSameM
import Derived.Test.YtnnhnidefjhakaaCalm
import Derived.Test.YtnnhnidefjhakaaOld
import Derived.BigRegion
namespace Go.Proofs.Ytnnhnidefjhakaa
open Go.ChangeShapes Go.WideShapes Go.ChangeAt Go.RowKit

theorem own_low {w : World} {base base' n s : Nat} {e : TypeId} {v : Value} {xs : List Value} (h : w.ownsRow base e s v n xs) (hb : base' ≤ base) : w.ownsRow base' e s v n xs :=
  ⟨h.1, h.2.imp id fun ⟨g, c, cur, a1, a2, a3⟩ => ⟨g, c, cur, a1, Nat.le_trans hb a2, a3⟩⟩
/-- What stands at place j, cell by cell. -/
theorem MgAt.cells {lo hi : Nat} {w : World} {b o : Nat} {x : MgO} (h : MgAt lo hi w b o x) :
    w.cell? ⟨b, o, none⟩ = some (.int .i64 x.n) ∧ w.cell? ⟨b, o + 1, none⟩ = some (.int .i64 x.a) ∧ w.cell? ⟨b, o + 2, none⟩ = some (.int .i64 x.b) ∧ w.cell? ⟨b, o + 3, none⟩ = some x.v ∧ w.cell? ⟨b, o + 4, none⟩ = some (.int .i64 x.k) ∧ w.cell? ⟨b, o + 5, none⟩ = some (.int .i64 x.t.k) ∧
    w.cell? ⟨b, o + 6, none⟩ = some (.int .i64 x.t.c) ∧ w.cell? ⟨b, o + 7, none⟩ = some (.int .i64 x.t.u) ∧ w.cell? ⟨b, o + 8, none⟩ = some (.int .i64 x.t.x) ∧ w.cell? ⟨b, o + 9, none⟩ = some (.bool x.t.g) ∧ w.cell? ⟨b, o + 10, none⟩ = some (.bool x.h) :=
  ⟨h.1 0 (by decide), h.1 1 (by decide), h.1 2 (by decide), h.1 3 (by decide), h.1 4 (by decide), h.1 5 (by decide), h.1 6 (by decide), h.1 7 (by decide), h.1 8 (by decide), h.1 9 (by decide), h.1 10 (by decide)⟩

set_option maxHeartbeats 2000000 in
theorem copyMsg_own {lo hi : Nat} {w : World} {v : Value} {is : List Int} (hv : RowI lo hi w v is) (h2 : is.length * 8 ≤ 140737488355328) (n a b k tk tc tu tx : Int) (tg h : Bool) :
    Calls Try.prog 8 #[.agg #[.int .i64 n, .int .i64 a, .int .i64 b, v, .int .i64 k, .int .i64 tk, .int .i64 tc, .int .i64 tu, .int .i64 tx, .bool tg, .bool h]] w fun e w' =>
      ∃ p c, e = .returned (.agg #[.int .i64 n, .int .i64 a, .int .i64 b, .slice p is.length c, .int .i64 k, .int .i64 tk, .int .i64 tc, .int .i64 tu, .int .i64 tx, .bool tg, .bool h]) ∧ w'.ownsRow w.heap.size 3 1 (.slice p is.length c) is.length (is.map (Value.int .i64)) ∧ Below w.heap.size w w' := by
  have R1 := toHid (fun o1 o2 o3 : Obj => ((hv.alloc o1).alloc o2).alloc o3)
  have B1 := toHid (fun (o1 o2 : Obj) (cs : Array Value) (t : TypeId) => ((Box.new w cs t).alloc o1).alloc o2)
  have C1 := toHid (fun (o1 o2 : Obj) (cs : Array Value) (t : TypeId) => (Box.new1 w o1 cs t).alloc o2)
  clear hv
  go_enter Try.func8, Try.ntmps8
  go_wp2_with (at_builtin; refine app_row rfl (.tmp 3) (.tmp 5) rfl (w.heap.size + 1 + 1) (.slice (some ⟨w.heap.size + 1 + 1, 0, none⟩) 0 0) 0 [] rfl (lit_at (Nat.le_refl _) (by simp)) lo hi _ is rfl (R1.out _ _ _) (by omega) (by simp) ?_)
  intro v1 w1 hown1 hgr1 hb1
  have P1 : w1.ownsRow (w.heap.size + 1 + 1) 3 1 v1 is.length (is.map (Value.int .i64)) := by simpa using hown1
  have B2 := (B1.out _ _ _ _).belowAt hb1 (by omega)
  have C2 := (C1.out _ _ _ _).belowAt hb1 (by omega)
  have hk : Below w.heap.size w w1 := ((((Below.refl _ w).onA _).onA _).onA _).trans (hb1.mono (by omega))
  have hz := hb1.size
  simp only [World.size_alloc] at hz
  clear hown1 hgr1 B1 C1 R1 hb1
  obtain ⟨p, c, e1⟩ := own_slice P1
  subst e1
  obtain ⟨b1, b2, b3⟩ := B2
  obtain ⟨c1, c2, c3⟩ := C2
  replace P1 := toHid P1
  replace hk := toHid hk
  go_wp2
  have hS := toHid (((((((((((((Only.refl w.heap.size (w.heap.size + 1 + 1) w1).setCell (o := 3) (Nat.le_refl _) (by omega) (.slice p is.length c)).setCell (b := w.heap.size + 1) (o := 0) (by omega) (by omega) (.int .i64 n)).setCell (b := w.heap.size + 1) (o := 1) (by omega) (by omega) (.int .i64 a)).setCell (b := w.heap.size + 1) (o := 2) (by omega) (by omega) (.int .i64 b)).setCell (b := w.heap.size + 1) (o := 3) (by omega) (by omega) (.slice p is.length c)).setCell (b := w.heap.size + 1) (o := 4) (by omega) (by omega) (.int .i64 k)).setCell (b := w.heap.size + 1) (o := 5) (by omega) (by omega) (.int .i64 tk)).setCell (b := w.heap.size + 1) (o := 6) (by omega) (by omega) (.int .i64 tc)).setCell (b := w.heap.size + 1) (o := 7) (by omega) (by omega) (.int .i64 tu)).setCell (b := w.heap.size + 1) (o := 8) (by omega) (by omega) (.int .i64 tx)).setCell (b := w.heap.size + 1) (o := 9) (by omega) (by omega) (.bool tg)).setCell (b := w.heap.size + 1) (o := 10) (by omega) (by omega) (.bool h))
  clear b1 b2 b3
  refine bodyPost_ret (v := .agg #[.int .i64 n, .int .i64 a, .int .i64 b, .slice p is.length c, .int .i64 k, .int .i64 tk, .int .i64 tc, .int .i64 tu, .int .i64 tx, .bool tg, .bool h]) (by simp [results, Try.results8, go_sem, c2]) rfl ?_
  refine ⟨_, _, rfl, own_low ?_ (base := w.heap.size + 1 + 1) (by omega), hk.out.trans hS.out.below⟩
  repeat refine ownsRow_setCell_below ?_ (by simp <;> omega) _
  exact P1.out

set_option maxHeartbeats 4000000 in
theorem copyMsgs_any {lo hi : Nat} {w : World} {v : Value} {ms : List Mg} (h : RowM lo hi w v ms) (hh : hi ≤ w.heap.size) (hl : ms.length * 104 ≤ 140737488355328) (hs : ∀ m ∈ ms, m.is.length * 8 ≤ 140737488355328) :
    Calls Try.prog 7 #[v] w fun e w' => ∃ v', e = .returned v' ∧ OwnM w.heap.size w' v' ms ∧ Below w.heap.size w w' := by
  have R0 := toHid (fun (wr : World) (hk : Below w.heap.size w wr) => h.below hk hh)
  obtain ⟨p, c, rfl, hn, -⟩ := h.at
  replace hs := toHid hs
  clear h
  go_enter Try.func7, Try.ntmps7
  go_wp2
  go_loopw [3, 4] (fun s3 s4 wr => ∃ i : Nat, i ≤ ms.length ∧ s4 = .int .i64 i ∧ OwnM w.heap.size wr s3 (ms.take i) ∧ Below w.heap.size w wr) (fun _ s4 _ => ms.length - (intOf s4).toNat)
  case atStart => exact ⟨0, Nat.zero_le _, rfl, OwnM.nil0, Below.refl _ w⟩
  case round =>
    obtain ⟨i, hi, rfl, own, hk⟩ := hrel
    by_cases hlt : i < ms.length
    · obtain ⟨p', c', e, -, hx⟩ := (R0.out _ hk).at
      cases e
      obtain ⟨bb, off, rfl, -, hbb, h3⟩ := hx (by omega)
      obtain ⟨⟨n, a, b, is, k, ⟨tk, tc, tu, tx, tg⟩, g, y⟩, hm, hc⟩ := h3 i hlt
      have hy := hc.2
      obtain ⟨c0, c1, c2, c3, c4, c5, c6, c7, c8, c9, c10⟩ := hc.cells
      dsimp only at c0 c1 c2 c3 c4 c5 c6 c7 c8 c9 c10 hy
      have his : is.length * 8 ≤ 140737488355328 := by
        have := hs.out _ (List.getElem_mem hlt)
        rw [← hm] at this
        exact this
      have hlt' : (i : Int) < (ms.length : Int) := by omega
      have hi0 : 0 ≤ (i : Int) := by omega
      have hmn : Hid (ms.take i ++ [(⟨n, a, b, is, k, ⟨tk, tc, tu, tx, tg⟩, g⟩ : Mg)] = ms.take (i + 1)) := toHid (by
        rw [List.take_add_one, List.getElem?_eq_getElem hlt, ← hm]
        rfl)
      have hsz : w.heap.size ≤ wr.heap.size := hk.size
      have htl : (ms.take i).length = i := by simp; omega
      obtain ⟨q, d, e5⟩ := own.cap
      rw [htl] at e5
      obtain ⟨q2, d2, e6, -⟩ := hy.cap
      subst e6
      have HC := toHid (copyMsg_own hy his n a b k tk tc tu tx tg g)
      obtain ⟨X, hX⟩ : ∃ X, ms.take i = X := ⟨_, rfl⟩
      rw [hX] at own hmn htl
      replace own := toHid own
      replace hk := toHid hk
      replace htl := toHid htl
      replace e5 := toHid e5
      clear hX h3 hx hc hm hy his
      go_wp2_with (first
        | (go_at_call 8; refine HC.out.mono ?_; rintro e w5 ⟨p5, c5', rfl, own5, h5⟩
           have O5 := toHid (own_low own5 hsz)
           replace own := toHid (own.out.below h5)
           have z5 : w.heap.size ≤ w5.heap.size := Nat.le_trans hsz h5.size
           replace hk := toHid (hk.out.trans (h5.mono hsz))
           clear own5 h5 c0 c1 c2 c3 c4 c5 c6 c7 c8 c9 c10)
        | (at_builtin; refine app_msgs rfl (.tmp 11) (.tmp 17) rfl w.heap.size _ X rfl (own.out.alloc _) ⟨w5.heap.size, 0, none⟩ 1 1 [⟨n, a, b, is, k, ⟨tk, tc, tu, tx, tg⟩, g, .slice p5 is.length c5'⟩] rfl rfl (fun j hj => ?_) (fun y hy => ?_) (by have := htl.out; omega) (by simp; omega) ?_
           · (rw [add_plain, Nat.zero_add]; exact ((Box.newAt _ _ (by simp)).2.1 j).trans (by simp [MvV]))
           · (obtain rfl := List.mem_singleton.1 hy; exact ownsRow_below O5.out ((Below.refl _ w5).onA _))))
      intro v' w7 hown7 hgr7 hbel7
      replace hown7 : Hid (OwnM w.heap.size w7 v' (ms.take (i + 1))) := toHid (by rw [← hmn.out]; exact hown7)
      replace hk := toHid ((hk.out.alloc (by simpa using z5) _).trans hbel7)
      clear hgr7 hbel7
      go_wp2
      go_roundw
      case rel => exact ⟨i + 1, by omega, by go_num, hown7.out, hk.out⟩
      case measure => simp [intOf]; omega
    · obtain rfl : i = ms.length := by omega
      rw [List.take_length] at own
      replace own := toHid own
      replace hk := toHid hk
      go_wp2
      go_ret
      exact ⟨_, rfl, own.out, hk.out⟩

end Go.Proofs.Ytnnhnidefjhakaa
