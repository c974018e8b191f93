
/-
  The document's own answer on a tick: the view grows older, who is known is greeted, items are shared.
-/
import Derived.Test.YtghamcomjfholaaShareMath
import Derived.Test.YtghamcomjfholaaAgeMath
import Derived.Test.YtghamcomjfholaaAgeBox
import Derived.Test.YtghamcomjfholaaViewRef
import Derived.Test.YtghamcomjfholaaPeerRef
import Derived.Deep.RegionLawGrows
import Derived.Test.YtghamcomjfholaaSteps
namespace Go.Proofs.Ytghamcomjfholaa
open Go.ChangeShapes Go.WideShapes Go.ChangeAt Go.RowKit

/-- The greetings to some places. -/
def hiL (i : Int) (names gs : List Int) : List Mg := gs.map fun d => ⟨0, i, d, names, 0, ⟨0, 0, 0, 0, false⟩, false⟩
def tiN (n : Nd) : Nd := if (n.up && ndB n) = true then ⟨true, n.i, (tkS (n.ps, n.is)).1, (tkS (n.ps, n.is)).2, n.ts, n.ls⟩ else zeroN
def tiM (n : Nd) : List Mg := if (n.up && ndB n) = true then hiL n.i (nmL (tkS (n.ps, n.is)).1) (tkG (n.ps, n.is)) ++ shL n.i (tkS (n.ps, n.is)).1 (tkS (n.ps, n.is)).2 n.ts else []
def tiE (n : Nd) : Int := if (n.up && ndB n) = true then 0 else 1900
theorem nd_vw {n : Nd} (hu : n.up = true) (h : ndB n = true) : vwB n.i n.ps n.is = true := by
  rw [ndB, if_pos hu] at h
  simp only [Bool.and_eq_true] at h
  exact h.2.1
theorem ti_ok {i : Int} {ps : List Pe} {is : List Int} {ts : List It} {ls : List Te} (h : ndB ⟨true, i, ps, is, ts, ls⟩ = true) : ndB ⟨true, i, (tkS (ps, is)).1, (tkS (ps, is)).2, ts, ls⟩ = true := by
  have hv := nd_vw (n := ⟨true, i, ps, is, ts, ls⟩) rfl h
  have hk : vwB i (tkS (ps, is)).1 (tkS (ps, is)).2 = true := tk_ok (s := (ps, is)) hv
  simp only [ndB, Bool.and_eq_true, if_pos] at h ⊢
  exact ⟨h.1, hk, h.2.2⟩

theorem Box.only2 {lo hi b : Nat} {w w' : World} {xs : Array Value} (h : Box w b xs) (s : Only lo hi w w') (hn : b < lo ∨ hi ≤ b) : Box w' b xs :=
  ⟨by rw [s.size]; exact h.1, fun o => (s.cell b o hn).trans (h.2.1 o), fun o => (s.frozen b o).trans (h.2.2 o)⟩

theorem own_lowB {w : World} {base base' n s : Nat} {e : TypeId} {v : Value} {xs : List Value} (h : w.ownsRow base e s v n xs) (hb : base' ≤ base) : w.ownsRow base' e s v n xs :=
  ⟨h.1, h.2.imp id fun ⟨g, c, cur, a1, a2, a3⟩ => ⟨g, c, cur, a1, Nat.le_trans hb a2, a3⟩⟩

section
variable {lo hi : Nat} {w : World} {p q r s : Value} {ps : List Pe} {is : List Int} {ts : List It} {ls : List Te}

end

end Go.Proofs.Ytghamcomjfholaa

namespace Go.Proofs.Ytghamcomjfholaa
open Go.ChangeShapes Go.WideShapes Go.ChangeAt Go.RowKit

set_option maxHeartbeats 1000000 in
theorem tIds_own {lo hi : Nat} {w : World} {v : Value} {ps : List Pe} (hx : RowP lo hi w v ps) (hh : hi ≤ w.heap.size) (hl : ps.length ≤ 16) :
    Calls Try.prog 42 #[v] w fun e w' => ∃ u, e = .returned u ∧ w'.ownsRow w.heap.size 3 1 u ps.length ((nmL ps).map (Value.int .i64)) ∧ Below w.heap.size w w' := by
  obtain ⟨a, c, rfl, hn, hp⟩ := hx.pes hh
  clear hx
  obtain ⟨n, hN⟩ : ∃ n, ps.length = n := ⟨_, rfl⟩
  rw [hN] at hp hl hn ⊢
  replace hN := toHid hN
  replace hp := toHid hp
  go_enter Try.func42, Try.ntmps42
  go_wp2
  go_loopw [3, 8] (fun v j wr => ∃ k : Nat, k ≤ n ∧ j = .int .i64 k ∧ Hid (wr.ownsRow w.heap.size 3 1 v k ((nmL (ps.take k)).map (Value.int .i64))) ∧ Below w.heap.size w wr) (fun _ j _ => n - (intOf j).toNat)
  case atStart => exact ⟨0, Nat.zero_le _, rfl, toHid (World.ownsRow_nil _ _ _ _), Below.refl _ _⟩
  case round =>
    obtain ⟨k, hk, rfl, hown, hbel⟩ := hrel
    by_cases hlt : k < n
    · obtain ⟨b, off, rfl, -, hb, h1⟩ := hp.out (by omega)
      obtain ⟨c1, c2⟩ := (h1 k (by omega)).below hbel hb
      have HS := toHid (nmL_take ps k (by have := hN.out; omega))
      have hlt' : (k : Int) < (n : Int) := by omega
      have hsz := hbel.size
      clear h1 hp
      generalize ps.getD k ⟨0, 0⟩ = z at c1 c2 HS
      obtain ⟨zn, zm⟩ := z
      dsimp only at c1 c2 HS
      go_wp2_with (at_builtin; refine app_ints rfl (.tmp 12) (.tmp 15) rfl w.heap.size _ k (nmL (ps.take k)) rfl ((hown.out.alloc _).alloc _) ⟨wr.heap.size + 1, 0, none⟩ 1 1 [zn] rfl rfl (fun j hj => ?_) (by omega) (by simp; omega) ?_; · (match j, hj with | 0, _ => simp [Addr.add]))
      intro v' w3 hown' hgr hbel'
      have R : w3.ownsRow w.heap.size 3 1 v' (k + 1) ((nmL (ps.take (k + 1))).map (Value.int .i64)) ∧ Below w.heap.size w w3 :=
        ⟨by rw [HS.out]; simpa using hown', ((hbel.onA _).onA _).trans hbel'⟩
      clear hown' hgr hbel' hown c1 c2
      go_wp2
      go_roundw
      case rel => exact ⟨k + 1, by omega, by go_num, toHid R.1, R.2⟩
      case measure => simp [intOf]; omega
    · obtain rfl : k = n := by omega
      have hkn : ps.take k = ps := List.take_of_length_le (by have := hN.out; omega)
      rw [hkn] at hown
      clear hkn hp
      go_wp2
      go_ret
      exact ⟨_, rfl, hown.out, hbel⟩

set_option maxRecDepth 20000 in
set_option maxHeartbeats 8000000 in
theorem tHellos_any {lo hi lo2 hi2 : Nat} {w : World} {p q g : Value} {ps : List Pe} {is gs : List Int} (i : Int) (h : VwAt lo hi w p q ps is) (hh : hi ≤ w.heap.size) (R : RowI lo2 hi2 w g gs) (hh2 : hi2 ≤ w.heap.size) (hl : ps.length ≤ 16) (hg : gs.length ≤ 16) :
    Calls Try.prog 23 #[.agg #[.int .i64 i, p, q], g] w fun e w' => ∃ u, e = .returned u ∧ OwnM w.heap.size w' u (hiL i (nmL ps) gs) ∧ Below w.heap.size w w' := by
  obtain ⟨i0, hi0, hz0, hz1, hz2⟩ := info_parts Try.infoMsg
  obtain ⟨a, c, a', c', rfl, rfl, -, -⟩ := id h.shape
  obtain ⟨gp, gc, rfl, -⟩ := id R.cap
  have B1 := toHid (Box.new w #[.int .i64 i, .slice a ps.length c, .slice a' is.length c'] 26)
  have V0 := toHid (h.ps.alloc (.cells #[.int .i64 i, .slice a ps.length c, .slice a' is.length c'] 26) PeV_len)
  have G0 := toHid (R.alloc (.cells #[.int .i64 i, .slice a ps.length c, .slice a' is.length c'] 26))
  have hk0 := toHid ((Below.refl w.heap.size w).onA (.cells #[.int .i64 i, .slice a ps.length c, .slice a' is.length c'] 26))
  have hz : Hid (w.heap.size < (w.alloc (.cells #[.int .i64 i, .slice a ps.length c, .slice a' is.length c'] 26)).heap.size) := toHid (by simp)
  clear h R
  go_enter Try.func23, Try.ntmps23
  go_upto_region 1 with (fail)
  generalize w.alloc (.cells #[.int .i64 i, .slice a ps.length c, .slice a' is.length c'] 26) = W0 at B1 V0 G0 hk0 hz ⊢
  go_wp2_with (at_make; refine wpList_make_own _ rfl _ _ 37 rfl W0.heap.size 48 i0 _ 11 Try.underlying37 hi0 hz0 hz1 _ _ _ gs.length rfl rfl (by simp) (by rw [hz2]; omega) (by unfold maxLen; omega) (Nat.le_refl _) ?_)
  intro w1 hown1 hgr1
  have hb1 : Below W0.heap.size W0 w1 := (Below.refl _ _).grown hgr1 (Nat.le_refl _) (fun j hj => by cases hj)
  have own1 : Hid (OwnM W0.heap.size w1 (.slice (some ⟨W0.heap.size, 0, none⟩) 0 gs.length) (hiL i (nmL ps) (gs.take 0))) := toHid ⟨[], rfl, hown1, fun x hx => by cases hx⟩
  replace hb1 := toHid hb1
  clear hgr1 hown1
  go_wp2
  go_loopw [5, 13] (fun o j wr => ∃ m : Nat, m ≤ gs.length ∧ j = .int .i64 m ∧ Hid (OwnM W0.heap.size wr o (hiL i (nmL ps) (gs.take m))) ∧ Below W0.heap.size W0 wr) (fun _ j _ => gs.length - (intOf j).toNat)
  case atStart => exact ⟨0, Nat.zero_le _, rfl, own1, hb1.out⟩
  case round =>
    clear own1 hb1
    obtain ⟨m, hm, rfl, own, hbr⟩ := hrel
    obtain ⟨po, co, eo⟩ := own.out.cap
    subst eo
    by_cases hlt : m < gs.length
    · have hlt' : (m : Int) < (gs.length : Int) := by omega
      have hm0 : 0 ≤ (m : Int) := by omega
      have hwi : IntKind.i64.wrap (m : Int) = (m : Int) := by rw [IntKind.wrap_i64]; omega
      obtain ⟨p3, c3', ev, -, -, hp3⟩ := G0.out.below hbr (Nat.le_trans hh2 (Nat.le_of_lt hz.out))
      obtain ⟨bb, off, e5, -, hbb, hc⟩ := hp3 (by intro e; rw [e] at hlt; cases hlt)
      have ec : gp = p3 := by cases ev; rfl
      subst ec
      subst e5
      have cx := (hc m hlt).1
      obtain ⟨d, hd⟩ : ∃ d, gs[m] = d := ⟨_, rfl⟩
      have cx2 : wr.cell? ⟨bb, off + m, none⟩ = some (.int .i64 d) := by rw [cx, ← hd]; simp [List.getD, List.getElem?_eq_getElem hlt]
      have hst : Hid (hiL i (nmL ps) (gs.take (m + 1)) = hiL i (nmL ps) (gs.take m) ++ [⟨0, i, d, nmL ps, 0, ⟨0, 0, 0, 0, false⟩, false⟩]) := toHid (by
        unfold hiL
        rw [List.take_add_one, List.getElem?_eq_getElem hlt, hd, List.map_append]
        rfl)
      have hlm : (hiL i (nmL ps) (gs.take m)).length ≤ 16 := by simp [hiL]; omega
      have VBr := toHid (B1.out.below hbr)
      obtain ⟨v1, v2, v3⟩ := VBr.out
      have hsr := hbr.size
      have hzr : hi ≤ wr.heap.size := Nat.le_trans hh (Nat.le_trans (Nat.le_of_lt hz.out) hsr)
      have HN := toHid (tIds_own (w := wr.drewN 1) ((V0.out.below hbr (Nat.le_trans hh (Nat.le_of_lt hz.out))).drewN 1) hzr hl)
      clear hc hp3 ev cx hd
      go_wp2
      go_region_law (first
        | (refine step_call rfl (F := 42) (args := #[.slice a ps.length c]) (by first | (go_simp; done) | (go_simp; rfl)) HN.out ?_
           rintro e w9 ⟨u9, rfl, own9, h9⟩
           obtain ⟨q9, d9, rfl⟩ := own_sliceM own9
           refine ⟨_, rfl, ?_⟩
           have hr9 : Below wr.heap.size wr w9 := ((Below.refl _ wr).onD 1).on h9
           obtain ⟨u1, u2, u3⟩ := VBr.out.below hr9
           have OW9 := toHid (own.out.below hr9)
           have R9 : Hid (w9.ownsRow W0.heap.size 3 1 (.slice q9 ps.length d9) (nmL ps).length ((nmL ps).map (Value.int .i64))) := toHid (own_lowB (by rw [show (nmL ps).length = ps.length by simp [nmL]]; exact own9) hsr)
           have hb9 := toHid (hbr.on hr9)
           have hs9 : wr.heap.size ≤ w9.heap.size := hr9.size
           clear own9 h9 hr9)
        | (refine step_msgs rfl (.tmp 17) (.tmp 25) rfl W0.heap.size _ (hiL i (nmL ps) (gs.take m)) rfl (OW9.out.alloc _) ⟨w9.heap.size, 0, none⟩ 1 1 [⟨0, i, d, nmL ps, 0, ⟨0, 0, 0, 0, false⟩, false, .slice q9 ps.length d9⟩] rfl rfl (lit_mv _ rfl rfl) (fun y hy => by rw [List.mem_singleton.1 hy]; exact R9.out.alloc _) (by omega) (by simp; omega) ?_
           intro v6 w6 own6 hb6))
      all_goals
        have hN : Hid (OwnM W0.heap.size w6 v6 (hiL i (nmL ps) (gs.take (m + 1)))) := toHid (by rw [hst.out]; exact own6)
        have hB6 := (hb9.out.onA _).trans hb6
        clear own6 hb6
        go_wp2
        go_roundw
        case rel => exact ⟨m + 1, by omega, by go_num, hN, hB6⟩
        case measure => simp [intOf]; omega
    · obtain rfl : m = gs.length := by omega
      rw [List.take_length] at own
      have hlt' : ¬ (gs.length : Int) < (gs.length : Int) := by omega
      have hzw := hz.out
      go_wp2
      go_ret
      exact ⟨_, rfl, own.out.low (by omega), hk0.out.trans (hbr.mono (by omega))⟩

end Go.Proofs.Ytghamcomjfholaa
