
/-
  What the statements about ticks ask first: that the program answers at some nodes at all; the document's tick, its answer's cells written out.
-/
import Derived.Test.YtghamcomjfholaaTickB
import Derived.Test.YtghamcomjfholaaShareA
import Derived.Test.YtghamcomjfholaaGiven
import Derived.Test.YtghamcomjfholaaOld
import Derived.Test.YtghamcomjfholaaAgeBox
import Derived.Test.YtghamcomjfholaaShareMath
namespace Go.Proofs.Ytghamcomjfholaa
open Go.ChangeShapes Go.WideShapes Go.ChangeAt Go.RowKit

section
variable {lo hi : Nat} {w : World} {p q r s : Value} {ps : List Pe} {is : List Int} {ts : List It} {ls : List Te}
end

def gtP : List Pe := [⟨200, 1⟩, ⟨90, 2⟩]
def gtH (d : Int) : Mg := ⟨0, 100, d, [200, 90], 0, ⟨0, 0, 0, 0, false⟩, false⟩
def gtM : List Mg := [gtH 200, gtH 90, gtH 7, gtH 101, ⟨1, 100, 200, [], 0, ⟨95, 1, 1, 1, false⟩, false⟩, ⟨1, 100, 200, [], 0, ⟨99, 3, 1, 3, false⟩, false⟩, ⟨1, 100, 90, [], 0, ⟨250, 2, 1, 2, false⟩, false⟩]

set_option maxHeartbeats 4000000 in
theorem awake19_any (w : World) :
    Calls Try.prog 7 #[] w fun e w' => e = .returned (.bool true) ∧ Below w.heap.size w w' := by
  have k0 := toHid (Below.refl w.heap.size w)
  go_enter Try.func7, Try.ntmps7
  go_upto_region 2 with (first
    | (go_at_call 8; refine (gNode_any _).mono ?_; rintro e wg ⟨ga, gb, gc, rfl, NG, hg⟩)
    | (go_at_call 10; refine (tStep_at (up' := true) (i' := 100) (E := 0) (ps' := gtP) (is' := [7, 101]) (ts' := gnT) (ls' := []) (L := gtM) true 100 NG (Nat.le_refl _) (by decide +kernel) (by decide +kernel) (by decide +kernel)).mono ?_; rintro e w1 ⟨a5, c5, a6, c6, a7, c7, a8, c8, b, d, m, rfl, N1, O1, h1, h2, hb⟩))
  have k1 := toHid (((k0.out.on hg).on hb).onA (.cells #[.bool true, .int .i64 100, .slice a5 gtP.length c5, .slice a6 [7, 101].length c6, .slice a7 gnT.length c7, .slice a8 ([] : List Te).length c8] 30))
  have BT := toHid (Box.new w1 #[.bool true, .int .i64 100, .slice a5 gtP.length c5, .slice a6 [7, 101].length c6, .slice a7 gnT.length c7, .slice a8 ([] : List Te).length c8] 30)
  have RP := toHid ((N1.vw.ps.alloc (.cells #[.bool true, .int .i64 100, .slice a5 gtP.length c5, .slice a6 [7, 101].length c6, .slice a7 gnT.length c7, .slice a8 ([] : List Te).length c8] 30) PeV_len).wide (Nat.zero_le _) (Nat.le_trans h2 (by simp : _ ≤ (w1.alloc (.cells #[.bool true, .int .i64 100, .slice a5 gtP.length c5, .slice a6 [7, 101].length c6, .slice a7 gnT.length c7, .slice a8 ([] : List Te).length c8] 30)).heap.size)))
  have RM := toHid ((O1.alloc (.cells #[.bool true, .int .i64 100, .slice a5 gtP.length c5, .slice a6 [7, 101].length c6, .slice a7 gnT.length c7, .slice a8 ([] : List Te).length c8] 30)).row)
  clear N1 O1 NG hg hb h1 h2 k0
  generalize w1.alloc (.cells #[.bool true, .int .i64 100, .slice a5 gtP.length c5, .slice a6 [7, 101].length c6, .slice a7 gnT.length c7, .slice a8 ([] : List Te).length c8] 30) = W1 at k1 BT RP RM ⊢
  go_upto_region 3 with (go_at_call 10; refine (tStep_at (lo := 0) (hi := 0) (up' := false) (i' := 0) (E := 1900) (ps' := []) (is' := []) (ts' := []) (ls' := []) (L := []) false 0 NdAt.nil0 (Nat.zero_le _) (by decide +kernel) (by decide +kernel) (by decide +kernel)).mono ?_; rintro e w2 ⟨a5', c5', a6', c6', a7', c7', a8', c8', b', d', m', rfl, -, -, -, -, hb2⟩)
  have hb3 := hb2.onA (.cells #[.bool false, .int .i64 0, .slice a5' ([] : List Pe).length c5', .slice a6' ([] : List Int).length c6', .slice a7' ([] : List It).length c7', .slice a8' ([] : List Te).length c8'] 30)
  generalize w2.alloc (.cells #[.bool false, .int .i64 0, .slice a5' ([] : List Pe).length c5', .slice a6' ([] : List Int).length c6', .slice a7' ([] : List It).length c7', .slice a8' ([] : List Te).length c8'] 30) = W2 at hb3 ⊢
  have k2 := toHid (k1.out.on hb3)
  obtain ⟨x1, x2, x3⟩ := BT.out.below hb3
  obtain ⟨p2, q2, e2, -, f2⟩ := (RM.out.below hb3 (Nat.le_refl _)).at
  cases e2
  obtain ⟨mb, mo, rfl, -, hmb, mm⟩ := f2 (by decide)
  obtain ⟨⟨n0, u0, v0, i0, s0, z0, y0, r0⟩, e0, c0, R0⟩ := mm 0 (by decide)
  obtain ⟨⟨n3, u3, v3, i3, s3, z3, y3, r3⟩, e3, c3, -⟩ := mm 3 (by decide)
  obtain ⟨⟨n4, u4, v4, i4, s4, z4, y4, r4⟩, e4, c4, -⟩ := mm 4 (by decide)
  have e0' : (⟨n0, u0, v0, i0, s0, z0, y0⟩ : Mg) = ⟨0, 100, 200, [200, 90], 0, ⟨0, 0, 0, 0, false⟩, false⟩ := e0
  have e3' : (⟨n3, u3, v3, i3, s3, z3, y3⟩ : Mg) = ⟨0, 100, 101, [200, 90], 0, ⟨0, 0, 0, 0, false⟩, false⟩ := e3
  have e4' : (⟨n4, u4, v4, i4, s4, z4, y4⟩ : Mg) = ⟨1, 100, 200, [], 0, ⟨95, 1, 1, 1, false⟩, false⟩ := e4
  cases e0'
  cases e3'
  cases e4'
  have d0 : W2.cell? ⟨mb, mo + 2, none⟩ = some (.int .i64 200) := c0 2 (by decide)
  have d1 : W2.cell? ⟨mb, mo + 3, none⟩ = some r0 := c0 3 (by decide)
  have d3 : W2.cell? ⟨mb, mo + 33 + 2, none⟩ = some (.int .i64 101) := c3 2 (by decide)
  have d4 : W2.cell? ⟨mb, mo + 44, none⟩ = some (.int .i64 1) := c4 0 (by decide)
  have d5 : W2.cell? ⟨mb, mo + 44 + 2, none⟩ = some (.int .i64 200) := c4 2 (by decide)
  have R0' : RowI 0 W2.heap.size W2 r0 [200, 90] := R0.wide (Nat.zero_le _) hb3.size
  obtain ⟨q0, l0, rfl, -⟩ := id R0'.cap
  clear c0 c3 c4 mm f2 e0 e3 e4 R0
  obtain ⟨pp, pc, ep, -, fp⟩ := (RP.out.below hb3 (Nat.le_refl _)).pes hb3.size
  cases ep
  obtain ⟨pb, po, rfl, -, hpb, pm⟩ := fp (by decide)
  obtain ⟨g0, g1⟩ : PeAt W2 pb (po + 2) ⟨90, 2⟩ := pm 1 (by decide)
  have hl : (gtM.length : Int) = 7 := rfl
  have hl2 : (gtP.length : Int) = 2 := rfl
  have hmbw : mb < W2.heap.size := Nat.lt_of_lt_of_le hmb hb3.size
  have DD : Hid (∀ w' : World, Below W2.heap.size W2 w' → w'.cell? ⟨mb, mo + 33 + 2, none⟩ = some (.int .i64 101) ∧ w'.cell? ⟨mb, mo + 44, none⟩ = some (.int .i64 1) ∧ w'.cell? ⟨mb, mo + 44 + 2, none⟩ = some (.int .i64 200) ∧ w'.cell? ⟨pb, po + 2, none⟩ = some (.int .i64 90) ∧ w'.cell? ⟨pb, po + 2 + 1, none⟩ = some (.int .i64 2)) :=
    toHid fun w' hw => ⟨(hw.cell (p := ⟨mb, mo + 33 + 2, none⟩) hmbw).trans d3, (hw.cell (p := ⟨mb, mo + 44, none⟩) hmbw).trans d4, (hw.cell (p := ⟨mb, mo + 44 + 2, none⟩) hmbw).trans d5, (hw.cell (p := ⟨pb, po + 2, none⟩) hpb).trans g0, (hw.cell (p := ⟨pb, po + 2 + 1, none⟩) hpb).trans g1⟩
  have BT2 := toHid (BT.out.below hb3)
  replace R0' := toHid R0'
  clear d3 d4 d5 g0 g1 pm fp hb2 hb3 RM RP BT
  go_wp2_with (first
    | (go_at_call 15
       have BI := Box.new W2 #[.int .i64 200, .int .i64 90] 3
       refine (sameI_at (R0'.out.alloc _) (Box.rowI (n := 2) [200, 90] BI rfl rfl (by decide)) (b := true) (by decide)).mono ?_; rintro e w5 ⟨rfl, h5⟩
       have h6 := ((Below.refl W2.heap.size W2).onA (.cells #[.int .i64 200, .int .i64 90] 3)).on h5
       obtain ⟨d3, d4, d5, g0, g1⟩ := DD.out _ h6
       obtain ⟨y1, y2, y3⟩ := BT2.out.below h6
       have k6 := toHid (k2.out.on h6)
       clear h5 h6)
    | (go_at_call 12; refine (num_any _ _).mono ?_; rintro e w' ⟨rfl, hw'⟩; subst w'))
  go_ret
  exact ⟨rfl, k6.out⟩

end Go.Proofs.Ytghamcomjfholaa

namespace Go.Proofs.Ytghamcomjfholaa
open Go.ChangeShapes Go.WideShapes Go.ChangeAt Go.RowKit

theorem tkN_gone {i : Int} {s : VSt} (h : okS i s) : ∀ k, (tkN (k + 3) s).1 = []
  | 0 => tk_gone h
  | k + 1 => by
    show (tkS (tkN (k + 3) s)).1 = []
    show agA (tkN (k + 3) s).1 = []
    rw [tkN_gone h k]
    rfl
theorem tkN_nd {i : Int} {ps : List Pe} {is : List Int} {ts : List It} {ls : List Te} (h : ndB ⟨true, i, ps, is, ts, ls⟩ = true) : ∀ k, ndB ⟨true, i, (tkN k (ps, is)).1, (tkN k (ps, is)).2, ts, ls⟩ = true
  | 0 => h
  | k + 1 => ti_ok (tkN_nd h k)
/-- A tick of a node that is up. -/
theorem ti_yes {i : Int} {s : VSt} {ts : List It} {ls : List Te} (h : ndB ⟨true, i, s.1, s.2, ts, ls⟩ = true) : tiE ⟨true, i, s.1, s.2, ts, ls⟩ = 0 ∧ tiN ⟨true, i, s.1, s.2, ts, ls⟩ = ⟨true, i, (tkS s).1, (tkS s).2, ts, ls⟩ ∧
    tiM ⟨true, i, s.1, s.2, ts, ls⟩ = hiL i (nmL (tkS s).1) (tkG s) ++ shL i (tkS s).1 (tkS s).2 ts := by
  have e : (tkS (s.1, s.2)) = tkS s := rfl
  have e2 : (tkG (s.1, s.2)) = tkG s := rfl
  refine ⟨by simp [tiE, h], by simp [tiN, h], ?_⟩
  simp only [tiM, h, Bool.and_self, if_pos, e, e2]
/-- Once all are lost, they alone are greeted, and no item is sent. -/
theorem ti_last {i : Int} {ps : List Pe} {is : List Int} {ts : List It} {ls : List Te} (h : ndB ⟨true, i, ps, is, ts, ls⟩ = true) {k : Nat} (hk : 3 ≤ k) :
    (tiM ⟨true, i, (tkN k (ps, is)).1, (tkN k (ps, is)).2, ts, ls⟩).length = ps.length + is.length := by
  have hv : okS i (ps, is) := nd_vw (n := ⟨true, i, ps, is, ts, ls⟩) rfl h
  have ok := tkN_ok hv k
  rw [(ti_yes (s := tkN k (ps, is)) (tkN_nd h k)).2.2]
  have hg : (tkS (tkN k (ps, is))).1 = [] := by
    have := tkN_gone hv (k + 1 - 3)
    rw [show k + 1 - 3 + 3 = k + 1 by omega] at this
    exact this
  have hst : Val ts := (stB_iff.1 (nd_st (n := ⟨true, i, ps, is, ts, ls⟩) rfl h)).1
  have ok2 : vwB i (tkS (tkN k (ps, is))).1 (tkS (tkN k (ps, is))).2 = true := tk_ok ok
  rw [hg] at ok2 ⊢
  rw [shL_none ok2 hst, List.append_nil]
  have e1 := tkG_len ok
  have e2 := tkN_size hv k
  simp only [hiL, List.length_map]
  rw [e1, e2]

/-- The four lists of a node, none in block b. -/
structure NaBut (b : Nat) (w : World) (p q r s : Value) (ps : List Pe) (is : List Int) (ts : List It) (ls : List Te) : Prop where
  out : ∃ lo hi, NdAt lo hi w p q r s ps is ts ls ∧ hi ≤ w.heap.size ∧ (hi ≤ b ∨ b < lo)
section na
variable {b : Nat} {w w' : World} {p q r s : Value} {ps : List Pe} {is : List Int} {ts : List It} {ls : List Te}
theorem NaBut.below (h : NaBut b w p q r s ps is ts ls) (hb : Below w.heap.size w w') : NaBut b w' p q r s ps is ts ls := by
  obtain ⟨lo, hi, V, h1, h2⟩ := h.out
  exact ⟨lo, hi, V.below hb h1, Nat.le_trans h1 hb.size, h2⟩
theorem NaBut.set (h : NaBut b w p q r s ps is ts ls) (hS : Only b (b + 1) w w') : NaBut b w' p q r s ps is ts ls := by
  obtain ⟨lo, hi, V, h1, h2⟩ := h.out
  exact ⟨lo, hi, V.only hS (by omega), by rw [hS.size]; exact h1, h2⟩
theorem NaBut.shape (h : NaBut b w p q r s ps is ts ls) : ∃ a c a' c' a2 c2 a3 c3, p = .slice a ps.length c ∧ q = .slice a' is.length c' ∧ r = .slice a2 ts.length c2 ∧ s = .slice a3 ls.length c3 := by
  obtain ⟨lo, hi, V, -, -⟩ := h.out
  exact V.shape
end na

end Go.Proofs.Ytghamcomjfholaa

namespace Go.Proofs.Ytghamcomjfholaa
open Go.ChangeShapes Go.WideShapes Go.ChangeAt Go.RowKit

section
variable {i : Int} {s : VSt} (h : okS i s)
include h
theorem tkG_not {d : Int} (hd : d ∈ tkG s) : ¬ d = i := by
  rcases (tkG_mem h d).1 hd with e | e
  · exact (ok_apart h e).1
  · obtain ⟨p, hp, rfl⟩ := nmL_mem.1 e
    exact (vw_pe h p hp).2
theorem hi_may {d : Int} (hd : d ∈ tkG s) : mayB ⟨0, i, d, nmL (tkS s).1, 0, ⟨0, 0, 0, 0, false⟩, false⟩ = true := by
  have h1 := tkG_place h hd
  have h2 := tkG_not h hd
  have ok := tk_ok h
  have h3 : plB i = true := vw_base h
  have h4 : plsB (nmL (tkS s).1) = true := plsB_mk fun x hx => by
    obtain ⟨p, hp, rfl⟩ := nmL_mem.1 hx
    exact (vw_pe ok p hp).1
  have h5 : (nmL (tkS s).1).length ≤ 16 := by
    have := (vwB_iff.1 ok).2.2.1
    simp only [nmL, List.length_map]
    omega
  have h6 : ¬ i = d := fun e => h2 e.symm
  simp [mayB, mgB, endB, knB, grtB, nmdB, zeB, h1, h3, h4, h5, h6]
theorem sh_all {ts : List It} (hv : Val ts) : ∀ m ∈ shL i s.1 s.2 ts, mayB m = true ∧ m.n = 1 ∧ m.a = i := by
  intro m hm
  have hw : vwB i s.1 s.2 = true := h
  by_cases hp : s.1 = []
  · rw [hp] at hw hm
    rw [shL_none hw hv] at hm
    cases hm
  · rw [shL_map hw hp hv] at hm
    obtain ⟨z, hz, rfl⟩ := List.mem_map.1 hm
    exact ⟨shM_may hw hp (hv z hz), rfl, rfl⟩
end

/-- One of the messages. -/
theorem ti_at {i : Int} {s : VSt} {ts : List It} (h : okS i s) (hv : Val ts) {L : List Mg} (hL : hiL i (nmL (tkS s).1) (tkG s) ++ shL i (tkS s).1 (tkS s).2 ts = L) {j : Nat} (hj : j < L.length) :
    (j < (tkG s).length → L[j] = ⟨0, i, (tkG s).getD j 0, nmL (tkS s).1, 0, ⟨0, 0, 0, 0, false⟩, false⟩) ∧ ((tkG s).length ≤ j → (L[j]).n = 1) ∧ (L[j]).a = i ∧ mayB L[j] = true := by
  subst hL
  have hl : (hiL i (nmL (tkS s).1) (tkG s)).length = (tkG s).length := by simp [hiL]
  by_cases hlt : j < (tkG s).length
  · have e : (hiL i (nmL (tkS s).1) (tkG s) ++ shL i (tkS s).1 (tkS s).2 ts)[j] = ⟨0, i, (tkG s).getD j 0, nmL (tkS s).1, 0, ⟨0, 0, 0, 0, false⟩, false⟩ := by
      rw [List.getElem_append_left (by rw [hl]; exact hlt), getD_in _ _ hlt]
      simp [hiL]
    rw [e]
    exact ⟨fun _ => rfl, fun hh => absurd hlt (Nat.not_lt.2 hh), rfl, hi_may h (by rw [getD_in _ _ hlt]; exact List.getElem_mem hlt)⟩
  · have hm : (hiL i (nmL (tkS s).1) (tkG s) ++ shL i (tkS s).1 (tkS s).2 ts)[j] ∈ shL i (tkS s).1 (tkS s).2 ts := by
      rw [List.getElem_append_right (by omega)]
      exact List.getElem_mem _
    obtain ⟨h1, h2, h3⟩ := sh_all (tk_ok h) hv _ hm
    exact ⟨fun hh => absurd hh hlt, fun _ => h2, h3, h1⟩

end Go.Proofs.Ytghamcomjfholaa
