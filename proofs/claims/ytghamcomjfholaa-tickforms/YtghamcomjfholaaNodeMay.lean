
/-
  Which nodes may be: plain, and the document's own answer.
-/
import Derived.Test.YtghamcomjfholaaRowBox
import Derived.Test.YtghamcomjfholaaViewRef
import Derived.Test.YtghamcomjfholaaStoreRef
import Derived.Deep.DeepCutAuto
import Derived.Deep.CutRange
import Derived.Deep.CutBlock
namespace Go.Proofs.Ytghamcomjfholaa
open Go.ChangeShapes Go.WideShapes Go.ChangeAt Go.RowKit

def teB (t : Te) : Bool := plB t.k && (plB t.x && (t.h || decide (t.x = 0)))
def ndB (n : Nd) : Bool := if n.up = true then n.ls.all teB && (vwB n.i n.ps n.is && (stB n.ts && decide (n.ls.length ≤ 64))) else decide (n.ps.length + n.is.length + n.ts.length + n.ls.length = 0) && plB n.i

theorem rByte16_any (a : Int) (w : World) :
    Calls Try.prog 28 #[.int .i64 a] w fun e w' => e = .returned (.bool (plB a)) ∧ w' = w := by
  by_cases h0 : 0 ≤ a
  · by_cases h1 : a ≤ 255
    · rw [plB_mk h0 (by omega)]
      go_enter Try.func28, Try.ntmps28
      go_wp2
      go_ret
      exact ⟨rfl, rfl⟩
    · have e : plB a = false := by simp [plB]; omega
      rw [e]
      clear e
      go_enter Try.func28, Try.ntmps28
      go_wp2
      go_ret
      exact ⟨rfl, rfl⟩
  · have e : plB a = false := by simp [plB]; omega
    rw [e]
    clear e
    go_enter Try.func28, Try.ntmps28
    go_wp2
    go_ret
    exact ⟨rfl, rfl⟩

set_option maxHeartbeats 2000000 in
theorem rNodeMay_down {lo hi : Nat} {w : World} {p q r s : Value} {ps : List Pe} {is : List Int} {ts : List It} {ls : List Te} (i : Int) (h : NdAt lo hi w p q r s ps is ts ls)
    (h1 : ps.length * 16 ≤ 140737488351232) (h2 : is.length * 8 ≤ 140737488351232) (h3 : ts.length * 40 ≤ 140737488351232) (h4 : ls.length * 24 ≤ 140737488351232) :
    Calls Try.prog 18 #[.agg #[.bool false, .int .i64 i, p, q, r, s]] w fun e w' => e = .returned (.bool (ndB ⟨false, i, ps, is, ts, ls⟩)) ∧ Below w.heap.size w w' := by
  have e : ndB ⟨false, i, ps, is, ts, ls⟩ = (decide (ps.length + is.length + ts.length + ls.length = 0) && plB i) := by simp [ndB]
  rw [e]
  obtain ⟨a, c, a', c', a2, c2, a3, c3, rfl, rfl, rfl, rfl⟩ := h.shape
  clear h e
  obtain ⟨r1, hr1⟩ : ∃ r, plB i = r := ⟨_, rfl⟩
  have HP := fun W : World => rPlaceMay_any i W
  rw [hr1]
  simp only [hr1] at HP
  by_cases h0 : ps.length + is.length + ts.length + ls.length = 0
  · have z1 : ps.length = 0 := by omega
    have z2 : is.length = 0 := by omega
    have z3 : ts.length = 0 := by omega
    have z4 : ls.length = 0 := by omega
    rw [decide_eq_true h0, z1, z2, z3, z4]
    clear h0 z1 z2 z3 z4 h1 h2 h3 h4
    go_enter Try.func18, Try.ntmps18
    go_wp2_with (go_at_call 25; refine (HP _).mono ?_; rintro e w' ⟨rfl, hw'⟩; subst w')
    go_ret
    exact ⟨by simp, (Below.refl _ w).onA _⟩
  · rw [decide_eq_false h0]
    have h0' : ¬ ((ps.length : Int) + (is.length : Int) + (ts.length : Int) + (ls.length : Int)) = 0 := by omega
    have h0b : (((ps.length : Int) + (is.length : Int) + (ts.length : Int) + (ls.length : Int)) == 0) = false := by simpa using h0'
    clear h0
    go_enter Try.func18, Try.ntmps18
    go_wp2
    go_ret
    exact ⟨by simp, (Below.refl _ w).onA _⟩

set_option maxHeartbeats 4000000 in
theorem rNodeMay_up {lo hi : Nat} {w : World} {p q r s : Value} {ps : List Pe} {is : List Int} {ts : List It} {ls : List Te} (i : Int) (h : NdAt lo hi w p q r s ps is ts ls) (hh : hi ≤ w.heap.size) (h1 : ps.length * 16 ≤ 140737488351232) :
    Calls Try.prog 18 #[.agg #[.bool true, .int .i64 i, p, q, r, s]] w fun e w' => e = .returned (.bool (ndB ⟨true, i, ps, is, ts, ls⟩)) ∧ Below w.heap.size w w' := by
  have e : ndB ⟨true, i, ps, is, ts, ls⟩ = (ls.all teB && (vwB i ps is && (stB ts && decide (ls.length ≤ 64)))) := by simp [ndB]
  rw [e]
  obtain ⟨R, hR⟩ : ∃ R, (ls.all teB && (vwB i ps is && (stB ts && decide (ls.length ≤ 64)))) = R := ⟨_, rfl⟩
  rw [hR]
  replace hR := toHid hR
  have N0 := toHid (fun (o : Obj) (W : World) (hb : Below (w.alloc o).heap.size (w.alloc o) W) => (h.alloc o).below hb (Nat.le_trans hh (by simp)))
  have hn := h.ls.max
  unfold maxLen at hn
  obtain ⟨a, c, a', c', a2, c2, a3, c3, rfl, rfl, rfl, rfl⟩ := h.shape
  have BX := toHid (Box.new w #[.bool true, .int .i64 i, .slice a ps.length c, .slice a' is.length c', .slice a2 ts.length c2, .slice a3 ls.length c3] 30)
  have hB := toHid ((Below.refl _ w).onA (.cells #[.bool true, .int .i64 i, .slice a ps.length c, .slice a' is.length c', .slice a2 ts.length c2, .slice a3 ls.length c3] 30))
  have hA : hi ≤ (w.alloc (.cells #[.bool true, .int .i64 i, .slice a ps.length c, .slice a' is.length c', .slice a2 ts.length c2, .slice a3 ls.length c3] 30)).heap.size := Nat.le_trans hh (by simp)
  replace N0 := toHid (N0.out (.cells #[.bool true, .int .i64 i, .slice a ps.length c, .slice a' is.length c', .slice a2 ts.length c2, .slice a3 ls.length c3] 30))
  clear h e
  go_enter Try.func18, Try.ntmps18
  go_upto_region 3 with (fail)
  generalize w.alloc (.cells #[.bool true, .int .i64 i, .slice a ps.length c, .slice a' is.length c', .slice a2 ts.length c2, .slice a3 ls.length c3] 30) = wA at N0 BX hB hA ⊢
  go_wp2
  go_loopw [3] (fun s3 wr => ∃ k : Nat, k ≤ ls.length ∧ s3 = .int .i64 k ∧ (ls.take k).all teB = true ∧ Below wA.heap.size wA wr) (fun s3 _ => ls.length - (intOf s3).toNat)
  case atStart => exact ⟨0, Nat.zero_le _, rfl, rfl, Below.refl _ _⟩
  case round =>
    obtain ⟨k, hk, rfl, ha, hkr⟩ := hrel
    have hsz := hkr.size
    obtain ⟨b1, b2, b3⟩ := BX.out.below hkr
    by_cases hlt : k < ls.length
    · obtain ⟨p3, c3', ev, -, hp3⟩ := (N0.out _ hkr).ls.tes (by omega)
      cases ev
      obtain ⟨bb, off, rfl, -, hbb, hc⟩ := hp3 (by omega)
      have hat := hc k hlt
      rw [getD_in _ _ hlt] at hat
      obtain ⟨⟨tk, th, tx⟩, hz⟩ : ∃ z, ls[k] = z := ⟨_, rfl⟩
      rw [hz] at hat
      obtain ⟨m1, m2, m3⟩ := hat
      dsimp only at m1 m2 m3
      have hlt' : (k : Int) < (ls.length : Int) := by omega
      have hk0 : 0 ≤ (k : Int) := by omega
      have hkA := hkr.size
      replace hkr := toHid hkr
      clear hc hp3
      have hst0 : (ls.take (k + 1)).all teB = teB ⟨tk, th, tx⟩ := by
        rw [List.take_add_one, List.getElem?_eq_getElem hlt, List.all_append, ha, hz]
        simp
      have hbad : teB ⟨tk, th, tx⟩ = false → R = false := fun e => by
        rw [← hR.out]
        have : ls.all teB = false := by
          cases hq : ls.all teB with
          | false => rfl
          | true =>
            have := List.all_eq_true.1 hq _ (List.getElem_mem hlt)
            rw [hz, e] at this
            cases this
        rw [this]
        rfl
      cases hk1 : plB tk with
      | false =>
        have hRf := toHid (hbad (by simp [teB, hk1]))
        clear hst0 hbad ha hz
        go_wp2_with (go_at_call 28; refine (rByte16_any _ _).mono ?_; rintro e w' ⟨rfl, hw'⟩; subst w')
        go_ret
        exact ⟨by rw [hRf.out]; rfl, hB.out.on (hkr.out.onA _)⟩
      | true =>
        cases hk2 : plB tx with
        | false =>
          have hRf := toHid (hbad (by simp [teB, hk2]))
          clear hst0 hbad ha hz
          go_wp2_with (go_at_call 28; refine (rByte16_any _ _).mono ?_; rintro e w' ⟨rfl, hw'⟩; subst w')
          go_ret
          exact ⟨by rw [hRf.out]; rfl, hB.out.on (hkr.out.onA _)⟩
        | true =>
          cases th with
          | true =>
            have hst := toHid (hst0.trans (show teB _ = true by simp [teB, hk1, hk2]))
            clear hst0 hbad ha hz
            go_wp2_with (go_at_call 28; refine (rByte16_any _ _).mono ?_; rintro e w' ⟨rfl, hw'⟩; subst w')
            go_roundw
            case rel => exact ⟨k + 1, by omega, by go_num, hst.out, hkr.out.onA _⟩
            case measure => simp [intOf]; omega
          | false =>
            by_cases hx : tx = 0
            · subst hx
              have hst := toHid (hst0.trans (show teB _ = true by simp [teB, hk1, hk2]))
              clear hst0 hbad ha hz
              go_wp2_with (go_at_call 28; refine (rByte16_any _ _).mono ?_; rintro e w' ⟨rfl, hw'⟩; subst w')
              go_roundw
              case rel => exact ⟨k + 1, by omega, by go_num, hst.out, hkr.out.onA _⟩
              case measure => simp [intOf]; omega
            · have hRf := toHid (hbad (by simp [teB, hx]))
              have hx2 : (tx == 0) = false := by simpa using hx
              clear hst0 hbad ha hz
              go_wp2_with (go_at_call 28; refine (rByte16_any _ _).mono ?_; rintro e w' ⟨rfl, hw'⟩; subst w')
              go_ret
              exact ⟨by rw [hRf.out]; rfl, hB.out.on (hkr.out.onA _)⟩
    · obtain rfl : k = ls.length := by omega
      rw [List.take_length] at ha
      have HV := rVMay_any i (N0.out _ hkr).vw (by omega) h1
      have HT := fun (W : World) (hb : Below wr.heap.size wr W) => rStoreMay_any ((N0.out _ hkr).ts.below hb (by omega)) (Nat.le_trans (by omega) hb.size)
      rw [ha, Bool.true_and] at hR
      obtain ⟨r1, hr1⟩ : ∃ r, vwB i ps is = r := ⟨_, rfl⟩
      obtain ⟨r2, hr2⟩ : ∃ r, stB ts = r := ⟨_, rfl⟩
      rw [hr1] at HV
      rw [hr1, hr2] at hR
      simp only [hr2] at HT
      replace HT := toHid HT
      replace HV := toHid HV
      have kk := toHid hkr
      have BW := toHid (fun (W : World) (hb : Below wr.heap.size wr W) => (BX.out.below hkr).below hb)
      clear ha hr1 hr2 hkr
      cases r1 with
      | false =>
        obtain rfl : R = false := by rw [← hR.out]; rfl
        go_wp2_with (first
          | (go_at_call 29; refine HV.out.mono ?_; rintro e w2 ⟨rfl, h2⟩))
        go_ret
        exact ⟨rfl, (hB.out.on kk.out).on h2⟩
      | true =>
        cases r2 with
        | false =>
          obtain rfl : R = false := by rw [← hR.out]; rfl
          go_wp2_with (first
            | (go_at_call 29; refine HV.out.mono ?_; rintro e w2 ⟨rfl, h2⟩
               clear b1 b2 b3
               obtain ⟨b1, b2, b3⟩ := BW.out _ h2)
            | (go_at_call 30; refine (HT.out _ h2).mono ?_; rintro e w3 ⟨rfl, h3⟩))
          go_ret
          exact ⟨rfl, ((hB.out.on kk.out).on h2).on h3⟩
        | true =>
          by_cases hl : ls.length ≤ 64
          · obtain rfl : R = true := by rw [← hR.out, decide_eq_true hl]; rfl
            have hl1 : (ls.length : Int) ≤ 64 := by omega
            have hl2 : decide ((ls.length : Int) ≤ 64) = true := decide_eq_true hl1
            go_wp2_with (first
              | (go_at_call 29; refine HV.out.mono ?_; rintro e w2 ⟨rfl, h2⟩
                 clear b1 b2 b3
                 obtain ⟨b1, b2, b3⟩ := BW.out _ h2)
              | (go_at_call 30; refine (HT.out _ h2).mono ?_; rintro e w3 ⟨rfl, h3⟩
                 have k3 := h2.on h3
                 clear b1 b2 b3
                 obtain ⟨b1, b2, b3⟩ := BW.out _ k3))
            go_ret
            exact ⟨rfl, ((hB.out.on kk.out).on h2).on h3⟩
          · obtain rfl : R = false := by rw [← hR.out, decide_eq_false hl]; rfl
            have hl1 : ¬ (ls.length : Int) ≤ 64 := by omega
            have hl2 : decide ((ls.length : Int) ≤ 64) = false := decide_eq_false hl1
            go_wp2_with (first
              | (go_at_call 29; refine HV.out.mono ?_; rintro e w2 ⟨rfl, h2⟩
                 clear b1 b2 b3
                 obtain ⟨b1, b2, b3⟩ := BW.out _ h2)
              | (go_at_call 30; refine (HT.out _ h2).mono ?_; rintro e w3 ⟨rfl, h3⟩
                 have k3 := h2.on h3
                 clear b1 b2 b3
                 obtain ⟨b1, b2, b3⟩ := BW.out _ k3))
            go_ret
            exact ⟨rfl, ((hB.out.on kk.out).on h2).on h3⟩

theorem rNodeMay_any {lo hi : Nat} {w : World} {p q r s : Value} {ps : List Pe} {is : List Int} {ts : List It} {ls : List Te} (up : Bool) (i : Int) (h : NdAt lo hi w p q r s ps is ts ls) (hh : hi ≤ w.heap.size)
    (h1 : ps.length * 16 ≤ 140737488351232) (h2 : is.length * 8 ≤ 140737488351232) (h3 : ts.length * 40 ≤ 140737488351232) (h4 : ls.length * 24 ≤ 140737488351232) :
    Calls Try.prog 18 #[.agg #[.bool up, .int .i64 i, p, q, r, s]] w fun e w' => e = .returned (.bool (ndB ⟨up, i, ps, is, ts, ls⟩)) ∧ Below w.heap.size w w' := by
  cases up with
  | false => exact rNodeMay_down i h h1 h2 h3 h4
  | true => exact rNodeMay_up i h hh h1

end Go.Proofs.Ytghamcomjfholaa
