
/-
  Which nodes may be: plain, and the document's own answer.
-/
import Derived.Test.YtnadallefpahjaaNodeRow
import Derived.Test.YtnadallefpahjaaViewRef
import Derived.Test.YtnadallefpahjaaStoreRef
import Derived.Deep.DeepCutAuto
import Derived.Deep.CutRange
import Derived.Deep.CutBlock
namespace Go.Proofs.Ytnadallefpahjaa
open Go.ChangeShapes Go.WideShapes Go.ChangeAt Go.RowKit

def teB (t : Te) : Bool := plB t.k && (plB t.x && (t.h || decide (t.x = 0)))
def ndB (n : Nd) : Bool := if n.up = true then n.ls.all teB && (vwB n.i n.ps n.is && (stB n.ts && decide (n.ls.length ≤ 64))) else decide (n.ps.length + n.is.length + n.ts.length + n.ls.length = 0) && plB n.i

theorem rByte16_any (a : Int) (w : World) :
    Calls Try.prog 36 #[.int .i64 a] w fun e w' => e = .returned (.bool (plB a)) ∧ w' = w := by
  by_cases h0 : 0 ≤ a
  · by_cases h1 : a ≤ 255
    · rw [plB_mk h0 (by omega)]
      go_enter Try.func36, Try.ntmps36
      go_wp2
      go_ret
      exact ⟨rfl, rfl⟩
    · have e : plB a = false := by simp [plB]; omega
      rw [e]
      clear e
      go_enter Try.func36, Try.ntmps36
      go_wp2
      go_ret
      exact ⟨rfl, rfl⟩
  · have e : plB a = false := by simp [plB]; omega
    rw [e]
    clear e
    go_enter Try.func36, Try.ntmps36
    go_wp2
    go_ret
    exact ⟨rfl, rfl⟩

set_option maxHeartbeats 2000000 in
theorem rNodeMay_down {lo hi : Nat} {w : World} {p q r s : Value} {ps : List Pe} {is : List Int} {ts : List It} {ls : List Te} (i : Int) (h : NdAt lo hi w p q r s ps is ts ls)
    (h1 : ps.length * 16 ≤ 140737488351232) (h2 : is.length * 8 ≤ 140737488351232) (h3 : ts.length * 40 ≤ 140737488351232) (h4 : ls.length * 24 ≤ 140737488351232) :
    Calls Try.prog 18 #[.agg #[.bool false, .int .i64 i, p, q, r, s]] w fun e w' => e = .returned (.bool (ndB ⟨false, i, ps, is, ts, ls⟩)) ∧ Below w.heap.size w w' := by
  have e : ndB ⟨false, i, ps, is, ts, ls⟩ = (decide (ps.length + is.length + ts.length + ls.length = 0) && plB i) := by simp [ndB]
  rw [e]
  obtain ⟨a, c, a', c', a2, c2, a3, c3, rfl, rfl, rfl, rfl⟩ := h.shape
  clear h e
  obtain ⟨r1, hr1⟩ : ∃ r, plB i = r := ⟨_, rfl⟩
  have HP := fun W : World => rPlaceMay_any i W
  rw [hr1]
  simp only [hr1] at HP
  by_cases h0 : ps.length + is.length + ts.length + ls.length = 0
  · have z1 : ps.length = 0 := by omega
    have z2 : is.length = 0 := by omega
    have z3 : ts.length = 0 := by omega
    have z4 : ls.length = 0 := by omega
    rw [decide_eq_true h0, z1, z2, z3, z4]
    clear h0 z1 z2 z3 z4 h1 h2 h3 h4
    go_enter Try.func18, Try.ntmps18
    go_wp2_with (go_at_call 33; refine (HP _).mono ?_; rintro e w' ⟨rfl, hw'⟩; subst w')
    go_ret
    exact ⟨by simp, (Below.refl _ w).onA _⟩
  · rw [decide_eq_false h0]
    have h0' : ¬ ((ps.length : Int) + (is.length : Int) + (ts.length : Int) + (ls.length : Int)) = 0 := by omega
    have h0b : (((ps.length : Int) + (is.length : Int) + (ts.length : Int) + (ls.length : Int)) == 0) = false := by simpa using h0'
    clear h0
    go_enter Try.func18, Try.ntmps18
    go_wp2
    go_ret
    exact ⟨by simp, (Below.refl _ w).onA _⟩

set_option maxHeartbeats 4000000 in
theorem rNodeMay_up {lo hi : Nat} {w : World} {p q r s : Value} {ps : List Pe} {is : List Int} {ts : List It} {ls : List Te} (i : Int) (h : NdAt lo hi w p q r s ps is ts ls) (hh : hi ≤ w.heap.size) (h1 : ps.length * 16 ≤ 140737488351232) :
    Calls Try.prog 18 #[.agg #[.bool true, .int .i64 i, p, q, r, s]] w fun e w' => e = .returned (.bool (ndB ⟨true, i, ps, is, ts, ls⟩)) ∧ Below w.heap.size w w' := by
  have e : ndB ⟨true, i, ps, is, ts, ls⟩ = (ls.all teB && (vwB i ps is && (stB ts && decide (ls.length ≤ 64)))) := by simp [ndB]
  rw [e]
  obtain ⟨R, hR⟩ : ∃ R, (ls.all teB && (vwB i ps is && (stB ts && decide (ls.length ≤ 64)))) = R := ⟨_, rfl⟩
  rw [hR]
  replace hR := toHid hR
  have N0 := toHid (fun (o : Obj) (W : World) (hb : Below (w.alloc o).heap.size (w.alloc o) W) => (h.alloc o).below hb (Nat.le_trans hh (by simp)))
  have hn := h.ls.max
  unfold maxLen at hn
  obtain ⟨a, c, a', c', a2, c2, a3, c3, rfl, rfl, rfl, rfl⟩ := h.shape
  have BX := toHid (Box.new w #[.bool true, .int .i64 i, .slice a ps.length c, .slice a' is.length c', .slice a2 ts.length c2, .slice a3 ls.length c3] 29)
  have hB := toHid ((Below.refl _ w).onA (.cells #[.bool true, .int .i64 i, .slice a ps.length c, .slice a' is.length c', .slice a2 ts.length c2, .slice a3 ls.length c3] 29))
  have hA : hi ≤ (w.alloc (.cells #[.bool true, .int .i64 i, .slice a ps.length c, .slice a' is.length c', .slice a2 ts.length c2, .slice a3 ls.length c3] 29)).heap.size := Nat.le_trans hh (by simp)
  replace N0 := toHid (N0.out (.cells #[.bool true, .int .i64 i, .slice a ps.length c, .slice a' is.length c', .slice a2 ts.length c2, .slice a3 ls.length c3] 29))
  clear h e
  go_enter Try.func18, Try.ntmps18
  go_upto_region 3 with (fail)
  generalize w.alloc (.cells #[.bool true, .int .i64 i, .slice a ps.length c, .slice a' is.length c', .slice a2 ts.length c2, .slice a3 ls.length c3] 29) = wA at N0 BX hB hA ⊢
  go_wp2
  go_loopw [3] (fun s3 wr => ∃ k : Nat, k ≤ ls.length ∧ s3 = .int .i64 k ∧ (ls.take k).all teB = true ∧ Below wA.heap.size wA wr) (fun s3 _ => ls.length - (intOf s3).toNat)
  case atStart => exact ⟨0, Nat.zero_le _, rfl, rfl, Below.refl _ _⟩
  case round =>
    obtain ⟨k, hk, rfl, ha, hkr⟩ := hrel
    have hsz := hkr.size
    obtain ⟨b1, b2, b3⟩ := BX.out.below hkr
    by_cases hlt : k < ls.length
    · obtain ⟨p3, c3', ev, -, hp3⟩ := (N0.out _ hkr).ls.tes (by omega)
      cases ev
      obtain ⟨bb, off, rfl, -, hbb, hc⟩ := hp3 (by omega)
      have hat := hc k hlt
      rw [getD_in _ _ hlt] at hat
      obtain ⟨⟨tk, th, tx⟩, hz⟩ : ∃ z, ls[k] = z := ⟨_, rfl⟩
      rw [hz] at hat
      obtain ⟨m1, m2, m3⟩ := hat
      dsimp only at m1 m2 m3
      have hlt' : (k : Int) < (ls.length : Int) := by omega
      have hk0 : 0 ≤ (k : Int) := by omega
      have hkA := hkr.size
      replace hkr := toHid hkr
      clear hc hp3
      have hst0 : (ls.take (k + 1)).all teB = teB ⟨tk, th, tx⟩ := by
        rw [List.take_add_one, List.getElem?_eq_getElem hlt, List.all_append, ha, hz]
        simp
      have hbad : teB ⟨tk, th, tx⟩ = false → R = false := fun e => by
        rw [← hR.out]
        have : ls.all teB = false := by
          cases hq : ls.all teB with
          | false => rfl
          | true =>
            have := List.all_eq_true.1 hq _ (List.getElem_mem hlt)
            rw [hz, e] at this
            cases this
        rw [this]
        rfl
      cases hk1 : plB tk with
      | false =>
        have hRf := toHid (hbad (by simp [teB, hk1]))
        clear hst0 hbad ha hz
        go_wp2_with (go_at_call 36; refine (rByte16_any _ _).mono ?_; rintro e w' ⟨rfl, hw'⟩; subst w')
        go_ret
        exact ⟨by rw [hRf.out]; rfl, hB.out.on (hkr.out.onA _)⟩
      | true =>
        cases hk2 : plB tx with
        | false =>
          have hRf := toHid (hbad (by simp [teB, hk2]))
          clear hst0 hbad ha hz
          go_wp2_with (go_at_call 36; refine (rByte16_any _ _).mono ?_; rintro e w' ⟨rfl, hw'⟩; subst w')
          go_ret
          exact ⟨by rw [hRf.out]; rfl, hB.out.on (hkr.out.onA _)⟩
        | true =>
          cases th with
          | true =>
            have hst := toHid (hst0.trans (show teB _ = true by simp [teB, hk1, hk2]))
            clear hst0 hbad ha hz
            go_wp2_with (go_at_call 36; refine (rByte16_any _ _).mono ?_; rintro e w' ⟨rfl, hw'⟩; subst w')
            go_roundw
            case rel => exact ⟨k + 1, by omega, by go_num, hst.out, hkr.out.onA _⟩
            case measure => simp [intOf]; omega
          | false =>
            by_cases hx : tx = 0
            · subst hx
              have hst := toHid (hst0.trans (show teB _ = true by simp [teB, hk1, hk2]))
              clear hst0 hbad ha hz
              go_wp2_with (go_at_call 36; refine (rByte16_any _ _).mono ?_; rintro e w' ⟨rfl, hw'⟩; subst w')
              go_roundw
              case rel => exact ⟨k + 1, by omega, by go_num, hst.out, hkr.out.onA _⟩
              case measure => simp [intOf]; omega
            · have hRf := toHid (hbad (by simp [teB, hx]))
              have hx2 : (tx == 0) = false := by simpa using hx
              clear hst0 hbad ha hz
              go_wp2_with (go_at_call 36; refine (rByte16_any _ _).mono ?_; rintro e w' ⟨rfl, hw'⟩; subst w')
              go_ret
              exact ⟨by rw [hRf.out]; rfl, hB.out.on (hkr.out.onA _)⟩
    · obtain rfl : k = ls.length := by omega
      rw [List.take_length] at ha
      have HV := rVMay_any i (N0.out _ hkr).vw (by omega) h1
      have HT := fun (W : World) (hb : Below wr.heap.size wr W) => rStoreMay_any ((N0.out _ hkr).ts.below hb (by omega)) (Nat.le_trans (by omega) hb.size)
      rw [ha, Bool.true_and] at hR
      obtain ⟨r1, hr1⟩ : ∃ r, vwB i ps is = r := ⟨_, rfl⟩
      obtain ⟨r2, hr2⟩ : ∃ r, stB ts = r := ⟨_, rfl⟩
      rw [hr1] at HV
      rw [hr1, hr2] at hR
      simp only [hr2] at HT
      replace HT := toHid HT
      replace HV := toHid HV
      have kk := toHid hkr
      have BW := toHid (fun (W : World) (hb : Below wr.heap.size wr W) => (BX.out.below hkr).below hb)
      clear ha hr1 hr2 hkr
      cases r1 with
      | false =>
        obtain rfl : R = false := by rw [← hR.out]; rfl
        go_wp2_with (first
          | (go_at_call 37; refine HV.out.mono ?_; rintro e w2 ⟨rfl, h2⟩))
        go_ret
        exact ⟨rfl, (hB.out.on kk.out).on h2⟩
      | true =>
        cases r2 with
        | false =>
          obtain rfl : R = false := by rw [← hR.out]; rfl
          go_wp2_with (first
            | (go_at_call 37; refine HV.out.mono ?_; rintro e w2 ⟨rfl, h2⟩
               clear b1 b2 b3
               obtain ⟨b1, b2, b3⟩ := BW.out _ h2)
            | (go_at_call 38; refine (HT.out _ h2).mono ?_; rintro e w3 ⟨rfl, h3⟩))
          go_ret
          exact ⟨rfl, ((hB.out.on kk.out).on h2).on h3⟩
        | true =>
          by_cases hl : ls.length ≤ 64
          · obtain rfl : R = true := by rw [← hR.out, decide_eq_true hl]; rfl
            have hl1 : (ls.length : Int) ≤ 64 := by omega
            have hl2 : decide ((ls.length : Int) ≤ 64) = true := decide_eq_true hl1
            go_wp2_with (first
              | (go_at_call 37; refine HV.out.mono ?_; rintro e w2 ⟨rfl, h2⟩
                 clear b1 b2 b3
                 obtain ⟨b1, b2, b3⟩ := BW.out _ h2)
              | (go_at_call 38; refine (HT.out _ h2).mono ?_; rintro e w3 ⟨rfl, h3⟩
                 have k3 := h2.on h3
                 clear b1 b2 b3
                 obtain ⟨b1, b2, b3⟩ := BW.out _ k3))
            go_ret
            exact ⟨rfl, ((hB.out.on kk.out).on h2).on h3⟩
          · obtain rfl : R = false := by rw [← hR.out, decide_eq_false hl]; rfl
            have hl1 : ¬ (ls.length : Int) ≤ 64 := by omega
            have hl2 : decide ((ls.length : Int) ≤ 64) = false := decide_eq_false hl1
            go_wp2_with (first
              | (go_at_call 37; refine HV.out.mono ?_; rintro e w2 ⟨rfl, h2⟩
                 clear b1 b2 b3
                 obtain ⟨b1, b2, b3⟩ := BW.out _ h2)
              | (go_at_call 38; refine (HT.out _ h2).mono ?_; rintro e w3 ⟨rfl, h3⟩
                 have k3 := h2.on h3
                 clear b1 b2 b3
                 obtain ⟨b1, b2, b3⟩ := BW.out _ k3))
            go_ret
            exact ⟨rfl, ((hB.out.on kk.out).on h2).on h3⟩

theorem rNodeMay_any {lo hi : Nat} {w : World} {p q r s : Value} {ps : List Pe} {is : List Int} {ts : List It} {ls : List Te} (up : Bool) (i : Int) (h : NdAt lo hi w p q r s ps is ts ls) (hh : hi ≤ w.heap.size)
    (h1 : ps.length * 16 ≤ 140737488351232) (h2 : is.length * 8 ≤ 140737488351232) (h3 : ts.length * 40 ≤ 140737488351232) (h4 : ls.length * 24 ≤ 140737488351232) :
    Calls Try.prog 18 #[.agg #[.bool up, .int .i64 i, p, q, r, s]] w fun e w' => e = .returned (.bool (ndB ⟨up, i, ps, is, ts, ls⟩)) ∧ Below w.heap.size w w' := by
  cases up with
  | false => exact rNodeMay_down i h h1 h2 h3 h4
  | true => exact rNodeMay_up i h hh h1

end Go.Proofs.Ytnadallefpahjaa

namespace Go.Proofs.Ytnadallefpahjaa
open Go.ChangeShapes Go.WideShapes Go.ChangeAt Go.RowKit

theorem nIsByte_any (a : Int) (w : World) :
    Calls Try.prog 79 #[.int .i64 a] w fun e w' => e = .returned (.bool (plB a)) ∧ w' = w := by
  by_cases h0 : 0 ≤ a
  · have e : plB a = decide (a ≤ 255) := by simp [plB, h0]; omega
    rw [e]
    clear e
    go_enter Try.func79, Try.ntmps79
    go_wp2
    go_ret
    exact ⟨rfl, rfl⟩
  · have e : plB a = false := by simp [plB, h0]
    have hd : decide (0 ≤ a) = false := by simpa using h0
    rw [e]
    clear e
    go_enter Try.func79, Try.ntmps79
    go_wp2
    go_ret
    exact ⟨rfl, rfl⟩

theorem nNotTold_any (k : Int) (h : Bool) (x : Int) (w : World) :
    Calls Try.prog 67 #[.agg #[.int .i64 k, .bool h, .int .i64 x]] w fun e w' => e = .returned (.bool (!teB ⟨k, h, x⟩)) ∧ Below w.heap.size w w' := by
  by_cases hg : h = false ∧ ¬ x = 0
  · obtain ⟨rfl, hx⟩ := hg
    have e : teB ⟨k, false, x⟩ = false := by simp [teB, hx]
    rw [e]
    clear e
    go_enter Try.func67, Try.ntmps67
    go_wp2_with fail
    go_ret
    exact ⟨rfl, (Below.refl _ w).onA _⟩
  · have e : teB ⟨k, h, x⟩ = (plB k && plB x) := by
      cases h <;> simp_all [teB]
    rw [e]
    clear e
    have HB := nIsByte_any
    cases hk : plB k with
    | false =>
      cases h with
      | true =>
        clear hg
        go_enter Try.func67, Try.ntmps67
        go_wp2_with (go_at_call 79; refine (hk ▸ HB k _).mono ?_; rintro e w' ⟨rfl, hw'⟩; subst w')
        go_ret
        exact ⟨rfl, (Below.refl _ w).onA _⟩
      | false =>
        obtain rfl : x = 0 := by simpa using hg
        clear hg
        go_enter Try.func67, Try.ntmps67
        go_wp2_with (go_at_call 79; refine (hk ▸ HB k _).mono ?_; rintro e w' ⟨rfl, hw'⟩; subst w')
        go_ret
        exact ⟨rfl, (Below.refl _ w).onA _⟩
    | true =>
      have t1 := trivial
      cases h with
      | true =>
        clear hg
        go_enter Try.func67, Try.ntmps67
        go_wp2_with (first
          | (go_at_call 79; clear t1; refine (hk ▸ HB k _).mono ?_; rintro e w' ⟨rfl, hw'⟩; subst w')
          | (go_at_call 79; refine (HB x _).mono ?_; rintro e w' ⟨rfl, hw'⟩; subst w'))
        go_ret
        exact ⟨by simp, (Below.refl _ w).onA _⟩
      | false =>
        obtain rfl : x = 0 := by simpa using hg
        clear hg
        go_enter Try.func67, Try.ntmps67
        go_wp2_with (first
          | (go_at_call 79; clear t1; refine (hk ▸ HB k _).mono ?_; rintro e w' ⟨rfl, hw'⟩; subst w')
          | (go_at_call 79; refine (HB 0 _).mono ?_; rintro e w' ⟨rfl, hw'⟩; subst w'))
        go_ret
        exact ⟨by simp, (Below.refl _ w).onA _⟩

def notT (t : Te) : Bool := !teB t

set_option maxHeartbeats 2000000 in
theorem nIndexNot_core (p : Option Addr) (n c : Nat) (g : Nat → Te) (k : Nat) (w : World) (hn : n ≤ 9223372036854775807) (hk : k ≤ n)
    (hp : 0 < n → ∃ b off, p = some ⟨b, off, none⟩ ∧ b < w.heap.size ∧ ∀ j, j < n → TeAt w b (off + j * 3) (g j))
    (hno : ∀ t, t < k → notT (g t) = false) (hyes : k < n → notT (g k) = true) :
    Calls Try.prog 78 #[.slice p n c, .func (.func 67) #[] #[]] w fun e w' =>
      e = .returned (.int .i64 (if k < n then (k : Int) else -1)) ∧ Below w.heap.size w w' := by
  replace hno := toHid hno
  go_enter Try.func78, Try.ntmps78
  go_wp2
  go_loopw [8] (fun s8 wr => ∃ i : Nat, i ≤ k ∧ s8 = .int .i64 i ∧ Below w.heap.size w wr) (fun s8 _ => n - (intOf s8).toNat)
  case atStart => exact ⟨0, Nat.zero_le _, rfl, Below.refl _ w⟩
  case round =>
    obtain ⟨i, hi, rfl, hb⟩ := hrel
    by_cases hlt : i < n
    · obtain ⟨b, off, rfl, hbw, h1⟩ := hp (by omega)
      obtain ⟨c1, c2, c3⟩ := (h1 i hlt).below hb hbw
      have hlt' : (i : Int) < (n : Int) := by omega
      have hi0 : 0 ≤ (i : Int) := by omega
      by_cases hik : i = k
      · subst hik
        have hP := hyes hlt
        clear h1 hp hno hyes
        generalize g i = z at c1 c2 c3 hP
        obtain ⟨zk, zh, zx⟩ := z
        dsimp only at c1 c2 c3
        have HM := nNotTold_any zk zh zx wr
        rw [show (!teB ⟨zk, zh, zx⟩) = _ from hP] at HM
        clear hP
        go_wp2_with (go_at_call 67; refine HM.mono ?_; rintro e w5 ⟨rfl, h5⟩)
        go_ret
        exact ⟨rfl, hb.on h5⟩
      · have hP := hno.out i (by omega)
        clear h1 hp hno hyes
        generalize g i = z at c1 c2 c3 hP
        obtain ⟨zk, zh, zx⟩ := z
        dsimp only at c1 c2 c3
        have HM := nNotTold_any zk zh zx wr
        rw [show (!teB ⟨zk, zh, zx⟩) = _ from hP] at HM
        clear hP
        go_wp2_with (go_at_call 67; refine HM.mono ?_; rintro e w5 ⟨rfl, h5⟩)
        go_roundw
        case rel => exact ⟨i + 1, by omega, by go_num, hb.on h5⟩
        case measure => simp [intOf]; omega
    · obtain rfl : i = n := by omega
      obtain rfl : i = k := by omega
      clear hno hyes hp
      go_wp2
      go_ret
      exact ⟨rfl, hb⟩

theorem firstT_at {p : Te → Bool} (g : Nat → Te) : ∀ n : Nat, ∃ k, k ≤ n ∧ (∀ t, t < k → p (g t) = false) ∧ (k < n → p (g k) = true)
  | 0 => ⟨0, Nat.le_refl _, fun t h => absurd h (Nat.not_lt_zero _), fun h => absurd h (Nat.lt_irrefl _)⟩
  | n + 1 => by
    obtain ⟨k, hk, h1, h2⟩ := firstT_at (p := p) g n
    by_cases e : k < n
    · exact ⟨k, by omega, h1, fun _ => h2 e⟩
    · obtain rfl : k = n := by omega
      cases h : p (g k) with
      | true => exact ⟨k, by omega, h1, fun _ => h⟩
      | false => exact ⟨k + 1, Nat.le_refl _, fun t ht => by
          by_cases e2 : t = k
          · rw [e2]; exact h
          · exact h1 t (by omega), fun h => absurd h (Nat.lt_irrefl _)⟩

theorem nContains_any {lo hi : Nat} {w : World} {v : Value} {cs : List Te} (hx : RowE lo hi w v cs) (hh : hi ≤ w.heap.size) :
    Calls Try.prog 66 #[v, .func (.func 67) #[] #[]] w fun e w' => e = .returned (.bool (!cs.all teB)) ∧ Below w.heap.size w w' := by
  obtain ⟨p, c, rfl, hn, hp⟩ := hx.tes hh
  obtain ⟨k, hk, h1, h2⟩ := firstT_at (p := notT) (fun j => cs.getD j ⟨0, false, 0⟩) cs.length
  have H := nIndexNot_core p cs.length c (fun j => cs.getD j ⟨0, false, 0⟩) k w hn hk (fun h0 => by obtain ⟨b, off, e, _, h3, h4⟩ := hp h0; exact ⟨b, off, e, h3, h4⟩) h1 h2
  by_cases hkn : k < cs.length
  · have e : cs.all teB = false := by
      rw [List.all_eq_false]
      have h3 := h2 hkn
      rw [getD_in _ _ hkn] at h3
      exact ⟨_, List.getElem_mem hkn, by simpa [notT] using h3⟩
    rw [e]
    rw [if_pos hkn] at H
    have hr0 : 0 ≤ (k : Int) := by omega
    have hr1 : decide (0 ≤ (k : Int)) = true := decide_eq_true hr0
    replace H := toHid H
    clear h1 h2 e hp hx
    go_enter Try.func66, Try.ntmps66
    go_wp2_with (go_at_call 78; refine H.out.mono ?_; rintro e w5 ⟨rfl, h5⟩)
    go_ret
    exact ⟨by simp, h5⟩
  · obtain rfl : k = cs.length := by omega
    have e : cs.all teB = true := by
      rw [List.all_eq_true]
      intro x hx
      obtain ⟨j, hj, rfl⟩ := List.mem_iff_getElem.1 hx
      have h3 := h1 j hj
      rw [getD_in _ _ hj] at h3
      simpa [notT] using h3
    rw [e]
    rw [if_neg hkn] at H
    replace H := toHid H
    clear h1 h2 e hp hx
    go_enter Try.func66, Try.ntmps66
    go_wp2_with (go_at_call 78; refine H.out.mono ?_; rintro e w5 ⟨rfl, h5⟩)
    go_ret
    exact ⟨rfl, h5⟩

def lgB (ls : List Te) : Bool := decide (ls.length ≤ 64) && ls.all teB
theorem nLog_any {lo hi : Nat} {w : World} {v : Value} {ls : List Te} (hx : RowE lo hi w v ls) (hh : hi ≤ w.heap.size) :
    Calls Try.prog 46 #[v] w fun e w' => e = .returned (.bool (lgB ls)) ∧ Below w.heap.size w w' := by
  have HC := nContains_any hx hh
  obtain ⟨p, c, rfl, hn, -⟩ := hx.tes hh
  unfold lgB
  generalize ls.all teB = r at *
  by_cases hl : ls.length ≤ 64
  · have hl1 : (ls.length : Int) ≤ 64 := by omega
    rw [decide_eq_true hl]
    clear hx
    go_enter Try.func46, Try.ntmps46
    go_wp2_with (go_at_call 66; refine HC.mono ?_; rintro e w1 ⟨rfl, hb1⟩)
    go_ret
    exact ⟨by simp, hb1⟩
  · have hl1 : ¬ (ls.length : Int) ≤ 64 := by omega
    have hl2 : decide ((ls.length : Int) ≤ 64) = false := decide_eq_false hl1
    rw [decide_eq_false hl]
    clear hx HC
    go_enter Try.func46, Try.ntmps46
    go_wp2
    go_ret
    exact ⟨rfl, Below.refl _ _⟩

/-- Is nothing known: four lists' lengths. -/
def barB (a b c d : Nat) : Bool := decide (a = 0) && (decide (b = 0) && (decide (c = 0) && decide (d = 0)))
set_option maxHeartbeats 1000000 in
theorem nKnows_any (up : Bool) (i : Int) (p q r s : Option Addr) (a b c d a' b' c' d' : Nat) (w : World) :
    Calls Try.prog 44 #[.agg #[.bool up, .int .i64 i, .slice p a a', .slice q b b', .slice r c c', .slice s d d']] w fun e w' => e = .returned (.bool (barB a b c d)) ∧ Below w.heap.size w w' := by
  unfold barB
  by_cases h1 : a = 0
  · subst h1
    by_cases h2 : b = 0
    · subst h2
      by_cases h3 : c = 0
      · subst h3
        by_cases h4 : d = 0
        · subst h4
          go_enter Try.func44, Try.ntmps44
          go_wp2
          go_ret
          exact ⟨rfl, (Below.refl _ w).onA _⟩
        · have e : ((d : Int) == 0) = false := by simp; omega
          rw [decide_eq_false h4]
          go_enter Try.func44, Try.ntmps44
          go_wp2
          go_ret
          exact ⟨rfl, (Below.refl _ w).onA _⟩
      · have e : ((c : Int) == 0) = false := by simp; omega
        rw [decide_eq_false h3]
        go_enter Try.func44, Try.ntmps44
        go_wp2
        go_ret
        exact ⟨rfl, (Below.refl _ w).onA _⟩
    · have e : ((b : Int) == 0) = false := by simp; omega
      rw [decide_eq_false h2]
      go_enter Try.func44, Try.ntmps44
      go_wp2
      go_ret
      exact ⟨rfl, (Below.refl _ w).onA _⟩
  · have e : ((a : Int) == 0) = false := by simp; omega
    rw [decide_eq_false h1]
    go_enter Try.func44, Try.ntmps44
    go_wp2
    go_ret
    exact ⟨rfl, (Below.refl _ w).onA _⟩

end Go.Proofs.Ytnadallefpahjaa
