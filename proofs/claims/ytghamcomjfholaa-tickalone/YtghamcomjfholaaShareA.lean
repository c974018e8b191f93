
/-
  Contracts of package share's functions (whom an item goes to; who gets which), at every node: what they return, and that no old memory has turned.
-/
import Derived.Test.YtghamcomjfholaaNodeB
import Derived.Test.YtghamcomjfholaaViewB
import Derived.Test.YtghamcomjfholaaShareMath
namespace Go.Proofs.Ytghamcomjfholaa
open Go.ChangeShapes Go.WideShapes Go.ChangeAt Go.RowKit

section
variable {lo hi : Nat} {w : World} {p q r s : Value} {ps : List Pe} {is : List Int} {ts : List It} {ls : List Te}

set_option maxHeartbeats 1000000 in
theorem sTo_any (i k : Int) (h : VwAt lo hi w p q ps is) (hh : hi ≤ w.heap.size) :
    Calls Try.prog 41 #[.agg #[.int .i64 i, p, q], .int .i64 k] w fun e w' => e = .returned (.int .i64 (shTo i ps is k)) ∧ Below w.heap.size w w' := by
  have HO := toHid (fun o : Obj => vOwner_any i k (h.alloc o) (Nat.le_trans hh (by simp)))
  have HS := toHid (fun (o : Obj) (W : World) (hb : Below (w.alloc o).heap.size (w.alloc o) W) => vSucc_any i ((h.alloc o).below hb (Nat.le_trans hh (by simp))) (Nat.le_trans (Nat.le_trans hh (by simp)) hb.size))
  have hT : shTo i ps is k = if owV i ps is k = i then sucV i ps is else owV i ps is k := rfl
  obtain ⟨a, c, a', c', ep, eq, hn, hn'⟩ := h.shape
  subst ep eq
  have B1 := toHid (fun (cs : Array Value) (t : TypeId) => Box.new w cs t)
  generalize shTo i ps is k = T at hT ⊢
  generalize owV i ps is k = V at *
  generalize owE i ps is k = VE at *
  generalize sucV i ps is = sv at *
  generalize vwE i ps is = se at *
  clear h hn hn'
  by_cases hv : V = i
  · rw [if_pos hv] at hT
    subst hT hv
    go_enter Try.func41, Try.ntmps41
    go_wp2_with (first
      | (go_at_call 64; refine (HO.out _).mono ?_; rintro e w1 ⟨rfl, hb1⟩
         obtain ⟨b1, b2, b3⟩ := (B1.out _ _).below hb1)
      | (go_at_call 65; refine (HS.out _ _ hb1).mono ?_; rintro e w2 ⟨rfl, hb2⟩
         replace hb2 := hb1.on hb2
         clear hb1 b1 b2 b3))
    go_ret
    exact ⟨rfl, ((Below.refl _ w).onA _).on hb2⟩
  · rw [if_neg hv] at hT
    subst hT
    have hv2 : (T == i) = false := by simpa using hv
    go_enter Try.func41, Try.ntmps41
    go_wp2_with (first
      | (go_at_call 64; refine (HO.out _).mono ?_; rintro e w1 ⟨rfl, hb1⟩
         obtain ⟨b1, b2, b3⟩ := (B1.out _ _).below hb1))
    go_ret
    exact ⟨rfl, ((Below.refl _ w).onA _).on hb1⟩

set_option maxHeartbeats 4000000 in
theorem sOf_up (i : Int) (h : NdAt lo hi w p q r s ps is ts ls) (hh : hi ≤ w.heap.size) (hok : ndB ⟨true, i, ps, is, ts, ls⟩ = true) :
    Calls Try.prog 22 #[.agg #[.bool true, .int .i64 i, p, q, r, s]] w fun e w' => ∃ v, e = .returned (.tuple #[v, .int .i64 0]) ∧ OwnM w.heap.size w' v (shL i ps is ts) ∧ Below w.heap.size w w' := by
  have hlen : ts.length ≤ 16 := (stB_iff.1 (nd_st (n := ⟨true, i, ps, is, ts, ls⟩) rfl hok)).2.2
  have HU := toHid (fun o : Obj => nMay_any true i (h.alloc o) (Nat.le_trans hh (by simp)))
  rw [hok] at HU
  have HO := toHid (fun (W : World) (k : Int) (hb : Below w.heap.size w W) => sTo_any i k (h.below hb hh).vw (Nat.le_trans hh hb.size))
  have HT := toHid (fun (W : World) (hb : Below w.heap.size w W) => (h.below hb hh).ts.its (Nat.le_trans hh hb.size))
  obtain ⟨a, c, a', c', a2, c2, a3, c3, rfl, rfl, rfl, rfl⟩ := h.shape
  have B1 := toHid (fun (cs : Array Value) (t : TypeId) => Box.new w cs t)
  clear h hok
  go_enter Try.func22, Try.ntmps22
  go_wp2_with (first
    | (go_at_call 19; refine (HU.out _).mono ?_; rintro e w2 ⟨rfl, g1⟩
       have hk2 := toHid (((Below.refl _ w).onA _).on g1)
       have BX2 := toHid ((B1.out _ _).below g1)
       obtain ⟨x1, x2, x3⟩ := BX2.out
       clear g1))
  clear HU B1 x1 x2 x3
  go_loopw [4, 19] (fun o j wr => ∃ m : Nat, m ≤ ts.length ∧ j = .int .i64 m ∧ Hid (OwnM w2.heap.size wr o (shL i ps is (ts.take m))) ∧ Below w2.heap.size w2 wr) (fun _ j _ => ts.length - (intOf j).toNat)
  case atStart => exact ⟨0, Nat.zero_le _, rfl, toHid OwnM.nil0, Below.refl _ _⟩
  case round =>
    obtain ⟨m, hm, rfl, own, hbr⟩ := hrel
    have hkr := toHid (hk2.out.on hbr)
    have BXr := toHid (BX2.out.below hbr)
    obtain ⟨po, co, eo⟩ := own.out.cap
    subst eo
    by_cases hlt : m < ts.length
    · have hlt' : (m : Int) < (ts.length : Int) := by omega
      have hm0 : 0 ≤ (m : Int) := by omega
      obtain ⟨p3, c3', ev, -, hp3⟩ := HT.out _ hkr.out
      obtain ⟨bb, off, rfl, -, hbb, hc⟩ := hp3 (by omega)
      cases ev
      have cz := hc m hlt
      rw [getD_in _ _ hlt] at cz
      have hst := shL_next (i := i) (ps := ps) (is := is) hlt
      have hlm := shL_len i ps is (ts.take m)
      rw [List.length_take] at hlm
      generalize ts[m] = z at cz hst
      obtain ⟨zk, zc, zu, zx, zg⟩ := z
      obtain ⟨c1, c2', c3'', c4, c5⟩ := cz
      dsimp only at c1 c2' c3'' c4 c5 hst
      have HOz := toHid (fun (W : World) (hb : Below w.heap.size w W) => HO.out W zk hb)
      generalize shTo i ps is zk = T at hst HOz
      have BN := toHid (Box.new wr #[.int .i64 zk, .int .i64 zc, .int .i64 zu, .int .i64 zx, .bool zg] 35)
      have hA := toHid ((Below.refl wr.heap.size wr).onA (.cells #[.int .i64 zk, .int .i64 zc, .int .i64 zu, .int .i64 zx, .bool zg] 35))
      obtain ⟨x1, x2, x3⟩ := (BXr.out.alloc (.cells #[.int .i64 zk, .int .i64 zc, .int .i64 zu, .int .i64 zx, .bool zg] 35))
      obtain ⟨y1, y2, y3⟩ := BN.out
      clear hc hp3
      by_cases he : T = i
      · have he2 : (T == i) = true := by simpa using he
        rw [if_pos he, List.append_nil] at hst
        go_wp2_with (first
          | (go_at_call 41; refine (HOz.out _ (hkr.out.on hA.out)).mono ?_; rintro e w5 ⟨rfl, g5⟩
             have h5 := toHid (hA.out.on g5)
             have BX5 := toHid (BXr.out.below h5.out)
             clear x1 x2 x3 y1 y2 y3 g5
             obtain ⟨x1, x2, x3⟩ := BX5.out))
        have hN : Hid (OwnM w2.heap.size w5 (.slice po (shL i ps is (ts.take m)).length co) (shL i ps is (ts.take (m + 1)))) := toHid (by rw [hst]; exact own.out.below h5.out)
        have hbr5 := toHid (hbr.on h5.out)
        clear x1 x2 x3 own c1 c2' c3'' c4 c5
        go_roundw
        case rel => exact ⟨m + 1, by omega, by go_num, hN, hbr5.out⟩
        case measure => simp [intOf]; omega
      · have he2 : (T == i) = false := by simpa using he
        rw [if_neg he] at hst
        replace hst := toHid hst
        go_wp2_with (first
          | (go_at_call 41; refine (HOz.out _ (hkr.out.on hA.out)).mono ?_; rintro e w5 ⟨rfl, g5⟩
             have h5 := toHid (hA.out.on g5)
             have BX5 := toHid (BXr.out.below h5.out)
             have BN5 := toHid (BN.out.below g5)
             have own5 := toHid (own.out.below h5.out)
             have hbr5 := toHid (hbr.on h5.out)
             clear x1 x2 x3 y1 y2 y3 g5 own
             obtain ⟨x1, x2, x3⟩ := BX5.out
             obtain ⟨y1, y2, y3⟩ := BN5.out)
          | (at_builtin; refine app_msgs2 rfl (.tmp 33) (.tmp 40) rfl w2.heap.size _ (shL i ps is (ts.take m)) rfl (own5.out.alloc _) ⟨w5.heap.size, 0, none⟩ 1 1 [⟨1, i, T, [], 0, ⟨zk, zc, zu, zx, zg⟩, false, .slice none 0 0⟩] rfl rfl (lit_msg (n := 1) (a := i) (d := T) (k := 0) (z := ⟨zk, zc, zu, zx, zg⟩) (h := false) rfl) (fun y hy => lit_none hy) (by omega) (by have := hbr5.out.size; simp; omega) ?_
             intro v6 w6 own6 hgr6 hb6 ho6
             clear hgr6 ho6))
        have hN : Hid (OwnM w2.heap.size w6 v6 (shL i ps is (ts.take (m + 1)))) := toHid (by rw [hst.out]; exact own6)
        have hB6 := (hbr5.out.onA _).trans hb6
        clear own6 hb6 x1 x2 x3 y1 y2 y3 c1 c2' c3'' c4 c5
        go_roundw
        case rel => exact ⟨m + 1, by omega, by go_num, hN, hB6⟩
        case measure => simp [intOf]; omega
    · obtain rfl : m = ts.length := by omega
      rw [List.take_length] at own
      have hlt' : ¬ (ts.length : Int) < (ts.length : Int) := by omega
      go_wp2
      go_ret2
      exact ⟨_, rfl, own.out.low (by have := hk2.out.size; exact this), hkr.out⟩

end

end Go.Proofs.Ytghamcomjfholaa
