
/-
  The document's own answer on sharing: who gets which items.
-/
import Derived.Test.YtghamcomjfholaaGreatNodeA
import Derived.Test.YtghamcomjfholaaGreatSameM
import Derived.Test.YtghamcomjfholaaGreatViewRef
import Derived.Test.YtghamcomjfholaaGreatOld
import Derived.Deep.RegionHeld3
import Derived.Deep.RegionLawGrows
import Derived.Deep.DeepCutAuto
import Derived.Deep.CutRange
import Derived.Deep.CutBlock
namespace Go.Proofs.YtghamcomjfholaaGreat
open Go.ChangeShapes Go.WideShapes Go.ChangeAt Go.RowKit

/-- Whom an item of a key goes to. -/
def shTo (i : Int) (ps : List Pe) (is : List Int) (k : Int) : Int := if owV i ps is k = i then sucV i ps is else owV i ps is k
def shL (i : Int) (ps : List Pe) (is : List Int) (ts : List It) : List Mg := ts.flatMap fun z => if shTo i ps is z.k = i then [] else [⟨1, i, shTo i ps is z.k, [], 0, z, false⟩]
theorem shL_next {i : Int} {ps : List Pe} {is : List Int} {ts : List It} {m : Nat} (h : m < ts.length) : shL i ps is (ts.take (m + 1)) = shL i ps is (ts.take m) ++ (if shTo i ps is ts[m].k = i then [] else [⟨1, i, shTo i ps is ts[m].k, [], 0, ts[m], false⟩]) := by
  unfold shL
  rw [List.take_add_one, List.getElem?_eq_getElem h, List.flatMap_append]
  simp
theorem shL_len (i : Int) (ps : List Pe) (is : List Int) (ts : List It) : (shL i ps is ts).length ≤ ts.length := by
  induction ts with
  | nil => exact Nat.le_refl _
  | cons z ts ih =>
    have e : shL i ps is (z :: ts) = (if shTo i ps is z.k = i then [] else [⟨1, i, shTo i ps is z.k, [], 0, z, false⟩]) ++ shL i ps is ts := by simp [shL]
    rw [e, List.length_append, List.length_cons]
    split
    · simp; omega
    · simp; omega

theorem lit_msg {w : World} {b : Nat} {n a d k : Int} {z : It} {h : Bool} (hb : b = w.heap.size) : ∀ j, j < 1 * 11 → (w.alloc (.cells #[.int .i64 n, .int .i64 a, .int .i64 d, .slice none 0 0, .int .i64 k, .int .i64 z.k, .int .i64 z.c, .int .i64 z.u, .int .i64 z.x, .bool z.g, .bool h] 58)).cell? ((⟨b, 0, none⟩ : Addr).add j) = (([⟨n, a, d, [], k, z, h, .slice none 0 0⟩] : List MgO).flatMap MvV)[j]? := fun j _ => by
  rw [add_plain, Nat.zero_add]
  refine ((Box.newAt _ _ hb).2.1 j).trans ?_
  simp [MvV]

section
variable {lo hi : Nat} {w : World} {p q r s : Value} {ps : List Pe} {is : List Int} {ts : List It} {ls : List Te}

set_option maxHeartbeats 8000000 in
theorem rShare_up (i : Int) (h : NdAt lo hi w p q r s ps is ts ls) (hh : hi ≤ w.heap.size)
    (h1 : ps.length * 16 ≤ 140737488351232) (hok : ndB ⟨true, i, ps, is, ts, ls⟩ = true) :
    Calls Tryz.prog 23 #[.agg #[.bool true, .int .i64 i, p, q, r, s]] w fun e w' => ∃ v, e = .returned (.tuple #[v, .int .i64 0]) ∧ OwnM w.heap.size w' v (shL i ps is ts) ∧ Below w.heap.size w w' := by
  have hlen : ts.length ≤ 16 := (stB_iff.1 (nd_st (n := ⟨true, i, ps, is, ts, ls⟩) rfl hok)).2.2
  have HU := toHid (fun (W : World) (hb : Below w.heap.size w W) => rUpMay_any true i (h.below hb hh) (Nat.le_trans hh hb.size) h1)
  rw [hok] at HU
  have HS := toHid (fun (W : World) (hb : Below w.heap.size w W) => rSucc_any i (h.below hb hh).vw (Nat.le_trans hh hb.size) h1)
  have HO := toHid (fun (W : World) (k : Int) (hb : Below w.heap.size w W) => rVOwner_any i k (h.below hb hh).vw (Nat.le_trans hh hb.size) h1)
  have HT := toHid (fun (W : World) (hb : Below w.heap.size w W) => (h.below hb hh).ts.its (Nat.le_trans hh hb.size))
  obtain ⟨a, c, a', c', a2, c2, a3, c3, rfl, rfl, rfl, rfl⟩ := h.shape
  have BX := toHid (Box.new w #[.bool true, .int .i64 i, .slice a ps.length c, .slice a' is.length c', .slice a2 ts.length c2, .slice a3 ls.length c3] 29)
  have hb0 := toHid ((Below.refl _ w).onA (.cells #[.bool true, .int .i64 i, .slice a ps.length c, .slice a' is.length c', .slice a2 ts.length c2, .slice a3 ls.length c3] 29))
  clear h hok
  go_enter Tryz.func23, Tryz.ntmps23
  go_upto_region 1 with (fail)
  generalize w.alloc (.cells #[.bool true, .int .i64 i, .slice a ps.length c, .slice a' is.length c', .slice a2 ts.length c2, .slice a3 ls.length c3] 29) = W0 at BX hb0 ⊢
  obtain ⟨x1, x2, x3⟩ := BX.out
  obtain ⟨sv, hsv⟩ : ∃ sv, sucV i ps is = sv := ⟨_, rfl⟩
  rw [hsv] at HS
  go_upto_block 0 with (first
    | (go_at_call 19; refine (HU.out _ hb0.out).mono ?_; rintro e w1 ⟨rfl, g1⟩
       have hk1 := toHid (hb0.out.on g1)
       have BX1 := toHid (BX.out.below g1)
       clear x1 x2 x3 g1 BX hb0
       obtain ⟨x1, x2, x3⟩ := BX1.out)
    | (go_at_call 50; refine (HS.out _ hk1.out).mono ?_; rintro e w2 ⟨rfl, g2⟩
       have hk2 := toHid (hk1.out.on g2)
       have BX2 := toHid (BX1.out.below g2)
       clear x1 x2 x3 g2 BX1 hk1))
  clear HU HS
  go_wp2
  go_loopw [4, 7, 8, 9] (fun o j _ _ wr => ∃ m : Nat, m ≤ ts.length ∧ j = .int .i64 m ∧ Hid (OwnM w2.heap.size wr o (shL i ps is (ts.take m))) ∧ Below w2.heap.size w2 wr) (fun _ j _ _ _ => ts.length - (intOf j).toNat)
  case atStart => exact ⟨0, Nat.zero_le _, rfl, toHid OwnM.nil0, Below.refl _ _⟩
  case round =>
    obtain ⟨m, hm, rfl, own, hbr⟩ := hrel
    have hkr := toHid (hk2.out.on hbr)
    have BXr := toHid (BX2.out.below hbr)
    obtain ⟨x1, x2, x3⟩ := BXr.out
    obtain ⟨po, co, eo⟩ := own.out.cap
    subst eo
    by_cases hlt : m < ts.length
    · have hlt' : (m : Int) < (ts.length : Int) := by omega
      have hm0 : 0 ≤ (m : Int) := by omega
      have hwi : IntKind.i64.wrap (m : Int) = (m : Int) := by rw [IntKind.wrap_i64]; omega
      obtain ⟨p3, c3', ev, -, hp3⟩ := HT.out _ hkr.out
      obtain ⟨bb, off, rfl, -, hbb, hc⟩ := hp3 (by omega)
      cases ev
      have cz := hc m hlt
      rw [getD_in _ _ hlt] at cz
      have hst := shL_next (i := i) (ps := ps) (is := is) hlt
      have hlm := shL_len i ps is (ts.take m)
      rw [List.length_take] at hlm
      generalize ts[m] = z at cz hst
      obtain ⟨zk, zc, zu, zx, zg⟩ := z
      have CZ := toHid cz
      obtain ⟨c1, c2', c3'', c4, c5⟩ := cz
      dsimp only at c1 c2' c3'' c4 c5 hst
      have HOz := toHid (fun (W : World) (hb : Below w.heap.size w W) => HO.out W zk hb)
      have hT : Hid (shTo i ps is zk = if owV i ps is zk = i then sv else owV i ps is zk) := toHid (by rw [shTo, hsv])
      generalize shTo i ps is zk = T at hst hT
      generalize owV i ps is zk = V at HOz hT
      generalize owE i ps is zk = VE at HOz
      have hxw : w.heap.size < wr.heap.size := x1
      clear hc hp3
      go_wp2
      refine wp_region_below (by kernel_rfl) (by kernel_rfl) ?_
      repeat (first
        | go_big_quiet_skip
        | (go_big_quiet_want; go_big_quiet_op; go_big_quiet_on)
        | (refine wpQuiet_step (fun K hK => ?_)
           go_simp
           first
             | (refine hK _ ?_; clear hK K)
             | (refine ⟨_, fun w' hw' => rfl, hK _ ?_⟩; clear hK K)
             | (apply Exists.intro
                refine ⟨fun w' hw' => ?_, hK _ ?_⟩
                · (obtain ⟨hc', hf'⟩ := bcell hw'
                   first
                     | (go_simp; rfl)
                     | (go_at_call 51; refine (HOz.out _ (hkr.out.on hw')).mono ?_; rintro e w9 ⟨rfl, h9⟩; exact ⟨rfl, hw'.on h9⟩))
                clear hK K)))
      refine wpQuiet_nil ?_
      intro w5 h5
      have hk5 := toHid (hkr.out.on h5)
      have hbr5 := toHid (hbr.on h5)
      have own5 := toHid (own.out.below h5)
      have BX5 := toHid (BXr.out.below h5)
      have CZ5 := toHid (CZ.out.below h5 hbb)
      have hbb5 : bb < w5.heap.size := Nat.lt_of_lt_of_le hbb h5.size
      clear x1 x2 x3 c1 c2' c3'' c4 c5 own hbr BXr CZ HOz h5 hkr hxw
      obtain ⟨x1, x2, x3⟩ := BX5.out
      go_upto_if 42 with (fail)
      go_cut [8] from 19 to 61 (fun v8 wx => v8 = .int .i64 T ∧ wx = w5)
      case first =>
        by_cases hv : V = i
        · have hv2 : (V == i) = true := by simpa using hv
          have e : T = sv := by rw [hT.out, if_pos hv]
          subst e
          go_wp2
          go_meet
          exact ⟨rfl, rfl⟩
        · have hv2 : (V == i) = false := by simpa using hv
          have e : T = V := by rw [hT.out, if_neg hv]
          subst e
          go_wp2
          go_meet
          exact ⟨rfl, rfl⟩
      case rest =>
        obtain ⟨rfl, hw⟩ := hcut
        subst hw
        clear hT
        by_cases he : T = i
        · have he2 : (T == i) = true := by simpa using he
          rw [if_pos he, List.append_nil] at hst
          have hN : Hid (OwnM w2.heap.size wc (.slice po (shL i ps is (ts.take m)).length co) (shL i ps is (ts.take (m + 1)))) := toHid (by rw [hst]; exact own5.out)
          clear hst
          go_wp2
          go_roundw
          case rel => exact ⟨m + 1, by omega, by go_num, hN, hbr5.out⟩
          case measure => simp [intOf]; omega
        · have he2 : (T == i) = false := by simpa using he
          rw [if_neg he] at hst
          replace hst := toHid hst
          obtain ⟨c1, c2', c3'', c4, c5⟩ := CZ5.out
          dsimp only at c1 c2' c3'' c4 c5
          have s1 := x2 1
          have s4 := x2 4
          simp only [List.getElem?_toArray, List.getElem?_cons_zero, List.getElem?_cons_succ] at s1 s4
          clear x1 x2 x3
          go_wp2
          go_region_law (refine step_msgs rfl (.tmp 49) (.tmp 60) rfl w2.heap.size _ (shL i ps is (ts.take m)) rfl ((own5.out.below ((Below.refl _ wc).onD 1)).alloc _) ⟨wc.heap.size, 0, none⟩ 1 1 [⟨1, i, T, [], 0, ⟨zk, zc, zu, zx, zg⟩, false, .slice none 0 0⟩] rfl rfl (lit_msg (n := 1) (a := i) (d := T) (k := 0) (z := ⟨zk, zc, zu, zx, zg⟩) (h := false) rfl) (fun y hy => lit_none hy) (by omega) (by have := hbr5.out.size; simp; omega) ?_
                         intro v6 w6 own6 hb6)
          all_goals
            have hN : Hid (OwnM w2.heap.size w6 v6 (shL i ps is (ts.take (m + 1)))) := toHid (by rw [hst.out]; exact own6)
            have hB6 := ((hbr5.out.onA _).onD 1).trans hb6
            clear own6 hb6
            go_wp2
            go_roundw
            case rel => exact ⟨m + 1, by omega, by go_num, hN, hB6⟩
            case measure => simp [intOf]; omega
    · obtain rfl : m = ts.length := by omega
      rw [List.take_length] at own
      have hlt' : ¬ (ts.length : Int) < (ts.length : Int) := by omega
      go_wp2
      go_ret2
      exact ⟨_, rfl, own.out.low (by have := hk2.out.size; exact this), hkr.out⟩

end

end Go.Proofs.YtghamcomjfholaaGreat
