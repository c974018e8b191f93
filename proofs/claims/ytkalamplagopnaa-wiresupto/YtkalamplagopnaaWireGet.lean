
/-
  Contract of the document's own answer which message a text is: what it returns, and that no old memory has turned.
-/
import Derived.Test.YtkalamplagopnaaWireRef
import Derived.Test.YtkalamplagopnaaMsgRow
import Derived.Test.YtkalamplagopnaaSet5
import Derived.Test.YtkalamplagopnaaAnyInv
import Derived.Deep.CutRange
import Derived.Deep.CutBlock
import Derived.Deep.RegionLawGrows
namespace Go.Proofs.Ytkalamplagopnaa
open Go.ChangeShapes Go.WideShapes Go.ChangeAt Go.RowKit

theorem Byts.drop {L : List Int} (h : Byts L) (i : Nat) : Byts (L.drop i) := fun x hx => h x (List.mem_of_mem_drop hx)
theorem sb_drop (L : List Int) (i : Nat) : (sb L).extract i L.length = sb (L.drop i) := by
  apply ByteArray.ext
  simp only [sb, ByteArray.data_extract, List.map_drop, List.extract_toArray]
  rw [List.extract_eq_take_drop, List.take_of_length_le (by simp)]
theorem str_ne {s t : ByteArray} (h : ¬ s = t) : (s.toList == t.toList) = false := by
  rw [beq_eq_false_iff_ne, ByteArray.toList_eq, ByteArray.toList_eq]
  intro e
  apply h
  obtain ⟨⟨l⟩⟩ := s
  obtain ⟨⟨m⟩⟩ := t
  simp only at e
  rw [e]
/-- 'append' onto a row of the call's own, of ints, as one step of a region that draws its order. -/
theorem step_ints {ops : Array Oper} {o : Oper} {a : Act} {w : World} {K : Act → World → Prop} {Q : Exit → Act → World → Prop} {E : Prop} (hg : o.guard = none) (s x : Operand)
    (hop : o.op = .call { callee := .builtin .append, args := #[s, x], argTypes := #[22, 22] }) (base : Nat) (v : Value) (n : Nat) (zs : List Int) (hs : a.eval s = v)
    (hown : w.ownsRow base 3 1 v n (zs.map (Value.int .i64))) (ad : Addr) (m c : Nat) (news : List Int) (hx : a.eval x = .slice (some ad) m c) (hl : news.length = m)
    (hnews : ∀ j, j < m → w.cell? (ad.add j) = some (.int .i64 (news.getD j 0))) (hb : (n + m) * 8 ≤ 140737488355328) (hbase : base ≤ w.heap.size)
    (hK : ∀ v' w', w'.ownsRow base 3 1 v' (n + m) ((zs ++ news).map (Value.int .i64)) → w.grownBy w' v.ownBlock → Below base w w' → K (a.put o.dst v') w') :
    if Region.wanted o (yielded ops a.tmps) = true then Oper.wp Try.prog o a w K Q else E := by
  have hw : Region.wanted o (yielded ops a.tmps) = true := by simp [Region.wanted, hg]
  rw [if_pos hw]
  obtain ⟨i0, hi, hz0, hz1, hz2⟩ := info_parts Try.info3
  obtain ⟨v', w', hrun, r1, r2, _⟩ := run_append_own (P := Try.prog) w base 22 o.type 3 i0 (.int .i64 0) 1 8 Try.underlying22 hi hz0 hz1 hz2 rfl (by decide) v n _ hown ad m c (news.map (Value.int .i64)) (by simpa using hl) (fun j u hj => by
      rw [List.getElem?_map] at hj
      obtain ⟨y, hy, rfl⟩ := Option.map_eq_some_iff.1 hj
      have hjl : j < news.length := (List.getElem?_eq_some_iff.1 hy).1
      rw [hnews j (by omega)]
      simp [List.getD, hy]) (fun u hu => by
      obtain ⟨y, _, rfl⟩ := List.mem_map.1 hu
      rfl) (by unfold maxLen; omega) hb hbase
  unfold Oper.wp
  simp [execOp, hop, resolve, invoke, builtin, hs, hx, hrun, Result.andThen]
  exact hK v' w' (by simpa using r1) r2 ((Below.refl base w).grown r2 hbase (fun j hj => (hown.lt j hj).1))
theorem get_short {L : List Int} (h : L.length < 4) : getM L = zeroM ∧ getE L = 1300 := by
  have e : getB L = false := by
    have : ¬ 4 ≤ L.length := by omega
    simp [getB, this]
  simp [getM, getE, e]
set_option maxHeartbeats 8000000 in
theorem rGetMsg_any {L : List Int} (hL : Byts L) (hmax : L.length * 8 + 64 ≤ 140737488351232) (w : World) :
    Calls Try.prog 12 #[.string (sb L)] w fun e w' => ∃ p c, e = .returned (.tuple #[.agg #[.int .i64 (getM L).n, .int .i64 (getM L).a, .int .i64 (getM L).b, .slice p (getM L).is.length c, .int .i64 (getM L).k, .int .i64 (getM L).t.k, .int .i64 (getM L).t.c, .int .i64 (getM L).t.u, .int .i64 (getM L).t.x, .bool (getM L).t.g, .bool (getM L).h], .int .i64 (getE L)]) ∧ RowI w.heap.size w'.heap.size w' (.slice p (getM L).is.length c) (getM L).is ∧ Below w.heap.size w w' := by
  have sZ := sb_len
  by_cases h4 : L.length < 4
  · obtain ⟨e1, e2⟩ := get_short h4
    rw [e1, e2]
    clear e1 e2
    have h4' : (L.length : Int) < 4 := by omega
    go_enter Try.func12, Try.ntmps12
    go_wp2
    exact bodyPost_ret (v := .tuple #[.agg #[.int .i64 0, .int .i64 0, .int .i64 0, .slice none 0 0, .int .i64 0, .int .i64 0, .int .i64 0, .int .i64 0, .int .i64 0, .bool false, .bool false], .int .i64 1300]) (by simp [results, Try.results12, go_sem]) rfl ⟨none, 0, rfl, RowI.nil0, (Below.refl _ w).onA _⟩
  · have h4' : ¬ (L.length : Int) < 4 := by omega
    have h4n : 4 ≤ L.length := by omega
    obtain ⟨z0, e0, l0, u0, g0⟩ := sb_at hL (i := 0) (by omega)
    obtain ⟨z1, e1, l1, u1, g1⟩ := sb_at hL (i := 1) (by omega)
    obtain ⟨z2, e2, l2, u2, g2⟩ := sb_at hL (i := 2) (by omega)
    obtain ⟨z3, e3, l3, u3, g3⟩ := sb_at hL (i := 3) (by omega)
    have hD : Hid (decM L = if z0 = 0 then ⟨z0, z1, z2, L.drop 4, 0, zeroI, false⟩ else if z0 = 1 then ⟨z0, z1, z2, [], 0, if L.length = 10 then decI (L.drop 3) else zeroI, false⟩
      else if z0 = 2 then ⟨z0, z1, z2, [], z3, zeroI, false⟩ else ⟨z0, z1, z2, [], z3, if L.length = 12 then decI (L.drop 5) else zeroI, decide (L.length = 12)⟩) := toHid (by simp only [decM, e0, e1, e2, e3])
    clear e0 e1 e2 e3
    have sD := sb_drop L
    go_enter Try.func12, Try.ntmps12
    go_upto_region 3 with (fail)
    go_region
    go_upto_block 0 with (fail)
    have BR : Box ((w.alloc (.cells #[.int .i64 0, .int .i64 0, .int .i64 0, .slice none 0 0, .int .i64 0, .int .i64 0, .int .i64 0, .int .i64 0, .int .i64 0, .bool false, .bool false] 28)).alloc (.cells #[.int .i64 z0, .int .i64 z1, .int .i64 z2, .slice none 0 0, .int .i64 0, .int .i64 0, .int .i64 0, .int .i64 0, .int .i64 0, .bool false, .bool false] 28)).drew w.heap.size #[.int .i64 0, .int .i64 0, .int .i64 0, .slice none 0 0, .int .i64 0, .int .i64 0, .int .i64 0, .int .i64 0, .int .i64 0, .bool false, .bool false] := ((Box.new w _ _).alloc _).drewN 1
    have BM : Box ((w.alloc (.cells #[.int .i64 0, .int .i64 0, .int .i64 0, .slice none 0 0, .int .i64 0, .int .i64 0, .int .i64 0, .int .i64 0, .int .i64 0, .bool false, .bool false] 28)).alloc (.cells #[.int .i64 z0, .int .i64 z1, .int .i64 z2, .slice none 0 0, .int .i64 0, .int .i64 0, .int .i64 0, .int .i64 0, .int .i64 0, .bool false, .bool false] 28)).drew (w.heap.size + 1) #[.int .i64 z0, .int .i64 z1, .int .i64 z2, .slice none 0 0, .int .i64 0, .int .i64 0, .int .i64 0, .int .i64 0, .int .i64 0, .bool false, .bool false] := (Box.new1 w _ _ _).drewN 1
    have hB : Below w.heap.size w ((w.alloc (.cells #[.int .i64 0, .int .i64 0, .int .i64 0, .slice none 0 0, .int .i64 0, .int .i64 0, .int .i64 0, .int .i64 0, .int .i64 0, .bool false, .bool false] 28)).alloc (.cells #[.int .i64 z0, .int .i64 z1, .int .i64 z2, .slice none 0 0, .int .i64 0, .int .i64 0, .int .i64 0, .int .i64 0, .int .i64 0, .bool false, .bool false] 28)).drew := (((Below.refl _ w).onA _).onA _).onD 1
    generalize ((w.alloc (.cells #[.int .i64 0, .int .i64 0, .int .i64 0, .slice none 0 0, .int .i64 0, .int .i64 0, .int .i64 0, .int .i64 0, .int .i64 0, .bool false, .bool false] 28)).alloc (.cells #[.int .i64 z0, .int .i64 z1, .int .i64 z2, .slice none 0 0, .int .i64 0, .int .i64 0, .int .i64 0, .int .i64 0, .int .i64 0, .bool false, .bool false] 28)).drew = wA at BR BM hB ⊢
    obtain ⟨x4, hx4⟩ : ∃ x, x = w.heap.size + 1 := ⟨_, rfl⟩
    rw [← hx4] at BM ⊢
    have hne : w.heap.size ≠ x4 := by omega
    have hne' : x4 ≠ w.heap.size := by omega
    have hle : w.heap.size ≤ x4 := by omega
    replace hx4 := toHid hx4
    go_cut [] from 8 to 67 (fun wx => ∃ p c, Box wx x4 #[.int .i64 (decM L).n, .int .i64 (decM L).a, .int .i64 (decM L).b, .slice p (decM L).is.length c, .int .i64 (decM L).k, .int .i64 (decM L).t.k, .int .i64 (decM L).t.c, .int .i64 (decM L).t.u, .int .i64 (decM L).t.x, .bool (decM L).t.g, .bool (decM L).h] ∧ RowI (x4 + 1) wx.heap.size wx (.slice p (decM L).is.length c) (decM L).is ∧ Box wx w.heap.size #[.int .i64 0, .int .i64 0, .int .i64 0, .slice none 0 0, .int .i64 0, .int .i64 0, .int .i64 0, .int .i64 0, .int .i64 0, .bool false, .bool false] ∧ Below w.heap.size w wx)
    case first =>
      obtain ⟨m1, m2, m3⟩ := id BM
      by_cases k0 : z0 = 0
      · subst k0
        have e : decM L = ⟨0, z1, z2, L.drop 4, 0, zeroI, false⟩ := by rw [hD.out]; simp
        replace e := toHid e
        replace hD := toHid hD
        go_wp2
        clear m1 m2 m3 g0 g1 g2 g3
        go_loopw [5] (fun s5 wr => ∃ (i : Nat) (vv : Value), 4 ≤ i ∧ i ≤ L.length ∧ s5 = .int .i64 i ∧ Box wr x4 #[.int .i64 0, .int .i64 z1, .int .i64 z2, vv, .int .i64 0, .int .i64 0, .int .i64 0, .int .i64 0, .int .i64 0, .bool false, .bool false] ∧ wr.ownsRow (x4 + 1) 3 1 vv ((L.drop 4).take (i - 4)).length (((L.drop 4).take (i - 4)).map (Value.int .i64)) ∧ Box wr w.heap.size #[.int .i64 0, .int .i64 0, .int .i64 0, .slice none 0 0, .int .i64 0, .int .i64 0, .int .i64 0, .int .i64 0, .int .i64 0, .bool false, .bool false] ∧ Below w.heap.size w wr) (fun s5 _ => L.length - (intOf s5).toNat)
        case atStart => exact ⟨4, .slice none 0 0, Nat.le_refl _, h4n, rfl, BM, ⟨rfl, .inl ⟨rfl, rfl⟩⟩, BR, hB⟩
        case round =>
          obtain ⟨i, vv, hi4, hi, rfl, BW, own, BZ, hbr⟩ := hrel
          by_cases hlt : i < L.length
          · obtain ⟨z, ez, lz, uz, gz⟩ := sb_at hL (i := i) hlt
            have hlt' : (i : Int) < (L.length : Int) := by omega
            have hi0 : 0 ≤ (i : Int) := by omega
            obtain ⟨zs, hzs⟩ : ∃ zs, zs = (L.drop 4).take (i - 4) := ⟨_, rfl⟩
            have hzl : zs.length = i - 4 := by rw [hzs]; simp; omega
            have hzn : Hid (zs ++ [z] = (L.drop 4).take (i + 1 - 4)) := toHid (by
              have e1 : i + 1 - 4 = (i - 4) + 1 := by omega
              have e2 : i - 4 < (L.drop 4).length := by simp; omega
              have e3 : 4 + (i - 4) = i := by omega
              rw [e1, List.take_add_one, List.getElem?_eq_getElem e2, ← ez, hzs]
              simp [List.getD, e3, hlt])
            rw [← hzs] at own
            have OW := toHid own
            obtain ⟨m1, m2, m3⟩ := id BW
            have hxw : x4 + 1 ≤ wr.heap.size := m1
            have yz : IntKind.i64.wrap z = z := by rw [IntKind.wrap_i64]; omega
            clear ez hzs own
            replace hzl := toHid hzl
            go_wp2

            go_region_law (refine step_ints rfl (.tmp 45) (.tmp 50) rfl (x4 + 1) _ zs.length zs rfl (OW.out.alloc _) ⟨wr.heap.size, 0, none⟩ 1 1 [z] rfl rfl (fun j hj => ?_) (by have := hzl.out; omega) (by simp; omega) ?_; · (rw [add_plain, Nat.zero_add]; refine ((Box.newAt _ _ (by simp)).2.1 j).trans ?_; (obtain rfl : j = 0 := by omega); rfl)
                           intro v' w4 hown4 hgr4 hbel4
                           have hs4 := (RowI.of_owns hown4).cap
                           rw [List.length_append] at hs4
                           obtain ⟨p4, c4, e4, -⟩ := hs4
                           subst e4
                           first
                             | (have B4 := ((BW.drewN 1).alloc _).belowAt hbel4 (Nat.lt_succ_self _)
                                have C4 := ((BZ.drewN 1).alloc _).belowAt hbel4 (by omega)
                                have hb4 := (Below.onA (hbr.onD 1) _).trans (hbel4.mono (by omega)))
                             | (have B4 := ((BW.alloc _).drewN 1).belowAt hbel4 (Nat.lt_succ_self _)
                                have C4 := ((BZ.alloc _).drewN 1).belowAt hbel4 (by omega)
                                have hb4 := (Below.onD (hbr.onA _) 1).trans (hbel4.mono (by omega)))
                           have q1 := B4.2.1
                           have q2 := B4.2.2
                           replace B4 := toHid B4
                           replace C4 := toHid C4
                           replace hb4 := toHid hb4
                           replace hown4 := toHid hown4
                           clear hbel4 hgr4)
            all_goals
              have B5 := toHid (B4.out.setS (ys := #[.int .i64 0, .int .i64 z1, .int .i64 z2, .slice p4 (zs.length + 1) c4, .int .i64 0, .int .i64 0, .int .i64 0, .int .i64 0, .int .i64 0, .bool false, .bool false]) 3 (.slice p4 (zs.length + 1) c4) (by simp) (by simp))
              have C5 := toHid (C4.out.setO x4 3 (.slice p4 (zs.length + 1) c4) hne')
              have O5 : Hid ((w4.setCell ⟨x4, 3, none⟩ (.slice p4 (zs.length + 1) c4)).ownsRow (x4 + 1) 3 1 (.slice p4 (zs.length + 1) c4) ((L.drop 4).take (i + 1 - 4)).length (((L.drop 4).take (i + 1 - 4)).map (Value.int .i64))) := toHid (by
                have h5 := ownsRow_setCell_below hown4.out (a := ⟨x4, 3, none⟩) (Nat.lt_succ_self _) (.slice p4 (zs.length + 1) c4)
                rw [← hzn.out, List.length_append]
                exact h5)
              have H5 := toHid (hb4.out.setCell (p := ⟨x4, 3, none⟩) hle (.slice p4 (zs.length + 1) c4))
              go_wp2
              go_roundw
              case rel => exact ⟨i + 1, _, by omega, by omega, by go_num, B5.out, O5.out, C5.out, H5.out⟩
              case measure => simp [intOf]; omega
          · obtain rfl : i = L.length := by omega
            have et : (L.drop 4).take (L.length - 4) = L.drop 4 := List.take_of_length_le (by simp)
            rw [et] at own
            have R5 := RowI.of_owns own
            obtain ⟨p5, c5, e5, -⟩ := R5.cap
            subst e5
            clear own et
            go_wp2
            go_meet
            exact ⟨p5, c5, by rw [e.out]; exact BW, by rw [e.out]; exact R5, BZ, hbr⟩
      · by_cases k1 : z0 = 1
        · subst k1
          by_cases hl : L.length = 10
          · have e : decM L = ⟨1, z1, z2, [], 0, decI (L.drop 3), false⟩ := by rw [hD.out]; simp [hl]
            have hl' : (L.length : Int) = 10 := by omega
            have sD10 : (sb L).extract 3 10 = sb (L.drop 3) := by rw [← hl]; exact sb_drop L 3
            clear sD
            have KI := toHid (fun W : World => rGetItem_any (hL.drop 3) (by simp; omega) W)
            obtain ⟨I, hI⟩ : ∃ I, decI (L.drop 3) = I := ⟨_, rfl⟩
            rw [hI] at KI e
            replace e := toHid e
            go_wp2_with (go_at_call 24; refine (KI.out _).mono ?_; rintro e w2 ⟨rfl, h2⟩
                         clear m1 m2 m3
                         have B2 := BM.below h2
                         obtain ⟨m1, m2, m3⟩ := id B2)
            have S5 := B2.set5 (.int .i64 I.k) (.int .i64 I.c) (.int .i64 I.u) (.int .i64 I.x) (.bool I.g)
            go_meet
            exact ⟨none, 0, by rw [e.out]; exact S5.1, by rw [e.out]; exact RowI.nil0, (BR.below h2).only S5.2 (by omega), (hB.on h2).trans (S5.2.below.mono hle)⟩
          · have e : decM L = ⟨1, z1, z2, [], 0, zeroI, false⟩ := by rw [hD.out]; simp [hl]
            have hl' : ¬ (L.length : Int) = 10 := by omega
            replace e := toHid e
            go_wp2
            go_meet
            exact ⟨none, 0, by rw [e.out]; exact BM, by rw [e.out]; exact RowI.nil0, BR, hB⟩
        · by_cases k2 : z0 = 2
          · subst k2
            have e : decM L = ⟨2, z1, z2, [], z3, zeroI, false⟩ := by rw [hD.out]; simp
            replace e := toHid e
            go_wp2
            go_meet
            exact ⟨none, 0, by rw [e.out]; exact BM.setS 4 _ (by simp) (by simp [zeroI]), by rw [e.out]; exact RowI.nil0, BR.setO x4 4 _ hne', hB.setCell hle _⟩
          · by_cases hl : L.length = 12
            · have e : decM L = ⟨z0, z1, z2, [], z3, decI (L.drop 5), true⟩ := by rw [hD.out]; simp [hl, k0, k1, k2]
              have hl' : (L.length : Int) = 12 := by omega
              have sD12 : (sb L).extract 5 12 = sb (L.drop 5) := by rw [← hl]; exact sb_drop L 5
              clear sD
              have KI := toHid (fun W : World => rGetItem_any (hL.drop 5) (by simp; omega) W)
              obtain ⟨I, hI⟩ : ∃ I, decI (L.drop 5) = I := ⟨_, rfl⟩
              rw [hI] at KI e
              replace e := toHid e
              have B1 := toHid ((BM.setS (ys := #[.int .i64 z0, .int .i64 z1, .int .i64 z2, .slice none 0 0, .int .i64 z3, .int .i64 0, .int .i64 0, .int .i64 0, .int .i64 0, .bool false, .bool false]) 4 (.int .i64 z3) (by simp) (by simp)).setS (ys := #[.int .i64 z0, .int .i64 z1, .int .i64 z2, .slice none 0 0, .int .i64 z3, .int .i64 0, .int .i64 0, .int .i64 0, .int .i64 0, .bool false, .bool true]) 10 (.bool true) (by simp) (by simp))
              have C1 := toHid ((BR.setO x4 4 (.int .i64 z3) hne').setO x4 10 (.bool true) hne')
              have D1 := toHid ((hB.setCell (p := ⟨x4, 4, none⟩) hle (.int .i64 z3)).setCell (p := ⟨x4, 10, none⟩) hle (.bool true))
              go_wp2_with (go_at_call 24; refine (KI.out _).mono ?_; rintro e w2 ⟨rfl, h2⟩
                           clear m1 m2 m3
                           have B2 := B1.out.below h2
                           obtain ⟨m1, m2, m3⟩ := id B2)
              have S5 := B2.set5 (.int .i64 I.k) (.int .i64 I.c) (.int .i64 I.u) (.int .i64 I.x) (.bool I.g)
              go_meet
              exact ⟨none, 0, by rw [e.out]; exact S5.1, by rw [e.out]; exact RowI.nil0, (C1.out.below h2).only S5.2 (by omega), (D1.out.on h2).trans (S5.2.below.mono hle)⟩
            · have e : decM L = ⟨z0, z1, z2, [], z3, zeroI, false⟩ := by rw [hD.out]; simp [hl, k0, k1, k2]
              have hl' : ¬ (L.length : Int) = 12 := by omega
              replace e := toHid e
              go_wp2
              go_meet
              exact ⟨none, 0, by rw [e.out]; exact BM.setS 4 _ (by simp) (by simp [zeroI]), by rw [e.out]; exact RowI.nil0, BR.setO x4 4 _ hne', hB.setCell hle _⟩
    case rest =>
      obtain ⟨p, c, BX, RX, BZ, hb⟩ := hcut
      have hG : getB L = (mayB (decM L) && decide (encM (decM L) = L)) := by simp [getB, h4n]
      obtain ⟨D, hDD⟩ : ∃ D, decM L = D := ⟨_, rfl⟩
      rw [hDD] at BX RX hG
      have gM : getM L = if getB L = true then D else zeroM := by rw [getM, hDD]
      have gE : getE L = if getB L = true then 0 else 1300 := rfl
      clear hD hDD sD g0 g1 g2 g3 BR BM hB
      obtain ⟨n, a, b, is, k, ⟨tk, tc, tu, tx, tg⟩, h⟩ := D
      dsimp only at BX RX
      have KP := toHid (rPutMsg_any RX (Nat.le_refl _) n a b k tk tc tu tx tg h)
      obtain ⟨x1, x2, x3⟩ := id BX
      cases hm : mayB ⟨n, a, b, is, k, ⟨tk, tc, tu, tx, tg⟩, h⟩ with
      | false =>
        have q : getB L = false := by rw [hG, hm]; rfl
        rw [if_neg (by simp [q])] at gM gE
        have e1 : putL ⟨n, a, b, is, k, ⟨tk, tc, tu, tx, tg⟩, h⟩ = [] := by simp [putL, hm]
        have e2 : putE ⟨n, a, b, is, k, ⟨tk, tc, tu, tx, tg⟩, h⟩ = 1300 := by simp [putE, hm]
        rw [e1, e2] at KP
        replace gM := toHid gM
        replace gE := toHid gE
        clear hG q e1 e2 hm
        go_wp2_with (go_at_call 10; refine KP.out.mono ?_; rintro e w3 ⟨rfl, h3⟩
                     clear x1 x2 x3
                     have B3 := BZ.below h3
                     obtain ⟨x1, x2, x3⟩ := id B3)
        have S := B3.set11 (.int .i64 0) (.int .i64 0) (.int .i64 0) (.slice none 0 0) (.int .i64 0) (.int .i64 0) (.int .i64 0) (.int .i64 0) (.int .i64 0) (.bool false) (.bool false)
        refine bodyPost_ret (v := .tuple #[.agg #[.int .i64 0, .int .i64 0, .int .i64 0, .slice none 0 0, .int .i64 0, .int .i64 0, .int .i64 0, .int .i64 0, .int .i64 0, .bool false, .bool false], .int .i64 1300]) (by simp [results, Try.results12, go_sem, x2]) rfl ?_
        exact ⟨none, 0, by rw [gM.out, gE.out]; rfl, by rw [gM.out]; exact RowI.nil0, (hb.on h3).trans S.2.below⟩
      | true =>
        have e1 : putL ⟨n, a, b, is, k, ⟨tk, tc, tu, tx, tg⟩, h⟩ = encM ⟨n, a, b, is, k, ⟨tk, tc, tu, tx, tg⟩, h⟩ := by simp [putL, hm]
        have e2 : putE ⟨n, a, b, is, k, ⟨tk, tc, tu, tx, tg⟩, h⟩ = 0 := by simp [putE, hm]
        rw [e1, e2] at KP
        rw [hm, Bool.true_and] at hG
        by_cases hE : encM ⟨n, a, b, is, k, ⟨tk, tc, tu, tx, tg⟩, h⟩ = L
        · have q : getB L = true := by rw [hG]; simpa using hE
          rw [if_pos q] at gM gE
          rw [hE] at KP
          replace gM := toHid gM
          replace gE := toHid gE
          clear hG q e1 e2 hm hE
          go_wp2_with (go_at_call 10; refine KP.out.mono ?_; rintro e w3 ⟨rfl, h3⟩
                       clear x1 x2 x3
                       have B3 := BZ.below h3
                       obtain ⟨x1, x2, x3⟩ := id B3
                       obtain ⟨y1, y2, y3⟩ := BX.below h3)
          have S := B3.set11 (.int .i64 n) (.int .i64 a) (.int .i64 b) (.slice p is.length c) (.int .i64 k) (.int .i64 tk) (.int .i64 tc) (.int .i64 tu) (.int .i64 tx) (.bool tg) (.bool h)
          have sz := S.2.size
          refine bodyPost_ret (v := .tuple #[.agg #[.int .i64 n, .int .i64 a, .int .i64 b, .slice p is.length c, .int .i64 k, .int .i64 tk, .int .i64 tc, .int .i64 tu, .int .i64 tx, .bool tg, .bool h], .int .i64 0]) (by simp [results, Try.results12, go_sem, x2]) rfl ?_
          have hx := hx4.out
          exact ⟨p, c, by rw [gM.out, gE.out], by rw [gM.out]; exact (((RX.below h3 (Nat.le_refl _)).only S.2 (.inr (by omega))).wide (by omega) (by have := h3.size; omega)), (hb.on h3).trans S.2.below⟩
        · have q : getB L = false := by rw [hG]; simpa using hE
          rw [if_neg (by simp [q])] at gM gE
          obtain ⟨X, hX⟩ : ∃ X, sb (encM ⟨n, a, b, is, k, ⟨tk, tc, tu, tx, tg⟩, h⟩) = X := ⟨_, rfl⟩
          have hne2 : ¬ X = sb L := fun e => hE (by rw [← bl_sb (encM_byts ⟨n, a, b, is, k, ⟨tk, tc, tu, tx, tg⟩, h⟩), ← bl_sb hL, hX, e])
          have hne3 : (X.toList == (sb L).toList) = false := str_ne hne2
          rw [hX] at KP
          replace gM := toHid gM
          replace gE := toHid gE
          clear hG q e1 e2 hm hE hX
          go_wp2_with (go_at_call 10; refine KP.out.mono ?_; rintro e w3 ⟨rfl, h3⟩
                       clear x1 x2 x3
                       have B3 := BZ.below h3
                       obtain ⟨x1, x2, x3⟩ := id B3)
          have S := B3.set11 (.int .i64 0) (.int .i64 0) (.int .i64 0) (.slice none 0 0) (.int .i64 0) (.int .i64 0) (.int .i64 0) (.int .i64 0) (.int .i64 0) (.bool false) (.bool false)
          refine bodyPost_ret (v := .tuple #[.agg #[.int .i64 0, .int .i64 0, .int .i64 0, .slice none 0 0, .int .i64 0, .int .i64 0, .int .i64 0, .int .i64 0, .int .i64 0, .bool false, .bool false], .int .i64 1300]) (by simp [results, Try.results12, go_sem, x2]) rfl ?_
          exact ⟨none, 0, by rw [gM.out, gE.out]; rfl, by rw [gM.out]; exact RowI.nil0, (hb.on h3).trans S.2.below⟩

end Go.Proofs.Ytkalamplagopnaa
