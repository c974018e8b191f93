
/-
  Contracts of the document's own answers about peers: who is heard; who is left and who is lost.
-/
import Derived.Test.YtghamcomjfholaaGreatPeerRef
import Derived.Deep.RegionLawGrows
namespace Go.Proofs.YtghamcomjfholaaGreat
open Go.ChangeShapes Go.WideShapes Go.ChangeAt Go.RowKit

/-- 'append' onto a row of the call's own, of peers, as one step of a region that draws its order. -/
theorem step_pes {ops : Array Oper} {o : Oper} {a : Act} {w : World} {K : Act → World → Prop} {Q : Exit → Act → World → Prop} {E : Prop} (hg : o.guard = none) (s x : Operand)
    (hop : o.op = .call { callee := .builtin .append, args := #[s, x], argTypes := #[22, 22] }) (base : Nat) (v : Value) (n : Nat) (zs : List Pe) (hs : a.eval s = v)
    (hown : w.ownsRow base 72 2 v n (zs.flatMap PeV)) (ad : Addr) (m c : Nat) (news : List Pe) (hx : a.eval x = .slice (some ad) m c) (hl : news.length = m)
    (hnews : ∀ j, j < m * 2 → w.cell? (ad.add j) = (news.flatMap PeV)[j]?) (hb : (n + m) * 16 ≤ 140737488355328) (hbase : base ≤ w.heap.size)
    (hK : ∀ v' w', w'.ownsRow base 72 2 v' (n + m) ((zs ++ news).flatMap PeV) → w.grownBy w' v.ownBlock → Below base w w' → K (a.put o.dst v') w') :
    if Region.wanted o (yielded ops a.tmps) = true then Oper.wp Tryz.prog o a w K Q else E := by
  have hw : Region.wanted o (yielded ops a.tmps) = true := by simp [Region.wanted, hg]
  rw [if_pos hw]
  obtain ⟨i0, hi, hz0, hz1, hz2⟩ := info_parts Tryz.infoPe
  have hln : (news.flatMap PeV).length = m * 2 := by rw [flat_len PeV_len, hl]
  obtain ⟨v', w', hrun, r1, r2, _⟩ := run_append_own (P := Tryz.prog) w base 22 o.type 72 i0 _ 2 16 Tryz.underlying22 hi hz0 hz1 hz2 rfl (by decide) v n _ hown ad m c (news.flatMap PeV) hln (fun j u hj => by
      have hjl : j < (news.flatMap PeV).length := (List.getElem?_eq_some_iff.1 hj).1
      rw [hnews j (by omega), hj]) (fun u hu => by
      obtain ⟨y, _, hy⟩ := List.mem_flatMap.1 hu
      exact PeV_one y u hy) (by unfold maxLen; omega) hb hbase
  unfold Oper.wp
  simp [execOp, hop, resolve, invoke, builtin, hs, hx, hrun, Result.andThen]
  exact hK v' w' (by simpa using r1) r2 ((Below.refl base w).grown r2 hbase (fun j hj => (hown.lt j hj).1))
/-- Rows of two types lie in two blocks. -/
theorem apart_types {w : World} {b1 b2 : Nat} {e1 e2 : TypeId} {s1 s2 n k : Nat} {v u : Value} {xs ys : List Value} (h1 : w.ownsRow b1 e1 s1 v n xs) (h2 : w.ownsRow b2 e2 s2 u k ys) (he : e1 ≠ e2) : Apart v u := by
  intro g hv hu
  rcases h1.2 with ⟨rfl, _⟩ | ⟨g1, c1, cur1, rfl, _, hh1, _⟩
  · cases hv
  · rcases h2.2 with ⟨rfl, _⟩ | ⟨g2, c2, cur2, rfl, _, hh2, _⟩
    · cases hu
    · cases hv
      cases hu
      rw [hh1] at hh2
      cases hh2
      exact he rfl

set_option maxHeartbeats 4000000 in
theorem rAge_yes {lo hi : Nat} {w : World} {v : Value} {xs : List Pe} (hx : RowP lo hi w v xs) (hh : hi ≤ w.heap.size) (b : Int) (hs : psB b xs = true) :
    Calls Tryz.prog 48 #[.int .i64 b, v] w fun e w' => ∃ o l, e = .returned (.tuple #[o, l, .int .i64 0]) ∧ RowP w.heap.size w'.heap.size w' o (agA xs) ∧ RowI w.heap.size w'.heap.size w' l (agD xs) ∧ Below w.heap.size w w' := by
  obtain ⟨h0, hv, hr, hlen⟩ := psB_iff.1 hs
  have HM := rPMay_is hx hh hs
  have hval : ∀ p ∈ xs, miB p.m = true := fun p hp => (peB_iff.1 (hv p hp)).2.2
  obtain ⟨p, cc, rfl, hn, hp⟩ := hx.pes hh
  clear hr hs hx hv
  go_enter Tryz.func48, Tryz.ntmps48
  go_wp2_with (first
    | (go_at_call 76; refine HM.mono ?_; rintro e w1 ⟨rfl, h1⟩))
  clear HM
  go_loopw [7, 8, 9] (fun o l i wr => ∃ (m : Nat), m ≤ xs.length ∧ i = .int .i64 m ∧ wr.ownsRow w.heap.size 72 2 o (agA (xs.take m)).length ((agA (xs.take m)).flatMap PeV) ∧ wr.ownsRow w.heap.size 3 1 l (agD (xs.take m)).length ((agD (xs.take m)).map (Value.int .i64)) ∧ Apart o l ∧ Below w.heap.size w wr) (fun _ _ i _ => xs.length - (intOf i).toNat)
  case atStart => exact ⟨0, Nat.zero_le _, rfl, ⟨rfl, .inl ⟨rfl, rfl⟩⟩, ⟨rfl, .inl ⟨rfl, rfl⟩⟩, apart_none _, h1⟩
  case round =>
    obtain ⟨m, hm, rfl, own, owl, hap, hbr⟩ := hrel
    by_cases hlt : m < xs.length
    · have hlt' : (m : Int) < (xs.length : Int) := by omega
      have hA := agA_step hlt
      have hD := agD_step hlt
      have hAl := agA_len xs m
      have hDl := agD_len xs m
      have hpl := miB_yes (hval _ (List.getElem_mem hlt))
      obtain ⟨bb, off, rfl, _, hbb, hc⟩ := hp (by omega)
      have it1 := (hc m hlt).below hbr hbb
      have hbw : bb < wr.heap.size := Nat.lt_of_lt_of_le hbb hbr.size
      rw [getD_in _ _ hlt] at it1
      obtain ⟨c1, c2⟩ := it1
      generalize agA (xs.take m) = out at own hA hAl
      generalize agD (xs.take m) = ls at owl hD hDl
      have OA := toHid own
      have OD := toHid owl
      have AP := toHid hap
      clear own owl hap
      by_cases hin : agP xs[m] = true
      · rw [if_pos hin, List.append_nil] at hA
        rw [if_pos hin] at hD
        replace hA := toHid hA
        replace hD := toHid hD
        have h3 : xs[m].m = 2 := by simp [agP] at hin; omega
        clear hc hp hin
        generalize xs[m] = z at *
        obtain ⟨zn, zm⟩ := z
        dsimp only at c1 c2 hpl h3
        subst h3
        go_wp2_with (at_builtin; refine app_ints2 rfl (.tmp 27) (.tmp 33) rfl w.heap.size _ ls.length ls rfl (OD.out.alloc _) ⟨wr.heap.size, 0, none⟩ 1 1 [zn] rfl rfl (by omega) (fun j hj => ?_) (by omega) (by have := hbr.size; simp; omega) ?_; · (rw [add_plain, Nat.zero_add]; refine ((Box.newAt _ _ rfl).2.1 j).trans ?_; (obtain rfl : j = 0 := by omega); rfl))
        intro v' w4 hown4 hgr4 hbel4 hw4
        have R1 : Hid (w4.ownsRow w.heap.size 72 2 u7 out.length (out.flatMap PeV)) := toHid ((OA.out.alloc _).kept hgr4 AP.out.kept)
        have R2 : Hid (w4.ownsRow w.heap.size 3 1 v' (ls ++ [zn]).length ((ls ++ [zn]).map (Value.int .i64))) := toHid (by simpa using hown4)
        have R3 : Hid (Apart u7 v') := toHid (AP.out.symm.after hw4 (fun k hk => by have := (OA.out.lt k hk).2; simp; omega)).symm
        clear hown4 hgr4 hw4
        go_wp2
        go_roundw
        case rel => exact ⟨m + 1, by omega, by go_num, by rw [hA.out]; exact R1.out, by rw [hD.out]; exact R2.out, R3.out, (hbr.onA _).trans hbel4⟩
        case measure => simp [intOf]; omega
      · rw [if_neg hin] at hA
        rw [if_neg hin, List.append_nil] at hD
        replace hA := toHid hA
        replace hD := toHid hD
        have h3 : ¬ xs[m].m + 1 = 3 := by simpa [agP] using hin
        clear hc hp hin
        generalize xs[m] = z at *
        obtain ⟨zn, zm⟩ := z
        dsimp only at c1 c2 hpl h3
        have hwm : IntKind.i64.wrap (zm + 1) = zm + 1 := by rw [IntKind.wrap_i64]; omega
        go_wp2
        go_region_law (refine step_pes rfl (.tmp 35) (.tmp 48) rfl w.heap.size _ out.length out rfl (OA.out.alloc _) ⟨wr.heap.size, 0, none⟩ 1 1 [⟨zn, zm + 1⟩] rfl rfl (fun j hj => ?_) (by omega) (by have := hbr.size; simp; omega) ?_; · (rw [add_plain, Nat.zero_add]; refine ((Box.newAt _ _ (by simp)).2.1 j).trans ?_; simp [PeV])
                       intro v' w4 hown4 hgr4 hbel4)
        all_goals
          have R1 : Hid (w4.ownsRow w.heap.size 72 2 v' (out ++ ([⟨zn, zm + 1⟩] : List Pe)).length ((out ++ ([⟨zn, zm + 1⟩] : List Pe)).flatMap PeV)) := toHid (by simpa using hown4)
          have R2 : Hid (w4.ownsRow w.heap.size 3 1 u8 ls.length (ls.map (Value.int .i64))) := toHid ((World.ownsRow.alloc (w := wr.drew) OD.out _).kept hgr4 AP.out.symm.kept)
          have R3 : Hid (Apart v' u8) := toHid (apart_types R1.out R2.out (by decide))
          have hb4 : Below w.heap.size w w4 := (Below.onA (a := wr.drew) (hbr.onD 1) _).trans hbel4
          clear hown4 hgr4 hbel4
          go_wp2
          go_roundw
          case rel => exact ⟨m + 1, by omega, by go_num, by rw [hA.out]; exact R1.out, by rw [hD.out]; exact R2.out, R3.out, hb4⟩
          case measure => simp [intOf]; omega
    · have hm2 : m = xs.length := by omega
      subst hm2
      rw [List.take_length] at own owl
      have R1 := RowC.of_owns (by decide) PeV_len own
      have R2 := RowI.of_owns owl
      clear own owl hap
      go_wp2
      go_ret3
      exact ⟨_, _, rfl, R1, R2, hbr⟩

theorem rAge_any {lo hi : Nat} {w : World} {v : Value} {xs : List Pe} (hx : RowP lo hi w v xs) (hh : hi ≤ w.heap.size) (b : Int) :
    Calls Tryz.prog 48 #[.int .i64 b, v] w fun e w' => ∃ o l, e = .returned (.tuple #[o, l, .int .i64 (agE b xs)]) ∧ RowP w.heap.size w'.heap.size w' o (agL b xs) ∧ RowI w.heap.size w'.heap.size w' l (agG b xs) ∧ Below w.heap.size w w' := by
  rcases Bool.eq_false_or_eq_true (psB b xs) with hs | hs
  · rw [(ag_yes hs).1, (ag_yes hs).2.1, (ag_yes hs).2.2]
    exact rAge_yes hx hh b hs
  · rw [(ag_no hs).1, (ag_no hs).2.1, (ag_no hs).2.2]
    have HM := rPMay_is hx hh hs
    obtain ⟨p, cc, rfl, hn, -⟩ := hx.pes hh
    clear hx
    go_enter Tryz.func48, Tryz.ntmps48
    go_wp2_with (first
      | (go_at_call 76; refine HM.mono ?_; rintro e w1 ⟨rfl, h1⟩))
    go_ret3
    exact ⟨_, _, rfl, RowC.nil0, RowI.nil0, h1⟩

end Go.Proofs.YtghamcomjfholaaGreat
