
/-
  Contracts of the document's own answers about peers: who is heard; who is left and who is lost.
-/
import Derived.Test.YtgopjjclobgekaaPeerRef
import Derived.Deep.RegionLawGrows
namespace Go.Proofs.Ytgopjjclobgekaa
open Go.ChangeShapes Go.WideShapes Go.ChangeAt Go.RowKit

/-- 'append' onto a row of the call's own, of peers, as one step of a region that draws its order. -/
theorem step_pes {ops : Array Oper} {o : Oper} {a : Act} {w : World} {K : Act → World → Prop} {Q : Exit → Act → World → Prop} {E : Prop} (hg : o.guard = none) (s x : Operand)
    (hop : o.op = .call { callee := .builtin .append, args := #[s, x], argTypes := #[22, 22] }) (base : Nat) (v : Value) (n : Nat) (zs : List Pe) (hs : a.eval s = v)
    (hown : w.ownsRow base 42 2 v n (zs.flatMap PeV)) (ad : Addr) (m c : Nat) (news : List Pe) (hx : a.eval x = .slice (some ad) m c) (hl : news.length = m)
    (hnews : ∀ j, j < m * 2 → w.cell? (ad.add j) = (news.flatMap PeV)[j]?) (hb : (n + m) * 16 ≤ 140737488355328) (hbase : base ≤ w.heap.size)
    (hK : ∀ v' w', w'.ownsRow base 42 2 v' (n + m) ((zs ++ news).flatMap PeV) → w.grownBy w' v.ownBlock → Below base w w' → K (a.put o.dst v') w') :
    if Region.wanted o (yielded ops a.tmps) = true then Oper.wp Try.prog o a w K Q else E := by
  have hw : Region.wanted o (yielded ops a.tmps) = true := by simp [Region.wanted, hg]
  rw [if_pos hw]
  obtain ⟨i0, hi, hz0, hz1, hz2⟩ := info_parts Try.infoPe
  have hln : (news.flatMap PeV).length = m * 2 := by rw [flat_len PeV_len, hl]
  obtain ⟨v', w', hrun, r1, r2, _⟩ := run_append_own (P := Try.prog) w base 22 o.type 42 i0 _ 2 16 Try.underlying22 hi hz0 hz1 hz2 rfl (by decide) v n _ hown ad m c (news.flatMap PeV) hln (fun j u hj => by
      have hjl : j < (news.flatMap PeV).length := (List.getElem?_eq_some_iff.1 hj).1
      rw [hnews j (by omega), hj]) (fun u hu => by
      obtain ⟨y, _, hy⟩ := List.mem_flatMap.1 hu
      exact PeV_one y u hy) (by unfold maxLen; omega) hb hbase
  unfold Oper.wp
  simp [execOp, hop, resolve, invoke, builtin, hs, hx, hrun, Result.andThen]
  exact hK v' w' (by simpa using r1) r2 ((Below.refl base w).grown r2 hbase (fun j hj => (hown.lt j hj).1))
/-- Rows of two types lie in two blocks. -/
theorem apart_types {w : World} {b1 b2 : Nat} {e1 e2 : TypeId} {s1 s2 n k : Nat} {v u : Value} {xs ys : List Value} (h1 : w.ownsRow b1 e1 s1 v n xs) (h2 : w.ownsRow b2 e2 s2 u k ys) (he : e1 ≠ e2) : Apart v u := by
  intro g hv hu
  rcases h1.2 with ⟨rfl, _⟩ | ⟨g1, c1, cur1, rfl, _, hh1, _⟩
  · cases hv
  · rcases h2.2 with ⟨rfl, _⟩ | ⟨g2, c2, cur2, rfl, _, hh2, _⟩
    · cases hu
    · cases hv
      cases hu
      rw [hh1] at hh2
      cases hh2
      exact he rfl

set_option maxHeartbeats 4000000 in
theorem rHeard_ok {lo hi : Nat} {w : World} {v : Value} {xs : List Pe} (hx : RowP lo hi w v xs) (hh : hi ≤ w.heap.size) (b d : Int) (hs : psB b xs = true) (hd : plB d = true) (hdb : ¬ d = b) :
    Calls Try.prog 53 #[.int .i64 b, v, .int .i64 d] w fun e w' => ∃ o, e = .returned (.tuple #[o, .int .i64 (hdE b xs d)]) ∧ RowP w.heap.size w'.heap.size w' o (hdL b xs d) ∧ Below w.heap.size w w' := by
  obtain ⟨h0, hv, hr, hlen⟩ := psB_iff.1 hs
  have HM := rPMay_is hx hh hs
  have hpl : ∀ p ∈ xs, plB p.n = true := fun p hp => (peB_iff.1 (hv p hp)).1
  have HE : Hid ((hdI b xs d).length ≤ 16 → hdL b xs d = hdI b xs d ∧ hdE b xs d = 0) := toHid fun h => hd_ok hs hd hdb h
  have HN : Hid (¬ (hdI b xs d).length ≤ 16 → hdL b xs d = [] ∧ hdE b xs d = 701) := toHid fun h => hd_full hs hd hdb h
  have hdb2 : (d == b) = false := by simpa using hdb
  obtain ⟨p, cc, rfl, hn, hp⟩ := hx.pes hh
  generalize hdL b xs d = yl at *
  generalize hdE b xs d = ye at *
  replace hr := toHid hr
  clear hs hx hv
  go_enter Try.func53, Try.ntmps53
  go_wp2_with (first
    | (go_at_call 39; refine HM.mono ?_; rintro e w1 ⟨rfl, h1⟩)
    | (go_at_call 31; refine (rPlaceMay_any _ _).mono ?_; rintro e w' ⟨rfl, hw'⟩; subst w'))
  clear HM
  go_loopw [8, 9, 10] (fun o f i wr => ∃ (m : Nat) (out : List Pe) (inb : Bool), m ≤ xs.length ∧ i = .int .i64 m ∧ f = .bool inb ∧ wr.ownsRow w.heap.size 42 2 o out.length (out.flatMap PeV) ∧ HRel b xs d m out inb ∧ Below w.heap.size w wr) (fun _ _ i _ => xs.length - (intOf i).toNat)
  case atStart => exact ⟨0, [], false, Nat.zero_le _, rfl, rfl, ⟨rfl, .inl ⟨rfl, rfl⟩⟩, HRel.zero _ _ _, h1⟩
  case round =>
    obtain ⟨m, out, inb, hm, rfl, rfl, own, hrel2, hbr⟩ := hrel
    by_cases hlt : m < xs.length
    · have hlt' : (m : Int) < (xs.length : Int) := by omega
      have hol := hrel2.len
      have hz := hpl _ (List.getElem_mem hlt)
      obtain ⟨bb, off, rfl, _, hbb, hc⟩ := hp (by omega)
      have it1 := (hc m hlt).below hbr hbb
      rw [getD_in _ _ hlt] at it1
      obtain ⟨c1, c2⟩ := it1
      have OA := toHid own
      cases inb with
      | true =>
        obtain ⟨hrel3, hgt⟩ := hrel2.in hr.out hlt
        have hne : ¬ xs[m].n = d := fun e => by rw [e] at hgt; omega
        have hne2 : (xs[m].n == d) = false := by simpa using hne
        replace hrel3 := toHid hrel3
        clear hc hp hrel2 hgt own
        generalize xs[m] = z at *
        obtain ⟨zn, zm⟩ := z
        dsimp only at c1 c2 hz hne hne2
        go_wp2_with (at_builtin; refine app_pes rfl (.tmp 58) (.tmp 63) rfl w.heap.size _ out.length out rfl (OA.out.alloc _) ⟨wr.heap.size, 0, none⟩ 1 1 [⟨zn, zm⟩] rfl rfl (fun j hj => ?_) (by omega) (by have := hbr.size; simp; omega) ?_; · (rw [add_plain, Nat.zero_add]; refine ((Box.newAt _ _ rfl).2.1 j).trans ?_; simp [PeV]))
        intro v' w4 hown4 hgr4 hbel4
        have R1 : Hid (w4.ownsRow w.heap.size 42 2 v' (out ++ ([⟨zn, zm⟩] : List Pe)).length ((out ++ ([⟨zn, zm⟩] : List Pe)).flatMap PeV)) := toHid (by simpa using hown4)
        clear hown4 hgr4
        go_wp2
        go_roundw
        case rel => exact ⟨m + 1, _, true, by omega, by go_num, rfl, R1.out, hrel3.out, (hbr.onA _).trans hbel4⟩
        case measure => simp [intOf]; omega
      | false =>
        by_cases hlt2 : far b xs[m].n < far b d
        · have hrel3 := toHid (hrel2.lt hlt hlt2)
          have hne : ¬ xs[m].n = d := fun e => by rw [e] at hlt2; omega
          have hne2 : (xs[m].n == d) = false := by simpa using hne
          have hl2 : ¬ far b d ≤ far b xs[m].n := by omega
          have hl3 : decide (far b d ≤ far b xs[m].n) = false := decide_eq_false hl2
          clear hc hp hrel2 own
          generalize xs[m] = z at *
          obtain ⟨zn, zm⟩ := z
          dsimp only at c1 c2 hz hne hne2 hl2 hl3 hlt2
          have t1 := trivial
          go_wp2_with (first
            | (go_at_call 55; clear t1; refine (rfar_any _ _ _ h0 hz).mono ?_; rintro e w' ⟨rfl, hw'⟩; subst w')
            | (go_at_call 55; refine (rfar_any _ _ _ h0 hd).mono ?_; rintro e w' ⟨rfl, hw'⟩; subst w')
            | (at_builtin; refine app_pes rfl (.tmp 58) (.tmp 63) rfl w.heap.size _ out.length out rfl (OA.out.alloc _) ⟨wr.heap.size, 0, none⟩ 1 1 [⟨zn, zm⟩] rfl rfl (fun j hj => ?_) (by omega) (by have := hbr.size; simp; omega) ?_; · (rw [add_plain, Nat.zero_add]; refine ((Box.newAt _ _ rfl).2.1 j).trans ?_; simp [PeV])))
          intro v' w4 hown4 hgr4 hbel4
          have R1 : Hid (w4.ownsRow w.heap.size 42 2 v' (out ++ ([⟨zn, zm⟩] : List Pe)).length ((out ++ ([⟨zn, zm⟩] : List Pe)).flatMap PeV)) := toHid (by simpa using hown4)
          clear hown4 hgr4
          go_wp2
          go_roundw
          case rel => exact ⟨m + 1, _, false, by omega, by go_num, rfl, R1.out, hrel3.out, (hbr.onA _).trans hbel4⟩
          case measure => simp [intOf]; omega
        · have hl2 : far b d ≤ far b xs[m].n := by omega
          have hl3 : decide (far b d ≤ far b xs[m].n) = true := decide_eq_true hl2
          by_cases hne : xs[m].n = d
          · have hrel3 := toHid (hrel2.eq hlt hne)
            clear hc hp hrel2 own
            generalize xs[m] = z at *
            obtain ⟨zn, zm⟩ := z
            dsimp only at c1 c2 hz hne hl2 hl3 hlt2
            subst hne
            have t1 := trivial
            go_wp2_with (first
              | (go_at_call 55; clear t1; refine (rfar_any _ _ _ h0 hz).mono ?_; rintro e w' ⟨rfl, hw'⟩; subst w')
              | (go_at_call 55; refine (rfar_any _ _ _ h0 hd).mono ?_; rintro e w' ⟨rfl, hw'⟩; subst w')
              | (at_builtin; refine app_pes rfl (.tmp 46) (.tmp 49) rfl w.heap.size _ out.length out rfl (OA.out.alloc _) ⟨wr.heap.size, 0, none⟩ 1 1 [⟨zn, 0⟩] rfl rfl (fun j hj => ?_) (by omega) (by have := hbr.size; simp; omega) ?_; · (rw [add_plain, Nat.zero_add]; refine ((Box.newAt _ _ rfl).2.1 j).trans ?_; simp [PeV])))
            intro v' w4 hown4 hgr4 hbel4
            have R1 : Hid (w4.ownsRow w.heap.size 42 2 v' (out ++ ([⟨zn, 0⟩] : List Pe)).length ((out ++ ([⟨zn, 0⟩] : List Pe)).flatMap PeV)) := toHid (by simpa using hown4)
            have hb4 := (hbr.onA _).trans hbel4
            have d1 := (hbel4.cell (p := ⟨bb, off + m * 2, none⟩) hbb).trans ((World.cell?_alloc_old _ _ _ (by have := hbr.size; show bb ≠ wr.heap.size; omega)).trans c1)
            clear hown4 hgr4
            go_wp2
            go_roundw
            case rel => exact ⟨m + 1, _, true, by omega, by go_num, rfl, R1.out, hrel3.out, hb4⟩
            case measure => simp [intOf]; omega
          · have hne2 : (xs[m].n == d) = false := by simpa using hne
            have hgt : far b d < far b xs[m].n := by
              have : far b d ≠ far b xs[m].n := fun e => hne (far_inj hz hd e.symm)
              omega
            have hrel3 := toHid (hrel2.gt hlt hgt)
            clear hp hrel2 own
            have HZ : Hid (∀ w', Below w.heap.size w w' → PeAt w' bb (off + m * 2) xs[m]) := toHid fun w' hw => by have := (hc m hlt).below hw hbb; rwa [getD_in _ _ hlt] at this
            clear hc
            generalize xs[m] = z at *
            obtain ⟨zn, zm⟩ := z
            dsimp only at c1 c2 hz hne hne2 hl2 hl3 hlt2
            have t1 := trivial
            go_wp2_with (first
              | (go_at_call 55; clear t1; refine (rfar_any _ _ _ h0 hz).mono ?_; rintro e w' ⟨rfl, hw'⟩; subst w')
              | (go_at_call 55; refine (rfar_any _ _ _ h0 hd).mono ?_; rintro e w' ⟨rfl, hw'⟩; subst w')
              | (at_builtin; refine app_pes rfl (.tmp 46) (.tmp 49) rfl w.heap.size _ out.length out rfl (OA.out.alloc _) ⟨wr.heap.size, 0, none⟩ 1 1 [⟨d, 0⟩] rfl rfl (fun j hj => ?_) (by omega) (by have := hbr.size; simp; omega) ?_; · (rw [add_plain, Nat.zero_add]; refine ((Box.newAt _ _ rfl).2.1 j).trans ?_; simp [PeV])))
            intro v' w4 hown4 hgr4 hbel4
            have R1 : Hid (w4.ownsRow w.heap.size 42 2 v' (out ++ ([⟨d, 0⟩] : List Pe)).length ((out ++ ([⟨d, 0⟩] : List Pe)).flatMap PeV)) := toHid (by simpa using hown4)
            have hb4 := (hbr.onA _).trans hbel4
            obtain ⟨d1, d2⟩ := HZ.out _ hb4
            dsimp only at d1 d2
            clear hown4 hgr4 c1 c2 hbel4
            go_wp2_with (at_builtin; refine app_pes rfl (.tmp 58) (.tmp 63) rfl w.heap.size _ _ _ rfl (R1.out.alloc _) ⟨w4.heap.size, 0, none⟩ 1 1 [⟨zn, zm⟩] rfl rfl (fun j hj => ?_) (by simp; omega) (by have := hb4.size; simp; omega) ?_; · (rw [add_plain, Nat.zero_add]; refine ((Box.newAt _ _ rfl).2.1 j).trans ?_; simp [PeV]))
            intro v5 w5 hown5 hgr5 hbel5
            have R2 : Hid (w5.ownsRow w.heap.size 42 2 v5 (out ++ ([⟨d, 0⟩] : List Pe) ++ ([⟨zn, zm⟩] : List Pe)).length ((out ++ ([⟨d, 0⟩] : List Pe) ++ ([⟨zn, zm⟩] : List Pe)).flatMap PeV)) := toHid (by simpa using hown5)
            clear hown5 hgr5 d1 d2
            go_wp2
            go_roundw
            case rel => exact ⟨m + 1, _, true, by omega, by go_num, rfl, R2.out, hrel3.out, (hb4.onA _).trans hbel5⟩
            case measure => simp [intOf]; omega
    · have hm2 : m = xs.length := by omega
      subst hm2
      have hend := hrel2.end
      have hol := hrel2.len
      have OA := toHid own
      clear hrel2 own hp
      cases inb with
      | true =>
        rw [if_pos rfl] at hend
        rw [hend] at HE HN
        clear hend
        by_cases h16 : out.length ≤ 16
        · obtain ⟨rfl, rfl⟩ := HE.out h16
          have hR := toHid (RowC.of_owns (by decide) PeV_len OA.out)
          obtain ⟨pp, cp, rfl, _⟩ := hR.out
          have hl1 : ¬ (16 : Int) < (yl.length : Int) := by omega
          clear OA HE HN
          go_wp2
          go_ret2
          exact ⟨_, rfl, hR.out, hbr⟩
        · obtain ⟨rfl, rfl⟩ := HN.out h16
          have hR := toHid (RowC.of_owns (by decide) PeV_len OA.out)
          obtain ⟨pp, cp, rfl, _⟩ := hR.out
          have hl1 : (16 : Int) < (out.length : Int) := by omega
          clear OA HE HN hR
          go_wp2
          go_ret2
          exact ⟨_, rfl, RowC.nil0, hbr⟩
      | false =>
        rw [if_neg (by simp)] at hend
        rw [hend] at HE HN
        clear hend
        go_wp2_with (at_builtin; refine app_pes rfl (.tmp 67) (.tmp 70) rfl w.heap.size _ out.length out rfl (OA.out.alloc _) ⟨wr.heap.size, 0, none⟩ 1 1 [⟨d, 0⟩] rfl rfl (fun j hj => ?_) (by omega) (by have := hbr.size; simp; omega) ?_; · (rw [add_plain, Nat.zero_add]; refine ((Box.newAt _ _ rfl).2.1 j).trans ?_; simp [PeV]))
        intro v' w4 hown4 hgr4 hbel4
        have R1 : w4.ownsRow w.heap.size 42 2 v' (out ++ ([⟨d, 0⟩] : List Pe)).length ((out ++ ([⟨d, 0⟩] : List Pe)).flatMap PeV) := by simpa using hown4
        have hb4 := (hbr.onA _).trans hbel4
        have hR := toHid (RowC.of_owns (by decide) PeV_len R1)
        clear R1 hown4 hgr4 hbel4 OA
        generalize out ++ ([⟨d, 0⟩] : List Pe) = ou at *
        obtain ⟨pp, cp, rfl, _⟩ := hR.out
        by_cases h16 : ou.length ≤ 16
        · obtain ⟨rfl, rfl⟩ := HE.out h16
          have hl1 : ¬ (16 : Int) < (yl.length : Int) := by omega
          clear HE HN
          go_wp2
          go_ret2
          exact ⟨_, rfl, hR.out, hb4⟩
        · obtain ⟨rfl, rfl⟩ := HN.out h16
          have hl1 : (16 : Int) < (ou.length : Int) := by omega
          clear HE HN hR
          go_wp2
          go_ret2
          exact ⟨_, rfl, RowC.nil0, hb4⟩

theorem rHeard_any {lo hi : Nat} {w : World} {v : Value} {xs : List Pe} (hx : RowP lo hi w v xs) (hh : hi ≤ w.heap.size) (b d : Int) :
    Calls Try.prog 53 #[.int .i64 b, v, .int .i64 d] w fun e w' => ∃ o, e = .returned (.tuple #[o, .int .i64 (hdE b xs d)]) ∧ RowP w.heap.size w'.heap.size w' o (hdL b xs d) ∧ Below w.heap.size w w' := by
  rcases Bool.eq_false_or_eq_true (psB b xs) with hs | hs
  · have HM := rPMay_is hx hh hs
    rcases Bool.eq_false_or_eq_true (plB d) with hd | hd
    · by_cases hdb : d = b
      · obtain ⟨e1, e2⟩ := hd_form (b := b) (xs := xs) (d := d) (.inr (.inr hdb))
        rw [e1, e2]
        obtain ⟨p, cc, rfl, hn, -⟩ := hx.pes hh
        clear hs hx e1 e2
        subst hdb
        go_enter Try.func53, Try.ntmps53
        go_wp2_with (first
          | (go_at_call 39; refine HM.mono ?_; rintro e w1 ⟨rfl, h1⟩)
          | (go_at_call 31; refine (rPlaceMay_any _ _).mono ?_; rintro e w' ⟨rfl, hw'⟩; subst w'))
        go_ret2
        exact ⟨_, rfl, RowC.nil0, h1⟩
      · exact rHeard_ok hx hh b d hs hd hdb
    · obtain ⟨e1, e2⟩ := hd_form (b := b) (xs := xs) (d := d) (.inr (.inl hd))
      rw [e1, e2]
      obtain ⟨p, cc, rfl, hn, -⟩ := hx.pes hh
      clear hs hx e1 e2
      go_enter Try.func53, Try.ntmps53
      go_wp2_with (first
        | (go_at_call 39; refine HM.mono ?_; rintro e w1 ⟨rfl, h1⟩)
        | (go_at_call 31; refine (rPlaceMay_any _ _).mono ?_; rintro e w' ⟨rfl, hw'⟩; subst w'))
      go_ret2
      exact ⟨_, rfl, RowC.nil0, h1⟩
  · have HM := rPMay_is hx hh hs
    obtain ⟨e1, e2⟩ := hd_form (b := b) (xs := xs) (d := d) (.inl hs)
    rw [e1, e2]
    obtain ⟨p, cc, rfl, hn, -⟩ := hx.pes hh
    clear hs hx e1 e2
    go_enter Try.func53, Try.ntmps53
    go_wp2_with (first
      | (go_at_call 39; refine HM.mono ?_; rintro e w1 ⟨rfl, h1⟩))
    go_ret2
    exact ⟨_, rfl, RowC.nil0, h1⟩

end Go.Proofs.Ytgopjjclobgekaa
