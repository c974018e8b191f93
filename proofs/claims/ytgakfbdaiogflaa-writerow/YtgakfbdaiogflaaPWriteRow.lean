
/-
  The statement WriteRow: of puts and drops of one key, one behind the other, each one's count is one more than the one's before, and the last one stands.
-/
import Derived.Test.YtgakfbdaiogflaaRows
import Derived.Test.YtgakfbdaiogflaaOpen
import Derived.Test.YtgakfbdaiogflaaWriteLaw
import Derived.Test.YtgakfbdaiogflaaWrMath
import Derived.Deep.DeepCutAuto
import Derived.Deep.CutRange
import Derived.Deep.CutBlock
namespace Go.Proofs.Ytgakfbdaiogflaa.writeRow
open Go.ChangeShapes Go.WideShapes Go.ChangeAt Go.RowKit
set_option linter.unusedVariables false

/-! ### The walk -/
def StL (i : Nat) (L : List It) : Prop := (i = 0 ∧ L = []) ∨ (∃ v g, L = [⟨77, i, 100, v, g⟩] ∧ itB ⟨77, i, 100, v, g⟩ = true)

theorem st_ok {i : Nat} {L : List It} (h : StL i L) : stB L = true ∧ ndB ⟨true, 100, gnP, [7], L, []⟩ = true ∧ wrC L 77 = i + 1 := by
  rcases h with ⟨rfl, rfl⟩ | ⟨v, g, rfl, hi⟩
  · exact ⟨by decide +kernel, by decide +kernel, by decide +kernel⟩
  · have hs : stB [(⟨77, i, 100, v, g⟩ : It)] = true := stB_iff.2 ⟨by intro a ha; rw [List.mem_singleton.1 ha]; exact hi, by simp [Srt], by simp⟩
    refine ⟨hs, ?_, ?_⟩
    · rw [ndB_up, hs, show vwB 100 gnP [7] = true by decide +kernel, show lgB [] = true by decide +kernel]
      rfl
    · simp [wrC, getI, hs, look]
theorem st_step {i : Nat} {L : List It} (h : StL i L) (hi : i < 40) {v : Int} {g : Bool} (h0 : 0 ≤ v) (h1 : v ≤ 255) (hg : g = true → v = 0) :
    wrE ⟨true, 100, gnP, [7], L, []⟩ 77 v g = 0 ∧ wrN ⟨true, 100, gnP, [7], L, []⟩ 77 v g = ⟨true, 100, gnP, [7], [⟨77, (i : Int) + 1, 100, v, g⟩], []⟩ ∧ StL (i + 1) [⟨77, (i : Int) + 1, 100, v, g⟩] ∧
      getI [⟨77, (i : Int) + 1, 100, v, g⟩] 77 = ⟨77, (i : Int) + 1, 100, v, g⟩ ∧ getB [⟨77, (i : Int) + 1, 100, v, g⟩] 77 = true := by
  obtain ⟨hs, hn, hc⟩ := st_ok h
  have hit : itB ⟨77, (i : Int) + 1, 100, v, g⟩ = true := by
    have e1 : byB v = true := by simp [byB]; omega
    have e2 : verB ((i : Int) + 1) 100 = true := by simp [verB, cntB, plB]; omega
    have e3 : byB 77 = true := by decide
    have e4 : byB 0 = true := by decide
    cases g with
    | false => simp [itB, e1, e2, e3]
    | true => simp [itB, e2, e3, e4, hg rfl]
  have hins : ins L ⟨77, (i : Int) + 1, 100, v, g⟩ = [⟨77, (i : Int) + 1, 100, v, g⟩] := by
    rcases h with ⟨rfl, rfl⟩ | ⟨v', g', rfl, hi'⟩
    · rfl
    · have := mx_next (b := ⟨77, (i : Int) + 1, 100, v, g⟩) hi' hit rfl
      simp [ins, this]
  have hs2 : stB [(⟨77, (i : Int) + 1, 100, v, g⟩ : It)] = true := stB_iff.2 ⟨by intro a ha; rw [List.mem_singleton.1 ha]; exact hit, by simp [Srt], by simp⟩
  have hw : wrOk ⟨true, 100, gnP, [7], L, []⟩ 77 v = true := by
    have e : plB v = true := plB_mk h0 (by omega)
    simp only [wrOk, hn, e]
    decide
  have hX : wrIt 100 L 77 v g = ⟨77, (i : Int) + 1, 100, v, g⟩ := by rw [wrIt, hc]
  obtain ⟨q1, q2, -⟩ := put_ok (x := ⟨77, (i : Int) + 1, 100, v, g⟩) hs hit (by rw [hins]; simp)
  have hE : wrE ⟨true, 100, gnP, [7], L, []⟩ 77 v g = 0 := by
    rw [wr_full hw]
    show (if putE L (wrIt 100 L 77 v g) = 0 then (0 : Int) else 1701) = 0
    rw [hX, q2]
    rfl
  refine ⟨hE, ?_, .inr ⟨v, g, by simp, by simpa using hit⟩, by simp [getI, hs2, look], by simp [getB, hs2, look]⟩
  rw [wrN, if_pos hE]
  show (⟨true, 100, gnP, [7], putL L (wrIt 100 L 77 v g), []⟩ : Nd) = _
  rw [hX, q1, hins]

theorem item_value (k c u x g : Value) (w : World) (hx : ∃ z, x = .int .i64 z) : Sem.run Try.prog (Instr.field 47 (.agg #[k, c, u, x, g]) 2) w = .ok x w := by
  obtain ⟨z, rfl⟩ := hx
  simp [Instr.field, asAgg, go_sem]

set_option maxHeartbeats 8000000 in
theorem walk (v0 : Value) (x0 : List Int) (w : World) (r0 : RowI 0 w.heap.size w v0 x0) (s0 : x0.length * 8 ≤ 140737488351232) (w0 : ∀ x ∈ x0, (Lit.int .i64 x).wf = true) :
    Calls Try.prog 7 #[v0] w fun e w' => e = .returned (.bool true) ∧ Below w.heap.size w w' := by
  have R0 := toHid (fun (W : World) (hk : Below w.heap.size w W) => r0.below hk (Nat.le_refl _))
  obtain ⟨p0, c0, e0, -⟩ := r0.cap
  subst e0
  clear r0 w0 s0
  have hB := toHid (Below.refl w.heap.size w)
  go_enter Try.func7, Try.ntmps7
  go_upto_region 4 with (first
    | (go_at_call 16; refine (awake17_any _).mono ?_; rintro e W1 ⟨rfl, h1⟩
       replace hB := toHid (hB.out.on h1)
       clear h1)
    | (go_at_call 17; refine (gNode_any _).mono ?_; rintro e wg ⟨d5, d6, ga, rfl, NG, hg⟩))
  have BX := toHid (Box.new wg #[.bool true, .int .i64 100, .slice d5 3 3, .slice d6 1 1, .slice ga 3 3, .slice none 0 0] 29)
  have st := hg.on ((Below.refl _ wg).onA (.cells #[.bool true, .int .i64 100, .slice d5 3 3, .slice d6 1 1, .slice ga 3 3, .slice none 0 0] 29))
  have NV := toHid ((NG.vw.alloc (.cells #[.bool true, .int .i64 100, .slice d5 3 3, .slice d6 1 1, .slice ga 3 3, .slice none 0 0] 29)).wide (Nat.zero_le _) (hi' := wg.heap.size) (Nat.le_refl _))
  have z0 : Hid (w.heap.size ≤ wg.heap.size) := toHid (hB.out.on hg).size
  replace hB := toHid (hB.out.on st)
  clear st hg NG
  generalize wg.alloc (.cells #[.bool true, .int .i64 100, .slice d5 3 3, .slice d6 1 1, .slice ga 3 3, .slice none 0 0] 29) = W2 at BX NV hB ⊢
  obtain ⟨m1, m2, m3⟩ := BX.out
  go_upto_region 5 with (fail)
  have ON := (Only.refl wg.heap.size (wg.heap.size + 1) W2).setCell (b := wg.heap.size) (o := 4) (Nat.le_refl _) (Nat.lt_succ_self _) (.slice none 0 0)
  replace BX := toHid (BX.out.setS (ys := #[.bool true, .int .i64 100, .slice d5 3 3, .slice d6 1 1, .slice none 0 0, .slice none 0 0]) 4 (.slice none 0 0) (by simp) (by simp))
  have hzz := z0.out
  have hsz := ON.size
  have NV2 := (NV.out.ps.only ON (.inl (Nat.le_refl _)))
  have NV3 := (NV.out.is.only ON (.inl (Nat.le_refl _)))
  have N0 := toHid (NdAt.mk (VwAt.mk (NV2.wide (Nat.le_refl _) (hi' := (W2.setCell ⟨wg.heap.size, 4, none⟩ (.slice none 0 0)).heap.size) (by omega)) (NV3.wide (Nat.le_refl _) (hi' := (W2.setCell ⟨wg.heap.size, 4, none⟩ (.slice none 0 0)).heap.size) (by omega))) (RowC.nil0 (lo := 0) (hi := (W2.setCell ⟨wg.heap.size, 4, none⟩ (.slice none 0 0)).heap.size) : RowT _ _ _ (.slice none 0 0) []) (RowC.nil0 : RowE _ _ _ (.slice none 0 0) []))
  replace hB := toHid (hB.out.trans (ON.below.mono hzz))
  clear m1 m2 m3 ON NV NV2 NV3 hsz
  generalize W2.setCell ⟨wg.heap.size, 4, none⟩ (.slice none 0 0) = W3 at BX N0 hB ⊢
  go_cut [4] from 16 to 18 (fun v4 wx => ∃ K : Nat, K ≤ x0.length ∧ K ≤ 40 ∧ v4 = .int .i64 K ∧ wx = W3)
  case first =>
    go_wp2
    go_meet
    exact ⟨min x0.length 40, by omega, by omega, by congr 1; omega, rfl⟩
  case rest =>
    obtain ⟨K, hK, hK4, rfl, rfl⟩ := hcut
    have bxw : w.heap.size ≤ wg.heap.size := z0.out
    go_wp2
    go_loopw [5] (fun s5 wr => ∃ (i : Nat) (L : List It) (d5 d6 d7 d8 : Option Addr) (f5 f6 f7 f8 : Nat), i ≤ K ∧ s5 = .int .i64 i ∧ StL i L ∧ Box wr wg.heap.size #[.bool true, .int .i64 100, .slice d5 3 f5, .slice d6 1 f6, .slice d7 L.length f7, .slice d8 0 f8] ∧
      NdAt 0 wr.heap.size wr (.slice d5 3 f5) (.slice d6 1 f6) (.slice d7 L.length f7) (.slice d8 0 f8) gnP [7] L [] ∧ Below w.heap.size w wr) (fun s5 _ => K - (intOf s5).toNat)
    case atStart => exact ⟨0, [], d5, d6, none, none, 3, 1, 0, 0, Nat.zero_le _, rfl, .inl ⟨rfl, rfl⟩, BX.out, N0.out, hB.out⟩
    case round =>
      clear BX N0 hB
      obtain ⟨i, L, d5, d6, d7, d8, f5, f6, f7, f8, hi, rfl, hL, BX, N0, hB⟩ := hrel
      have hbx : wg.heap.size < wr.heap.size := BX.1
      by_cases hlt : i < K
      · obtain ⟨q, d, e, -, -, hx⟩ := R0.out _ hB
        cases e
        obtain ⟨bb, off, rfl, -, hbb, h3⟩ := hx (by intro e; rw [e] at hK; simp at hK; omega)
        have cx := (h3 i (by omega)).1
        obtain ⟨x, hx0⟩ : ∃ x, x0[i]'(by omega) = x := ⟨_, rfl⟩
        have hil : i < x0.length := by omega
        have cx2 : wr.cell? ⟨bb, off + i, none⟩ = some (.int .i64 x) := by rw [cx, ← hx0]; simp [List.getD, List.getElem?_eq_getElem hil]
        have hlt' : (i : Int) < (K : Int) := by omega
        have hlt2 : (i : Int) < (x0.length : Int) := by omega
        have hi0 : 0 ≤ (i : Int) := by omega
        have ev : bits .and .i64 x 255 = x % 256 := and255 x
        have eg : bits .and .i64 (x / 256) 3 = x / 256 % 4 := and3 _
        obtain ⟨v, hv⟩ : ∃ v, x % 256 = v := ⟨_, rfl⟩
        have hv0 : 0 ≤ v ∧ v ≤ 255 := by omega
        rw [hv] at ev
        generalize x / 256 % 4 = g4 at eg
        obtain ⟨hok1, hok2⟩ := hv0
        replace BX := toHid BX
        replace N0 := toHid N0
        have h40 : i < 40 := by omega
        have hnl : (wr.heap.size : Nat) ≤ wr.heap.size := Nat.le_refl _
        clear cx h3 hx hx0 hv
        obtain ⟨m1, m2, m3⟩ := BX.out
        replace hB := toHid hB
        by_cases hg : g4 = 0
        · have hg2 : (g4 == 0) = true := by simpa using hg
          obtain ⟨hE, hN, hS, hG, hGb⟩ := st_step (v := 0) (g := true) hL h40 (by omega) (by omega) (fun _ => rfl)
          obtain ⟨E1, hE1⟩ : ∃ x, wrE ⟨true, 100, gnP, [7], L, []⟩ 77 v false = x := ⟨_, rfl⟩
          obtain ⟨⟨u1, i1, p1, s1, t1, l1⟩, hN1⟩ : ∃ x, wrN ⟨true, 100, gnP, [7], L, []⟩ 77 v false = x := ⟨_, rfl⟩
          have HP1 := toHid (wPut17_at true 100 N0.out (Nat.le_refl _) 77 v hE1 hN1)
          replace hS := toHid hS
          clear hE1 hN1
          go_upto_region 12 with (first
            | (go_at_call 9; refine HP1.out.mono ?_; rintro e wp ⟨b5, e5, b6, e6, b7, e7, b8, e8, rfl, NP, hp⟩))
          clear m1 m2 m3 HP1 NP cx2
          have st := hp.on ((Below.refl _ wp).onA (.cells #[.bool u1, .int .i64 i1, .slice b5 p1.length e5, .slice b6 s1.length e6, .slice b7 t1.length e7, .slice b8 l1.length e8] 29))
          have BP := toHid (Box.new wp #[.bool u1, .int .i64 i1, .slice b5 p1.length e5, .slice b6 s1.length e6, .slice b7 t1.length e7, .slice b8 l1.length e8] 29)
          have xW : Hid (wr.heap.size ≤ wp.heap.size) := toHid hp.size
          replace BX := toHid (BX.out.below st)
          replace N0 := toHid (N0.out.below st (Nat.le_refl _))
          replace hB := toHid (hB.out.on st)
          have y0' : Hid (wp.heap.size < (wp.alloc (.cells #[.bool u1, .int .i64 i1, .slice b5 p1.length e5, .slice b6 s1.length e6, .slice b7 t1.length e7, .slice b8 l1.length e8] 29)).heap.size) := toHid (by simp)
          clear st hp
          generalize wp.alloc (.cells #[.bool u1, .int .i64 i1, .slice b5 p1.length e5, .slice b6 s1.length e6, .slice b7 t1.length e7, .slice b8 l1.length e8] 29) = W4 at BP BX N0 hB y0' ⊢
          obtain ⟨m1, m2, m3⟩ := BX.out
          obtain ⟨q1, q2, q3⟩ := BP.out
          have HP := toHid (wDrop17_at true 100 N0.out (by have := xW.out; have := y0'.out; omega) 77 hE hN)
          clear hE hN
          go_upto_region 15 with (first
            | (go_at_call 11; refine HP.out.mono ?_; rintro e wq ⟨a5, c5, a6, c6, a7, c7, a8, c8, rfl, NA, hp⟩
               clear q1 q2 q3
               replace BP := toHid (BP.out.below hp)
               obtain ⟨q1, q2, q3⟩ := BP.out))
          clear m1 m2 m3 q1 q2 q3 HP N0
          obtain ⟨BA, ON⟩ := BP.out.set6 (.bool true) (.int .i64 100) (.slice a5 gnP.length c5) (.slice a6 1 c6) (.slice a7 1 c7) (.slice a8 0 c8)
          have hz0 := y0'.out
          have hzx := xW.out
          have hsz := ON.size
          have hsp := hp.size
          replace NA := toHid ((NA.only ON (.inr (by omega))).wide (lo' := wr.heap.size) (by omega) (hi' := ((((((wq.setCell ⟨wp.heap.size, 0, none⟩ (.bool true)).setCell ⟨wp.heap.size, 1, none⟩ (.int .i64 100)).setCell ⟨wp.heap.size, 2, none⟩ (.slice a5 gnP.length c5)).setCell ⟨wp.heap.size, 3, none⟩ (.slice a6 1 c6)).setCell ⟨wp.heap.size, 4, none⟩ (.slice a7 1 c7)).setCell ⟨wp.heap.size, 5, none⟩ (.slice a8 0 c8)).heap.size) (by omega))
          replace BX := toHid ((BX.out.below hp).only ON (.inl (by omega)))
          replace hB := toHid ((hB.out.on hp).trans (ON.below.mono (by omega)))
          replace BA := toHid BA
          clear ON BP hz0 hzx hsz hsp hp xW y0'
          generalize ((((((wq.setCell ⟨wp.heap.size, 0, none⟩ (.bool true)).setCell ⟨wp.heap.size, 1, none⟩ (.int .i64 100)).setCell ⟨wp.heap.size, 2, none⟩ (.slice a5 gnP.length c5)).setCell ⟨wp.heap.size, 3, none⟩ (.slice a6 1 c6)).setCell ⟨wp.heap.size, 4, none⟩ (.slice a7 1 c7)).setCell ⟨wp.heap.size, 5, none⟩ (.slice a8 0 c8)) = W6 at BA NA BX hB ⊢
          have HG := toHid (fun (W : World) (v' : Value) (lo hi : Nat) (N : RowT lo hi W v' [⟨77, (i : Int) + 1, 100, 0, true⟩]) (hh : hi ≤ W.heap.size) => rGet_any N hh 77)
          rw [hG, hGb] at HG
          dsimp only at HG
          clear hG hGb
          have NT : Hid (RowT wr.heap.size W6.heap.size W6 (.slice a7 1 c7) [⟨77, (i : Int) + 1, 100, 0, true⟩]) := toHid NA.out.ts
          replace HG := toHid (HG.out _ _ _ _ NT.out (Nat.le_refl _))
          clear NT
          obtain ⟨p1, p2, p3⟩ := BA.out
          go_upto_region 18 with (first
            | (go_at_call 14; refine (num_any _ _).mono ?_; rintro e w' ⟨rfl, hw'⟩; subst w')
            | (go_at_call 21; refine HG.out.mono ?_; rintro e ws ⟨rfl, hs⟩))
          clear p1 p2 p3 HG
          have st := hs.on ((Below.refl _ ws).onA (.cells #[.int .i64 77, .int .i64 ((i : Int) + 1), .int .i64 100, .int .i64 0, .bool true] 47))
          have BI := toHid (Box.new ws #[.int .i64 77, .int .i64 ((i : Int) + 1), .int .i64 100, .int .i64 0, .bool true] 47)
          replace BA := toHid (BA.out.below st)
          replace NA := toHid ((NA.out.below st (Nat.le_refl _)).wide (Nat.le_refl _) st.size)
          replace BX := toHid (BX.out.below st)
          replace hB := toHid (hB.out.on st)
          clear st hs
          generalize ws.alloc (.cells #[.int .i64 77, .int .i64 ((i : Int) + 1), .int .i64 100, .int .i64 0, .bool true] 47) = W7 at BI BA NA BX hB ⊢
          obtain ⟨i1, i2, i3⟩ := BI.out
          obtain ⟨p1, p2, p3⟩ := BA.out
          obtain ⟨m1, m2, m3⟩ := BX.out
          obtain ⟨BX8, ON8⟩ := BX.out.set6 (.bool true) (.int .i64 100) (.slice a5 gnP.length c5) (.slice a6 1 c6) (.slice a7 1 c7) (.slice a8 0 c8)
          have hsz8 := ON8.size
          have N8 := toHid ((NA.out.only ON8 (.inr (by omega))).wide (lo' := 0) (Nat.zero_le _) (hi' := ((((((W7.setCell ⟨wg.heap.size, 0, none⟩ (.bool true)).setCell ⟨wg.heap.size, 1, none⟩ (.int .i64 100)).setCell ⟨wg.heap.size, 2, none⟩ (.slice a5 gnP.length c5)).setCell ⟨wg.heap.size, 3, none⟩ (.slice a6 1 c6)).setCell ⟨wg.heap.size, 4, none⟩ (.slice a7 1 c7)).setCell ⟨wg.heap.size, 5, none⟩ (.slice a8 0 c8)).heap.size) (by omega))
          have hB8 := toHid (hB.out.trans (ON8.below.mono bxw))
          replace BX8 := toHid BX8
          clear ON8 hsz8
          go_wp2
          go_roundw
          case rel => exact ⟨i + 1, _, a5, a6, a7, a8, c5, c6, c7, c8, by omega, by go_num, hS.out, BX8.out, N8.out, hB8.out⟩
          case measure => simp [intOf]; omega
        · have hg2 : (g4 == 0) = false := by simpa using hg
          obtain ⟨hE, hN, hS, hG, hGb⟩ := st_step (v := v) (g := false) hL h40 hok1 hok2 (fun h => by cases h)
          have HP := toHid (wPut17_at true 100 N0.out (Nat.le_refl _) 77 v hE hN)
          replace hS := toHid hS
          clear hE hN
          go_upto_region 15 with (first
            | (go_at_call 9; refine HP.out.mono ?_; rintro e wp ⟨a5, c5, a6, c6, a7, c7, a8, c8, rfl, NA, hp⟩))
          clear m1 m2 m3 HP N0 cx2
          have st := hp.on ((Below.refl _ wp).onA (.cells #[.bool true, .int .i64 100, .slice a5 gnP.length c5, .slice a6 1 c6, .slice a7 1 c7, .slice a8 0 c8] 29))
          have BA := toHid (Box.new wp #[.bool true, .int .i64 100, .slice a5 gnP.length c5, .slice a6 1 c6, .slice a7 1 c7, .slice a8 0 c8] 29)
          replace NA := toHid ((NA.alloc (.cells #[.bool true, .int .i64 100, .slice a5 gnP.length c5, .slice a6 1 c6, .slice a7 1 c7, .slice a8 0 c8] 29)).wide (Nat.le_refl _) (hi' := (wp.alloc (.cells #[.bool true, .int .i64 100, .slice a5 gnP.length c5, .slice a6 1 c6, .slice a7 1 c7, .slice a8 0 c8] 29)).heap.size) (by simp))
          replace BX := toHid (BX.out.below st)
          replace hB := toHid (hB.out.on st)
          clear st hp
          generalize wp.alloc (.cells #[.bool true, .int .i64 100, .slice a5 gnP.length c5, .slice a6 1 c6, .slice a7 1 c7, .slice a8 0 c8] 29) = W6 at BA NA BX hB ⊢
          have HG := toHid (fun (W : World) (v' : Value) (lo hi : Nat) (N : RowT lo hi W v' [⟨77, (i : Int) + 1, 100, v, false⟩]) (hh : hi ≤ W.heap.size) => rGet_any N hh 77)
          rw [hG, hGb] at HG
          dsimp only at HG
          clear hG hGb
          have NT : Hid (RowT wr.heap.size W6.heap.size W6 (.slice a7 1 c7) [⟨77, (i : Int) + 1, 100, v, false⟩]) := toHid NA.out.ts
          replace HG := toHid (HG.out _ _ _ _ NT.out (Nat.le_refl _))
          clear NT
          obtain ⟨p1, p2, p3⟩ := BA.out
          go_upto_region 18 with (first
            | (go_at_call 14; refine (num_any _ _).mono ?_; rintro e w' ⟨rfl, hw'⟩; subst w')
            | (go_at_call 21; refine HG.out.mono ?_; rintro e ws ⟨rfl, hs⟩))
          clear p1 p2 p3 HG
          have st := hs.on ((Below.refl _ ws).onA (.cells #[.int .i64 77, .int .i64 ((i : Int) + 1), .int .i64 100, .int .i64 v, .bool false] 47))
          have BI := toHid (Box.new ws #[.int .i64 77, .int .i64 ((i : Int) + 1), .int .i64 100, .int .i64 v, .bool false] 47)
          replace BA := toHid (BA.out.below st)
          replace NA := toHid ((NA.out.below st (Nat.le_refl _)).wide (Nat.le_refl _) st.size)
          replace BX := toHid (BX.out.below st)
          replace hB := toHid (hB.out.on st)
          clear st hs
          generalize ws.alloc (.cells #[.int .i64 77, .int .i64 ((i : Int) + 1), .int .i64 100, .int .i64 v, .bool false] 47) = W7 at BI BA NA BX hB ⊢
          obtain ⟨i1, i2, i3⟩ := BI.out
          obtain ⟨p1, p2, p3⟩ := BA.out
          obtain ⟨m1, m2, m3⟩ := BX.out
          obtain ⟨BX8, ON8⟩ := BX.out.set6 (.bool true) (.int .i64 100) (.slice a5 gnP.length c5) (.slice a6 1 c6) (.slice a7 1 c7) (.slice a8 0 c8)
          have hsz8 := ON8.size
          have N8 := toHid ((NA.out.only ON8 (.inr (by omega))).wide (lo' := 0) (Nat.zero_le _) (hi' := ((((((W7.setCell ⟨wg.heap.size, 0, none⟩ (.bool true)).setCell ⟨wg.heap.size, 1, none⟩ (.int .i64 100)).setCell ⟨wg.heap.size, 2, none⟩ (.slice a5 gnP.length c5)).setCell ⟨wg.heap.size, 3, none⟩ (.slice a6 1 c6)).setCell ⟨wg.heap.size, 4, none⟩ (.slice a7 1 c7)).setCell ⟨wg.heap.size, 5, none⟩ (.slice a8 0 c8)).heap.size) (by omega))
          have hB8 := toHid (hB.out.trans (ON8.below.mono bxw))
          replace BX8 := toHid BX8
          clear ON8 hsz8
          go_wp2
          go_roundw
          case rel => exact ⟨i + 1, _, a5, a6, a7, a8, c5, c6, c7, c8, by omega, by go_num, hS.out, BX8.out, N8.out, hB8.out⟩
          case measure => simp [intOf]; omega
      · obtain rfl : i = K := by omega
        have hlt' : ¬ (i : Int) < (i : Int) := by omega
        replace hB := toHid hB
        replace BX := toHid BX
        obtain ⟨m1, m2, m3⟩ := BX.out
        obtain ⟨n, hn, hnm⟩ : ∃ n : Nat, L.length = n ∧ (n : Int) = min (i : Int) 1 := by
          rcases hL with ⟨rfl, rfl⟩ | ⟨v, g, rfl, hi2⟩
          · exact ⟨0, rfl, by decide⟩
          · refine ⟨1, rfl, ?_⟩
            have := (itB_bd hi2).1
            dsimp only at this
            omega
        rw [hn] at m2
        clear N0 hL
        have hmm : (min (i : Int) 1 == (n : Int)) = true := by simp [hnm]
        have hmm2 : ((n : Int) == min (i : Int) 1) = true := by simp [hnm]
        clear hnm
        go_wp2_with (first
          | (go_at_call 18; refine (gIt_any _ _ _).mono ?_; rintro e wz ⟨rfl, hz⟩)
          | (rw [item_value _ _ _ _ _ _ ⟨_, rfl⟩]))
        go_ret
        exact ⟨rfl, hB.out.on hz⟩

/-! ### The row's step -/
set_option maxRecDepth 100000 in
theorem lifted (os : Os) (started : os.Started) (H : Type) (enc : TypeId × Value → H) :
    ReturnsInHanded {} Try.checked os 7 .any (Rows.writeRowSpec.pre6 enc Try.prog Try.f7 Rows.writeRowRow.domain false) (Rows.writeRowSpec.post enc Try.prog Try.f7 false true false false) := by
  refine returnsInHanded_of_change_sized (C := Try.checked) ownK started (by kernel_rfl) Try.func7
    (ChangeSpec.witness6 (enc := enc) (C := Try.checked) false ⟨#[], #[.slice none 0 0], []⟩ 8 (by kernel_rfl) (by kernel_rfl) (by kernel_rfl) (by kernel_rfl)) ?_
  intro W base args ds gs before hval0 hW hcnd hsz0 _
  have hsz : (DataW.weightsEach Try.prog (Try.f7.params.toList ++ Rows.writeRowSpec.plain.varTypes Try.prog) (ds ++ gs)).all (· ≤ reachBytes) = true := hsz0
  have hval : ∀ (j : Nat) t v, Try.f7.params[j]? = some t → args[j]? = some v → Value.okWide Try.prog W .any base t v := hval0
  have hW' := hW
  obtain ⟨p, q, hA0, hV, rfl, hfz, hnd⟩ := hW
  have hA : DataW.TrodAll enc Try.prog W 0 (fun _ => true) true Try.f7.params.toList args.toList ds p := hA0
  rw [Try.params7] at hA hval hsz
  obtain ⟨v0, vs0, d0, ds0, p0, q0, hargs, rfl, rfl, h0, r0⟩ := trodAll_cons hA
  obtain ⟨rfl, rfl, rfl⟩ := trodAll_nil r0
  obtain rfl : args = #[v0] := by cases args; simp_all
  obtain ⟨rfl, rfl⟩ := trodVars_none hV
  clear r0
  have k0 := h0
  have lt0 : ∀ x ∈ p0, x.block < W.heap.size := by obtain ⟨m, hm⟩ := k0; exact DataW.trod_lt m _ _ _ hm
  have z0 : ∀ n ∈ d0.weights Try.prog 23, n ≤ reachBytes := fun n hn => by simpa using List.all_eq_true.1 hsz _ (DataW.weights_mem_each (j := 0) rfl rfl n hn)
  have f0 : W.noneFrozen p0 := fun b off hm => hfz b off (by simp [hm])
  obtain ⟨x0, r0, s0, w0⟩ := open_rowI (hval 0 23 v0 rfl rfl) h0 f0 z0
  clear hA0 hval0
  refine (walk v0 x0 W r0 s0 w0).mono fun e W' ⟨he, bel⟩ => ?_
  subst he
  exact ⟨_, rfl, _, _, _, [], _, [], hW', trodAll_mk1 (shut_bool Try.underlying4 _), (trodAll_cons_mk (Below.trod laidOut (by kernel_rfl) (of_decide_eq_true (by kernel_rfl)) k0 bel lt0) trodAll_mk0), rfl, bel.frame _, fun h => by cases h⟩

theorem over : Rows.writeRowRow.holds Try.pinned (OpenSpec.ofChange Rows.writeRowSpec) :=
  OpenClaim.holds_of_wide 7 Try.f7 rfl rfl rfl rfl rfl rfl rfl ⟨rfl, rfl, rfl, rfl, rfl⟩ rfl rfl rfl rfl rfl (by kernel_rfl) Try.func7 (by kernel_rfl)
    (of_decide_eq_true (by kernel_rfl)) (by unfold Func.isWrapper; first | (rw [if_pos (by decide +kernel)]; kernel_rfl) | (rw [if_neg (by decide +kernel)]; exact ⟨rfl, rfl⟩))
    (fun os started H enc _ => lifted os started H enc)

end Go.Proofs.Ytgakfbdaiogflaa.writeRow

namespace Go.Proofs.Ytgakfbdaiogflaa
/-- The statement, by its short name. -/
theorem writeRow_holds : Rows.WriteRowSaid := writeRow.over
#print axioms writeRow_holds
end Go.Proofs.Ytgakfbdaiogflaa
