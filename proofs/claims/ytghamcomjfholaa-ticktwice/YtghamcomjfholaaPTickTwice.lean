
/-
  The statement TickTwice: a node that knows one other greets it at both of two ticks, and has lost it then, if it had missed it before.
-/
import Derived.Test.YtghamcomjfholaaRows
import Derived.Test.YtghamcomjfholaaOpen
import Derived.Test.YtghamcomjfholaaTickMsg
import Derived.Test.YtghamcomjfholaaNodeCopy
import Derived.Test.YtghamcomjfholaaRowBox
import Derived.Deep.DeepCutAuto
import Derived.Deep.CutRange
import Derived.Deep.CutBlock
namespace Go.Proofs.Ytghamcomjfholaa.tickTwice
open Go.ChangeShapes Go.WideShapes Go.ChangeAt Go.RowKit
set_option linter.unusedVariables false

/-! ### The walk -/
theorem two_ok {p q : Int} (hp : plB p = true) (hq : plB q = true) (h : ¬ q = p) {m : Int} (hm : miB m = true) : okS p ([⟨q, m⟩], []) := by
  have h1 : psB p [⟨q, m⟩] = true := psB_iff.2 ⟨hp, by intro x hx; rw [List.mem_singleton.1 hx]; exact peB_iff.2 ⟨hq, h, hm⟩, by simp [Rise], by simp⟩
  exact vwB_iff.2 ⟨h1, (by decide : paB [] = true), by simp, by simp⟩
/-- One tick of a node that knows one other. -/
theorem two_tick {p q : Int} {s : VSt} (h : okS p s) (hk : ∀ x, Kn s x → x = q) (hz : s.1.length + s.2.length = 1) :
    tkG s = [q] ∧ okS p (tkS s) ∧ (∀ x, Kn (tkS s) x → x = q) ∧ (tkS s).1.length + (tkS s).2.length = 1 := by
  have h2 := tk_ok h
  have h3 : ∀ x, Kn (tkS s) x → x = q := fun x hx => hk x ((tk_kn h x).1 hx)
  have h4 := tkG_len h
  rw [hz] at h4
  obtain ⟨y, hy⟩ := List.length_eq_one_iff.1 h4
  have hm : y ∈ tkG s := by rw [hy]; simp
  have hy2 : y = q := by
    unfold tkG at hm
    rcases List.mem_append.1 hm with hm | hm
    · exact h3 y (.inr hm)
    · exact h3 y (.inl hm)
  exact ⟨by rw [hy, hy2], h2, h3, by have := tk_size h; simp only [szS] at this; omega⟩
theorem two_step {p q : Int} {s : VSt} (h : okS p s) (hg : tkG s = [q]) : tiE ⟨true, p, s.1, s.2, [], []⟩ = 0 ∧ tiN ⟨true, p, s.1, s.2, [], []⟩ = ⟨true, p, (tkS s).1, (tkS s).2, [], []⟩ ∧
    tiM ⟨true, p, s.1, s.2, [], []⟩ = [⟨0, p, q, nmL (tkS s).1, 0, ⟨0, 0, 0, 0, false⟩, false⟩] := by
  have hn : ndB ⟨true, p, s.1, s.2, [], []⟩ = true := by
    have hv : vwB p s.1 s.2 = true := h
    rw [ndB_up, hv, show stB [] = true by decide +kernel, show lgB [] = true by decide +kernel]
    rfl
  have e : (tkS (s.1, s.2)) = tkS s := rfl
  have e2 : (tkG (s.1, s.2)) = tkG s := rfl
  refine ⟨by simp [tiE, hn], by simp [tiN, hn], ?_⟩
  simp only [tiM, hn, Bool.and_self, if_pos, e, e2, hg]
  rfl
theorem two_left {q : Int} {r : Nat} (hr : r < 3) : (r = 0 ∧ (tkS (tkS ([⟨q, (r : Int)⟩], []))).1.length = 1) ∨ (¬ (r : Int) = 0 ∧ (tkS (tkS ([⟨q, (r : Int)⟩], []))).1.length = 0) := by
  have h3 : r = 0 ∨ r = 1 ∨ r = 2 := by omega
  rcases h3 with rfl | rfl | rfl
  · exact .inl ⟨rfl, by simp [tkS, agA, agP]⟩
  · exact .inr ⟨by decide, by simp [tkS, agA, agP]⟩
  · exact .inr ⟨by decide, by simp [tkS, agA, agP]⟩

set_option maxHeartbeats 8000000 in
theorem walk (a0 : Int) (a1 : Int) (a2 : Int) (w : World) (w0 : (Lit.int .i64 a0).wf = true) (w1 : (Lit.int .i64 a1).wf = true) (w2 : (Lit.int .i64 a2).wf = true) :
    Calls Try.prog 6 #[.int .i64 a0, .int .i64 a1, .int .i64 a2] w fun e w' => e = .returned (.bool true) ∧ Below w.heap.size w w' := by
  have e1 : bits .and .i64 a0 255 = a0 % 256 := and255 a0
  have e2 : bits .and .i64 a1 255 = a1 % 256 := and255 a1
  obtain ⟨p, hp⟩ : ∃ x, x = a0 % 256 := ⟨_, rfl⟩
  obtain ⟨q, hq⟩ : ∃ x, x = a1 % 256 := ⟨_, rfl⟩
  have hp1 : plB p = true := plB_mk (by omega) (by omega)
  have hq1 : plB q = true := plB_mk (by omega) (by omega)
  rw [← hp] at e1
  rw [← hq] at e2
  obtain ⟨r3, h3⟩ : ∃ r : Nat, r = (a2 % 18446744073709551616).toNat % 3 := ⟨_, rfl⟩
  have e3 : (IntKind.u64.wrap a2).tmod 3 = (r3 : Int) := rem_u64 a2 3 r3 h3
  have hr3 : r3 < 3 := by omega
  have y7 : IntKind.i64.wrap (r3 : Int) = (r3 : Int) := by rw [IntKind.wrap_i64]; omega
  clear h3 hp hq w0 w1 w2
  have hB := toHid (Below.refl w.heap.size w)
  by_cases hpq : p = q
  · clear hp1 hq1 e3 hr3 y7
    go_enter Try.func6, Try.ntmps6
    go_wp2_with (go_at_call 7; refine (awake19_any _).mono ?_; rintro e w1 ⟨rfl, h1⟩)
    go_ret
    exact ⟨rfl, hB.out.on h1⟩
  · have hpq2 : (p == q) = false := by simpa using hpq
    have hok := toHid (two_ok hp1 hq1 (fun e => hpq e.symm) (m := (r3 : Int)) (by simp [miB]; omega))
    have t1 := toHid (two_tick hok.out (q := q) (by intro x hx; simpa [Kn, nmL] using hx) rfl)
    have t2 := toHid (two_tick t1.out.2.1 t1.out.2.2.1 t1.out.2.2.2)
    have u1 := toHid (two_step hok.out t1.out.1)
    have u2 := toHid (two_step t1.out.2.1 t2.out.1)
    have lf := toHid (two_left (q := q) hr3)
    have sz2 := toHid t2.out.2.2.2
    obtain ⟨s1, hs1⟩ : ∃ x, tkS ([⟨q, (r3 : Int)⟩], []) = x := ⟨_, rfl⟩
    rw [hs1] at u1 u2 lf sz2
    obtain ⟨s2, hs2⟩ : ∃ x, tkS s1 = x := ⟨_, rfl⟩
    rw [hs2] at u2 lf sz2
    clear t1 t2 hok hs1 hs2 hp1 hq1
    have HA := toHid (fun (W : World) (p' q' r' s' : Value) (lo hi : Nat) (N : NdAt lo hi W p' q' r' s' [⟨q, (r3 : Int)⟩] [] [] []) (hh : hi ≤ W.heap.size) => tStep_at true p N hh u1.out.1 u1.out.2.1 u1.out.2.2)
    have HB := toHid (fun (W : World) (p' q' r' s' : Value) (lo hi : Nat) (N : NdAt lo hi W p' q' r' s' s1.1 s1.2 [] []) (hh : hi ≤ W.heap.size) => tStep_at true p N hh u2.out.1 u2.out.2.1 u2.out.2.2)
    clear u1 u2 hr3
    go_enter Try.func6, Try.ntmps6
    go_upto_region 7 with (go_at_call 7; refine (awake19_any _).mono ?_; rintro e w1 ⟨rfl, h1⟩)
    have k1 := toHid (((hB.out.on h1).onA (.cells #[.int .i64 q, .int .i64 r3] 51)).onA (.cells #[.bool true, .int .i64 p, .slice (some ⟨w1.heap.size, 0, none⟩) 1 1, .slice none 0 0, .slice none 0 0, .slice none 0 0] 30))
    have BX := toHid (Box.new1 w1 (.cells #[.int .i64 q, .int .i64 r3] 51) #[.bool true, .int .i64 p, .slice (some ⟨w1.heap.size, 0, none⟩) 1 1, .slice none 0 0, .slice none 0 0, .slice none 0 0] 30)
    have N0 := toHid (show NdAt 0 (w1.heap.size + 1) ((w1.alloc (.cells #[.int .i64 q, .int .i64 r3] 51)).alloc (.cells #[.bool true, .int .i64 p, .slice (some ⟨w1.heap.size, 0, none⟩) 1 1, .slice none 0 0, .slice none 0 0, .slice none 0 0] 30)) (.slice (some ⟨w1.heap.size, 0, none⟩) 1 1) (.slice none 0 0) (.slice none 0 0) (.slice none 0 0) [⟨q, (r3 : Int)⟩] [] [] [] from ⟨⟨(Box.rowP [⟨q, (r3 : Int)⟩] ((Box.new w1 #[.int .i64 q, .int .i64 r3] 51).alloc (.cells #[.bool true, .int .i64 p, .slice (some ⟨w1.heap.size, 0, none⟩) 1 1, .slice none 0 0, .slice none 0 0, .slice none 0 0] 30)) rfl rfl (show 1 ≤ maxLen by decide)).wide (Nat.zero_le _) (Nat.le_refl _), RowI.nil0⟩, RowC.nil0, RowC.nil0⟩)
    have z0 : Hid (w1.heap.size + 1 ≤ ((w1.alloc (.cells #[.int .i64 q, .int .i64 r3] 51)).alloc (.cells #[.bool true, .int .i64 p, .slice (some ⟨w1.heap.size, 0, none⟩) 1 1, .slice none 0 0, .slice none 0 0, .slice none 0 0] 30)).heap.size) := toHid (by simp)
    clear h1 hB
    generalize (w1.alloc (.cells #[.int .i64 q, .int .i64 r3] 51)).alloc (.cells #[.bool true, .int .i64 p, .slice (some ⟨w1.heap.size, 0, none⟩) 1 1, .slice none 0 0, .slice none 0 0, .slice none 0 0] 30) = W1 at k1 BX N0 z0 ⊢
    obtain ⟨x1, x2, x3⟩ := BX.out
    go_upto_region 8 with (go_at_call 10; refine (HA.out _ _ _ _ _ _ _ N0.out z0.out).mono ?_; rintro e w2 ⟨a5, c5, a6, c6, a7, c7, a8, c8, b9, d9, m9, rfl, N1, O1, -, v2, h2⟩)
    clear x1 x2 x3 BX N0 z0 HA
    have k2 := toHid ((k1.out.on h2).onA (.cells #[.bool true, .int .i64 p, .slice a5 s1.1.length c5, .slice a6 s1.2.length c6, .slice a7 ([] : List It).length c7, .slice a8 ([] : List Te).length c8] 30))
    have BT := toHid (Box.new w2 #[.bool true, .int .i64 p, .slice a5 s1.1.length c5, .slice a6 s1.2.length c6, .slice a7 ([] : List It).length c7, .slice a8 ([] : List Te).length c8] 30)
    have N1a := toHid (N1.alloc (.cells #[.bool true, .int .i64 p, .slice a5 s1.1.length c5, .slice a6 s1.2.length c6, .slice a7 ([] : List It).length c7, .slice a8 ([] : List Te).length c8] 30))
    have RM1 := toHid (O1.alloc (.cells #[.bool true, .int .i64 p, .slice a5 s1.1.length c5, .slice a6 s1.2.length c6, .slice a7 ([] : List It).length c7, .slice a8 ([] : List Te).length c8] 30)).row
    have z1 : Hid (m9 ≤ (w2.alloc (.cells #[.bool true, .int .i64 p, .slice a5 s1.1.length c5, .slice a6 s1.2.length c6, .slice a7 ([] : List It).length c7, .slice a8 ([] : List Te).length c8] 30)).heap.size) := toHid (Nat.le_trans v2 (by simp))
    clear N1 O1 v2 h2 k1
    generalize w2.alloc (.cells #[.bool true, .int .i64 p, .slice a5 s1.1.length c5, .slice a6 s1.2.length c6, .slice a7 ([] : List It).length c7, .slice a8 ([] : List Te).length c8] 30) = W2 at k2 BT N1a RM1 z1 ⊢
    obtain ⟨x1, x2, x3⟩ := BT.out
    go_upto_region 9 with (go_at_call 10; refine (HB.out _ _ _ _ _ _ _ N1a.out z1.out).mono ?_; rintro e w3 ⟨b5, d5, b6, d6, b7, d7, b8, d8, b10, d10, m10, rfl, N2, O2, -, v3, h3⟩)
    clear x1 x2 x3 BT N1a z1 HB
    have h3' := h3.onA (.cells #[.bool true, .int .i64 p, .slice b5 s2.1.length d5, .slice b6 s2.2.length d6, .slice b7 ([] : List It).length d7, .slice b8 ([] : List Te).length d8] 30)
    have k3 := toHid (k2.out.on h3')
    have BZ := toHid (Box.new w3 #[.bool true, .int .i64 p, .slice b5 s2.1.length d5, .slice b6 s2.2.length d6, .slice b7 ([] : List It).length d7, .slice b8 ([] : List Te).length d8] 30)
    have RM2 := toHid (O2.alloc (.cells #[.bool true, .int .i64 p, .slice b5 s2.1.length d5, .slice b6 s2.2.length d6, .slice b7 ([] : List It).length d7, .slice b8 ([] : List Te).length d8] 30)).row
    replace RM1 := toHid (RM1.out.below h3' (Nat.le_refl _))
    clear N2 O2 v3 h3 k2 h3'
    generalize w3.alloc (.cells #[.bool true, .int .i64 p, .slice b5 s2.1.length d5, .slice b6 s2.2.length d6, .slice b7 ([] : List It).length d7, .slice b8 ([] : List Te).length d8] 30) = W3 at k3 BZ RM1 RM2 ⊢
    obtain ⟨p2, q2, ev2, -, f2⟩ := RM1.out.at
    cases ev2
    obtain ⟨mb, mo, rfl, -, hmb, mm⟩ := f2 (by simp)
    obtain ⟨⟨n0, g0, v0, i0, j0, l0, y0, r0⟩, em0, cm0, -⟩ := mm 0 (by simp)
    have em0' : (⟨n0, g0, v0, i0, j0, l0, y0⟩ : Mg) = ⟨0, p, q, nmL s1.1, 0, ⟨0, 0, 0, 0, false⟩, false⟩ := em0
    cases em0'
    have d1 : W3.cell? ⟨mb, mo + 1, none⟩ = some (.int .i64 p) := cm0 1 (by decide)
    have d2 : W3.cell? ⟨mb, mo + 2, none⟩ = some (.int .i64 q) := cm0 2 (by decide)
    obtain ⟨p3, q3, ev3, -, f3⟩ := RM2.out.at
    cases ev3
    obtain ⟨nb, no, rfl, -, hnb, nn⟩ := f3 (by simp)
    obtain ⟨⟨n1, g1, v1, i1, j1, l1, y1, r1⟩, em1, cm1, -⟩ := nn 0 (by simp)
    have em1' : (⟨n1, g1, v1, i1, j1, l1, y1⟩ : Mg) = ⟨0, p, q, nmL s2.1, 0, ⟨0, 0, 0, 0, false⟩, false⟩ := em1
    cases em1'
    have d3 : W3.cell? ⟨nb, no + 2, none⟩ = some (.int .i64 q) := cm1 2 (by decide)
    have hl1 : (([⟨0, p, q, nmL s1.1, 0, ⟨0, 0, 0, 0, false⟩, false⟩] : List Mg).length : Int) = 1 := rfl
    have hl2 : (([⟨0, p, q, nmL s2.1, 0, ⟨0, 0, 0, 0, false⟩, false⟩] : List Mg).length : Int) = 1 := rfl
    clear cm0 cm1 mm nn f2 f3 em0 em1 RM1 RM2
    obtain ⟨x1, x2, x3⟩ := BZ.out
    have sz2' := sz2.out
    clear sz2 BZ
    rcases lf.out with ⟨hr0, hn⟩ | ⟨hr0, hn⟩
    · have hc1 : (s2.1.length : Int) = 1 := by omega
      have hc2 : (s2.2.length : Int) = 0 := by omega
      have hc3 : (r3 : Int) = 0 := by omega
      clear hr0 hn sz2' lf
      go_wp2_with (first
        | (go_at_call 12; refine (num_any _ _).mono ?_; rintro e w' ⟨rfl, hw'⟩; subst w')
        | (go_at_call 8; refine (gNode_any _).mono ?_; rintro e wg ⟨ga, gb, gc, rfl, -, hg⟩)
        | (rw [node_items _ _ _ _ _ _ _ ⟨_, _, _, rfl⟩]))
      go_ret
      exact ⟨rfl, k3.out.on hg⟩
    · have hc1 : (s2.1.length : Int) = 0 := by omega
      have hc2 : (s2.2.length : Int) = 1 := by omega
      have hc3 : ((r3 : Int) == 0) = false := by simpa using hr0
      clear hn sz2' lf
      go_wp2_with (first
        | (go_at_call 12; refine (num_any _ _).mono ?_; rintro e w' ⟨rfl, hw'⟩; subst w')
        | (go_at_call 8; refine (gNode_any _).mono ?_; rintro e wg ⟨ga, gb, gc, rfl, -, hg⟩)
        | (rw [node_items _ _ _ _ _ _ _ ⟨_, _, _, rfl⟩]))
      go_ret
      exact ⟨rfl, k3.out.on hg⟩

/-! ### The row's step -/
set_option maxRecDepth 100000 in
theorem lifted (os : Os) (started : os.Started) (H : Type) (enc : TypeId × Value → H) :
    ReturnsInHanded {} Try.checked os 6 .any (Rows.tickTwiceSpec.pre6 enc Try.prog Try.f6 Rows.tickTwiceRow.domain false) (Rows.tickTwiceSpec.post enc Try.prog Try.f6 false true false false) := by
  refine returnsInHanded_of_change_sized (C := Try.checked) ownK started (by kernel_rfl) Try.func6
    (ChangeSpec.witness6 (enc := enc) (C := Try.checked) false ⟨#[], #[.int .i64 0, .int .i64 0, .int .i64 0], []⟩ 8 (by kernel_rfl) (by kernel_rfl) (by kernel_rfl) (by kernel_rfl)) ?_
  intro W base args ds gs before hval0 hW hcnd hsz0 _
  have hsz : (DataW.weightsEach Try.prog (Try.f6.params.toList ++ Rows.tickTwiceSpec.plain.varTypes Try.prog) (ds ++ gs)).all (· ≤ reachBytes) = true := hsz0
  have hval : ∀ (j : Nat) t v, Try.f6.params[j]? = some t → args[j]? = some v → Value.okWide Try.prog W .any base t v := hval0
  have hW' := hW
  obtain ⟨p, q, hA0, hV, rfl, hfz, hnd⟩ := hW
  have hA : DataW.TrodAll enc Try.prog W 0 (fun _ => true) true Try.f6.params.toList args.toList ds p := hA0
  rw [Try.params6] at hA hval hsz
  obtain ⟨v0, vs0, d0, ds0, p0, q0, hargs, rfl, rfl, h0, r0⟩ := trodAll_cons hA
  obtain ⟨v1, vs1, d1, ds1, p1, q1, rfl, rfl, rfl, h1, r1⟩ := trodAll_cons r0
  obtain ⟨v2, vs2, d2, ds2, p2, q2, rfl, rfl, rfl, h2, r2⟩ := trodAll_cons r1
  obtain ⟨rfl, rfl, rfl⟩ := trodAll_nil r2
  obtain rfl : args = #[v0, v1, v2] := by cases args; simp_all
  obtain ⟨rfl, rfl⟩ := trodVars_none hV
  clear r0 r1 r2
  have k0 := h0
  have lt0 : ∀ x ∈ p0, x.block < W.heap.size := by obtain ⟨m, hm⟩ := k0; exact DataW.trod_lt m _ _ _ hm
  have k1 := h1
  have lt1 : ∀ x ∈ p1, x.block < W.heap.size := by obtain ⟨m, hm⟩ := k1; exact DataW.trod_lt m _ _ _ hm
  have k2 := h2
  have lt2 : ∀ x ∈ p2, x.block < W.heap.size := by obtain ⟨m, hm⟩ := k2; exact DataW.trod_lt m _ _ _ hm
  obtain ⟨a0, rfl, rfl, rfl, w0⟩ := open_int Try.underlying3 (hval 0 3 v0 rfl rfl) h0
  obtain ⟨a1, rfl, rfl, rfl, w1⟩ := open_int Try.underlying3 (hval 1 3 v1 rfl rfl) h1
  obtain ⟨a2, rfl, rfl, rfl, w2⟩ := open_int Try.underlying3 (hval 2 3 v2 rfl rfl) h2
  clear hA0 hval0
  refine (walk a0 a1 a2 W w0 w1 w2).mono fun e W' ⟨he, bel⟩ => ?_
  subst he
  exact ⟨_, rfl, _, _, _, [], _, [], hW', trodAll_mk1 (shut_bool Try.underlying4 _), (trodAll_cons_mk (Below.trod laidOut (by kernel_rfl) (of_decide_eq_true (by kernel_rfl)) k0 bel lt0) (trodAll_cons_mk (Below.trod laidOut (by kernel_rfl) (of_decide_eq_true (by kernel_rfl)) k1 bel lt1) (trodAll_cons_mk (Below.trod laidOut (by kernel_rfl) (of_decide_eq_true (by kernel_rfl)) k2 bel lt2) trodAll_mk0))), rfl, bel.frame _, fun h => by cases h⟩

theorem over : Rows.tickTwiceRow.holds Try.pinned (OpenSpec.ofChange Rows.tickTwiceSpec) :=
  OpenClaim.holds_of_wide 6 Try.f6 rfl rfl rfl rfl rfl rfl rfl ⟨rfl, rfl, rfl, rfl, rfl⟩ rfl rfl rfl rfl rfl (by kernel_rfl) Try.func6 (by kernel_rfl)
    (of_decide_eq_true (by kernel_rfl)) (by unfold Func.isWrapper; first | (rw [if_pos (by decide +kernel)]; kernel_rfl) | (rw [if_neg (by decide +kernel)]; exact ⟨rfl, rfl⟩))
    (fun os started H enc _ => lifted os started H enc)

end Go.Proofs.Ytghamcomjfholaa.tickTwice

namespace Go.Proofs.Ytghamcomjfholaa
/-- The statement, by its short name. -/
theorem tickTwice_holds : Rows.TickTwiceSaid := tickTwice.over
#print axioms tickTwice_holds
end Go.Proofs.Ytghamcomjfholaa
