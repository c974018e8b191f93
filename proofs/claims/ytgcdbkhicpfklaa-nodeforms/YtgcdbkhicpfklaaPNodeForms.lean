
/-
  The statement NodeForms: nine kinds of nodes that may not be are refused at any number; New refuses a place that is none and too many unlike ones, and takes the others; the node that is given may be.
-/
import Derived.Test.YtgcdbkhicpfklaaRows
import Derived.Test.YtgcdbkhicpfklaaOpen
import Derived.Test.YtgcdbkhicpfklaaNodeLaw
import Derived.Test.YtgcdbkhicpfklaaNodeLend
import Derived.Deep.DeepCutAuto
import Derived.Deep.CutRange
import Derived.Deep.CutBlock
namespace Go.Proofs.Ytgcdbkhicpfklaa.nodeForms
open Go.ChangeShapes Go.WideShapes Go.ChangeAt Go.RowKit
set_option linter.unusedVariables false

/-! ### The walk -/
theorem and127 (n : Int) : bits .and .i64 n 127 = n % 128 := by
  have h127 : (BitVec.ofInt 64 127).toNat = 2 ^ 7 - 1 := by decide
  have key : (BitVec.ofInt 64 n &&& BitVec.ofInt 64 127).toNat = (n % ((2 ^ 64 : Nat) : Int)).toNat % 2 ^ 7 := by
    rw [BitVec.toNat_and, BitVec.toNat_ofInt, h127, Nat.and_two_pow_sub_one_eq_mod]
  show IntKind.i64.wrap ((BitVec.ofInt 64 n &&& BitVec.ofInt 64 127).toNat : Nat) = n % 128
  rw [key, IntKind.wrap_i64]
  omega

/-- What the switch leaves: a node in a variable, which may not be. -/
def BadN (b lo : Nat) (w wx : World) : Prop := ∃ (up : Bool) (i : Int) (p q r s : Value) (ps : List Pe) (is : List Int) (ts : List It) (ls : List Te), Box wx b #[.bool up, .int .i64 i, p, q, r, s] ∧
  NdAt 0 wx.heap.size wx p q r s ps is ts ls ∧ ndB ⟨up, i, ps, is, ts, ls⟩ = false ∧ Below lo w wx

theorem bad_log {t : Te} (h : teB t = false) : ndB ⟨true, 100, gnP, [7], gnT, [t]⟩ = false := by
  simp [ndB, h]
theorem bad_long {n : Nat} (h : 64 < n) : ndB ⟨true, 100, gnP, [7], gnT, List.replicate n ⟨0, false, 0⟩⟩ = false := by
  have : ¬ n ≤ 64 := by omega
  simp [ndB, this]
theorem bad_none {i : Int} (h : plB i = false) : ndB ⟨false, i, [], [], [], []⟩ = false := by
  simp [ndB, h]
theorem noB {d : Int} (h : 0 ≤ d) : plB (255 + (1 + d)) = false := by simp [plB]; omega
theorem noC {d : Int} (h : 0 ≤ d) : plB (-(1 + d)) = false := by simp [plB]; omega

def fullF (m : Nat) : List Int := (List.range m).map fun (i : Nat) => 3 * (i : Int)
theorem fullF_next (m : Nat) : fullF (m + 1) = fullF m ++ [3 * (m : Int)] := by simp [fullF, List.range_succ]
theorem fullF_len (m : Nat) : (fullF m).length = m := by simp [fullF]

theorem nn_place {y : Int} {ids : List Int} (h : plB y = false) : nnR y ids = none := by simp [nnR, h]
theorem nn_two {z : Int} (h : plB z = false) : nnR 5 [6, z] = none := by
  have h1 : wiE [] 6 = 0 := by decide +kernel
  have h2 : wiL [] 6 = [6] := by decide +kernel
  have h3 : wiE [6] z = 800 := (wi_form (.inr h)).2
  have h4 : ¬ z = 5 := by rintro rfl; simp [plB] at h
  have h5 : plB 5 = true := by decide +kernel
  simp [nnR, h5, nnF, h1, h2, h3, h4]
theorem nn_full : nnR 200 (fullF 17) = none := by decide +kernel
theorem nn_most : nnR 3 (fullF 17) = some [0, 6, 9, 12, 15, 18, 21, 24, 27, 30, 33, 36, 39, 42, 45, 48] := by decide +kernel

set_option maxRecDepth 20000 in
set_option maxHeartbeats 8000000 in
theorem walk (a0 : Int) (a1 : Int) (w : World) (w0 : (Lit.int .i64 a0).wf = true) (w1 : (Lit.int .i64 a1).wf = true) :
    Calls Try.prog 4 #[.int .i64 a0, .int .i64 a1] w fun e w' => e = .returned (.bool true) ∧ Below w.heap.size w w' := by
  have ed : bits .and .i64 a1 1023 = a1 % 1024 := and1023 a1
  have e1 : bits .and .i64 a0 1 = a0 % 2 := and1 a0
  obtain ⟨d, hd⟩ : ∃ x, x = a1 % 1024 := ⟨_, rfl⟩
  have d0 : 0 ≤ d := by omega
  have d1 : d < 1024 := by omega
  rw [← hd] at ed
  have e127 : bits .and .i64 (1 + d) 127 = (1 + d) % 128 := and127 (1 + d)
  obtain ⟨x7, hx7⟩ : ∃ x, (1 + d) % 128 = x := ⟨_, rfl⟩
  have x0 : 0 ≤ x7 := by omega
  have x1 : x7 < 128 := by omega
  rw [hx7] at e127
  obtain ⟨r2, hr1⟩ : ∃ r : Nat, (r : Int) = a0 % 2 := ⟨(a0 % 2).toNat, by omega⟩
  have hr2 : r2 < 2 := by omega
  rw [← hr1] at e1
  obtain ⟨r9, h9⟩ : ∃ r : Nat, r = (a0 % 18446744073709551616).toNat % 9 := ⟨_, rfl⟩
  have e9 := toHid (rem_u64 a0 9 r9 h9)
  have hr9 : r9 < 9 := by omega
  obtain ⟨n, hn⟩ : ∃ n : Nat, (n : Int) = 64 + (1 + d) := ⟨(64 + (1 + d)).toNat, by omega⟩
  have hn1 : Hid (64 < n ∧ n ≤ 2000) := toHid (by omega)
  replace hn := toHid hn
  clear hd hr1 h9 w0 w1 hx7
  have e9' : (IntKind.u64.wrap a0).tmod 9 = (r9 : Int) := e9.out
  go_enter Try.func4, Try.ntmps4
  go_upto_block 0 with (first
    | (go_at_call 17; refine (awake16_any _).mono ?_; rintro e w1 ⟨rfl, h1⟩)
    | (go_at_call 18; refine (node100_any _).mono ?_; rintro e w2 ⟨a, b, c, rfl, N2, h2⟩
       have k2 := toHid (h1.on h2)
       clear h1 h2))
  clear e9 e9'
  have NN := toHid (fun o o' : Obj => ((N2.alloc o).alloc o').wide (Nat.zero_le _) (hi' := ((w2.alloc o).alloc o').heap.size) (by simp; omega))
  have N1 := toHid (fun o : Obj => (N2.alloc o).wide (Nat.zero_le _) (hi' := (w2.alloc o).heap.size) (by simp))
  replace N2 := toHid N2
  go_cut [] from 26 to 76 (fun wx => BadN w2.heap.size w2.heap.size w2 wx)
  case first =>
    have t1 := trivial
    match r9, hr9 with
    | 0, _ =>
      go_wp2
      go_meet
      exact ⟨true, 100, _, _, _, _, gnP, [90], gnT, [], (Box.new w2 _ _).alloc _, ⟨⟨(NN.out _ _).vw.ps, (Box.rowI [90] (Box.new1 w2 _ _ _) rfl rfl (by decide)).wide (Nat.zero_le _) (by simp)⟩, (NN.out _ _).ts, RowC.nil0⟩, by decide +kernel, ((Below.refl _ w2).onA _).onA _⟩
    | 1, _ =>
      go_wp2_with (first
        | (go_at_call 19; clear t1; refine (it_any _ _ _).mono ?_; rintro e w3 ⟨rfl, h3⟩)
        | (go_at_call 19; refine (it_any _ _ _).mono ?_; rintro e w4 ⟨rfl, h4⟩
           have k4 := h3.on h4
           have BX := (Box.new w2 _ _).below k4
           have N4 := toHid ((N2.out.alloc _).below k4 (by simp))
           have kk := toHid (((Below.refl _ w2).onA _).on k4)
           clear h3 h4 k4
           obtain ⟨b1, b2, b3⟩ := id BX))
      go_meet
      have ON := (Only.refl w2.heap.size (w2.heap.size + 1) w4).setCell (o := 4) (Nat.le_refl _) (Nat.lt_succ_self _) (.slice (some ⟨w4.heap.size, 0, none⟩) 2 2)
      have N5 := ((N4.out.only ON (.inl (Nat.le_refl _))).alloc (.cells #[.int .i64 9, .int .i64 1, .int .i64 1, .int .i64 1, .bool false, .int .i64 3, .int .i64 1, .int .i64 1, .int .i64 1, .bool false] 49)).wide (Nat.zero_le _) (hi' := w4.heap.size + 1) (by omega)
      exact ⟨true, 100, _, _, _, _, gnP, [7], [⟨9, 1, 1, 1, false⟩, ⟨3, 1, 1, 1, false⟩], [],
        (BX.setS (ys := #[.bool true, .int .i64 100, .slice a 3 3, .slice b 1 1, .slice (some ⟨w4.heap.size, 0, none⟩) 2 2, .slice none 0 0]) 4 _ (by simp) (by simp)).alloc _,
        NdAt.wide ⟨N5.vw, (Box.rowT [⟨9, 1, 1, 1, false⟩, ⟨3, 1, 1, 1, false⟩] (Box.newAt _ _ (World.size_setCell _ _ _).symm) rfl rfl (by decide)).wide (Nat.zero_le _) (Nat.le_refl _), RowC.nil0⟩ (Nat.le_refl _) (by simp), by decide +kernel,
        (kk.out.trans (ON.below)).onA _⟩
    | 2, _ =>
      go_wp2_with (at_make; refine make_tolds rfl _ _ rfl _ _ n rfl rfl (by have := hn.out; omega) (by have := hn.out; omega) (by have := hn1.out; omega) ?_; intro w4 R4 h4
                   have BX := (Box.new w2 _ _).below h4
                   have N4 := toHid ((N2.out.alloc _).below h4 (by simp))
                   have kk := toHid (((Below.refl _ w2).onA _).on h4)
                   simp only [World.size_alloc] at R4
                   replace R4 := toHid R4
                   clear h4
                   obtain ⟨b1, b2, b3⟩ := id BX)
      go_meet
      have ON := (Only.refl w2.heap.size (w2.heap.size + 1) w4).setCell (o := 5) (Nat.le_refl _) (Nat.lt_succ_self _) (.slice (some ⟨w2.heap.size + 1, 0, none⟩) n n)
      have N5 := (N4.out.only ON (.inl (Nat.le_refl _))).wide (Nat.zero_le _) (hi' := w4.heap.size) (by omega)
      exact ⟨true, 100, _, _, _, _, gnP, [7], gnT, List.replicate n ⟨0, false, 0⟩,
        BX.setS (ys := #[.bool true, .int .i64 100, .slice a 3 3, .slice b 1 1, .slice c 3 3, .slice (some ⟨w2.heap.size + 1, 0, none⟩) n n]) 5 _ (by simp) (by simp),
        NdAt.wide ⟨N5.vw, N5.ts, (R4.out.only ON (.inr (Nat.le_refl _))).wide (Nat.zero_le _) (Nat.le_refl _)⟩ (Nat.le_refl _) (Nat.le_of_eq ON.size.symm), bad_long hn1.out.1, kk.out.trans ON.below⟩
    | 3, _ =>
      go_wp2
      go_meet
      exact ⟨true, 100, _, _, _, _, gnP, [7], gnT, [⟨255 + (1 + d), false, 0⟩], (Box.new w2 _ _).alloc _, ⟨(NN.out _ _).vw, (NN.out _ _).ts, (Box.rowE [⟨255 + (1 + d), false, 0⟩] (Box.new1 w2 _ _ _) rfl rfl (by simp [maxLen])).wide (Nat.zero_le _) (by simp)⟩, bad_log (by simp [teB, noB d0]), ((Below.refl _ w2).onA _).onA _⟩
    | 4, _ =>
      go_wp2
      go_meet
      exact ⟨true, 100, _, _, _, _, gnP, [7], gnT, [⟨0, true, -(1 + d)⟩], (Box.new w2 _ _).alloc _, ⟨(NN.out _ _).vw, (NN.out _ _).ts, (Box.rowE [⟨0, true, -(1 + d)⟩] (Box.new1 w2 _ _ _) rfl rfl (by simp [maxLen])).wide (Nat.zero_le _) (by simp)⟩, bad_log (by simp [teB, noC d0]), ((Below.refl _ w2).onA _).onA _⟩
    | 5, _ =>
      go_wp2
      go_meet
      exact ⟨true, 100, _, _, _, _, gnP, [7], gnT, [⟨0, false, 1 + x7⟩], (Box.new w2 _ _).alloc _, ⟨(NN.out _ _).vw, (NN.out _ _).ts, (Box.rowE [⟨0, false, 1 + x7⟩] (Box.new1 w2 _ _ _) rfl rfl (by simp [maxLen])).wide (Nat.zero_le _) (by simp)⟩, bad_log (by simp [teB]; omega), ((Below.refl _ w2).onA _).onA _⟩
    | 6, _ =>
      go_wp2
      go_meet
      exact ⟨false, 100, _, _, _, _, gnP, [7], gnT, [], Box.new w2 _ _, N1.out _, by decide +kernel, (Below.refl _ w2).onA _⟩
    | 7, _ =>
      go_wp2
      go_meet
      exact ⟨false, -(1 + d), _, _, _, _, [], [], [], [], Box.new w2 _ _, NdAt.nil0, bad_none (noC d0), (Below.refl _ w2).onA _⟩
    | 8, _ =>
      go_wp2
      go_meet
      exact ⟨false, 5, _, _, _, _, [], [7], [], [], (Box.new w2 _ _).alloc _, NdAt.ofI ((Box.rowI [7] (Box.new1 w2 _ _ _) rfl rfl (by decide)).wide (Nat.zero_le _) (by simp)), by decide +kernel, ((Below.refl _ w2).onA _).onA _⟩
  case rest =>
    obtain ⟨up, i, p, q, r, s, ps, is, ts, ls, BX, NX, hbad, hB⟩ := hcut
    clear N2 NN N1 hn hn1 hr9 e127 x0 x1
    obtain ⟨qa, qc, qa', qc', qa2, qc2, qa3, qc3, rfl, rfl, rfl, rfl⟩ := NX.shape
    replace BX := toHid BX
    replace NX := toHid NX
    replace hbad := toHid hbad
    have hk := toHid (k2.out.on hB)
    clear hB k2
    go_wp2
    go_loopw [7, 8] (fun o j wr => ∃ m : Nat, m ≤ 17 ∧ j = .int .i64 m ∧ Hid (wr.ownsRow wc.heap.size 3 1 o m ((fullF m).map (Value.int .i64))) ∧ Below wc.heap.size wc wr) (fun _ j _ => 17 - (intOf j).toNat)
    case atStart => exact ⟨0, Nat.zero_le _, rfl, toHid ⟨rfl, .inl ⟨rfl, rfl⟩⟩, Below.refl _ _⟩
    case round =>
      obtain ⟨m, hm, rfl, own, hbr⟩ := hrel
      by_cases hlt : m < 17
      · have hlt' : (m : Int) < 17 := by omega
        have hsz := hbr.size
        go_wp2_with (at_builtin; refine app_ints rfl (.tmp 81) (.tmp 84) rfl wc.heap.size _ m (fullF m) rfl (own.out.alloc _) ⟨wr.heap.size, 0, none⟩ 1 1 [3 * (m : Int)] rfl rfl (fun j hj => ?_) (by omega) (by simp; omega) ?_; · (match j, hj with | 0, _ => simp [Addr.add]))
        intro v' w3 hown' hgr hbel'
        have R : w3.ownsRow wc.heap.size 3 1 v' (m + 1) ((fullF (m + 1)).map (Value.int .i64)) ∧ Below wc.heap.size wc w3 :=
          ⟨by rw [fullF_next]; simpa using hown', (hbr.onA _).trans hbel'⟩
        clear hown' hgr hbel' own
        go_wp2
        go_roundw
        case rel => exact ⟨m + 1, by omega, by go_num, toHid R.1, R.2⟩
        case measure => simp [intOf]; omega
      · obtain rfl : m = 17 := by omega
        have M1 := toHid (RowI.of_owns own.out)
        obtain ⟨am, cm, em, -⟩ := M1.out
        rw [fullF_len] at em
        subst em
        have kr := toHid hbr
        have kw := toHid (Below.refl wr.heap.size wr)
        clear own hm hlt hbr
        obtain ⟨y, hy, hyb⟩ : ∃ y : Int, ([.int .i64 (-(1 + d)), .int .i64 (255 + (1 + d))] : List Value)[r2]'(by simpa using hr2) = .int .i64 y ∧ Hid (plB y = false) := by
          match r2, hr2 with
          | 0, _ => exact ⟨_, rfl, toHid (by simp [plB]; omega)⟩
          | 1, _ => exact ⟨_, rfl, toHid (by simp [plB]; omega)⟩
        have k2 : (r2 : Int) < 2 := by omega
        have hz : Hid (plB (255 + (1 + d)) = false) := toHid (noB d0)
        have t1 := trivial
        have t2 := trivial
        have t3 := trivial
        have t4 := trivial
        have t5 := trivial
        go_wp2_with (first
          | (go_at_call 9; clear t1; refine (nNew_none (lo := 0) (hi := 0) (ids := []) RowI.nil0 (Nat.zero_le _) (nn_place hyb.out)).mono ?_; rintro e w3 ⟨u3, rfl, r3, h3⟩
             obtain ⟨q3, d3, rfl, -⟩ := id r3.cap
             replace kw := toHid ((kw.out.onA _).on h3)
             clear r3 h3)
          | (go_at_call 9; clear t2; refine (nNew_none (Box.rowI [6, 255 + (1 + d)] (Box.new1 w3 _ #[.int .i64 6, .int .i64 (255 + (1 + d))] 3) rfl rfl (by simp [maxLen])) (by simp) (nn_two hz.out)).mono ?_; rintro e w4 ⟨u4, rfl, r4, h4⟩
             obtain ⟨q4, d4, rfl, -⟩ := id r4.cap
             replace kw := toHid (((kw.out.onA _).onA _).on h4)
             clear r4 h4)
          | (go_at_call 9; clear t3; refine (nNew_none ((M1.out.below (kw.out.onA _) (Nat.le_refl _))) (kw.out.onA _).size nn_full).mono ?_; rintro e w5 ⟨u5, rfl, r5, h5⟩
             obtain ⟨q5, d5, rfl, -⟩ := id r5.cap
             replace kw := toHid ((kw.out.onA _).on h5)
             clear r5 h5)
          | (go_at_call 9; clear t4; refine (nNew_yes ((M1.out.below (kw.out.onA _) (Nat.le_refl _))) (kw.out.onA _).size nn_most).mono ?_; rintro e w6 ⟨u6, rfl, r6, h6⟩
             obtain ⟨q6, d6, rfl, -⟩ := id r6.cap
             have A6 := toHid (fun (cs : Array Value) (t : TypeId) => Box.new w6 cs t)
             have kc := toHid (kr.out.on ((kw.out.onA _).on h6))
             clear r6 h6 kw kr M1)
          | (go_at_call 18; refine (node100_any _).mono ?_; rintro e w7 ⟨x, z, v, rfl, N7, h7⟩
             have A7 := toHid ((A6.out _ _).below h7)
             replace kc := toHid ((kc.out.onA _).on h7)
             clear A6 h7)
          | (go_at_call 13; clear t5; refine (nMay_is (x := true) N7 (Nat.le_refl _) (by decide +kernel)).mono ?_; rintro e w8 ⟨rfl, h8⟩
             have A8 := toHid (A7.out.below h8)
             replace kc := toHid (kc.out.on h8)
             obtain ⟨b1, b2, b3⟩ := BX.out.below kc.out
             clear N7 A7 h8)
          | (go_at_call 13; refine (nMay_is (NX.out.below kc.out (Nat.le_refl _)) kc.out.size hbad.out).mono ?_; rintro e w9 ⟨rfl, h9⟩
             clear b1 b2 b3
             obtain ⟨a1', a2', a3'⟩ := A8.out.below h9
             replace kc := toHid (kc.out.on h9)
             clear A8 h9)
          | (go_at_call 12; refine (num_any _ _).mono ?_; rintro e w' ⟨rfl, hw'⟩; subst w'))
        go_ret
        exact ⟨rfl, hk.out.on kc.out⟩

/-! ### The row's step -/
set_option maxRecDepth 100000 in
theorem lifted (os : Os) (started : os.Started) (H : Type) (enc : TypeId × Value → H) :
    ReturnsInHanded {} Try.checked os 4 .any (Rows.nodeFormsSpec.pre6 enc Try.prog Try.f4 Rows.nodeFormsRow.domain false) (Rows.nodeFormsSpec.post enc Try.prog Try.f4 false true false false) := by
  refine returnsInHanded_of_change_sized (C := Try.checked) ownK started (by kernel_rfl) Try.func4
    (ChangeSpec.witness6 (enc := enc) (C := Try.checked) false ⟨#[], #[.int .i64 0, .int .i64 0], []⟩ 8 (by kernel_rfl) (by kernel_rfl) (by kernel_rfl) (by kernel_rfl)) ?_
  intro W base args ds gs before hval0 hW hcnd hsz0 _
  have hsz : (DataW.weightsEach Try.prog (Try.f4.params.toList ++ Rows.nodeFormsSpec.plain.varTypes Try.prog) (ds ++ gs)).all (· ≤ reachBytes) = true := hsz0
  have hval : ∀ (j : Nat) t v, Try.f4.params[j]? = some t → args[j]? = some v → Value.okWide Try.prog W .any base t v := hval0
  have hW' := hW
  obtain ⟨p, q, hA0, hV, rfl, hfz, hnd⟩ := hW
  have hA : DataW.TrodAll enc Try.prog W 0 (fun _ => true) true Try.f4.params.toList args.toList ds p := hA0
  rw [Try.params4] at hA hval hsz
  obtain ⟨v0, vs0, d0, ds0, p0, q0, hargs, rfl, rfl, h0, r0⟩ := trodAll_cons hA
  obtain ⟨v1, vs1, d1, ds1, p1, q1, rfl, rfl, rfl, h1, r1⟩ := trodAll_cons r0
  obtain ⟨rfl, rfl, rfl⟩ := trodAll_nil r1
  obtain rfl : args = #[v0, v1] := by cases args; simp_all
  obtain ⟨rfl, rfl⟩ := trodVars_none hV
  clear r0 r1
  have k0 := h0
  have lt0 : ∀ x ∈ p0, x.block < W.heap.size := by obtain ⟨m, hm⟩ := k0; exact DataW.trod_lt m _ _ _ hm
  have k1 := h1
  have lt1 : ∀ x ∈ p1, x.block < W.heap.size := by obtain ⟨m, hm⟩ := k1; exact DataW.trod_lt m _ _ _ hm
  obtain ⟨a0, rfl, rfl, rfl, w0⟩ := open_int Try.underlying3 (hval 0 3 v0 rfl rfl) h0
  obtain ⟨a1, rfl, rfl, rfl, w1⟩ := open_int Try.underlying3 (hval 1 3 v1 rfl rfl) h1
  clear hA0 hval0
  refine (walk a0 a1 W w0 w1).mono fun e W' ⟨he, bel⟩ => ?_
  subst he
  exact ⟨_, rfl, _, _, _, [], _, [], hW', trodAll_mk1 (shut_bool Try.underlying4 _), (trodAll_cons_mk (Below.trod laidOut (by kernel_rfl) (of_decide_eq_true (by kernel_rfl)) k0 bel lt0) (trodAll_cons_mk (Below.trod laidOut (by kernel_rfl) (of_decide_eq_true (by kernel_rfl)) k1 bel lt1) trodAll_mk0)), rfl, bel.frame _, fun h => by cases h⟩

theorem over : Rows.nodeFormsRow.holds Try.pinned (OpenSpec.ofChange Rows.nodeFormsSpec) :=
  OpenClaim.holds_of_wide 4 Try.f4 rfl rfl rfl rfl rfl rfl rfl ⟨rfl, rfl, rfl, rfl, rfl⟩ rfl rfl rfl rfl rfl (by kernel_rfl) Try.func4 (by kernel_rfl)
    (of_decide_eq_true (by kernel_rfl)) (by unfold Func.isWrapper; first | (rw [if_pos (by decide +kernel)]; kernel_rfl) | (rw [if_neg (by decide +kernel)]; exact ⟨rfl, rfl⟩))
    (fun os started H enc _ => lifted os started H enc)

end Go.Proofs.Ytgcdbkhicpfklaa.nodeForms

namespace Go.Proofs.Ytgcdbkhicpfklaa
/-- The statement, by its short name. -/
theorem nodeForms_holds : Rows.NodeFormsSaid := nodeForms.over
#print axioms nodeForms_holds
end Go.Proofs.Ytgcdbkhicpfklaa
