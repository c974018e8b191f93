
/-
  The statement NodeNew: at any place (a number's low byte) and any places (the first fourteen numbers' low bytes), a new node is up, knows no peer, holds nothing, may be by both answers, and has lost just whom it is told, but itself.
-/
import Derived.Test.YtgcdbkhicpfklaaRows
import Derived.Test.YtgcdbkhicpfklaaOpen
import Derived.Test.YtgcdbkhicpfklaaNodeLaw
import Derived.Test.YtgcdbkhicpfklaaNodeLend
import Derived.Deep.DeepCutAuto
import Derived.Deep.CutRange
import Derived.Deep.CutBlock
namespace Go.Proofs.Ytgcdbkhicpfklaa.nodeNew
open Go.ChangeShapes Go.WideShapes Go.ChangeAt Go.RowKit
set_option linter.unusedVariables false

/-! ### The walk -/
theorem nnF_all {i : Int} : ∀ (xs acc : List Int), paB acc = true → plsB xs = true → acc.length + xs.length ≤ 16 → ∃ L, nnF i acc xs = some L ∧ paB L = true ∧ (∀ x, x ∈ L ↔ x ∈ acc ∨ (x ∈ xs ∧ ¬ x = i)) ∧ L.length ≤ acc.length + xs.length
  | [], acc, h, _, _ => ⟨acc, rfl, h, fun x => by simp, Nat.le_add_right _ _⟩
  | x :: xs, acc, h, hp, hl => by
    have hp' : plsB xs = true := plsB_mk fun y hy => plsB_mem hp y (List.mem_cons_of_mem _ hy)
    have hx : plB x = true := plsB_mem hp x List.mem_cons_self
    rw [List.length_cons] at hl
    by_cases e : x = i
    · obtain ⟨L, h1, h2, h3, h4⟩ := nnF_all xs acc h hp' (by omega)
      refine ⟨L, by rw [nnF, if_pos e]; exact h1, h2, fun y => ?_, by rw [List.length_cons]; omega⟩
      rw [h3, List.mem_cons]
      constructor
      · rintro (h | ⟨h, h'⟩)
        · exact .inl h
        · exact .inr ⟨.inr h, h'⟩
      · rintro (h | ⟨h | h, h'⟩)
        · exact .inl h
        · exact absurd (h.trans e) h'
        · exact .inr ⟨h, h'⟩
    · have hup := (paB_iff.1 h).2.2
      have hle := wi_le (d := x) hup
      have h16 : (wiI acc x).length ≤ 16 := by omega
      obtain ⟨k1, k2⟩ := wi_ok h hx h16
      obtain ⟨L, h1, h2, h3, h4⟩ := nnF_all xs (wiI acc x) (wi_pa h hx h16) hp' (by omega)
      refine ⟨L, by rw [nnF, if_neg e, if_pos k2, k1]; exact h1, h2, fun y => ?_, by rw [List.length_cons]; omega⟩
      rw [h3, wi_mem, List.mem_cons]
      constructor
      · rintro ((h | h) | ⟨h, h'⟩)
        · exact .inr ⟨.inl h, h ▸ e⟩
        · exact .inl h
        · exact .inr ⟨.inr h, h'⟩
      · rintro (h | ⟨h | h, h'⟩)
        · exact .inl (.inr h)
        · exact .inl (.inl h)
        · exact .inr ⟨h, h'⟩

/-- The first numbers' low bytes. -/
def lowB (xs : List Int) (m : Nat) : List Int := (xs.take m).map (· % 256)
theorem lowB_next {xs : List Int} {m : Nat} (h : m < xs.length) : lowB xs (m + 1) = lowB xs m ++ [xs[m] % 256] := by
  unfold lowB
  rw [List.take_add_one, List.getElem?_eq_getElem h, List.map_append]
  rfl
theorem lowB_len {xs : List Int} {m : Nat} (h : m ≤ xs.length) : (lowB xs m).length = m := by simp [lowB, h]
theorem lowB_pls (xs : List Int) (m : Nat) : plsB (lowB xs m) = true := plsB_mk fun x hx => by
  obtain ⟨y, -, rfl⟩ := List.mem_map.1 hx
  exact plB_mk (by omega) (by omega)

/-- Who is new has lost just whom it is told. -/
theorem new_all {k : Int} {xs : List Int} (hk : plB k = true) (hp : plsB xs = true) (hl : xs.length ≤ 14) :
    ∃ L, nnR k xs = some L ∧ (∀ x, x ∈ L ↔ x ∈ xs ∧ ¬ x = k) ∧ L.length ≤ xs.length ∧ ndB ⟨true, k, [], L, [], []⟩ = true := by
  obtain ⟨L, h1, h2, h3, h4⟩ := nnF_all (i := k) xs [] (by decide +kernel) hp (by simp; omega)
  have h3' : ∀ x, x ∈ L ↔ x ∈ xs ∧ ¬ x = k := fun x => by rw [h3]; simp
  refine ⟨L, by simp [nnR, hk, h1], h3', by simpa using h4, ?_⟩
  have hv : vwB k [] L = true := by
    rw [vwB_iff]
    refine ⟨by rw [psB_iff]; simp [hk], h2, by simpa using (paB_iff.1 h2).1, fun y hy => ?_⟩
    have := (h3' y).1 hy
    simpa [idL, nmL] using this.2
  have hs : stB [] = true := by decide +kernel
  simp [ndB, hv, hs]

set_option maxRecDepth 20000 in
set_option maxHeartbeats 8000000 in
theorem walk (a0 : Int) (v1 : Value) (x1 : List Int) (w : World) (w0 : (Lit.int .i64 a0).wf = true) (r1 : RowI 0 w.heap.size w v1 x1) (s1 : x1.length * 8 ≤ 140737488351232) (w1 : ∀ x ∈ x1, (Lit.int .i64 x).wf = true) :
    Calls Try.prog 5 #[.int .i64 a0, v1] w fun e w' => e = .returned (.bool true) ∧ Below w.heap.size w w' := by
  have e0 : bits .and .i64 a0 255 = a0 % 256 := and255 a0
  obtain ⟨k, hk⟩ : ∃ k, a0 % 256 = k := ⟨_, rfl⟩
  have hkp : Hid (plB k = true) := toHid (plB_mk (by omega) (by omega))
  rw [hk] at e0
  clear hk w0 w1
  have hn := r1.max
  unfold maxLen at hn
  have R0 := toHid r1
  obtain ⟨p, c, rfl, -⟩ := r1.cap
  clear r1
  go_enter Try.func5, Try.ntmps5
  go_upto_block 0 with (first
    | (go_at_call 17; refine (awake16_any _).mono ?_; rintro e w1 ⟨rfl, h1⟩))
  go_cut [6, 7] from 17 to 34 (fun v6 v7 wx => ∃ m : Nat, m ≤ x1.length ∧ m ≤ 14 ∧ Hid (wx.ownsRow w1.heap.size 3 1 v6 m ((lowB x1 m).map (Value.int .i64))) ∧ Below w1.heap.size w1 wx)
  case first =>
    go_wp2
    go_loopw [6, 7] (fun o j wr => ∃ m : Nat, m ≤ x1.length ∧ m ≤ 14 ∧ j = .int .i64 m ∧ Hid (wr.ownsRow w1.heap.size 3 1 o m ((lowB x1 m).map (Value.int .i64))) ∧ Below w1.heap.size w1 wr) (fun _ j _ => 14 - (intOf j).toNat)
    case atStart => exact ⟨0, Nat.zero_le _, Nat.zero_le _, rfl, toHid ⟨rfl, .inl ⟨rfl, rfl⟩⟩, Below.refl _ _⟩
    case round =>
      obtain ⟨m, hm, h14, rfl, own, hbr⟩ := hrel
      by_cases hlt : m < x1.length
      · have hlt' : (m : Int) < (x1.length : Int) := by omega
        by_cases hl4 : m < 14
        · have hl4' : (m : Int) < 14 := by omega
          have hsz := hbr.size
          have hm0 : 0 ≤ (m : Int) := by omega
          obtain ⟨p3, c3, ev, -, -, hp3⟩ := (R0.out.below h1 (Nat.le_refl _)).below hbr h1.size
          cases ev
          obtain ⟨bb, off, rfl, -, hbb, hc⟩ := hp3 (by intro e; rw [e] at hlt; cases hlt)
          have cx := (hc m hlt).1
          have hN := lowB_next hlt
          have cx2 : wr.cell? ⟨bb, off + m, none⟩ = some (.int .i64 x1[m]) := by rw [cx]; simp [List.getD, List.getElem?_eq_getElem hlt]
          generalize x1[m] = z at cx2 hN
          have ez : bits .and .i64 z 255 = z % 256 := and255 z
          clear cx hc hp3
          replace hN := toHid hN
          go_wp2_with (at_builtin; refine app_ints rfl (.tmp 27) (.tmp 33) rfl w1.heap.size _ m (lowB x1 m) rfl (own.out.alloc _) ⟨wr.heap.size, 0, none⟩ 1 1 [z % 256] rfl rfl (fun j hj => ?_) (by omega) (by simp; omega) ?_; · (match j, hj with | 0, _ => simp [Addr.add]))
          intro v' w3 hown' hgr hbel'
          have R : w3.ownsRow w1.heap.size 3 1 v' (m + 1) ((lowB x1 (m + 1)).map (Value.int .i64)) ∧ Below w1.heap.size w1 w3 :=
            ⟨by rw [hN.out]; simpa using hown', (hbr.onA _).trans hbel'⟩
          clear hown' hgr hbel' own
          go_wp2
          go_roundw
          case rel => exact ⟨m + 1, by omega, by omega, by go_num, toHid R.1, R.2⟩
          case measure => simp [intOf]; omega
        · have hl4' : ¬ (m : Int) < 14 := by omega
          have hl4'' : decide ((m : Int) < 14) = false := decide_eq_false hl4'
          go_wp2
          go_meet
          exact ⟨m, hm, h14, own, hbr⟩
      · have hlt' : ¬ (m : Int) < (x1.length : Int) := by omega
        have hlt'' : decide ((m : Int) < (x1.length : Int)) = false := decide_eq_false hlt'
        go_wp2
        go_meet
        exact ⟨m, hm, h14, own, hbr⟩
  case rest =>
    obtain ⟨m, hm, h14, own, hb1⟩ := hcut
    have M1 := RowI.of_owns own.out
    have hlen : (lowB x1 m).length = m := lowB_len hm
    have hpls := lowB_pls x1 m
    generalize lowB x1 m = xs at M1 hlen hpls
    obtain ⟨am, cm, em, -⟩ := M1.cap
    rw [hlen] at em
    subst em
    obtain ⟨L, hL, hmem, hLl, hnd⟩ := new_all hkp.out hpls (by omega)
    replace hL := toHid hL
    replace hmem := toHid hmem
    replace hnd := toHid hnd
    replace hlen := toHid hlen
    have hLm : L.length ≤ m := by have := hlen.out; omega
    replace M1 := toHid M1
    replace hb1 := toHid hb1
    replace h1 := toHid h1
    have t1 := trivial
    clear own e0 hn hLl R0 s1
    go_upto_block 2 with (first
      | (go_at_call 9; refine (nNew_yes M1.out (Nat.le_refl _) hL.out).mono ?_; rintro e w2 ⟨u2, rfl, r2, h2⟩
         obtain ⟨q2, d2, rfl, -⟩ := id r2.cap
         have A2 := toHid (fun (cs : Array Value) (t : TypeId) => Box.new w2 cs t)
         have R2 := toHid (fun o : Obj => r2.alloc o)
         have k2 := toHid h2
         clear r2 h2)
      | (go_at_call 13; refine (nMay_is (NdAt.ofI (R2.out _)) (by simp) hnd.out).mono ?_; rintro e w3 ⟨rfl, h3⟩
         have A3 := (A2.out _ _).below h3
         have HA3 := toHid A3
         have R3 := toHid ((R2.out _).below h3 (by simp))
         have z3 : Hid (w2.heap.size ≤ w3.heap.size) := toHid (Nat.le_trans (by simp) h3.size)
         have k3 := toHid ((k2.out.onA _).on h3)
         obtain ⟨a1', a2', a3'⟩ := A3
         clear A2 R2 k2 h3)
      | (go_at_call 14; refine (rNodeMay_is (NdAt.ofI R3.out) z3.out (by simp) (by omega) (by simp) (by simp) hnd.out).mono ?_; rintro e w4 ⟨rfl, h4⟩
         clear a1' a2' a3'
         have A4 := toHid (HA3.out.below h4)
         have R4 := toHid (R3.out.below h4 z3.out)
         have z4 : Hid (w2.heap.size ≤ w4.heap.size) := toHid (Nat.le_trans z3.out h4.size)
         have k4 := toHid (k3.out.on h4)
         clear HA3 R3 z3 k3 h4)
      | (go_at_call 12; refine (num_any _ _).mono ?_; rintro e w' ⟨rfl, hw'⟩; subst w'))
    go_wp2
    go_loopw [10, 11, 12] (fun s10 _ _ wr => ∃ i : Nat, i ≤ m ∧ s10 = .int .i64 i ∧ Below w4.heap.size w4 wr) (fun s10 _ _ _ => m - (intOf s10).toNat)
    case atStart => exact ⟨0, Nat.zero_le _, rfl, Below.refl _ _⟩
    case round =>
      obtain ⟨i, hi, rfl, hbr⟩ := hrel
      by_cases hlt : i < m
      · have hlt' : (i : Int) < (m : Int) := by omega
        have hi0 : 0 ≤ (i : Int) := by omega
        have hix : i < xs.length := by have := hlen.out; omega
        have M4 := toHid (M1.out.below k4.out (Nat.le_refl _))
        have zc : Hid (wc.heap.size ≤ w4.heap.size) := toHid k4.out.size
        obtain ⟨x, hx⟩ : ∃ x, xs[i] = x := ⟨_, rfl⟩
        have hxx : x ∈ xs := hx ▸ List.getElem_mem hix
        have hxL : Hid (x ∈ L ↔ ¬ x = k) := toHid (by rw [hmem.out]; simp [hxx])
        obtain ⟨p3, c3, ev, -, -, hp3⟩ := M4.out
        have hne : xs ≠ [] := by intro e; rw [e] at hix; cases hix
        obtain ⟨bb, off, e5, -, hbb, hc⟩ := hp3 hne
        have ec : am = p3 := by cases ev; rfl
        subst ec
        subst e5
        have cx : w4.cell? ⟨bb, off + i, none⟩ = some (.int .i64 x) := by rw [(hc i hix).1, ← hx]; simp [List.getD, List.getElem?_eq_getElem hix]
        have hbw : bb < w4.heap.size := World.block_lt_of_cell? _ _ cx
        have CX := toHid (fun (W : World) (hb : Below w4.heap.size w4 W) => (hb.cell (p := ⟨bb, off + i, none⟩) hbw).trans cx)
        clear hc hp3 hne ev cx hx hxx hix
        obtain ⟨a1', a2', a3'⟩ := A4.out.below hbr
        replace hbr := toHid hbr
        go_wp2
        clear a1' a2' a3'
        go_loopw [11, 12] (fun s11 s12 w' => ∃ (j : Nat) (b : Bool), j ≤ L.length ∧ s12 = .int .i64 j ∧ s11 = .bool b ∧ Hid (b = true ↔ x ∈ L.take j) ∧ Below w4.heap.size w4 w') (fun _ s12 _ => L.length - (intOf s12).toNat)
        case atStart => exact ⟨0, false, Nat.zero_le _, rfl, rfl, toHid (by simp), hbr.out⟩
        case round =>
          clear hbr
          obtain ⟨j, b, hj, rfl, rfl, hb, hbj⟩ := hrel
          obtain ⟨a1', a2', a3'⟩ := A4.out.below hbj
          have cx := CX.out _ hbj
          by_cases hltj : j < L.length
          · have hltj' : (j : Int) < (L.length : Int) := by omega
            have hj0 : 0 ≤ (j : Int) := by omega
            obtain ⟨p3, c3, ev, -, -, hp3⟩ := R4.out.below hbj z4.out
            obtain ⟨bl, ofl, e5, -, hbl, hc⟩ := hp3 (by intro e; rw [e] at hltj; cases hltj)
            have ec : q2 = p3 := by cases ev; rfl
            subst ec
            subst e5
            have cl := (hc j hltj).1
            obtain ⟨y, hy⟩ : ∃ y, L[j] = y := ⟨_, rfl⟩
            have cl2 : wr.cell? ⟨bl, ofl + j, none⟩ = some (.int .i64 y) := by rw [cl, ← hy]; simp [List.getD, List.getElem?_eq_getElem hltj]
            have hst : x ∈ L.take (j + 1) ↔ (x ∈ L.take j ∨ y = x) := by
              rw [List.take_add_one, List.getElem?_eq_getElem hltj, hy]
              simp [eq_comm]
            clear hc hp3 ev cl hy
            cases b with
            | true =>
              have hN : Hid (true = true ↔ x ∈ L.take (j + 1)) := toHid (by rw [hst]; exact ⟨fun _ => .inl (hb.out.1 rfl), fun _ => rfl⟩)
              clear hst hb
              go_wp2
              go_quiet (fail)
              go_wp2
              go_roundw
              case rel => exact ⟨j + 1, true, by omega, by go_num, rfl, toHid (by have := hN.out; simpa using this), hbj.onD nq⟩
              case measure => simp [intOf]; omega
            | false =>
              have hb' : ¬ x ∈ L.take j := fun e => by have := hb.out.2 e; cases this
              by_cases hyx : y = x
              · have hN : Hid (true = true ↔ x ∈ L.take (j + 1)) := toHid (by rw [hst]; exact ⟨fun _ => .inr hyx, fun _ => rfl⟩)
                have he2 : (y == x) = true := by simpa using hyx
                clear hst hb hb'
                go_wp2
                go_quiet (fail)
                go_wp2
                go_roundw
                case rel => exact ⟨j + 1, true, by omega, by go_num, rfl, toHid (by have := hN.out; simpa using this), hbj.onD nq⟩
                case measure => simp [intOf]; omega
              · have hN : Hid (false = true ↔ x ∈ L.take (j + 1)) := toHid (by rw [hst]; simp [hb', hyx])
                have he2 : (y == x) = false := by simpa using hyx
                clear hst hb hb'
                go_wp2
                go_quiet (fail)
                go_wp2
                go_roundw
                case rel => exact ⟨j + 1, false, by omega, by go_num, rfl, hN, hbj.onD nq⟩
                case measure => simp [intOf]; omega
          · obtain rfl : j = L.length := by omega
            have hb2 := hb.out
            rw [List.take_length, hxL.out] at hb2
            clear hb
            by_cases hxk : x = k
            · obtain rfl : b = false := by cases b with | false => rfl | true => exact absurd hxk (hb2.1 rfl)
              have he2 : (x == k) = true := by simpa using hxk
              clear hb2
              go_wp2
              exact ⟨⟨i + 1, by omega, by go_num, hbj⟩, by simp [intOf]; omega⟩
            · obtain rfl : b = true := hb2.2 hxk
              have he2 : (x == k) = false := by simpa using hxk
              have he3 : (x != k) = true := by simp [hxk]
              clear hb2
              go_wp2
              exact ⟨⟨i + 1, by omega, by go_num, hbj⟩, by simp [intOf]; omega⟩
      · obtain rfl : i = m := by omega
        have hLm' : (L.length : Int) ≤ (i : Int) := by omega
        obtain ⟨a1', a2', a3'⟩ := A4.out.below hbr
        replace hbr := toHid hbr
        go_wp2_with (first
          | (go_at_call 18; refine (node100_any _).mono ?_; rintro e w5 ⟨a, b, c, rfl, N5, h5⟩
             clear N5)
          | (rw [node_items _ _ _ _ _ _ _ ⟨_, _, _, rfl⟩])
          | (go_at_call 19; refine (it_any _ _ _).mono ?_; rintro e w6 ⟨rfl, h6⟩))
        go_ret
        exact ⟨rfl, h1.out.on (hb1.out.on (k4.out.on ((hbr.out.on h5).on h6)))⟩

/-! ### The row's step -/
set_option maxRecDepth 100000 in
theorem lifted (os : Os) (started : os.Started) (H : Type) (enc : TypeId × Value → H) :
    ReturnsInHanded {} Try.checked os 5 .any (Rows.nodeNewSpec.pre6 enc Try.prog Try.f5 Rows.nodeNewRow.domain false) (Rows.nodeNewSpec.post enc Try.prog Try.f5 false true false false) := by
  refine returnsInHanded_of_change_sized (C := Try.checked) ownK started (by kernel_rfl) Try.func5
    (ChangeSpec.witness6 (enc := enc) (C := Try.checked) false ⟨#[], #[.int .i64 0, .slice none 0 0], []⟩ 8 (by kernel_rfl) (by kernel_rfl) (by kernel_rfl) (by kernel_rfl)) ?_
  intro W base args ds gs before hval0 hW hcnd hsz0 _
  have hsz : (DataW.weightsEach Try.prog (Try.f5.params.toList ++ Rows.nodeNewSpec.plain.varTypes Try.prog) (ds ++ gs)).all (· ≤ reachBytes) = true := hsz0
  have hval : ∀ (j : Nat) t v, Try.f5.params[j]? = some t → args[j]? = some v → Value.okWide Try.prog W .any base t v := hval0
  have hW' := hW
  obtain ⟨p, q, hA0, hV, rfl, hfz, hnd⟩ := hW
  have hA : DataW.TrodAll enc Try.prog W 0 (fun _ => true) true Try.f5.params.toList args.toList ds p := hA0
  rw [Try.params5] at hA hval hsz
  obtain ⟨v0, vs0, d0, ds0, p0, q0, hargs, rfl, rfl, h0, r0⟩ := trodAll_cons hA
  obtain ⟨v1, vs1, d1, ds1, p1, q1, rfl, rfl, rfl, h1, r1⟩ := trodAll_cons r0
  obtain ⟨rfl, rfl, rfl⟩ := trodAll_nil r1
  obtain rfl : args = #[v0, v1] := by cases args; simp_all
  obtain ⟨rfl, rfl⟩ := trodVars_none hV
  clear r0 r1
  have k0 := h0
  have lt0 : ∀ x ∈ p0, x.block < W.heap.size := by obtain ⟨m, hm⟩ := k0; exact DataW.trod_lt m _ _ _ hm
  have k1 := h1
  have lt1 : ∀ x ∈ p1, x.block < W.heap.size := by obtain ⟨m, hm⟩ := k1; exact DataW.trod_lt m _ _ _ hm
  have z1 : ∀ n ∈ d1.weights Try.prog 22, n ≤ reachBytes := fun n hn => by simpa using List.all_eq_true.1 hsz _ (DataW.weights_mem_each (j := 1) rfl rfl n hn)
  have f1 : W.noneFrozen p1 := fun b off hm => hfz b off (by simp [hm])
  obtain ⟨a0, rfl, rfl, rfl, w0⟩ := open_int Try.underlying3 (hval 0 3 v0 rfl rfl) h0
  obtain ⟨x1, r1, s1, w1⟩ := open_rowI (hval 1 22 v1 rfl rfl) h1 f1 z1
  clear hA0 hval0
  refine (walk a0 v1 x1 W w0 r1 s1 w1).mono fun e W' ⟨he, bel⟩ => ?_
  subst he
  exact ⟨_, rfl, _, _, _, [], _, [], hW', trodAll_mk1 (shut_bool Try.underlying4 _), (trodAll_cons_mk (Below.trod laidOut (by kernel_rfl) (of_decide_eq_true (by kernel_rfl)) k0 bel lt0) (trodAll_cons_mk (Below.trod laidOut (by kernel_rfl) (of_decide_eq_true (by kernel_rfl)) k1 bel lt1) trodAll_mk0)), rfl, bel.frame _, fun h => by cases h⟩

theorem over : Rows.nodeNewRow.holds Try.pinned (OpenSpec.ofChange Rows.nodeNewSpec) :=
  OpenClaim.holds_of_wide 5 Try.f5 rfl rfl rfl rfl rfl rfl rfl ⟨rfl, rfl, rfl, rfl, rfl⟩ rfl rfl rfl rfl rfl (by kernel_rfl) Try.func5 (by kernel_rfl)
    (of_decide_eq_true (by kernel_rfl)) (by unfold Func.isWrapper; first | (rw [if_pos (by decide +kernel)]; kernel_rfl) | (rw [if_neg (by decide +kernel)]; exact ⟨rfl, rfl⟩))
    (fun os started H enc _ => lifted os started H enc)

end Go.Proofs.Ytgcdbkhicpfklaa.nodeNew

namespace Go.Proofs.Ytgcdbkhicpfklaa
/-- The statement, by its short name. -/
theorem nodeNew_holds : Rows.NodeNewSaid := nodeNew.over
#print axioms nodeNew_holds
end Go.Proofs.Ytgcdbkhicpfklaa
