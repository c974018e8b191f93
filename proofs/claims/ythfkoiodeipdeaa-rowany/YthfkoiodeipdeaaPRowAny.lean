/-
  Proved: 'gimmallaw2.RowAny' returns true at every base, list, key and turn, and leaves its arguments as they were; no condition.
-/
import Derived.Test.YthfkoiodeipdeaaRows
import Derived.Test.YthfkoiodeipdeaaOpen
import Derived.Test.YthfkoiodeipdeaaRowLaw
import Derived.Test.YthfkoiodeipdeaaRowRef
namespace Go.Proofs.Ythfkoiodeipdeaa.rowAny
open Go.ChangeShapes Go.WideShapes Go.ChangeAt Go.RowKit
set_option linter.unusedVariables false

/-! ### The walk -/
theorem apart_nil (v : Value) : Apart (.slice none 0 0) v := fun k h => by cases h

set_option maxHeartbeats 4000000 in
set_option maxRecDepth 100000 in
theorem walk (a0 : Int) (v1 : Value) (x1 : List Int) (a2 : Int) (a3 : Int) (w : World) (w0 : (Lit.int .i64 a0).wf = true) (r1 : RowI 0 w.heap.size w v1 x1) (s1 : x1.length * 8 ≤ 140737488351232) (w1 : ∀ x ∈ x1, (Lit.int .i64 x).wf = true) (w2 : (Lit.int .i64 a2).wf = true) (w3 : (Lit.int .i64 a3).wf = true) :
    Calls Try.prog 6 #[.int .i64 a0, v1, .int .i64 a2, .int .i64 a3] w fun e w' => e = .returned (.bool true) ∧ Below w.heap.size w w' := by
  have ep : bits .and .i64 a0 255 = a0 % 256 := and255 a0
  have ek : bits .and .i64 a2 255 = a2 % 256 := and255 a2
  obtain ⟨b, hp⟩ : ∃ p, p = a0 % 256 := ⟨_, rfl⟩
  obtain ⟨key, hk⟩ : ∃ p, p = a2 % 256 := ⟨_, rfl⟩
  rw [← hp] at ep
  rw [← hk] at ek
  have pb : plB b = true := hp ▸ place_mod a0
  have pk : plB key = true := hk ▸ place_mod a2
  clear hp hk w0 w1 w2
  obtain ⟨pt, c, rfl, hl, hc, hpx⟩ := r1
  unfold maxLen at hc
  have hpt : Hid (0 < x1.length → ∃ b off, pt = some ⟨b, off, none⟩ ∧ b < w.heap.size ∧ ∀ j, j < x1.length → w.cell? ⟨b, off + j, none⟩ = some (.int .i64 (x1.getD j 0))) := by
    intro h0
    obtain ⟨b, off, e, h1, h2, h3⟩ := hpx (by intro e; simp [e] at h0)
    exact ⟨b, off, e, h2, fun j hj => (h3 j hj).1⟩
  clear hpx
  obtain ⟨n, hn⟩ : ∃ n, x1.length = n := ⟨_, rfl⟩
  have HN : Hid (x1.length = n) := hn
  rw [hn] at hl hpt ⊢
  clear hn s1
  obtain ⟨m, hm⟩ : ∃ m : Nat, min (n : Int) 30 = (m : Int) := ⟨min n 30, by omega⟩
  have hmn : m ≤ n := by omega
  have hm30 : m ≤ 30 := by omega
  obtain ⟨s, hs, hsm⟩ : ∃ s : Nat, (IntKind.u64.wrap a3).tmod (m : Int) = (s : Int) ∧ (0 < m → s < m) := by
    rw [IntKind.wrap_u64]
    have h0 : 0 ≤ a3 % 18446744073709551616 := by omega
    rw [Int.tmod_eq_emod_of_nonneg h0]
    by_cases hm0 : m = 0
    · subst hm0
      exact ⟨(a3 % 18446744073709551616).toNat, by simp; omega, fun h => by omega⟩
    · have h1 := Int.emod_nonneg (a3 % 18446744073709551616) (show (m : Int) ≠ 0 by omega)
      have h2 := Int.emod_lt_of_pos (a3 % 18446744073709551616) (show (0 : Int) < (m : Int) by omega)
      exact ⟨(a3 % 18446744073709551616 % (m : Int)).toNat, by omega, fun _ => by omega⟩
  go_enter Try.func6, Try.ntmps6
  go_wp2_with (first
    | (go_at_call 17; refine (awake2_any _).mono ?_; rintro e w9 ⟨rfl, bb9⟩))
  go_loopw [11, 12, 14] (fun v u i wr => ∃ k : Nat, k ≤ m ∧ i = .int .i64 k ∧ wr.ownsRow w.heap.size 3 1 v k ((mask x1 k).map (Value.int .i64)) ∧ wr.ownsRow w.heap.size 3 1 u k ((turnd x1 m s k).map (Value.int .i64)) ∧ Apart v u ∧ Below w.heap.size w wr) (fun _ _ i _ => m - (intOf i).toNat)
  case atStart => exact ⟨0, Nat.zero_le _, rfl, World.ownsRow_nil _ _ _ _, World.ownsRow_nil _ _ _ _, apart_nil _, bb9⟩
  case round =>
    clear bb9
    obtain ⟨k, hk, rfl, hownx, howny, hap, hbel⟩ := hrel
    by_cases hlt : k < m
    · have hs1 := hsm (by omega)
      have hsux := mask_succ x1 k (by have := HN.out; omega)
      have hsuy := turnd_succ x1 m s k
      have hsz := hbel.size
      obtain ⟨bl, off, rfl, hbl, h1⟩ := hpt.out (by omega)
      obtain ⟨q, hq⟩ : ∃ q, (k + s) % m = q := ⟨_, rfl⟩
      have hklt : q < m := hq ▸ Nat.mod_lt _ (by omega)
      have hqi : ((k : Int) + (s : Int)) % (m : Int) = (q : Int) := by rw [← hq]; simp
      have hqn : (q : Int) < (n : Int) := by omega
      rw [hq] at hsuy
      clear hq
      have c1 : ∀ wz, Below w.heap.size w wz → wz.cell? ⟨bl, off + k, none⟩ = some (.int .i64 (x1.getD k 0)) := fun wz hz => (hz.cell (p := ⟨bl, off + k, none⟩) hbl).trans (h1 k (by have := HN.out; omega))
      have c2 : ∀ wz, Below w.heap.size w wz → wz.cell? ⟨bl, off + q, none⟩ = some (.int .i64 (x1.getD q 0)) := fun wz hz => (hz.cell (p := ⟨bl, off + q, none⟩) hbl).trans (h1 _ (by have := HN.out; omega))
      obtain ⟨y, hy⟩ : ∃ y, x1.getD k 0 = y := ⟨_, rfl⟩
      obtain ⟨z, hz⟩ : ∃ z, x1.getD q 0 = z := ⟨_, rfl⟩
      rw [hy] at c1 hsux
      rw [hz] at c2 hsuy
      have HSx : Hid (mask x1 (k + 1) = mask x1 k ++ [y % 256]) := hsux
      have HSy : Hid (turnd x1 m s (k + 1) = turnd x1 m s k ++ [z % 256]) := hsuy
      have ey : bits .and .i64 y 255 = y % 256 := and255 y
      have ez : bits .and .i64 z 255 = z % 256 := and255 z
      have hlt' : (k : Int) < (m : Int) := by omega
      have C1 := c1 _ hbel
      have C2 : Hid (∀ wz, Below w.heap.size w wz → wz.cell? ⟨bl, off + q, none⟩ = some (.int .i64 z)) := c2
      have HAP : Hid (Apart u11 u12) := hap
      have HOY : Hid (wr.ownsRow w.heap.size 3 1 u12 k ((turnd x1 m s k).map (Value.int .i64))) := howny
      clear h1 hy hz hsux hsuy c1 c2 hap howny hpt
      have t1 := trivial
      go_wp2_with (at_builtin; clear t1; refine app_ints2 rfl (.tmp 37) (.tmp 43) rfl w.heap.size _ _ (mask x1 k) rfl (hownx.alloc _) ⟨wr.heap.size, 0, none⟩ 1 1 [y % 256] rfl rfl (by decide) (fun j hj => ?_) (by omega) (by simp; omega) ?_; · (match j, hj with | 0, _ => simp [Addr.add]))
      intro v' w2 hown' hgr hbel' hwhere
      have hB2 := (hbel.onA (.cells #[.int .i64 (y % 256)] 3)).trans hbel'
      have R1 : w2.ownsRow w.heap.size 3 1 v' (k + 1) ((mask x1 (k + 1)).map (Value.int .i64)) := by
        rw [HSx.out]; simpa using hown'
      have R2 : w2.ownsRow w.heap.size 3 1 u12 k ((turnd x1 m s k).map (Value.int .i64)) := (HOY.out.alloc _).kept hgr HAP.out.symm.kept
      have R3 : Apart v' u12 := HAP.out.after hwhere (fun k hk => by have := (HOY.out.lt k hk).2; simp; omega)
      have C2' := C2.out w2 hB2
      have R1' : Hid (World.ownsRow w2 w.heap.size 3 1 v' (k + 1) ((mask x1 (k + 1)).map (Value.int .i64))) := R1
      have R3' : Hid (Apart v' u12) := R3
      clear hown' hgr hbel' hwhere HOY HAP C2 hownx C1 R1 R3 hbel
      have hsz2 := hB2.size
      have t2 := trivial
      go_wp2_with (at_builtin; clear t2; refine app_ints2 rfl (.tmp 45) (.tmp 60) rfl w.heap.size _ _ (turnd x1 m s k) rfl (R2.alloc _) ⟨w2.heap.size, 0, none⟩ 1 1 [z % 256] rfl rfl (by decide) (fun j hj => ?_) (by omega) (by simp; omega) ?_; · (match j, hj with | 0, _ => simp [Addr.add]))
      intro u' w3 hown' hgr hbel' hwhere
      have hB3 := (hB2.onA (.cells #[.int .i64 (z % 256)] 3)).trans hbel'
      have S1 : w3.ownsRow w.heap.size 3 1 u' (k + 1) ((turnd x1 m s (k + 1)).map (Value.int .i64)) := by
        rw [HSy.out]; simpa using hown'
      have S2 : w3.ownsRow w.heap.size 3 1 v' (k + 1) ((mask x1 (k + 1)).map (Value.int .i64)) := (R1'.out.alloc _).kept hgr R3'.out.kept
      have S3 : Apart v' u' := (R3'.out.symm.after hwhere (fun k hk => by have := (R1'.out.lt k hk).2; simp; omega)).symm
      clear hown' hgr hbel' hwhere R1' R3' R2 hB2 C2'
      go_wp2
      go_roundw
      case rel => exact ⟨k + 1, by omega, by go_num, S2, S1, S3, hB3⟩
      case measure => simp [intOf]; omega
    · have hkm : k = m := by omega
      subst hkm
      have hrx : RowI w.heap.size wr.heap.size wr u11 (mask x1 k) := RowI.of_owns hownx
      have hmx := mask_len x1 k (by have := HN.out; omega)
      have hpl := mask_pls x1 k
      have hsame := turnd_same x1 k s (by have := HN.out; omega)
      have htl := turnd_len x1 k s k
      have hsz := hbel.size
      have HOX : Hid (wr.ownsRow w.heap.size 3 1 u11 k ((mask x1 k).map (Value.int .i64))) := hownx
      have HAP : Hid (Apart u11 u12) := hap
      have hkk : ¬ (k : Int) < (k : Int) := by omega
      have hrb : rowB b (mask x1 k) = true := rowB_mk (by omega) pb hpl
      have hplY : plsB (turnd x1 k s k ++ mask x1 k) = true := plsB_mk fun x hx => plsB_mem hpl x ((hsame x).1 hx)
      have hlY : (turnd x1 k s k ++ mask x1 k).length ≤ 64 := by simp; omega
      have hrbY : rowB b (turnd x1 k s k ++ mask x1 k) = true := rowB_mk hlY pb hplY
      obtain ⟨l1, l2⟩ := rowL_yes hrb
      obtain ⟨l3, l4⟩ := rowL_yes hrbY
      rw [rowOf_same hsame, ← l1] at l3
      have L1 : Hid (rowL b (mask x1 k) = rowOf b (mask x1 k)) := l1
      have O1 : Hid (mask x1 k ≠ [] → ownV (mask x1 k) key = ownerOf (mask x1 k) key ∧ ownE (mask x1 k) key = 0) := fun h => ownV_yes (rowB_mk (by omega) pk hpl) h
      have O2 : Hid (mask x1 k ≠ [] → ownV (turnd x1 k s k ++ mask x1 k) key = ownerOf (mask x1 k) key ∧ ownE (turnd x1 k s k ++ mask x1 k) key = 0) := fun h => by
        have := ownV_yes (b := key) (rowB_mk hlY pk hplY) (by simp [h])
        rw [ownerOf_same hpl hsame h] at this
        exact this
      have O3 : Hid (mask x1 k ≠ [] → ownerOf (mask x1 k) key ∈ mask x1 k) := fun h => ownerOf_mem key h
      have E0 : Hid (k = 0 → rowL b (mask x1 k) = []) := fun h => by
        rw [l1, h, show mask x1 0 = [] from rfl]; exact rowOf_nil b
      have E1 : Hid (0 < k → mask x1 k ≠ []) := fun h e => by rw [e] at hmx; simp at hmx; omega
      clear hpt hownx hap l1 hrb hplY hrbY hpl hsame hlY
      generalize mask x1 k = X at *
      generalize turnd x1 k s k = T at *
      have t1 := trivial
      have t2 := trivial
      by_cases hk0 : k = 0
      · have hk1 : (k : Int) = 0 := by omega
        have hk2 : ((k : Int) == 0) = true := by simpa using hk1
        go_wp2_with (first
          | (at_builtin; refine app_row rfl (.tmp 62) (.tmp 63) rfl w.heap.size u12 _ T rfl howny w.heap.size wr.heap.size _ X rfl hrx (by omega) (by omega) ?_; intro y' w2 hown2 hgr2 hbel2; have ry2 := RowI.of_owns hown2; have rx2 := RowI.of_owns (HOX.out.kept hgr2 HAP.out.kept); have hB2 := hbel.trans hbel2; clear hown2 hgr2 hbel2 hbel howny hrx HOX HAP)
          | (go_at_call 9; clear t1; refine (sort_any rx2 (Nat.le_refl _) _).mono ?_; rintro e w3 ⟨ua, rfl, ra3, bb3⟩; have ra3' := ra3; rw [E0.out hk0] at ra3'; obtain ⟨pa, ca, rfl, _⟩ := ra3'; have rx3 := rx2.below bb3 (Nat.le_refl _); have ry3 := ry2.below bb3 (Nat.le_refl _))
          | (go_at_call 9; clear t2; refine (sort_any ry3 bb3.size _).mono ?_; rintro e w4 ⟨ub, rfl, rb4, bb4⟩; rw [l3] at rb4; have rx4 := rx3.below bb4 bb3.size; have ry4 := ry3.below bb4 bb3.size; have ra4 := ra3.below bb4 (Nat.le_refl _))
          | (go_at_call 14; refine (num_any _ _).mono ?_; rintro e w' ⟨rfl, hw'⟩; subst w')
          | (go_at_call 13; refine (sameInts_any ra4 rb4).mono ?_; rintro e w5 ⟨rfl, q5, hw5⟩; subst w5))
        go_ret
        exact ⟨rfl, ((hB2.on bb3).on bb4).onD q5⟩
      · have hk1 : ¬ (k : Int) = 0 := by omega
        have hk2 : ((k : Int) == 0) = false := by simpa using hk1
        have hX := E1.out (by omega)
        obtain ⟨o1, o2⟩ := O1.out hX
        obtain ⟨o3, o4⟩ := O2.out hX
        have o5 : decide (ownerOf X key ∈ X) = true := by simpa using O3.out hX
        have t3 := trivial
        have t4 := trivial
        go_wp2_with (first
          | (at_builtin; refine app_row rfl (.tmp 62) (.tmp 63) rfl w.heap.size u12 _ T rfl howny w.heap.size wr.heap.size _ X rfl hrx (by omega) (by omega) ?_; intro y' w2 hown2 hgr2 hbel2; have ry2 := RowI.of_owns hown2; have rx2 := RowI.of_owns (HOX.out.kept hgr2 HAP.out.kept); have hB2 := hbel.trans hbel2; clear hown2 hgr2 hbel2 hbel howny hrx HOX HAP)
          | (go_at_call 9; clear t1; refine (sort_any rx2 (Nat.le_refl _) _).mono ?_; rintro e w3 ⟨ua, rfl, ra3, bb3⟩; have rx3 := rx2.below bb3 (Nat.le_refl _); have ry3 := ry2.below bb3 (Nat.le_refl _))
          | (go_at_call 9; clear t2; refine (sort_any ry3 bb3.size _).mono ?_; rintro e w4 ⟨ub, rfl, rb4, bb4⟩; rw [l3] at rb4; have rx4 := rx3.below bb4 bb3.size; have ry4 := ry3.below bb4 bb3.size; have ra4 := ra3.below bb4 (Nat.le_refl _))
          | (go_at_call 14; refine (num_any _ _).mono ?_; rintro e w' ⟨rfl, hw'⟩; subst w')
          | (go_at_call 13; refine (sameInts_any ra4 rb4).mono ?_; rintro e w5 ⟨rfl, q5, hw5⟩; subst w5)
          | (go_at_call 11; clear t3; refine (owner_any (rx4.drewN q5) _).mono ?_; rintro e w6 ⟨rfl, bb6⟩; have ry6 := (ry4.drewN q5).below bb6 (Nat.le_trans bb3.size bb4.size); have rx6 := (rx4.drewN q5).below bb6 (Nat.le_trans bb3.size bb4.size))
          | (go_at_call 11; clear t4; refine (owner_any ry6 _).mono ?_; rintro e w7 ⟨rfl, bb7⟩; have rx7 := rx6.below bb7 (Nat.le_trans (Nat.le_trans bb3.size bb4.size) bb6.size); have hin := in_any rx7 (ownerOf X key); rw [o5] at hin)
          | (go_at_call 18; refine hin.mono ?_; rintro e w' ⟨rfl, hw'⟩; subst w'))
        go_ret
        exact ⟨rfl, (((((hB2.on bb3).on bb4).onD q5).on bb6).on bb7)⟩

/-! ### The row's step -/
set_option maxRecDepth 100000 in
theorem lifted (os : Os) (started : os.Started) (H : Type) (enc : TypeId × Value → H) :
    ReturnsInHanded {} Try.checked os 6 .any (Rows.rowAnySpec.pre6 enc Try.prog Try.f6 Rows.rowAnyRow.domain false) (Rows.rowAnySpec.post enc Try.prog Try.f6 false true false false) := by
  refine returnsInHanded_of_change_sized (C := Try.checked) ownK started (by kernel_rfl) Try.func6
    (ChangeSpec.witness6 (enc := enc) (C := Try.checked) false ⟨#[], #[.int .i64 0, .slice none 0 0, .int .i64 0, .int .i64 0], []⟩ 8 (by kernel_rfl) (by kernel_rfl) (by kernel_rfl) (by kernel_rfl)) ?_
  intro W base args ds gs before hval0 hW hcnd hsz0 _
  have hsz : (DataW.weightsEach Try.prog (Try.f6.params.toList ++ Rows.rowAnySpec.plain.varTypes Try.prog) (ds ++ gs)).all (· ≤ reachBytes) = true := hsz0
  have hval : ∀ (j : Nat) t v, Try.f6.params[j]? = some t → args[j]? = some v → Value.okWide Try.prog W .any base t v := hval0
  have hW' := hW
  obtain ⟨p, q, hA0, hV, rfl, hfz, hnd⟩ := hW
  have hA : DataW.TrodAll enc Try.prog W 0 (fun _ => true) true Try.f6.params.toList args.toList ds p := hA0
  rw [Try.params6] at hA hval hsz
  obtain ⟨v0, vs0, d0, ds0, p0, q0, hargs, rfl, rfl, h0, r0⟩ := trodAll_cons hA
  obtain ⟨v1, vs1, d1, ds1, p1, q1, rfl, rfl, rfl, h1, r1⟩ := trodAll_cons r0
  obtain ⟨v2, vs2, d2, ds2, p2, q2, rfl, rfl, rfl, h2, r2⟩ := trodAll_cons r1
  obtain ⟨v3, vs3, d3, ds3, p3, q3, rfl, rfl, rfl, h3, r3⟩ := trodAll_cons r2
  obtain ⟨rfl, rfl, rfl⟩ := trodAll_nil r3
  obtain rfl : args = #[v0, v1, v2, v3] := by cases args; simp_all
  obtain ⟨rfl, rfl⟩ := trodVars_none hV
  clear r0 r1 r2 r3
  have k0 := h0
  have lt0 : ∀ x ∈ p0, x.block < W.heap.size := by obtain ⟨m, hm⟩ := k0; exact DataW.trod_lt m _ _ _ hm
  have k1 := h1
  have lt1 : ∀ x ∈ p1, x.block < W.heap.size := by obtain ⟨m, hm⟩ := k1; exact DataW.trod_lt m _ _ _ hm
  have z1 : ∀ n ∈ d1.weights Try.prog 22, n ≤ reachBytes := fun n hn => by simpa using List.all_eq_true.1 hsz _ (DataW.weights_mem_each (j := 1) rfl rfl n hn)
  have f1 : W.noneFrozen p1 := fun b off hm => hfz b off (by simp [hm])
  have k2 := h2
  have lt2 : ∀ x ∈ p2, x.block < W.heap.size := by obtain ⟨m, hm⟩ := k2; exact DataW.trod_lt m _ _ _ hm
  have k3 := h3
  have lt3 : ∀ x ∈ p3, x.block < W.heap.size := by obtain ⟨m, hm⟩ := k3; exact DataW.trod_lt m _ _ _ hm
  obtain ⟨a0, rfl, rfl, rfl, w0⟩ := open_int Try.underlying3 (hval 0 3 v0 rfl rfl) h0
  obtain ⟨x1, r1, s1, w1⟩ := open_rowI (hval 1 22 v1 rfl rfl) h1 f1 z1
  obtain ⟨a2, rfl, rfl, rfl, w2⟩ := open_int Try.underlying3 (hval 2 3 v2 rfl rfl) h2
  obtain ⟨a3, rfl, rfl, rfl, w3⟩ := open_int Try.underlying3 (hval 3 3 v3 rfl rfl) h3
  clear hA0 hval0
  refine (walk a0 v1 x1 a2 a3 W w0 r1 s1 w1 w2 w3).mono fun e W' ⟨he, bel⟩ => ?_
  subst he
  exact ⟨_, rfl, _, _, _, [], _, [], hW', trodAll_mk1 (shut_bool Try.underlying4 _), (trodAll_cons_mk (Below.trod laidOut (by kernel_rfl) (of_decide_eq_true (by kernel_rfl)) k0 bel lt0) (trodAll_cons_mk (Below.trod laidOut (by kernel_rfl) (of_decide_eq_true (by kernel_rfl)) k1 bel lt1) (trodAll_cons_mk (Below.trod laidOut (by kernel_rfl) (of_decide_eq_true (by kernel_rfl)) k2 bel lt2) (trodAll_cons_mk (Below.trod laidOut (by kernel_rfl) (of_decide_eq_true (by kernel_rfl)) k3 bel lt3) trodAll_mk0)))), rfl, bel.frame _, fun h => by cases h⟩

theorem over : Rows.rowAnyRow.holds Try.pinned (OpenSpec.ofChange Rows.rowAnySpec) :=
  OpenClaim.holds_of_wide 6 Try.f6 rfl rfl rfl rfl rfl rfl rfl ⟨rfl, rfl, rfl, rfl, rfl⟩ rfl rfl rfl rfl rfl (by kernel_rfl) Try.func6 (by kernel_rfl)
    (of_decide_eq_true (by kernel_rfl)) (by unfold Func.isWrapper; first | (rw [if_pos (by decide +kernel)]; kernel_rfl) | (rw [if_neg (by decide +kernel)]; exact ⟨rfl, rfl⟩))
    (fun os started H enc _ => lifted os started H enc)

end Go.Proofs.Ythfkoiodeipdeaa.rowAny

namespace Go.Proofs.Ythfkoiodeipdeaa
/-- The statement, by its short name. -/
theorem rowAny_holds : Rows.RowAnySaid := rowAny.over
#print axioms rowAny_holds
end Go.Proofs.Ythfkoiodeipdeaa
