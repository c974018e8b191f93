/-
  Proved: 'gimmallaw2.RowNext' returns true at every int and list, and leaves its arguments as they were; no condition.
-/
import Derived.Test.YthfkoiodeipdeaaRows
import Derived.Test.YthfkoiodeipdeaaOpen
import Derived.Test.YthfkoiodeipdeaaRowLaw
import Derived.Test.YthfkoiodeipdeaaRowRef
namespace Go.Proofs.Ythfkoiodeipdeaa.rowNext
open Go.ChangeShapes Go.WideShapes Go.ChangeAt Go.RowKit
set_option linter.unusedVariables false

/-! ### The walk -/
set_option maxHeartbeats 4000000 in
set_option maxRecDepth 100000 in
theorem walk (a0 : Int) (v1 : Value) (x1 : List Int) (w : World) (w0 : (Lit.int .i64 a0).wf = true) (r1 : RowI 0 w.heap.size w v1 x1) (s1 : x1.length * 8 ≤ 140737488351232) (w1 : ∀ x ∈ x1, (Lit.int .i64 x).wf = true) :
    Calls Try.prog 5 #[.int .i64 a0, v1] w fun e w' => e = .returned (.bool true) ∧ Below w.heap.size w w' := by
  have ep : bits .and .i64 a0 255 = a0 % 256 := and255 a0
  obtain ⟨b, hp⟩ : ∃ p, p = a0 % 256 := ⟨_, rfl⟩
  rw [← hp] at ep
  have pb : plB b = true := hp ▸ place_mod a0
  have ⟨pb0, pb1⟩ := plB_yes pb
  clear hp w0 w1
  obtain ⟨pt, c, rfl, hl, hc, hpx⟩ := r1
  unfold maxLen at hc
  have hpt : 0 < x1.length → ∃ b off, pt = some ⟨b, off, none⟩ ∧ b < w.heap.size ∧ ∀ j, j < x1.length → w.cell? ⟨b, off + j, none⟩ = some (.int .i64 (x1.getD j 0)) := by
    intro h0
    obtain ⟨b, off, e, h1, h2, h3⟩ := hpx (by intro e; simp [e] at h0)
    exact ⟨b, off, e, h2, fun j hj => (h3 j hj).1⟩
  clear hpx
  obtain ⟨n, hn⟩ : ∃ n, x1.length = n := ⟨_, rfl⟩
  have HN : Hid (x1.length = n) := hn
  rw [hn] at hl hpt ⊢
  clear hn s1
  go_enter Try.func5, Try.ntmps5
  go_wp2_with (first
    | (go_at_call 17; refine (awake2_any _).mono ?_; rintro e w9 ⟨rfl, bb9⟩))
  go_loopw [6, 7] (fun v i wr => ∃ k : Nat, k ≤ n ∧ k ≤ 40 ∧ i = .int .i64 k ∧ wr.ownsRow w.heap.size 3 1 v k ((mask x1 k).map (Value.int .i64)) ∧ Below w.heap.size w wr) (fun _ i _ => n - (intOf i).toNat)
  case atStart => exact ⟨0, Nat.zero_le _, Nat.zero_le _, rfl, World.ownsRow_nil _ _ _ _, bb9⟩
  case round =>
    clear bb9
    obtain ⟨k, hk, hk40, rfl, hown, hbel⟩ := hrel
    by_cases hlt : k < n ∧ k < 40
    · obtain ⟨hlt1, hlt2⟩ := hlt
      have hsu := mask_succ x1 k (by have := HN.out; omega)
      have hsz := hbel.size
      obtain ⟨bl, off, rfl, hbl, h1⟩ := hpt (by omega)
      have c1 : wr.cell? ⟨bl, off + k, none⟩ = some (.int .i64 (x1.getD k 0)) := (hbel.cell (p := ⟨bl, off + k, none⟩) hbl).trans (h1 k (by have := HN.out; omega))
      obtain ⟨y, hy⟩ : ∃ y, x1.getD k 0 = y := ⟨_, rfl⟩
      rw [hy] at c1 hsu
      have HS : Hid (mask x1 (k + 1) = mask x1 k ++ [y % 256]) := hsu
      have ey : bits .and .i64 y 255 = y % 256 := and255 y
      have hlt1' : (k : Int) < (n : Int) := by omega
      have hlt2' : (k : Int) < 40 := by omega
      clear hpt h1 hy hsu
      go_wp2_with (at_builtin; refine app_ints rfl (.tmp 30) (.tmp 36) rfl w.heap.size _ _ (mask x1 k) rfl (hown.alloc _) ⟨wr.heap.size, 0, none⟩ 1 1 [y % 256] rfl rfl (fun j hj => ?_) (by omega) (by simp; omega) ?_; · (match j, hj with | 0, _ => simp [Addr.add]))
      intro v' w2 hown' hgr hbel'
      have R : w2.ownsRow w.heap.size 3 1 v' (k + 1) ((mask x1 (k + 1)).map (Value.int .i64)) ∧ Below w.heap.size w w2 := by
        rw [HS.out]
        exact ⟨by simpa using hown', (hbel.onA _).trans hbel'⟩
      clear hown' hgr hbel' hown
      go_wp2
      go_roundw
      case rel => exact ⟨k + 1, by omega, by omega, by go_num, R.1, R.2⟩
      case measure => simp [intOf]; omega
    · have hrx : RowI w.heap.size wr.heap.size wr u6 (mask x1 k) := RowI.of_owns hown
      have hml := mask_len x1 k (by have := HN.out; omega)
      have hpl := mask_pls x1 k
      clear hown hpt
      obtain ⟨xs, hxs⟩ : ∃ xs, mask x1 k = xs := ⟨_, rfl⟩
      rw [hxs] at hrx hml hpl
      clear hxs HN
      have hrb : rowB b xs = true := rowB_mk (by omega) pb hpl
      obtain ⟨oa, ob⟩ := rowL_yes hrb
      have t1 := trivial
      have hex : ¬ k < n ∨ k < n ∧ ¬ k < 40 := by omega
      clear hlt
      rcases hex with h | ⟨h1, h2⟩
      case' inl =>
        have hlt1' : ¬ (k : Int) < (n : Int) := by omega
        have hd : decide ((k : Int) < (n : Int)) = false := by simp; omega
      case' inr =>
        have hlt1' : (k : Int) < (n : Int) := by omega
        have hlt2' : ¬ (k : Int) < 40 := by omega
        have hd : decide ((k : Int) < 40) = false := by simp; omega
      all_goals
        go_wp2_with (first
          | (go_at_call 9; clear t1; refine (sort_any hrx (Nat.le_refl _) _).mono ?_; rintro e w2 ⟨ua, rfl, hra, bb2⟩; rw [oa] at hra; have hrx2 := hrx.below bb2 (Nat.le_refl _))
          | (go_at_call 14; refine (num_any _ _).mono ?_; rintro e w' ⟨rfl, hw'⟩; subst w'))
        have HRA : Hid (RowI wr.heap.size w2.heap.size w2 ua (rowOf b xs)) := hra
        have HRX : Hid (RowI w.heap.size wr.heap.size w2 u6 xs) := hrx2
        have hB2 : Below w.heap.size w w2 := hbel.on bb2
        have bs2 : Hid (wr.heap.size ≤ w2.heap.size) := bb2.size
        have ha1 : Hid (∀ j, j < (rowOf b xs).length → plB ((rowOf b xs).getD j 0) = true) := fun j hj => rowOf_pl pb hpl _ (getD_mem _ j hj)
        have ha2 : Hid (∀ j, j < (rowOf b xs).length → lastAt b (rowOf b xs) j < far b ((rowOf b xs).getD j 0)) := fun j hj => lastAt_lt pb hpl j hj
        have ha3 : Hid (∀ j, j < (rowOf b xs).length → (rowOf b xs).getD j 0 ∈ xs) := fun j hj => ((mem_rowOf pb hpl _).1 (getD_mem _ j hj)).1
        have ha4 : Hid (∀ x, x ∈ xs → ¬ x = b → x ∈ rowOf b xs) := fun x h1 h2 => (mem_rowOf pb hpl x).2 ⟨h1, h2⟩
        have ha5 : Hid (xs = [] → rowOf b xs = []) := fun h => by rw [h]; exact rowOf_nil b
        have ha6 : Hid (xs ≠ [] → ¬ b ∈ xs → 0 < (rowOf b xs).length ∧ ownerOf xs b = (rowOf b xs).getD 0 0) := fun h1 h2 => rowOf_first pb hpl h1 h2
        have ha7 : Hid (xs ≠ [] → ownV xs b = ownerOf xs b ∧ ownE xs b = 0) := fun h => ownV_yes hrb h
        have ha8 : Hid (b ∈ xs → ownerOf xs b = b) := owner_self hpl
        generalize rowOf b xs = a at *
        obtain ⟨pa, ca, rfl, _, hca, hpa⟩ := hra
        obtain ⟨px, cx, rfl, _, hcx, hpx⟩ := hrx2
        unfold maxLen at hca hcx
        have hcella : Hid (∀ j, j < a.length → ∃ bl off, pa = some ⟨bl, off, none⟩ ∧ w2.cell? ⟨bl, off + j, none⟩ = some (.int .i64 (a.getD j 0))) := fun j hj => by
          obtain ⟨bl, off, e, _, _, h3⟩ := hpa (by intro e; simp [e] at hj)
          exact ⟨bl, off, e, (h3 j hj).1⟩
        have hcellx : Hid (∀ j, j < xs.length → ∃ bl off, px = some ⟨bl, off, none⟩ ∧ w2.cell? ⟨bl, off + j, none⟩ = some (.int .i64 (xs.getD j 0))) := fun j hj => by
          obtain ⟨bl, off, e, _, _, h3⟩ := hpx (by intro e; simp [e] at hj)
          exact ⟨bl, off, e, (h3 j hj).1⟩
        have hxm : Hid (∀ j, j < xs.length → xs.getD j 0 ∈ xs) := fun j hj => getD_mem xs j hj
        have haL : a.length ≤ 9223372036854775807 := by omega
        have hxL : xs.length ≤ 40 := by omega
        clear hpa hpx hrx oa ob hrb hpl hbel bb2 hml
        go_loop [10, 11] (fun l i => ∃ j : Nat, j ≤ a.length ∧ i = .int .i64 j ∧ l = .int .i64 (lastAt b a j)) (fun _ i => a.length - (intOf i).toNat)
        case atStart => exact ⟨0, Nat.zero_le _, rfl, rfl⟩
        case round =>
          obtain ⟨j, hj, rfl, rfl⟩ := hrel
          by_cases hja : j < a.length
          · obtain ⟨bl, off, rfl, hce⟩ := hcella.out j hja
            have q1 := plB_yes (ha1.out j hja)
            have q2 := ha2.out j hja
            have q3 := ha3.out j hja
            have q4 : lastAt b a (j + 1) = far b (a.getD j 0) := by simp [lastAt]
            obtain ⟨L, hL⟩ : ∃ L, lastAt b a j = L := ⟨_, rfl⟩
            obtain ⟨y, hy⟩ : ∃ y, a.getD j 0 = y := ⟨_, rfl⟩
            rw [hy] at hce q1 q2 q3 q4
            rw [hL] at q2 ⊢
            have Q4 : Hid (lastAt b a (j + 1) = far b y) := q4
            have q5 := in_any HRX.out y
            rw [show decide (y ∈ xs) = true by simpa using q3] at q5
            obtain ⟨q1a, q1b⟩ := q1
            unfold far at q2
            have d1 : decide (y < 0) = false := by simp; omega
            have d2 : decide (255 < y) = false := by simp; omega
            have d3 : decide ((y - b + 256) % 256 ≤ L) = false := by simp; omega
            have hja' : (j : Int) < (a.length : Int) := by omega
            clear q3 q4 hL hy ha1 ha2 ha3 ha4 ha5 ha6 ha7 ha8 hcella hcellx hxm
            go_wp2_with (go_at_call 18; refine q5.mono ?_; rintro e w' ⟨rfl, hw'⟩; subst w')
            go_round
            case rel => exact ⟨j + 1, by omega, by go_num, by rw [Q4.out, show (y - b) % 256 = far b y by unfold far; omega]⟩
            case measure => simp [intOf]; omega
          · have hja' : ¬ (j : Int) < (a.length : Int) := by omega
            clear ha1 ha2 ha3
            generalize lastAt b a j = L
            go_wp2
            go_loop [13] (fun i => ∃ m : Nat, m ≤ xs.length ∧ i = .int .i64 m) (fun i => xs.length - (intOf i).toNat)
            case atStart => exact ⟨0, Nat.zero_le _, rfl⟩
            case round =>
              obtain ⟨m, hm, rfl⟩ := hrel
              by_cases hmx : m < xs.length
              · obtain ⟨bl, off, rfl, hce⟩ := hcellx.out m hmx
                have q1 := hxm.out m hmx
                obtain ⟨y, hy⟩ : ∃ y, xs.getD m 0 = y := ⟨_, rfl⟩
                rw [hy] at hce q1
                have hmx' : (m : Int) < (xs.length : Int) := by omega
                by_cases hyb : y = b
                · clear q1 hy ha4 ha5 ha6 ha7 ha8 hcellx hxm
                  have hyb' : (y == b) = true := by simpa using hyb
                  have hyb'' : (y != b) = false := by simpa using hyb
                  go_wp2
                  go_round
                  case rel => exact ⟨m + 1, by omega, by go_num⟩
                  case measure => simp [intOf]; omega
                · have q2 := in_any HRA.out y
                  rw [show decide (y ∈ a) = true by simpa using ha4.out y q1 hyb] at q2
                  have hyb' : (y == b) = false := by simpa using hyb
                  have hyb'' : (y != b) = true := by simpa using hyb
                  clear q1 hy ha4 ha5 ha6 ha7 ha8 hcellx hxm
                  go_wp2_with (go_at_call 18; refine q2.mono ?_; rintro e w' ⟨rfl, hw'⟩; subst w')
                  go_round
                  case rel => exact ⟨m + 1, by omega, by go_num⟩
                  case measure => simp [intOf]; omega
              · have hmx' : ¬ (m : Int) < (xs.length : Int) := by omega
                clear hcellx hxm ha4
                by_cases hx0 : xs = []
                · have ha0 := ha5.out hx0
                  subst hx0
                  subst ha0
                  clear ha5 ha6 ha7 ha8 HRA HRX
                  go_wp2
                  go_ret
                  exact ⟨rfl, hB2⟩
                · obtain ⟨o1, o2⟩ := ha7.out hx0
                  have hxp : 0 < xs.length := List.length_pos_iff.2 hx0
                  have hxp' : ¬ (xs.length : Int) = 0 := by omega
                  have hown := owner_any HRX.out b
                  have hin := fun w3 (hb3 : Below w2.heap.size w2 w3) (hs : wr.heap.size ≤ w2.heap.size) => in_any (HRX.out.below hb3 hs) b
                  rw [o2] at hown
                  by_cases hbx : b ∈ xs
                  · rw [o1, ha8.out hbx] at hown
                    rw [show decide (b ∈ xs) = true by simpa using hbx] at hin
                    clear ha5 ha6 ha7 ha8 HRA HRX hx0 hbx o1 o2
                    go_wp2_with (first
                      | (go_at_call 11; refine hown.mono ?_; rintro e w3 ⟨rfl, bb3⟩)
                      | (go_at_call 18; refine (hin _ bb3 bs2.out).mono ?_; rintro e w' ⟨rfl, hw'⟩; subst w')
                      | (go_at_call 14; refine (num_any _ _).mono ?_; rintro e w' ⟨rfl, hw'⟩; subst w'))
                    go_ret
                    exact ⟨rfl, hB2.on bb3⟩
                  · obtain ⟨hap, ho⟩ := ha6.out hx0 hbx
                    rw [o1, ho] at hown
                    rw [show decide (b ∈ xs) = false by simpa using hbx] at hin
                    have hra3 := fun w3 (hb3 : Below w2.heap.size w2 w3) => HRA.out.below hb3 (Nat.le_refl _)
                    obtain ⟨bl, off, rfl, hce⟩ := hcella.out 0 hap
                    have hbl : bl < w2.heap.size := World.block_lt_of_cell? _ _ hce
                    have hap' : (0 : Int) < (a.length : Int) := by omega
                    have HCE := fun w3 (hb3 : Below w2.heap.size w2 w3) => (hb3.cell (p := ⟨bl, off + 0, none⟩) hbl).trans hce
                    simp only [Nat.add_zero] at HCE
                    obtain ⟨y, hy⟩ : ∃ y, a.getD 0 0 = y := ⟨_, rfl⟩
                    rw [hy] at hown HCE
                    clear ha5 ha6 ha7 ha8 HRA HRX hx0 hbx o1 o2 hcella hce ho hy hra3
                    go_wp2_with (first
                      | (go_at_call 11; refine hown.mono ?_; rintro e w3 ⟨rfl, bb3⟩; have hce3 := HCE w3 bb3)
                      | (go_at_call 18; refine (hin _ bb3 bs2.out).mono ?_; rintro e w' ⟨rfl, hw'⟩; subst w')
                      | (go_at_call 14; refine (num_any _ _).mono ?_; rintro e w' ⟨rfl, hw'⟩; subst w'))
                    go_ret
                    exact ⟨rfl, hB2.on bb3⟩

/-! ### The row's step -/
set_option maxRecDepth 100000 in
theorem lifted (os : Os) (started : os.Started) (H : Type) (enc : TypeId × Value → H) :
    ReturnsInHanded {} Try.checked os 5 .any (Rows.rowNextSpec.pre6 enc Try.prog Try.f5 Rows.rowNextRow.domain false) (Rows.rowNextSpec.post enc Try.prog Try.f5 false true false false) := by
  refine returnsInHanded_of_change_sized (C := Try.checked) ownK started (by kernel_rfl) Try.func5
    (ChangeSpec.witness6 (enc := enc) (C := Try.checked) false ⟨#[], #[.int .i64 0, .slice none 0 0], []⟩ 8 (by kernel_rfl) (by kernel_rfl) (by kernel_rfl) (by kernel_rfl)) ?_
  intro W base args ds gs before hval0 hW hcnd hsz0 _
  have hsz : (DataW.weightsEach Try.prog (Try.f5.params.toList ++ Rows.rowNextSpec.plain.varTypes Try.prog) (ds ++ gs)).all (· ≤ reachBytes) = true := hsz0
  have hval : ∀ (j : Nat) t v, Try.f5.params[j]? = some t → args[j]? = some v → Value.okWide Try.prog W .any base t v := hval0
  have hW' := hW
  obtain ⟨p, q, hA0, hV, rfl, hfz, hnd⟩ := hW
  have hA : DataW.TrodAll enc Try.prog W 0 (fun _ => true) true Try.f5.params.toList args.toList ds p := hA0
  rw [Try.params5] at hA hval hsz
  obtain ⟨v0, vs0, d0, ds0, p0, q0, hargs, rfl, rfl, h0, r0⟩ := trodAll_cons hA
  obtain ⟨v1, vs1, d1, ds1, p1, q1, rfl, rfl, rfl, h1, r1⟩ := trodAll_cons r0
  obtain ⟨rfl, rfl, rfl⟩ := trodAll_nil r1
  obtain rfl : args = #[v0, v1] := by cases args; simp_all
  obtain ⟨rfl, rfl⟩ := trodVars_none hV
  clear r0 r1
  have k0 := h0
  have lt0 : ∀ x ∈ p0, x.block < W.heap.size := by obtain ⟨m, hm⟩ := k0; exact DataW.trod_lt m _ _ _ hm
  have k1 := h1
  have lt1 : ∀ x ∈ p1, x.block < W.heap.size := by obtain ⟨m, hm⟩ := k1; exact DataW.trod_lt m _ _ _ hm
  have z1 : ∀ n ∈ d1.weights Try.prog 22, n ≤ reachBytes := fun n hn => by simpa using List.all_eq_true.1 hsz _ (DataW.weights_mem_each (j := 1) rfl rfl n hn)
  have f1 : W.noneFrozen p1 := fun b off hm => hfz b off (by simp [hm])
  obtain ⟨a0, rfl, rfl, rfl, w0⟩ := open_int Try.underlying3 (hval 0 3 v0 rfl rfl) h0
  obtain ⟨x1, r1, s1, w1⟩ := open_rowI (hval 1 22 v1 rfl rfl) h1 f1 z1
  clear hA0 hval0
  refine (walk a0 v1 x1 W w0 r1 s1 w1).mono fun e W' ⟨he, bel⟩ => ?_
  subst he
  exact ⟨_, rfl, _, _, _, [], _, [], hW', trodAll_mk1 (shut_bool Try.underlying4 _), (trodAll_cons_mk (Below.trod laidOut (by kernel_rfl) (of_decide_eq_true (by kernel_rfl)) k0 bel lt0) (trodAll_cons_mk (Below.trod laidOut (by kernel_rfl) (of_decide_eq_true (by kernel_rfl)) k1 bel lt1) trodAll_mk0)), rfl, bel.frame _, fun h => by cases h⟩

theorem over : Rows.rowNextRow.holds Try.pinned (OpenSpec.ofChange Rows.rowNextSpec) :=
  OpenClaim.holds_of_wide 5 Try.f5 rfl rfl rfl rfl rfl rfl rfl ⟨rfl, rfl, rfl, rfl, rfl⟩ rfl rfl rfl rfl rfl (by kernel_rfl) Try.func5 (by kernel_rfl)
    (of_decide_eq_true (by kernel_rfl)) (by unfold Func.isWrapper; first | (rw [if_pos (by decide +kernel)]; kernel_rfl) | (rw [if_neg (by decide +kernel)]; exact ⟨rfl, rfl⟩))
    (fun os started H enc _ => lifted os started H enc)

end Go.Proofs.Ythfkoiodeipdeaa.rowNext

namespace Go.Proofs.Ythfkoiodeipdeaa
/-- The statement, by its short name. -/
theorem rowNext_holds : Rows.RowNextSaid := rowNext.over
#print axioms rowNext_holds
end Go.Proofs.Ythfkoiodeipdeaa
