
/-
  Contracts of the document's own answers for layer 9 (names; may a view be; who is next; who was before; who owns a key): what they return, and that no old memory has turned.
-/
import Derived.Test.YtghamcomjfholaaAgeMath
import Derived.Test.YtghamcomjfholaaItemRow
import Derived.Test.YtghamcomjfholaaPeerRef
import Derived.Test.YtghamcomjfholaaVer
import Derived.Test.YtghamcomjfholaaRingRef
import Derived.Test.YtghamcomjfholaaIntRow
import Derived.Test.YtghamcomjfholaaRowMath
namespace Go.Proofs.Ytghamcomjfholaa
open Go.ChangeShapes Go.WideShapes Go.ChangeAt Go.RowKit

set_option maxHeartbeats 1000000 in
theorem rNames_own {lo hi : Nat} {w : World} {v : Value} {ps : List Pe} (hx : RowP lo hi w v ps) (hh : hi ≤ w.heap.size) (h47 : ps.length * 16 ≤ 140737488351232) :
    Calls Try.prog 13 #[v] w fun e w' => ∃ u, e = .returned u ∧ w'.ownsRow w.heap.size 3 1 u ps.length ((nmL ps).map (Value.int .i64)) ∧ Below w.heap.size w w' := by
  obtain ⟨a, c, rfl, hn, hp⟩ := hx.pes hh
  clear hx
  obtain ⟨n, hN⟩ : ∃ n, ps.length = n := ⟨_, rfl⟩
  rw [hN] at hp h47 hn ⊢
  replace hN := toHid hN
  replace hp := toHid hp
  go_enter Try.func13, Try.ntmps13
  go_wp2
  go_loopw [3, 4] (fun v j wr => ∃ k : Nat, k ≤ n ∧ j = .int .i64 k ∧ Hid (wr.ownsRow w.heap.size 3 1 v k ((nmL (ps.take k)).map (Value.int .i64))) ∧ Below w.heap.size w wr) (fun _ j _ => n - (intOf j).toNat)
  case atStart => exact ⟨0, Nat.zero_le _, rfl, toHid (World.ownsRow_nil _ _ _ _), Below.refl _ _⟩
  case round =>
    obtain ⟨k, hk, rfl, hown, hbel⟩ := hrel
    by_cases hlt : k < n
    · obtain ⟨b, off, rfl, -, hb, h1⟩ := hp.out (by omega)
      obtain ⟨c1, c2⟩ := (h1 k (by omega)).below hbel hb
      have HS := toHid (nmL_take ps k (by have := hN.out; omega))
      have hlt' : (k : Int) < (n : Int) := by omega
      have hsz := hbel.size
      clear h1 hp
      generalize ps.getD k ⟨0, 0⟩ = z at c1 c2 HS
      obtain ⟨zn, zm⟩ := z
      dsimp only at c1 c2 HS
      go_wp2_with (at_builtin; refine app_ints rfl (.tmp 11) (.tmp 17) rfl w.heap.size _ k (nmL (ps.take k)) rfl (hown.out.alloc _) ⟨wr.heap.size, 0, none⟩ 1 1 [zn] rfl rfl (fun j hj => ?_) (by omega) (by simp; omega) ?_; · (match j, hj with | 0, _ => simp [Addr.add]))
      intro v' w3 hown' hgr hbel'
      have R : w3.ownsRow w.heap.size 3 1 v' (k + 1) ((nmL (ps.take (k + 1))).map (Value.int .i64)) ∧ Below w.heap.size w w3 :=
        ⟨by rw [HS.out]; simpa using hown', (hbel.onA _).trans hbel'⟩
      clear hown' hgr hbel' hown c1 c2
      go_wp2
      go_roundw
      case rel => exact ⟨k + 1, by omega, by go_num, toHid R.1, R.2⟩
      case measure => simp [intOf]; omega
    · obtain rfl : k = n := by omega
      have hkn : ps.take k = ps := List.take_of_length_le (by have := hN.out; omega)
      rw [hkn] at hown
      clear hkn hp
      go_wp2
      go_ret
      exact ⟨_, rfl, hown.out, hbel⟩
theorem rNames_any {lo hi : Nat} {w : World} {v : Value} {ps : List Pe} (hx : RowP lo hi w v ps) (hh : hi ≤ w.heap.size) (h47 : ps.length * 16 ≤ 140737488351232) :
    Calls Try.prog 13 #[v] w fun e w' => ∃ u, e = .returned u ∧ RowI w.heap.size w'.heap.size w' u (nmL ps) ∧ Below w.heap.size w w' :=
  (rNames_own hx hh h47).mono fun _ _ ⟨u, he, ho, hb⟩ => ⟨u, he, RowI.of_owns ho, hb⟩

set_option maxHeartbeats 2000000 in
theorem rVMay_core {lo hi : Nat} {w : World} {p q : Value} {ps : List Pe} {is : List Int} (i : Int) (h : VwAt lo hi w p q ps is) (hh : hi ≤ w.heap.size) (h47 : ps.length * 16 ≤ 140737488351232) (r1 r2 R : Bool)
    (hr1 : psB i ps = r1) (hr2 : paB is = r2) (hR : R = true ↔ (∀ j, j < is.length → ¬ is.getD j 0 = i ∧ ¬ is.getD j 0 ∈ nmL ps) ∧ r1 = true ∧ r2 = true ∧ ps.length + is.length ≤ 16) :
    Calls Try.prog 29 #[.agg #[.int .i64 i, p, q]] w fun e w' => e = .returned (.bool R) ∧ Below w.heap.size w w' := by
  have H0 := toHid (fun o : Obj => rNames_any (h.ps.alloc o PeV_len) (Nat.le_trans hh (by simp)) h47)
  have H1 := toHid (fun (o : Obj) (w1 : World) (hb : Below (w.alloc o).heap.size (w.alloc o) w1) => rPMay_is ((h.ps.alloc o PeV_len).below hb (Nat.le_trans hh (by simp))) (Nat.le_trans hh (Nat.le_trans (by simp) hb.size)) hr1)
  have H2 := toHid (fun (o : Obj) (w1 : World) (hb : Below (w.alloc o).heap.size (w.alloc o) w1) => (rPaMay_any ((h.is.alloc o).below hb (Nat.le_trans hh (by simp)))).mono fun _ w2 (k : _ ∧ ∃ q, w2 = w1.drewN q) => (⟨hr2 ▸ k.1, by obtain ⟨q, hq⟩ := k.2; exact hq ▸ (Below.refl _ w1).onD q⟩ : _ = Ending.returned (.bool r2) ∧ Below w1.heap.size w1 w2))
  have HR := toHid (fun (o : Obj) (w1 : World) (hb : Below (w.alloc o).heap.size (w.alloc o) w1) => (((h.is.alloc o).below hb (Nat.le_trans hh (by simp))).ints (Nat.le_trans hh (Nat.le_trans (by simp) hb.size))))
  obtain ⟨a, c, a', c', ep, eq, hn, hn'⟩ := h.shape
  subst ep eq
  have B1 := toHid (fun (cs : Array Value) (t : TypeId) => Box.new w cs t)
  clear h
  replace hR := toHid hR
  go_enter Try.func29, Try.ntmps29
  go_wp2_with (first
    | (go_at_call 13; refine (H0.out _).mono ?_; rintro e w1 ⟨u, rfl, R1, hb1⟩))
  obtain ⟨m, hm⟩ : ∃ m, is.length = m := ⟨_, rfl⟩
  have HM := toHid hm
  rw [hm] at HR hR hn' R1 hb1 H2 ⊢
  clear hm H0
  go_loopw [4] (fun j wr => ∃ k : Nat, k ≤ m ∧ j = .int .i64 k ∧ Hid (∀ j, j < k → ¬ is.getD j 0 = i ∧ ¬ is.getD j 0 ∈ nmL ps) ∧ Below w1.heap.size w1 wr) (fun j _ => m - (intOf j).toNat)
  case atStart => exact ⟨0, Nat.zero_le _, rfl, toHid (fun j hj => absurd hj (Nat.not_lt_zero _)), Below.refl _ _⟩
  case round =>
    obtain ⟨k, hk, rfl, hj, hbel⟩ := hrel
    have hB := hb1.on hbel
    obtain ⟨b1, b2, b3⟩ := (B1.out _ _).below hB
    by_cases hlt : k < m
    · have HH := toHid (fun (w' : World) (hw' : Below wr.heap.size wr w') (x : Int) => has_any ((R1.below hbel (Nat.le_refl _)).below hw' hbel.size) x)
      obtain ⟨p3, c3, e3, -, R3⟩ := HR.out _ _ hB
      cases e3
      obtain ⟨b, off, rfl, -, hbw, h3⟩ := R3 (by omega)
      have k1 := h3 k hlt
      have hlt' : (k : Int) < (m : Int) := by omega
      clear HR R3 h3
      by_cases he : is.getD k 0 = i
      · have hrf : R = false := by
          cases R with
          | false => rfl
          | true => exact absurd he ((hR.out.1 rfl).1 k hlt).1
        subst hrf
        clear hj hR H1 H2 R1
        generalize is.getD k 0 = y at *
        have he2 : (y == i) = true := by simpa using he
        go_wp2
        refine wp_region_below (by kernel_rfl) (by kernel_rfl) ?_
        repeat (first
          | go_big_quiet_skip
          | (go_big_quiet_want; go_big_quiet_op; go_big_quiet_on)
          | (refine wpQuiet_step (fun K hK => ?_)
             go_simp
             first
               | (refine hK _ ?_; clear hK K)
               | (refine ⟨_, fun w' hw' => rfl, hK _ ?_⟩; clear hK K)
               | (apply Exists.intro
                  refine ⟨fun w' hw' => ?_, hK _ ?_⟩
                  · (obtain ⟨hc', hf'⟩ := bcell hw'
                     first
                       | (go_simp; rfl)
                       | (go_at_call 46; refine (HH.out _ hw' _).mono ?_; rintro e w3 ⟨rfl, hw3⟩; subst w3; exact ⟨rfl, hw'⟩))
                  clear hK K)))
        refine wpQuiet_nil ?_
        intro wc hc0
        go_wp2
        go_ret
        exact ⟨rfl, (((Below.refl _ w).onA _).on hB).on hc0⟩
      · by_cases hi2 : is.getD k 0 ∈ nmL ps
        · have hrf : R = false := by
            cases R with
            | false => rfl
            | true => exact absurd hi2 ((hR.out.1 rfl).1 k hlt).2
          subst hrf
          have hd : decide (is.getD k 0 ∈ nmL ps) = true := decide_eq_true hi2
          clear hj hR H1 H2 R1 hi2
          have HH2 := toHid (fun w' hw' => HH.out w' hw' (is.getD k 0))
          rw [hd] at HH2
          clear HH hd
          generalize is.getD k 0 = y at *
          have he2 : (y == i) = false := by simpa using he
          go_wp2
          refine wp_region_below (by kernel_rfl) (by kernel_rfl) ?_
          repeat (first
            | go_big_quiet_skip
            | (go_big_quiet_want; go_big_quiet_op; go_big_quiet_on)
            | (refine wpQuiet_step (fun K hK => ?_)
               go_simp
               first
                 | (refine hK _ ?_; clear hK K)
                 | (refine ⟨_, fun w' hw' => rfl, hK _ ?_⟩; clear hK K)
                 | (apply Exists.intro
                    refine ⟨fun w' hw' => ?_, hK _ ?_⟩
                    · (obtain ⟨hc', hf'⟩ := bcell hw'
                       first
                         | (go_simp; rfl)
                         | (go_at_call 46; refine (HH2.out _ hw').mono ?_; rintro e w3 ⟨rfl, hw3⟩; subst w3; exact ⟨rfl, hw'⟩))
                    clear hK K)))
          refine wpQuiet_nil ?_
          intro wc hc0
          go_wp2
          go_ret
          exact ⟨rfl, (((Below.refl _ w).onA _).on hB).on hc0⟩
        · have hj' : Hid (∀ j, j < k + 1 → ¬ is.getD j 0 = i ∧ ¬ is.getD j 0 ∈ nmL ps) := toHid fun j hjk => by
            by_cases e : j = k
            · rw [e]; exact ⟨he, hi2⟩
            · exact hj.out j (by omega)
          have hd : decide (is.getD k 0 ∈ nmL ps) = false := decide_eq_false hi2
          clear hj hR H1 H2 R1 hi2
          have HH2 := toHid (fun w' hw' => HH.out w' hw' (is.getD k 0))
          rw [hd] at HH2
          clear HH hd
          generalize is.getD k 0 = y at *
          have he2 : (y == i) = false := by simpa using he
          go_wp2
          refine wp_region_below (by kernel_rfl) (by kernel_rfl) ?_
          repeat (first
            | go_big_quiet_skip
            | (go_big_quiet_want; go_big_quiet_op; go_big_quiet_on)
            | (refine wpQuiet_step (fun K hK => ?_)
               go_simp
               first
                 | (refine hK _ ?_; clear hK K)
                 | (refine ⟨_, fun w' hw' => rfl, hK _ ?_⟩; clear hK K)
                 | (apply Exists.intro
                    refine ⟨fun w' hw' => ?_, hK _ ?_⟩
                    · (obtain ⟨hc', hf'⟩ := bcell hw'
                       first
                         | (go_simp; rfl)
                         | (go_at_call 46; refine (HH2.out _ hw').mono ?_; rintro e w3 ⟨rfl, hw3⟩; subst w3; exact ⟨rfl, hw'⟩))
                    clear hK K)))
          refine wpQuiet_nil ?_
          intro wc hc0
          go_wp2
          go_roundw
          case rel => exact ⟨k + 1, by omega, by go_num, hj', hbel.on hc0⟩
          case measure => simp [intOf]; omega
    · obtain rfl : k = m := by omega
      have H1' := H1.out _ _ hB
      have H2' := toHid (fun w' (hw' : Below wr.heap.size wr w') => H2.out _ _ (hB.on hw'))
      clear H1 H2 HR R1
      have hB1 := toHid (fun w' (hw' : Below wr.heap.size wr w') => (B1.out _ _).below (hB.on hw'))
      cases r1 with
      | false =>
        have hrf : R = false := by
          cases R with
          | false => rfl
          | true => exact absurd (hR.out.1 rfl).2.1 (by simp)
        subst hrf
        clear hj hR H2'
        go_wp2_with (first
          | (go_at_call 47; refine H1'.mono ?_; rintro e w2 ⟨rfl, hb2⟩))
        go_ret
        exact ⟨rfl, (((Below.refl _ w).onA _).on hB).on hb2⟩
      | true =>
        cases r2 with
        | false =>
          have hrf : R = false := by
            cases R with
            | false => rfl
            | true => exact absurd (hR.out.1 rfl).2.2.1 (by simp)
          subst hrf
          clear hj hR
          go_wp2_with (first
            | (go_at_call 47; refine H1'.mono ?_; rintro e w2 ⟨rfl, hb2⟩
               clear b1 b2 b3
               obtain ⟨b1, b2, b3⟩ := hB1.out _ hb2)
            | (go_at_call 48; refine (H2'.out _ hb2).mono ?_; rintro e w3 ⟨rfl, hb3⟩))
          go_ret
          exact ⟨rfl, ((((Below.refl _ w).onA _).on hB).on hb2).on hb3⟩
        | true =>
          by_cases hl : ps.length + k ≤ 16
          · have hrt : R = true := hR.out.2 ⟨hj.out, rfl, rfl, hl⟩
            subst hrt
            have hl1 : (ps.length : Int) + (k : Int) ≤ 16 := by omega
            have hl2 : decide ((ps.length : Int) + (k : Int) ≤ 16) = true := decide_eq_true hl1
            clear hj hR
            go_wp2_with (first
              | (go_at_call 47; refine H1'.mono ?_; rintro e w2 ⟨rfl, hb2⟩
                 clear b1 b2 b3
                 obtain ⟨b1, b2, b3⟩ := hB1.out _ hb2)
              | (go_at_call 48; refine (H2'.out _ hb2).mono ?_; rintro e w3 ⟨rfl, hb3⟩
                 clear b1 b2 b3
                 obtain ⟨b1, b2, b3⟩ := hB1.out _ (hb2.on hb3)))
            go_ret
            exact ⟨rfl, ((((Below.refl _ w).onA _).on hB).on hb2).on hb3⟩
          · have hrf : R = false := by
              cases R with
              | false => rfl
              | true => exact absurd (hR.out.1 rfl).2.2.2 hl
            subst hrf
            have hs1 := (psB_iff.1 hr1).2.2.2
            have hs2 := (paB_iff.1 hr2).1
            rw [HM.out] at hs2
            have hl1 : ¬ (ps.length : Int) + (k : Int) ≤ 16 := by omega
            have hl2 : decide ((ps.length : Int) + (k : Int) ≤ 16) = false := decide_eq_false hl1
            clear hj hR
            go_wp2_with (first
              | (go_at_call 47; refine H1'.mono ?_; rintro e w2 ⟨rfl, hb2⟩
                 clear b1 b2 b3
                 obtain ⟨b1, b2, b3⟩ := hB1.out _ hb2)
              | (go_at_call 48; refine (H2'.out _ hb2).mono ?_; rintro e w3 ⟨rfl, hb3⟩
                 clear b1 b2 b3
                 obtain ⟨b1, b2, b3⟩ := hB1.out _ (hb2.on hb3)))
            go_ret
            exact ⟨rfl, ((((Below.refl _ w).onA _).on hB).on hb2).on hb3⟩

theorem vwB_at (i : Int) (ps : List Pe) (is : List Int) : vwB i ps is = true ↔ (∀ j, j < is.length → ¬ is.getD j 0 = i ∧ ¬ is.getD j 0 ∈ nmL ps) ∧ psB i ps = true ∧ paB is = true ∧ ps.length + is.length ≤ 16 := by
  rw [vwB_iff]
  constructor
  · rintro ⟨h1, h2, h3, h4⟩
    refine ⟨fun j hj => ?_, h1, h2, h3⟩
    rw [getD_in _ _ hj]
    have := h4 is[j] (List.getElem_mem hj)
    simpa [idL] using this
  · rintro ⟨h4, h1, h2, h3⟩
    refine ⟨h1, h2, h3, fun y hy => ?_⟩
    obtain ⟨j, hj, rfl⟩ := List.mem_iff_getElem.1 hy
    have := h4 j hj
    rw [getD_in _ _ hj] at this
    simpa [idL] using this
theorem rVMay_any {lo hi : Nat} {w : World} {p q : Value} {ps : List Pe} {is : List Int} (i : Int) (h : VwAt lo hi w p q ps is) (hh : hi ≤ w.heap.size) (h47 : ps.length * 16 ≤ 140737488351232) :
    Calls Try.prog 29 #[.agg #[.int .i64 i, p, q]] w fun e w' => e = .returned (.bool (vwB i ps is)) ∧ Below w.heap.size w w' :=
  rVMay_core i h hh h47 _ _ _ rfl rfl (vwB_at i ps is)

end Go.Proofs.Ytghamcomjfholaa
