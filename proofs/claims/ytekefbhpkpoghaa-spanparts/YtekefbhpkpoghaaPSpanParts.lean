
/-
  The statement SpanParts: each item of a store is in just one of the two parts into which two places part the ring, in its row, and in both, if they are one place.
-/
import Derived.Test.YtekefbhpkpoghaaRows
import Derived.Test.YtekefbhpkpoghaaOpen
import Derived.Test.YtekefbhpkpoghaaSpanLaw
import Derived.Test.YtekefbhpkpoghaaOpenT
namespace Go.Proofs.Ytekefbhpkpoghaa.spanParts
open Go.ChangeShapes Go.WideShapes Go.ChangeAt Go.RowKit
set_option linter.unusedVariables false

/-! ### The walk -/
set_option maxHeartbeats 4000000 in
theorem walk (v0 : Value) (x0 : List It) (a1 : Int) (a2 : Int) (w : World) (r0 : RowT 0 w.heap.size w v0 x0) (s0 : x0.length * 40 ≤ 140737488351232) (w0 : ∀ x ∈ x0, ItW x) (w1 : (Lit.int .i64 a1).wf = true) (w2 : (Lit.int .i64 a2).wf = true) :
    Calls Try.prog 4 #[v0, .int .i64 a1, .int .i64 a2] w fun e w' => e = .returned (.bool true) ∧ Below w.heap.size w w' := by
  clear w0 w1 w2
  have hz : w.heap.size ≤ w.heap.size := Nat.le_refl _
  have eX : bits .and .i64 a1 255 = a1 % 256 := and255 a1
  have eY : bits .and .i64 a2 255 = a2 % 256 := and255 a2
  have hX := place_mod a1
  have hY := place_mod a2
  generalize a1 % 256 = x at eX hX
  generalize a2 % 256 = y at eY hY
  have t1 := trivial
  have q1 := trivial
  rcases Bool.eq_false_or_eq_true (stB x0) with hs | hs
  · obtain ⟨hL1, hE1⟩ := sp_yes hs hX hY
    obtain ⟨hL2, hE2⟩ := sp_yes hs hY hX
    obtain ⟨hval, -, hlen⟩ := stB_iff.1 hs
    by_cases hxy : x = y
    · subst hxy
      have hall : x0.filter (spP x x) = x0 := by
        rw [List.filter_eq_self]
        intro a _
        simp [spP, inB]
      rw [hall] at hL1 hL2
      have hL := toHid hL1
      have hE := toHid hE1
      clear hs hval hall hL1 hL2 hE1 hE2
      obtain ⟨p0, c0, e0, n0, -⟩ := r0.its hz
      subst e0
      go_enter Try.func4, Try.ntmps4
      go_wp2_with (first
        | (go_at_call 14; refine (awake6_any _).mono ?_; rintro e w1 ⟨rfl, h1⟩
           have r1 := r0.below h1 hz
           have z1 := h1.size)
        | (go_at_call 8; clear t1; refine (sOf_at r1 z1 _ _ hL.out hE.out).mono ?_; rintro e w2 ⟨o2, rfl, P2, h2⟩
           have r2 := r1.below h2 z1
           have z2 := Nat.le_trans z1 h2.size)
        | (go_at_call 8; refine (sOf_at r2 z2 _ _ hL.out hE.out).mono ?_; rintro e w3 ⟨o3, rfl, P3, h3⟩
           have r3 := r2.below h3 z2
           have P23 := P2.below h3 (Nat.le_refl _)
           have z3 := Nat.le_trans z2 h3.size)
        | (go_at_call 10; clear q1; refine (same_at P23 r3 (b := true) (by simp)).mono ?_; rintro e w4 ⟨rfl, h4⟩
           have r4 := r3.below h4 z3
           have P34 := P3.below h4 (Nat.le_refl _))
        | (go_at_call 10; refine (same_at P34 r4 (b := true) (by simp)).mono ?_; rintro e w5 ⟨rfl, h5⟩)
        | (go_at_call 11; refine (num_any _ _).mono ?_; rintro e w' ⟨rfl, hw'⟩; subst w'))
      go_ret
      exact ⟨rfl, (((h1.on h2).on h3).on h4).on h5⟩
    · have hpq : Hid (∀ z ∈ x0, spP y x z = !spP x y z) := toHid fun z hz => inB_parts hX hY (itB_place (hval z hz)) hxy
      have hxy2 : (x == y) = false := by simpa using hxy
      have hkey : Hid (∀ u z : It, spP x y u = true → spP x y z = false → ¬ u.k = z.k) := toHid fun u z h1 h2 e => by
        simp only [spP] at h1 h2
        rw [e, h2] at h1
        cases h1
      replace hL1 := toHid hL1
      replace hE1 := toHid hE1
      replace hL2 := toHid hL2
      replace hE2 := toHid hE2
      clear hs hval
      generalize spP x y = P at *
      generalize spP y x = Q at *
      obtain ⟨p0, c0, e0, n0, hp0⟩ := r0.its hz
      subst e0
      go_enter Try.func4, Try.ntmps4
      go_wp2_with (first
        | (go_at_call 14; refine (awake6_any _).mono ?_; rintro e w1 ⟨rfl, h1⟩
           have r1 := r0.below h1 hz
           have z1 := h1.size)
        | (go_at_call 8; clear t1; refine (sOf_at r1 z1 _ _ hL1.out hE1.out).mono ?_; rintro e w2 ⟨o2, rfl, P2, h2⟩
           have r2 := r1.below h2 z1
           have z2 := Nat.le_trans z1 h2.size)
        | (go_at_call 8; refine (sOf_at r2 z2 _ _ hL2.out hE2.out).mono ?_; rintro e w3 ⟨o3, rfl, P3, h3⟩
           have P23 := P2.below h3 (Nat.le_refl _)
           obtain ⟨p2, c2, e2, n2, hp2⟩ := P23.its h3.size
           obtain ⟨p3, c3, e3, n3, hp3⟩ := P3.its (Nat.le_refl _)
           subst e2
           subst e3)
        | (go_at_call 11; refine (num_any _ _).mono ?_; rintro e w' ⟨rfl, hw'⟩; subst w'))
      have hB : Below w.heap.size w w3 := (h1.on h2).on h3
      have s1 := hB.size
      clear r0 r1 r2 P2 P3 P23 h1 h2 h3 z1 z2 hL1 hL2 hE1 hE2
      go_loopw [13, 14, 15] (fun i j k wr => ∃ m : Nat, m ≤ x0.length ∧ i = .int .i64 ((x0.take m).filter P).length ∧ j = .int .i64 ((x0.take m).filter Q).length ∧ k = .int .i64 m ∧ Below w3.heap.size w3 wr) (fun _ _ k _ => x0.length - (intOf k).toNat)
      case atStart => exact ⟨0, Nat.zero_le _, rfl, rfl, rfl, Below.refl _ _⟩
      case round =>
        obtain ⟨m, hm, rfl, rfl, rfl, hbr⟩ := hrel
        by_cases hlt : m < x0.length
        · have hlt' : (m : Int) < (x0.length : Int) := by omega
          obtain ⟨b0, off0, rfl, _, hb0, hc0⟩ := hp0 (by omega)
          have it0 := (hc0 m hlt).below (hB.on hbr) hb0
          rw [getD_at _ _ hlt] at it0
          have hpm := hpq.out _ (List.getElem_mem hlt)
          rcases Bool.eq_false_or_eq_true (P x0[m]) with hP | hP
          · rw [hP, Bool.not_true] at hpm
            obtain ⟨f1, f2, f3⟩ := filter_at hlt hP ⟨0, 0, 0, 0, false⟩
            have f4 := filter_off hlt hpm
            obtain ⟨b2, off2, rfl, _, hb2, hc2⟩ := hp2 (by omega)
            have it2 := (hc2 _ f1).below hbr hb2
            rw [f2] at it2
            clear hc0 hc2 f2 hP hpm hp0 hp2 hp3 hpq hkey
            replace f3 := toHid f3
            replace f4 := toHid f4
            generalize ((x0.take m).filter P).length = i at *
            generalize ((x0.take m).filter Q).length = j at *
            generalize x0[m] = z at *
            obtain ⟨zk, zc, zu, zx, zg⟩ := z
            obtain ⟨c1, c2, c3, c4, c5⟩ := it0
            obtain ⟨d1, d2, d3, d4, d5⟩ := it2
            dsimp only at c1 c2 c3 c4 c5 d1 d2 d3 d4 d5
            have hi' : (i : Int) < ((x0.filter P).length : Int) := by omega
            have hi2 : decide ((i : Int) < ((x0.filter P).length : Int)) = true := by simpa using f1
            go_wp2
            go_quiet (fail)
            go_wp2
            go_roundw
            case rel => exact ⟨m + 1, by omega, by rw [f3.out]; go_num, by rw [f4.out], by go_num, hbr.onD _⟩
            case measure => simp [intOf]; omega
          · rw [hP, Bool.not_false] at hpm
            obtain ⟨f1, f2, f3⟩ := filter_at hlt hpm ⟨0, 0, 0, 0, false⟩
            have f4 := filter_off hlt hP
            obtain ⟨b3, off3, rfl, _, hb3, hc3⟩ := hp3 (by omega)
            have it3 := (hc3 _ f1).below hbr hb3
            rw [f2] at it3
            by_cases hi : ((x0.take m).filter P).length < (x0.filter P).length
            · obtain ⟨b2, off2, rfl, _, hb2, hc2⟩ := hp2 (by omega)
              have it2 := (hc2 _ hi).below hbr hb2
              have hne := hkey.out _ _ (filter_get hi ⟨0, 0, 0, 0, false⟩) hP
              clear hc0 hc2 hc3 f2 hP hpm hp0 hp2 hp3 hpq hkey
              replace f3 := toHid f3
              replace f4 := toHid f4
              generalize (x0.filter P).getD ((x0.take m).filter P).length ⟨0, 0, 0, 0, false⟩ = u at *
              generalize ((x0.take m).filter P).length = i at *
              generalize ((x0.take m).filter Q).length = j at *
              generalize x0[m] = z at *
              obtain ⟨zk, zc, zu, zx, zg⟩ := z
              obtain ⟨uk, uc, uu, ux, ug⟩ := u
              obtain ⟨c1, c2, c3, c4, c5⟩ := it0
              obtain ⟨d1, d2, d3, d4, d5⟩ := it2
              obtain ⟨g1, g2, g3, g4, g5⟩ := it3
              dsimp only at c1 c2 c3 c4 c5 d1 d2 d3 d4 d5 g1 g2 g3 g4 g5 hne
              have hi' : (i : Int) < ((x0.filter P).length : Int) := by omega
              have hi2 : decide ((i : Int) < ((x0.filter P).length : Int)) = true := by simpa using hi
              have hj' : (j : Int) < ((x0.filter Q).length : Int) := by omega
              have hj2 : decide ((j : Int) < ((x0.filter Q).length : Int)) = true := by simpa using f1
              go_wp2
              go_quiet (fail)
              go_wp2
              go_quiet (fail)
              go_wp2
              go_roundw
              case rel => exact ⟨m + 1, by omega, by rw [f4.out], by rw [f3.out]; go_num, by go_num, hbr.onD _⟩
              case measure => simp [intOf]; omega
            · clear hc0 hc3 f2 hP hpm hp0 hp2 hp3 hpq hkey
              replace f3 := toHid f3
              replace f4 := toHid f4
              generalize ((x0.take m).filter P).length = i at *
              generalize ((x0.take m).filter Q).length = j at *
              generalize x0[m] = z at *
              obtain ⟨zk, zc, zu, zx, zg⟩ := z
              obtain ⟨c1, c2, c3, c4, c5⟩ := it0
              obtain ⟨g1, g2, g3, g4, g5⟩ := it3
              dsimp only at c1 c2 c3 c4 c5 g1 g2 g3 g4 g5
              have hi' : ¬ (i : Int) < ((x0.filter P).length : Int) := by omega
              have hi2 : decide ((i : Int) < ((x0.filter P).length : Int)) = false := by simpa using hi'
              have hj' : (j : Int) < ((x0.filter Q).length : Int) := by omega
              have hj2 : decide ((j : Int) < ((x0.filter Q).length : Int)) = true := by simpa using f1
              go_wp2
              go_quiet (fail)
              go_wp2
              go_quiet (fail)
              go_wp2
              go_roundw
              case rel => exact ⟨m + 1, by omega, by rw [f4.out], by rw [f3.out]; go_num, by go_num, hbr.onD _⟩
              case measure => simp [intOf]; omega
        · obtain rfl : m = x0.length := by omega
          rw [List.take_length]
          go_wp2
          go_ret
          exact ⟨rfl, hB.on hbr⟩
  · obtain ⟨hL1, hE1⟩ := sp_no (a := x) (b := y) (.inl hs)
    obtain ⟨hL2, hE2⟩ := sp_no (a := y) (b := x) (.inl hs)
    replace hL1 := toHid hL1
    replace hE1 := toHid hE1
    replace hL2 := toHid hL2
    replace hE2 := toHid hE2
    obtain ⟨p0, c0, e0, n0, -⟩ := r0.its hz
    subst e0
    go_enter Try.func4, Try.ntmps4
    go_wp2_with (first
      | (go_at_call 14; refine (awake6_any _).mono ?_; rintro e w1 ⟨rfl, h1⟩
         have r1 := r0.below h1 hz
         have z1 := h1.size)
      | (go_at_call 8; clear t1; refine (sOf_at r1 z1 _ _ hL1.out hE1.out).mono ?_; rintro e w2 ⟨o2, rfl, P2, h2⟩
         have r2 := r1.below h2 z1
         have z2 := Nat.le_trans z1 h2.size
         obtain ⟨p2, c2, e2, n2, -⟩ := P2.its (Nat.le_refl _)
         subst e2)
      | (go_at_call 8; refine (sOf_at r2 z2 _ _ hL2.out hE2.out).mono ?_; rintro e w3 ⟨o3, rfl, P3, h3⟩
         obtain ⟨p3, c3, e3, n3, -⟩ := P3.its (Nat.le_refl _)
         subst e3)
      | (go_at_call 11; refine (num_any _ _).mono ?_; rintro e w' ⟨rfl, hw'⟩; subst w'))
    go_ret
    exact ⟨rfl, (h1.on h2).on h3⟩

/-! ### The row's step -/
set_option maxRecDepth 100000 in
theorem lifted (os : Os) (started : os.Started) (H : Type) (enc : TypeId × Value → H) :
    ReturnsInHanded {} Try.checked os 4 .any (Rows.spanPartsSpec.pre6 enc Try.prog Try.f4 Rows.spanPartsRow.domain false) (Rows.spanPartsSpec.post enc Try.prog Try.f4 false true false false) := by
  refine returnsInHanded_of_change_sized (C := Try.checked) ownK started (by kernel_rfl) Try.func4
    (ChangeSpec.witness6 (enc := enc) (C := Try.checked) false ⟨#[], #[.slice none 0 0, .int .i64 0, .int .i64 0], []⟩ 8 (by kernel_rfl) (by kernel_rfl) (by kernel_rfl) (by kernel_rfl)) ?_
  intro W base args ds gs before hval0 hW hcnd hsz0 _
  have hsz : (DataW.weightsEach Try.prog (Try.f4.params.toList ++ Rows.spanPartsSpec.plain.varTypes Try.prog) (ds ++ gs)).all (· ≤ reachBytes) = true := hsz0
  have hval : ∀ (j : Nat) t v, Try.f4.params[j]? = some t → args[j]? = some v → Value.okWide Try.prog W .any base t v := hval0
  have hW' := hW
  obtain ⟨p, q, hA0, hV, rfl, hfz, hnd⟩ := hW
  have hA : DataW.TrodAll enc Try.prog W 0 (fun _ => true) true Try.f4.params.toList args.toList ds p := hA0
  rw [Try.params4] at hA hval hsz
  obtain ⟨v0, vs0, d0, ds0, p0, q0, hargs, rfl, rfl, h0, r0⟩ := trodAll_cons hA
  obtain ⟨v1, vs1, d1, ds1, p1, q1, rfl, rfl, rfl, h1, r1⟩ := trodAll_cons r0
  obtain ⟨v2, vs2, d2, ds2, p2, q2, rfl, rfl, rfl, h2, r2⟩ := trodAll_cons r1
  obtain ⟨rfl, rfl, rfl⟩ := trodAll_nil r2
  obtain rfl : args = #[v0, v1, v2] := by cases args; simp_all
  obtain ⟨rfl, rfl⟩ := trodVars_none hV
  clear r0 r1 r2
  have k0 := h0
  have lt0 : ∀ x ∈ p0, x.block < W.heap.size := by obtain ⟨m, hm⟩ := k0; exact DataW.trod_lt m _ _ _ hm
  have z0 : ∀ n ∈ d0.weights Try.prog 22, n ≤ reachBytes := fun n hn => by simpa using List.all_eq_true.1 hsz _ (DataW.weights_mem_each (j := 0) rfl rfl n hn)
  have f0 : W.noneFrozen p0 := fun b off hm => hfz b off (by simp [hm])
  have k1 := h1
  have lt1 : ∀ x ∈ p1, x.block < W.heap.size := by obtain ⟨m, hm⟩ := k1; exact DataW.trod_lt m _ _ _ hm
  have k2 := h2
  have lt2 : ∀ x ∈ p2, x.block < W.heap.size := by obtain ⟨m, hm⟩ := k2; exact DataW.trod_lt m _ _ _ hm
  obtain ⟨x0, r0, s0, w0⟩ := open_rowT (hval 0 22 v0 rfl rfl) h0 f0 z0
  obtain ⟨a1, rfl, rfl, rfl, w1⟩ := open_int Try.underlying3 (hval 1 3 v1 rfl rfl) h1
  obtain ⟨a2, rfl, rfl, rfl, w2⟩ := open_int Try.underlying3 (hval 2 3 v2 rfl rfl) h2
  clear hA0 hval0
  refine (walk v0 x0 a1 a2 W r0 s0 w0 w1 w2).mono fun e W' ⟨he, bel⟩ => ?_
  subst he
  exact ⟨_, rfl, _, _, _, [], _, [], hW', trodAll_mk1 (shut_bool Try.underlying4 _), (trodAll_cons_mk (Below.trod laidOut (by kernel_rfl) (of_decide_eq_true (by kernel_rfl)) k0 bel lt0) (trodAll_cons_mk (Below.trod laidOut (by kernel_rfl) (of_decide_eq_true (by kernel_rfl)) k1 bel lt1) (trodAll_cons_mk (Below.trod laidOut (by kernel_rfl) (of_decide_eq_true (by kernel_rfl)) k2 bel lt2) trodAll_mk0))), rfl, bel.frame _, fun h => by cases h⟩

theorem over : Rows.spanPartsRow.holds Try.pinned (OpenSpec.ofChange Rows.spanPartsSpec) :=
  OpenClaim.holds_of_wide 4 Try.f4 rfl rfl rfl rfl rfl rfl rfl ⟨rfl, rfl, rfl, rfl, rfl⟩ rfl rfl rfl rfl rfl (by kernel_rfl) Try.func4 (by kernel_rfl)
    (of_decide_eq_true (by kernel_rfl)) (by unfold Func.isWrapper; first | (rw [if_pos (by decide +kernel)]; kernel_rfl) | (rw [if_neg (by decide +kernel)]; exact ⟨rfl, rfl⟩))
    (fun os started H enc _ => lifted os started H enc)

end Go.Proofs.Ytekefbhpkpoghaa.spanParts

namespace Go.Proofs.Ytekefbhpkpoghaa
/-- The statement, by its short name. -/
theorem spanParts_holds : Rows.SpanPartsSaid := spanParts.over
#print axioms spanParts_holds
end Go.Proofs.Ytekefbhpkpoghaa
