
/-
  The statement Peers: of any list of peers and any two numbers the program's answers (who is heard, who is left, who is lost, may they be) are the document's, and what was lent stays as it was.
-/
import Derived.Test.YtajbofkcpmpeoaaRows
import Derived.Test.YtajbofkcpmpeoaaOpen
import Derived.Test.YtajbofkcpmpeoaaPeerDoc
import Derived.Test.YtajbofkcpmpeoaaOpenP
namespace Go.Proofs.Ytajbofkcpmpeoaa.peers
open Go.ChangeShapes Go.WideShapes Go.ChangeAt Go.RowKit
set_option linter.unusedVariables false

/-! ### The walk -/
set_option maxHeartbeats 4000000 in
theorem walk (a0 : Int) (v1 : Value) (x1 : List Pe) (a2 : Int) (w : World) (w0 : (Lit.int .i64 a0).wf = true) (r1 : RowP 0 w.heap.size w v1 x1) (s1 : x1.length * 16 ≤ 140737488351232) (w1 : ∀ x ∈ x1, PeW x) (w2 : (Lit.int .i64 a2).wf = true) :
    Calls Try.prog 3 #[.int .i64 a0, v1, .int .i64 a2] w fun e w' => e = .returned (.bool true) ∧ Below w.heap.size w w' := by
  clear w0 w1 w2
  have hr := r1
  have hz : w.heap.size ≤ w.heap.size := Nat.le_refl _
  have hlen : x1.length * 16 ≤ 140737488351232 := s1
  obtain ⟨p0, c0, e0, n0, -⟩ := hr.pes hz
  subst e0
  clear r1 s1
  have t1 := trivial
  have t2 := trivial
  go_enter Try.func3, Try.ntmps3
  go_wp2_with (first
    | (go_at_call 9; refine (lendPeers_any hr (by omega)).mono ?_; rintro e w1 ⟨l1, rfl, L1, h1⟩
       have r1 := hr.below h1 hz
       have z1 := h1.size)
    | (go_at_call 10; refine (pHeard_any L1.row (Nat.le_refl _) _ _).mono ?_; rintro e w2 ⟨o2, rfl, P2, h2⟩
       have L2 := L1.below h2 (Nat.le_refl _)
       have r2 := r1.below h2 z1
       have z2 := Nat.le_trans z1 h2.size)
    | (go_at_call 11; refine (rHeard_any r2 z2 _ _).mono ?_; rintro e w3 ⟨o3, rfl, P3, h3⟩
       have L3 := L2.below h3 h2.size
       have P23 := P2.below h3 (Nat.le_refl _)
       have r3 := r2.below h3 z2
       have z3 := Nat.le_trans z2 h3.size
       have y3 := Nat.le_trans h2.size h3.size)
    | (go_at_call 12; refine (pAge_any L3.row y3 _).mono ?_; rintro e w4 ⟨o4, l4, rfl, ⟨lo1, hi1, lo2, hi2, A4, G4, q1, q2, q3, q4, q5⟩, h4⟩
       have L4 := L3.below h4 y3
       have P24 := P23.below h4 h3.size
       have P34 := P3.below h4 (Nat.le_refl _)
       have r4 := r3.below h4 z3
       have z4 := Nat.le_trans z3 h4.size
       have y4 := Nat.le_trans y3 h4.size)
    | (go_at_call 13; refine (rAge_any r4 z4 _).mono ?_; rintro e w5 ⟨o5, l5, rfl, A5, G5, h5⟩
       have k5 := h4.size
       have L5 := L4.below h5 y4
       have P25 := P24.below h5 (Nat.le_trans h3.size h4.size)
       have P35 := P34.below h5 h4.size
       have A45 := A4.below h5 q3
       have G45 := G4.below h5 q5
       have r5 := r4.below h5 z4
       have z5 := Nat.le_trans z4 h5.size
       have y5 := Nat.le_trans y4 h5.size)
    | (go_at_call 14; clear t1; refine (sameP_at P25 P35 (b := true) (by simp)).mono ?_; rintro e w6 ⟨rfl, h6⟩
       have L6 := L5.below h6 y5
       have P26 := P25.below h6 (Nat.le_trans h3.size (Nat.le_trans h4.size h5.size))
       have A46 := A45.below h6 (Nat.le_trans q3 h5.size)
       have G46 := G45.below h6 (Nat.le_trans q5 h5.size)
       have A56 := A5.below h6 (Nat.le_refl _)
       have G56 := G5.below h6 (Nat.le_refl _)
       have r6 := r5.below h6 z5
       have z6 := Nat.le_trans z5 h6.size
       have y6 := Nat.le_trans y5 h6.size
       have j6 := Nat.le_trans h3.size (Nat.le_trans h4.size (Nat.le_trans h5.size h6.size)))
    | (go_at_call 14; refine (sameP_at A46 A56 (b := true) (by simp)).mono ?_; rintro e w7 ⟨rfl, h7⟩
       have L7 := L6.below h7 y6
       have P27 := P26.below h7 j6
       have A47 := A46.below h7 (Nat.le_trans q3 (Nat.le_trans h5.size h6.size))
       have G47 := G46.below h7 (Nat.le_trans q5 (Nat.le_trans h5.size h6.size))
       have G57 := G56.below h7 h6.size
       have r7 := r6.below h7 z6
       have z7 := Nat.le_trans z6 h7.size
       have y7 := Nat.le_trans y6 h7.size
       have j7 := Nat.le_trans j6 h7.size)
    | (go_at_call 16; refine (sameI_at G47 G57 (b := true) (by simp)).mono ?_; rintro e w8 ⟨rfl, h8⟩
       have L8 := L7.below h8 y7
       have P28 := P27.below h8 j7
       have A48 := A47.below h8 (Nat.le_trans q3 (Nat.le_trans h5.size (Nat.le_trans h6.size h7.size)))
       have G48 := G47.below h8 (Nat.le_trans q5 (Nat.le_trans h5.size (Nat.le_trans h6.size h7.size)))
       have r8 := r7.below h8 z7
       have z8 := Nat.le_trans z7 h8.size
       have y8 := Nat.le_trans y7 h8.size)
    | (go_at_call 17; refine (pMay_any L8.row y8 _).mono ?_; rintro e w9 ⟨rfl, h9⟩
       have L9 := L8.below h9 y8
       have P29 := P28.below h9 (Nat.le_trans j7 h8.size)
       have A49 := A48.below h9 (Nat.le_trans q3 (Nat.le_trans h5.size (Nat.le_trans h6.size (Nat.le_trans h7.size h8.size))))
       have G49 := G48.below h9 (Nat.le_trans q5 (Nat.le_trans h5.size (Nat.le_trans h6.size (Nat.le_trans h7.size h8.size))))
       have r9 := r8.below h9 z8
       have z9 := Nat.le_trans z8 h9.size
       have y9 := Nat.le_trans y8 h9.size)
    | (go_at_call 18; refine (rPMay_any r9 z9 _).mono ?_; rintro e w10 ⟨rfl, h10⟩
       have L10 := L9.below h10 y9
       have P210 := P29.below h10 (Nat.le_trans j7 (Nat.le_trans h8.size h9.size))
       have A410 := A49.below h10 (Nat.le_trans q3 (Nat.le_trans h5.size (Nat.le_trans h6.size (Nat.le_trans h7.size (Nat.le_trans h8.size h9.size)))))
       have G410 := G49.below h10 (Nat.le_trans q5 (Nat.le_trans h5.size (Nat.le_trans h6.size (Nat.le_trans h7.size (Nat.le_trans h8.size h9.size)))))
       have r10 := r9.below h10 z9)
    | (go_at_call 19; clear t2; refine (spoilPeers_any P210).mono ?_; rintro e w11 ⟨rfl, h11⟩
       have L11 := L10.below h11.below (Nat.le_refl _)
       have A411 := A410.only h11 (.inr (Nat.le_trans h3.size q2))
       have G411 := G410.only h11 (.inr (Nat.le_trans h3.size q4))
       have r11 := r10.below h11.below z1)
    | (go_at_call 19; refine (spoilPeers_any A411).mono ?_; rintro e w12 ⟨rfl, h12⟩
       have L12 := L11.below h12.below (Nat.le_trans y3 q2)
       have G412 := G411.only h12 (by omega)
       have r12 := r11.below h12.below (Nat.le_trans z3 q2))
    | (go_at_call 20; refine (spoilInts_any G412).mono ?_; rintro e w13 ⟨rfl, h13⟩
       have L13 := L12.below h13 (Nat.le_trans y3 q4)
       have r13 := r12.below h13 (Nat.le_trans z3 q4))
    | (go_at_call 21; refine (keptPeers_any L13 r13).mono ?_; rintro e w14 ⟨rfl, q, rfl⟩)
    | (go_at_call 22; refine (awake7_any _).mono ?_; rintro e w15 ⟨rfl, h15⟩)
    | (go_at_call 15; refine (num_any _ _).mono ?_; rintro e w' ⟨rfl, hw'⟩; subst w'))
  go_ret
  have hB : Below w.heap.size w w10 := (((((((((h1.on h2).on h3).on h4).on h5).on h6).on h7).on h8).on h9).on h10)
  exact ⟨rfl, ((((hB.trans (h11.below.mono z1)).trans (h12.below.mono (Nat.le_trans z3 q2))).trans (h13.mono (Nat.le_trans z3 q4))).onD q).on h15⟩

/-! ### The row's step -/
set_option maxRecDepth 100000 in
theorem lifted (os : Os) (started : os.Started) (H : Type) (enc : TypeId × Value → H) :
    ReturnsInHanded {} Try.checked os 3 .any (Rows.peersSpec.pre6 enc Try.prog Try.f3 Rows.peersRow.domain false) (Rows.peersSpec.post enc Try.prog Try.f3 false true false false) := by
  refine returnsInHanded_of_change_sized (C := Try.checked) ownK started (by kernel_rfl) Try.func3
    (ChangeSpec.witness6 (enc := enc) (C := Try.checked) false ⟨#[], #[.int .i64 0, .slice none 0 0, .int .i64 0], []⟩ 8 (by kernel_rfl) (by kernel_rfl) (by kernel_rfl) (by kernel_rfl)) ?_
  intro W base args ds gs before hval0 hW hcnd hsz0 _
  have hsz : (DataW.weightsEach Try.prog (Try.f3.params.toList ++ Rows.peersSpec.plain.varTypes Try.prog) (ds ++ gs)).all (· ≤ reachBytes) = true := hsz0
  have hval : ∀ (j : Nat) t v, Try.f3.params[j]? = some t → args[j]? = some v → Value.okWide Try.prog W .any base t v := hval0
  have hW' := hW
  obtain ⟨p, q, hA0, hV, rfl, hfz, hnd⟩ := hW
  have hA : DataW.TrodAll enc Try.prog W 0 (fun _ => true) true Try.f3.params.toList args.toList ds p := hA0
  rw [Try.params3] at hA hval hsz
  obtain ⟨v0, vs0, d0, ds0, p0, q0, hargs, rfl, rfl, h0, r0⟩ := trodAll_cons hA
  obtain ⟨v1, vs1, d1, ds1, p1, q1, rfl, rfl, rfl, h1, r1⟩ := trodAll_cons r0
  obtain ⟨v2, vs2, d2, ds2, p2, q2, rfl, rfl, rfl, h2, r2⟩ := trodAll_cons r1
  obtain ⟨rfl, rfl, rfl⟩ := trodAll_nil r2
  obtain rfl : args = #[v0, v1, v2] := by cases args; simp_all
  obtain ⟨rfl, rfl⟩ := trodVars_none hV
  clear r0 r1 r2
  have k0 := h0
  have lt0 : ∀ x ∈ p0, x.block < W.heap.size := by obtain ⟨m, hm⟩ := k0; exact DataW.trod_lt m _ _ _ hm
  have k1 := h1
  have lt1 : ∀ x ∈ p1, x.block < W.heap.size := by obtain ⟨m, hm⟩ := k1; exact DataW.trod_lt m _ _ _ hm
  have z1 : ∀ n ∈ d1.weights Try.prog 22, n ≤ reachBytes := fun n hn => by simpa using List.all_eq_true.1 hsz _ (DataW.weights_mem_each (j := 1) rfl rfl n hn)
  have f1 : W.noneFrozen p1 := fun b off hm => hfz b off (by simp [hm])
  have k2 := h2
  have lt2 : ∀ x ∈ p2, x.block < W.heap.size := by obtain ⟨m, hm⟩ := k2; exact DataW.trod_lt m _ _ _ hm
  obtain ⟨a0, rfl, rfl, rfl, w0⟩ := open_int Try.underlying3 (hval 0 3 v0 rfl rfl) h0
  obtain ⟨x1, r1, s1, w1⟩ := open_rowP (hval 1 22 v1 rfl rfl) h1 f1 z1
  obtain ⟨a2, rfl, rfl, rfl, w2⟩ := open_int Try.underlying3 (hval 2 3 v2 rfl rfl) h2
  clear hA0 hval0
  refine (walk a0 v1 x1 a2 W w0 r1 s1 w1 w2).mono fun e W' ⟨he, bel⟩ => ?_
  subst he
  exact ⟨_, rfl, _, _, _, [], _, [], hW', trodAll_mk1 (shut_bool Try.underlying4 _), (trodAll_cons_mk (Below.trod laidOut (by kernel_rfl) (of_decide_eq_true (by kernel_rfl)) k0 bel lt0) (trodAll_cons_mk (Below.trod laidOut (by kernel_rfl) (of_decide_eq_true (by kernel_rfl)) k1 bel lt1) (trodAll_cons_mk (Below.trod laidOut (by kernel_rfl) (of_decide_eq_true (by kernel_rfl)) k2 bel lt2) trodAll_mk0))), rfl, bel.frame _, fun h => by cases h⟩

theorem over : Rows.peersRow.holds Try.pinned (OpenSpec.ofChange Rows.peersSpec) :=
  OpenClaim.holds_of_wide 3 Try.f3 rfl rfl rfl rfl rfl rfl rfl ⟨rfl, rfl, rfl, rfl, rfl⟩ rfl rfl rfl rfl rfl (by kernel_rfl) Try.func3 (by kernel_rfl)
    (of_decide_eq_true (by kernel_rfl)) (by unfold Func.isWrapper; first | (rw [if_pos (by decide +kernel)]; kernel_rfl) | (rw [if_neg (by decide +kernel)]; exact ⟨rfl, rfl⟩))
    (fun os started H enc _ => lifted os started H enc)

end Go.Proofs.Ytajbofkcpmpeoaa.peers

namespace Go.Proofs.Ytajbofkcpmpeoaa
/-- The statement, by its short name. -/
theorem peers_holds : Rows.PeersSaid := peers.over
#print axioms peers_holds
end Go.Proofs.Ytajbofkcpmpeoaa
