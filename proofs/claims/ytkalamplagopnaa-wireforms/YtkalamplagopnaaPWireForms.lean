
/-
  The statement WireForms: none of sixteen texts is told by Put, nor is a message with one byte of its item changed, nor one with a byte more; and no key above 255 is put.
-/
import Derived.Test.YtkalamplagopnaaRows
import Derived.Test.YtkalamplagopnaaOpen
import Derived.Test.YtkalamplagopnaaWireLaw
import Derived.Test.YtkalamplagopnaaWireBad
import Derived.Test.YtkalamplagopnaaWireRef
import Derived.Deep.RegionLawGrows
import Derived.Laws.Bits128
import Derived.Deep.CutRange
import Derived.Deep.CutBlock
namespace Go.Proofs.Ytkalamplagopnaa.wireForms
open Go.ChangeShapes Go.WideShapes Go.ChangeAt Go.RowKit
set_option linter.unusedVariables false

/-! ### The walk -/
theorem on_drew {w a : World} (h : Below w.heap.size w a) : Below w.heap.size w a.drew := h.onD 1
theorem box_drew {w : World} {b : Nat} {xs : Array Value} (h : Box w b xs) : Box w.drew b xs := h.drewN 1
set_option maxRecDepth 20000 in
set_option maxHeartbeats 8000000 in
theorem walk (a0 : Int) (a1 : Int) (w : World) (w0 : (Lit.int .i64 a0).wf = true) (w1 : (Lit.int .i64 a1).wf = true) :
    Calls Try.prog 4 #[.int .i64 a0, .int .i64 a1] w fun e w' => e = .returned (.bool true) ∧ Below w.heap.size w w' := by
  obtain ⟨q, hq⟩ : ∃ q : Nat, a0 % 16 = (q : Int) := ⟨(a0 % 16).toNat, by omega⟩
  have cq : bits .and .i64 a0 15 = (q : Int) := (and15 a0).trans hq
  have q16 : q < 16 := by omega
  obtain ⟨D, hD⟩ : ∃ D : Int, 1 + a1 % 128 = D := ⟨_, rfl⟩
  have D0 : 1 ≤ D := by omega
  have D1 : D ≤ 128 := by omega
  have cD : IntKind.i64.wrap (1 + bits .and .i64 a1 127) = D := by rw [i64_and127, IntKind.wrap_i64]; omega
  have cD' : 1 + bits .and .i64 a1 127 = D := by rw [i64_and127]; omega
  have cD8 : IntKind.u8.wrap D = D := by simp only [IntKind.wrap, IntKind.signed, IntKind.bits]; simp; omega
  have cDm : D % 256 = D := by omega
  have cDi : IntKind.i64.wrap D = D := by rw [IntKind.wrap_i64]; omega
  obtain ⟨r, hr⟩ : ∃ r : Nat, r = (a0 % 18446744073709551616).toNat % 7 := ⟨_, rfl⟩
  have er : (IntKind.u64.wrap a0).tmod 7 = (r : Int) := rem_u64 a0 7 r hr
  have r7 : r < 7 := by omega
  obtain ⟨k, hk⟩ : ∃ k : Nat, 3 + r = k := ⟨_, rfl⟩
  have ck : 3 + (r : Int) = (k : Int) := by omega
  have ci : IntKind.i64.wrap (r : Int) = (r : Int) := by rw [IntKind.wrap_i64]; omega
  have cik : IntKind.i64.wrap (k : Int) = (k : Int) := by rw [IntKind.wrap_i64]; omega
  have cik1 : IntKind.i64.wrap ((k : Int) + 1) = (k : Int) + 1 := by rw [IntKind.wrap_i64]; omega
  obtain ⟨⟨y0, y1⟩, hbad⟩ : (0 ≤ offY k D ∧ offY k D < 256) ∧ getB (offX k D) = false := by
    have h := off_all ⟨r, r7⟩ ⟨(a1 % 128).toNat, by omega⟩
    have e1 : (1 : Int) + ((⟨(a1 % 128).toNat, by omega⟩ : Fin 128) : Nat) = D := by show 1 + (((a1 % 128).toNat : Nat) : Int) = D; omega
    rw [e1, hk] at h
    exact h
  obtain ⟨T, hT, bT, lT, gT, eT⟩ := bad_at q16
  have HT := fun W : World => wGet_any bT lT W
  rw [gT, eT] at HT
  have HX := fun W : World => wPut_any (RowI.nil0 (lo := 0) (hi := 0) (w := W)) (Nat.zero_le _) 1 1 2 0 5 1 2 3 false false
  rw [one_put.1, one_put.2] at HX
  have HM := fun W : World => wGet_any (L := oneX ++ [120]) (by unfold Byts; decide) (by decide) W
  rw [one_more.1, one_more.2] at HM
  have hk10 : k < oneX.length := by simp [oneX]; omega
  have bY : Byts (offX k D) := by
    intro x hx
    rcases List.mem_append.1 hx with hx | hx
    · rcases List.mem_append.1 hx with hx | hx
      · exact one_byts x (List.mem_of_mem_take hx)
      · obtain rfl := List.mem_singleton.1 hx
        exact ⟨y0, y1⟩
    · exact one_byts x (List.mem_of_mem_drop hx)
  have lY : (offX k D).length ≤ 140737488355328 := by simp [offX, oneX]; omega
  have HY := fun W : World => wGet_any bY lY W
  rw [show getM (offX k D) = zeroM by simp [getM, hbad], show getE (offX k D) = 1300 by simp [getE, hbad]] at HY
  have HA := fun W : World => wPut_any (RowI.nil0 (lo := 0) (hi := 0) (w := W)) (Nat.zero_le _) 2 1 2 (255 + D) 0 0 0 0 false false
  have hno : mayB ⟨2, 1, 2, [], 255 + D, ⟨0, 0, 0, 0, false⟩, false⟩ = false := by
    have : plB (255 + D) = false := by simp [plB]; omega
    simp [mayB, mgB, knB, askB, this]
  rw [show putL ⟨2, 1, 2, [], 255 + D, ⟨0, 0, 0, 0, false⟩, false⟩ = [] by simp [putL, hno], show putE ⟨2, 1, 2, [], 255 + D, ⟨0, 0, 0, 0, false⟩, false⟩ = 1300 by simp [putE, hno]] at HA
  have cE : IntKind.i64.wrap (255 + D) = 255 + D := by rw [IntKind.wrap_i64]; omega
  obtain ⟨z, hz, z0, z1, gz⟩ := sb_at one_byts hk10
  have hxor : bits .xor .u8 z D = offY k D := by rw [offY, hz]
  obtain ⟨y, hy⟩ : ∃ y, offY k D = y := ⟨_, rfl⟩
  have hx1 : (sb oneX).extract 0 k = sb (oneX.take k) := by
    apply ByteArray.ext
    simp [sb, List.map_take]
  have hx2 : (sb oneX).extract (k + 1) 10 = sb (oneX.drop (k + 1)) := by
    apply ByteArray.ext
    simp only [sb, ByteArray.data_extract, List.map_drop, List.extract_toArray]
    rw [List.extract_eq_take_drop, List.take_of_length_le (by simp [oneX])]
  obtain ⟨A, hA⟩ : ∃ A, oneX.take k = A := ⟨_, rfl⟩
  obtain ⟨B, hB⟩ : ∃ B, oneX.drop (k + 1) = B := ⟨_, rfl⟩
  have hx3 : sb A ++ sb [y] = sb (A ++ [y]) := (sb_append _ _).symm
  obtain ⟨C, hC⟩ : ∃ C, A ++ [y] = C := ⟨_, rfl⟩
  have lA : A.length = k := by rw [← hA]; simp [oneX]; omega
  have lB : B.length = 9 - k := by rw [← hB]; simp [oneX]
  have lC : C.length = k + 1 := by rw [← hC, List.length_append, lA]; rfl
  have sZ := sb_len
  have hx4 : sb C ++ sb B = sb (offX k D) := by rw [← hC, ← hA, ← hB, ← hy, ← sb_append]; rfl
  rw [hC] at hx3
  rw [hA] at hx1
  rw [hB] at hx2
  obtain ⟨Y, hY⟩ : ∃ Y, offX k D = Y := ⟨_, rfl⟩
  rw [hY] at hx4 HY
  rw [hy] at hxor y0 y1
  have hx5 : sb oneX ++ ⟨#[120]⟩ = sb (oneX ++ [120]) := by rw [sb_append]; rfl
  obtain ⟨M, hM⟩ : ∃ M, oneX ++ [120] = M := ⟨_, rfl⟩
  rw [hM] at hx5 HM
  have sX : (sb oneX).size = 10 := rfl
  obtain ⟨X, hX⟩ : ∃ X, sb oneX = X := ⟨_, rfl⟩
  rw [hX] at hx1 hx2 hx5 sX HX
  replace gz : ∀ h : k < X.size, (X[k].toNat : Int) = z := fun h => by subst hX; exact gz h
  have cv : ∀ (W : World) (b : Nat), W.cell? ⟨b, 0, none⟩ = some (.int .u8 y) → (convert 46 9 (.slice (some ⟨b, 0, none⟩) 1 1)).run Try.prog W = .ok (.string (sb [y])) W := fun W b h =>
    conv_bytes W b 0 1 1 [y] rfl (fun i hi => by
      obtain rfl : i = 0 := by omega
      rw [by8_in (x := ([y] : List Int).getD 0 0) y0 y1]
      exact h)
  have k0 : 0 ≤ (k : Int) := by omega
  have k10 : (k : Int) < 10 := by omega
  have k10' : (k : Int) ≤ 10 := by omega
  have k11 : (k : Int) + 1 ≤ 10 := by omega
  have k1 : 0 ≤ (k : Int) + 1 := by omega
  have kn : k ≤ 10 := by omega
  have kn1 : k + 1 ≤ 10 := by omega
  have kn2 : k < 10 := by omega
  have qi : (q : Int) < 16 := by omega
  have q0 : 0 ≤ (q : Int) := by omega
  dsimp only [zeroM, zeroI] at HT HY HM
  replace HT := toHid HT
  replace HX := toHid HX
  replace HY := toHid HY
  replace HM := toHid HM
  replace HA := toHid HA
  clear hq hD er hk hbad bT lT gT eT bY lY hno hz hy hA hB hC hY hM hX w0 w1 hk10 r7
  have er : (IntKind.u64.wrap a0).tmod 7 = (r : Int) := rem_u64 a0 7 r hr
  clear hr
  have t1 := trivial
  have t2 := trivial
  have t3 := trivial
  go_enter Try.func4, Try.ntmps4
  go_upto_region 5 with (first
    | (go_at_call 16; refine (awake13_any _).mono ?_; rintro e w1 ⟨rfl, h1⟩))
  have c1 : (w1.alloc (.cells #[.string ⟨#[]⟩, .string ⟨#[0, 1, 2]⟩, .string ⟨#[4, 1, 2, 5]⟩, .string ⟨#[0, 1, 1, 0]⟩, .string ⟨#[0, 1, 2, 1]⟩, .string ⟨#[0, 1, 2, 1, 5, 5]⟩, .string ⟨#[1, 1, 2, 5]⟩, .string ⟨#[1, 1, 2, 5, 1, 0, 2, 3, 0, 12]⟩, .string ⟨#[1, 1, 2, 5, 1, 0, 2, 3, 1, 12]⟩, .string ⟨#[1, 1, 2, 5, 0, 0, 2, 3, 0, 10]⟩, .string ⟨#[2, 1, 2, 5, 0]⟩, .string ⟨#[3, 1, 2, 5]⟩, .string ⟨#[3, 1, 2, 5, 1]⟩, .string ⟨#[3, 1, 2, 5, 2]⟩, .string ⟨#[3, 1, 2, 5, 0, 0]⟩, .string ⟨#[3, 1, 2, 6, 1, 5, 1, 0, 2, 3, 0, 11]⟩] 9)).cell? ⟨w1.heap.size, q, none⟩ = some (.string (sb T)) := ((Box.new w1 badT 9).2.1 q).trans hT
  have hB := h1.onA (.cells #[.string ⟨#[]⟩, .string ⟨#[0, 1, 2]⟩, .string ⟨#[4, 1, 2, 5]⟩, .string ⟨#[0, 1, 1, 0]⟩, .string ⟨#[0, 1, 2, 1]⟩, .string ⟨#[0, 1, 2, 1, 5, 5]⟩, .string ⟨#[1, 1, 2, 5]⟩, .string ⟨#[1, 1, 2, 5, 1, 0, 2, 3, 0, 12]⟩, .string ⟨#[1, 1, 2, 5, 1, 0, 2, 3, 1, 12]⟩, .string ⟨#[1, 1, 2, 5, 0, 0, 2, 3, 0, 10]⟩, .string ⟨#[2, 1, 2, 5, 0]⟩, .string ⟨#[3, 1, 2, 5]⟩, .string ⟨#[3, 1, 2, 5, 1]⟩, .string ⟨#[3, 1, 2, 5, 2]⟩, .string ⟨#[3, 1, 2, 5, 0, 0]⟩, .string ⟨#[3, 1, 2, 6, 1, 5, 1, 0, 2, 3, 0, 11]⟩] 9)
  generalize w1.alloc (.cells #[.string ⟨#[]⟩, .string ⟨#[0, 1, 2]⟩, .string ⟨#[4, 1, 2, 5]⟩, .string ⟨#[0, 1, 1, 0]⟩, .string ⟨#[0, 1, 2, 1]⟩, .string ⟨#[0, 1, 2, 1, 5, 5]⟩, .string ⟨#[1, 1, 2, 5]⟩, .string ⟨#[1, 1, 2, 5, 1, 0, 2, 3, 0, 12]⟩, .string ⟨#[1, 1, 2, 5, 1, 0, 2, 3, 1, 12]⟩, .string ⟨#[1, 1, 2, 5, 0, 0, 2, 3, 0, 10]⟩, .string ⟨#[2, 1, 2, 5, 0]⟩, .string ⟨#[3, 1, 2, 5]⟩, .string ⟨#[3, 1, 2, 5, 1]⟩, .string ⟨#[3, 1, 2, 5, 2]⟩, .string ⟨#[3, 1, 2, 5, 0, 0]⟩, .string ⟨#[3, 1, 2, 6, 1, 5, 1, 0, 2, 3, 0, 11]⟩] 9) = wA at c1 hB ⊢
  generalize w1.heap.size = bA at c1 ⊢
  clear hT h1
  replace hB := toHid hB
  go_upto_region 10 with (first
    | (go_at_call 11; refine (HT.out _).mono ?_; rintro e w2 ⟨p2, c2, rfl, -, h2⟩
       replace hB := toHid ((hB.out.on h2).onA (.cells #[.int .i64 0, .int .i64 0, .int .i64 0, .slice p2 0 c2, .int .i64 0, .int .i64 0, .int .i64 0, .int .i64 0, .int .i64 0, .bool false, .bool false] 28))
       clear h2)
    | (go_at_call 9; clear t1; refine (HX.out _).mono ?_; rintro e w3 ⟨rfl, h3⟩
       replace hB := toHid (hB.out.on h3)
       clear h3 c1)
    | (go_at_call 13; refine (num_any _ _).mono ?_; rintro e w9 ⟨rfl, hw9⟩; subst w9))
  clear HX HT
  go_cut [12, 13] from 53 to 73 (fun _ v13 wx => v13 = .int .i64 1300 ∧ Below w.heap.size w wx)
  case first =>
    go_region_with (first
      | (go_at_call 11; refine (HY.out _).mono ?_; rintro e w6 ⟨p6, c6, rfl, -, h6⟩
         have hB6 : Below w.heap.size w w6 := by
           first
             | with_reducible exact (on_drew (hB.out.onA _)).on h6
             | with_reducible exact (on_drew ((hB.out.onA _).onA _)).on h6
         have t4 := trivial
         first
           | (have BX := (box_drew (Box.newAt (n := w3.heap.size + 1) #[.int .i64 0, .int .i64 0, .int .i64 0, .slice none 0 0, .int .i64 0, .int .i64 0, .int .i64 0, .int .i64 0, .int .i64 0, .bool false, .bool false] 28 (by simp))).below h6
              obtain ⟨x1, x2, x3⟩ := BX
              clear t4)
           | (have BX := (box_drew ((Box.newAt (n := w3.heap.size) #[.int .i64 0, .int .i64 0, .int .i64 0, .slice none 0 0, .int .i64 0, .int .i64 0, .int .i64 0, .int .i64 0, .int .i64 0, .bool false, .bool false] 28 (by simp)).alloc _)).below h6
              obtain ⟨x1, x2, x3⟩ := BX
              clear t4)
           | skip
         have nw : w.heap.size ≤ w3.heap.size := hB.out.size
         have nw1 : w.heap.size ≤ w3.heap.size + 1 := by omega
         replace hB6 := toHid hB6
         clear h6))
    all_goals
      replace HM := toHid HM
      go_wp2
      go_meet
      refine ⟨rfl, ?_⟩
      repeat (first
        | with_reducible exact hB6.out
        | with_reducible refine Below.onA ?_ _
        | with_reducible refine Below.setCell ?_ (by first | exact nw | exact nw1) _)
  case rest =>
    obtain ⟨rfl, hBc⟩ := hcut
    replace hBc := toHid hBc
    go_wp2_with (first
      | (go_at_call 11; refine (HM.out _).mono ?_; rintro e w7 ⟨p7, c7, rfl, -, h7⟩)
      | (go_at_call 9; refine (HA.out _).mono ?_; rintro e w8 ⟨rfl, h8⟩)
      | (go_at_call 13; refine (num_any _ _).mono ?_; rintro e w9 ⟨rfl, hw9⟩; subst w9))
    go_ret
    exact ⟨rfl, ((hBc.out.on h7).onA _).on h8⟩

/-! ### The row's step -/
set_option maxRecDepth 100000 in
theorem lifted (os : Os) (started : os.Started) (H : Type) (enc : TypeId × Value → H) :
    ReturnsInHanded {} Try.checked os 4 .any (Rows.wireFormsSpec.pre6 enc Try.prog Try.f4 Rows.wireFormsRow.domain false) (Rows.wireFormsSpec.post enc Try.prog Try.f4 false true false false) := by
  refine returnsInHanded_of_change_sized (C := Try.checked) ownK started (by kernel_rfl) Try.func4
    (ChangeSpec.witness6 (enc := enc) (C := Try.checked) false ⟨#[], #[.int .i64 0, .int .i64 0], []⟩ 8 (by kernel_rfl) (by kernel_rfl) (by kernel_rfl) (by kernel_rfl)) ?_
  intro W base args ds gs before hval0 hW hcnd hsz0 _
  have hsz : (DataW.weightsEach Try.prog (Try.f4.params.toList ++ Rows.wireFormsSpec.plain.varTypes Try.prog) (ds ++ gs)).all (· ≤ reachBytes) = true := hsz0
  have hval : ∀ (j : Nat) t v, Try.f4.params[j]? = some t → args[j]? = some v → Value.okWide Try.prog W .any base t v := hval0
  have hW' := hW
  obtain ⟨p, q, hA0, hV, rfl, hfz, hnd⟩ := hW
  have hA : DataW.TrodAll enc Try.prog W 0 (fun _ => true) true Try.f4.params.toList args.toList ds p := hA0
  rw [Try.params4] at hA hval hsz
  obtain ⟨v0, vs0, d0, ds0, p0, q0, hargs, rfl, rfl, h0, r0⟩ := trodAll_cons hA
  obtain ⟨v1, vs1, d1, ds1, p1, q1, rfl, rfl, rfl, h1, r1⟩ := trodAll_cons r0
  obtain ⟨rfl, rfl, rfl⟩ := trodAll_nil r1
  obtain rfl : args = #[v0, v1] := by cases args; simp_all
  obtain ⟨rfl, rfl⟩ := trodVars_none hV
  clear r0 r1
  have k0 := h0
  have lt0 : ∀ x ∈ p0, x.block < W.heap.size := by obtain ⟨m, hm⟩ := k0; exact DataW.trod_lt m _ _ _ hm
  have k1 := h1
  have lt1 : ∀ x ∈ p1, x.block < W.heap.size := by obtain ⟨m, hm⟩ := k1; exact DataW.trod_lt m _ _ _ hm
  obtain ⟨a0, rfl, rfl, rfl, w0⟩ := open_int Try.underlying3 (hval 0 3 v0 rfl rfl) h0
  obtain ⟨a1, rfl, rfl, rfl, w1⟩ := open_int Try.underlying3 (hval 1 3 v1 rfl rfl) h1
  clear hA0 hval0
  refine (walk a0 a1 W w0 w1).mono fun e W' ⟨he, bel⟩ => ?_
  subst he
  exact ⟨_, rfl, _, _, _, [], _, [], hW', trodAll_mk1 (shut_bool Try.underlying4 _), (trodAll_cons_mk (Below.trod laidOut (by kernel_rfl) (of_decide_eq_true (by kernel_rfl)) k0 bel lt0) (trodAll_cons_mk (Below.trod laidOut (by kernel_rfl) (of_decide_eq_true (by kernel_rfl)) k1 bel lt1) trodAll_mk0)), rfl, bel.frame _, fun h => by cases h⟩

theorem over : Rows.wireFormsRow.holds Try.pinned (OpenSpec.ofChange Rows.wireFormsSpec) :=
  OpenClaim.holds_of_wide 4 Try.f4 rfl rfl rfl rfl rfl rfl rfl ⟨rfl, rfl, rfl, rfl, rfl⟩ rfl rfl rfl rfl rfl (by kernel_rfl) Try.func4 (by kernel_rfl)
    (of_decide_eq_true (by kernel_rfl)) (by unfold Func.isWrapper; first | (rw [if_pos (by decide +kernel)]; kernel_rfl) | (rw [if_neg (by decide +kernel)]; exact ⟨rfl, rfl⟩))
    (fun os started H enc _ => lifted os started H enc)

end Go.Proofs.Ytkalamplagopnaa.wireForms

namespace Go.Proofs.Ytkalamplagopnaa
/-- The statement, by its short name. -/
theorem wireForms_holds : Rows.WireFormsSaid := wireForms.over
#print axioms wireForms_holds
end Go.Proofs.Ytkalamplagopnaa
