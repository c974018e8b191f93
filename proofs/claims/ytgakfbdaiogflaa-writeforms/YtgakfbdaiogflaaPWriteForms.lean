
/-
  The statement WriteForms: of nodes, keys and values that may not be, of the greatest count and of a full store, Put and Drop answer the errors that the document names.
-/
import Derived.Test.YtgakfbdaiogflaaRows
import Derived.Test.YtgakfbdaiogflaaOpen
import Derived.Test.YtgakfbdaiogflaaWrFull
import Derived.Test.YtgakfbdaiogflaaAnyInv
import Derived.Deep.RegionLawGrows
import Derived.Deep.DeepCutAuto
import Derived.Deep.CutRange
import Derived.Deep.CutBlock
namespace Go.Proofs.Ytgakfbdaiogflaa.writeForms
open Go.ChangeShapes Go.WideShapes Go.ChangeAt Go.RowKit
set_option linter.unusedVariables false

/-! ### The walk -/
theorem bad_key {k x : Int} {g : Bool} (hz : k < 0 ∨ 255 < k) : wrE ⟨true, 100, gnP, [7], gnT, []⟩ k x g = 1700 ∧ wrN ⟨true, 100, gnP, [7], gnT, []⟩ k x g = ⟨false, 0, [], [], [], []⟩ := by
  have e : plB k = false := by
    cases h : plB k with
    | false => rfl
    | true => have := plB_yes h; omega
  have h : wrE ⟨true, 100, gnP, [7], gnT, []⟩ k x g = 1700 := by simp [wrE, wrOk, e]
  exact ⟨h, wr_no (by rw [h]; decide)⟩
theorem bad_value {k x : Int} {g : Bool} (hz : x < 0 ∨ 255 < x) : wrE ⟨true, 100, gnP, [7], gnT, []⟩ k x g = 1700 ∧ wrN ⟨true, 100, gnP, [7], gnT, []⟩ k x g = ⟨false, 0, [], [], [], []⟩ := by
  have e : plB x = false := by
    cases h : plB x with
    | false => rfl
    | true => have := plB_yes h; omega
  have h : wrE ⟨true, 100, gnP, [7], gnT, []⟩ k x g = 1700 := by simp [wrE, wrOk, e]
  exact ⟨h, wr_no (by rw [h]; decide)⟩

set_option maxRecDepth 20000 in
def inv8 (a0 a1 d : Int) (g : Nat) (Z : Int) (wg1 : World) (u7 u9 u26 u27 u28 u29 u30 u31 u32 u33 u34 u35 u36 u37 u38 u39 u40 u41 u42 u43 u44 u45 u46 : Value) (U2 : World) (f : Nat → Bool) (ac : Act) (w' : World) : Prop := ∃ (x0 x1 x2 x3 x4 x5 x6 x7 x8 x9 x10 x11 x12 x13 x14 x16 : Value) (na nb nc r5 r6 r7 r8 : Option Addr) (e5 e6 e7 e8 pb px : Nat),
      ac = { tmps := #[.int .i64 a0, .int .i64 a1, undef, undef, .bool false, .int .i64 (1 + d), .pointer (some ⟨wg1.heap.size, 0, none⟩), u7, .int .i64 1700, u9, .int .i64 1700, x14, x16, undef, undef, undef, undef, undef, undef, undef, undef, undef, undef, undef, undef, undef, u26, u27, u28, u29, u30, u31, u32, u33, u34, u35, u36, u37, u38, u39, u40, u41, u42, u43, u44, u45, u46, x11, x0, x1, x2, x3, x4, x5, x6, x7, x8, x9, x10, x12, x13, undef, undef, undef, undef, undef, undef, undef, undef, undef, undef, undef, undef, undef, undef, undef, undef, undef, undef, undef, undef, undef, undef, undef, undef, undef, undef, undef, undef, undef, undef, undef, undef, undef, undef, undef, undef, undef, undef, undef, undef, undef, undef, undef, undef, undef, undef, undef, undef, undef, undef, undef, undef, undef, undef, undef, undef, undef, undef, undef, undef, undef, undef, undef, undef, undef, undef, undef, undef, undef, undef, undef, undef, undef, undef, undef, undef, undef, undef, undef, undef, undef, undef, undef, undef, undef, undef, undef, undef, undef, undef, undef, undef, undef, undef, undef, undef, undef, undef, undef, undef, undef, undef, undef, undef, undef, undef, undef, undef, undef, undef, undef, undef, undef], defers := [] } ∧ Below U2.heap.size U2 w' ∧
      (f 0 = true → x0 = .agg #[.bool true, .int .i64 100, .slice na 3 3, .slice nb 1 1, .slice nc 3 3, .slice none 0 0] ∧ (f 15 = false → NdAt 0 w'.heap.size w' (.slice na 3 3) (.slice nb 1 1) (.slice nc 3 3) (.slice none 0 0) gnP [7] gnT [])) ∧
      (f 1 = true → x1 = .int .i64 (1 + d)) ∧ (f 2 = true → x2 = .int .i64 (-(1 + d))) ∧ (f 3 = true → x3 = .int .i64 (1 + d)) ∧ (f 4 = true → x4 = .int .i64 (255 + (1 + d))) ∧
      (f 5 = true → x5 = .slice (some ⟨pb, 0, none⟩) 2 2 ∧ (f 15 = false → Box w' pb #[.int .i64 (-(1 + d)), .int .i64 (255 + (1 + d))])) ∧
      (f 6 = true → x6 = .int .i64 a0) ∧ (f 7 = true → x7 = .int .i64 (g : Int)) ∧ (f 8 = true → f 5 = true ∧ x8 = .pointer (some ⟨pb, g, none⟩)) ∧ (f 9 = true → x9 = .int .i64 Z) ∧
      (f 10 = true → x10 = .tuple #[.agg #[.bool false, .int .i64 0, .slice r5 0 e5, .slice r6 0 e6, .slice r7 0 e7, .slice r8 0 e8], .int .i64 1700]) ∧ (f 11 = true → f 10 = true ∧ x11 = .tuple #[.agg #[.bool false, .int .i64 0, .slice r5 0 e5, .slice r6 0 e6, .slice r7 0 e7, .slice r8 0 e8], .int .i64 1700]) ∧ (f 12 = true → f 10 = true ∧ x12 = .agg #[.bool false, .int .i64 0, .slice r5 0 e5, .slice r6 0 e6, .slice r7 0 e7, .slice r8 0 e8]) ∧ (f 13 = true → x13 = .int .i64 1700) ∧
      (f 14 = true → x14 = .pointer (some ⟨px, 0, none⟩) ∧ U2.heap.size ≤ px ∧ (f 15 = false → Box w' px #[.bool false, .int .i64 0, .slice none 0 0, .slice none 0 0, .slice none 0 0, .slice none 0 0])) ∧ (f 15 = true → f 9 = true ∧ f 10 = true) ∧ (f 16 = true → x16 = .int .i64 1700)
set_option maxRecDepth 20000 in
theorem inv8_end {a0 a1 d : Int} {g : Nat} {Z : Int} {wg1 : World} {u7 u9 u26 u27 u28 u29 u30 u31 u32 u33 u34 u35 u36 u37 u38 u39 u40 u41 u42 u43 u44 u45 u46 : Value} {U2 : World} {f : Nat → Bool} {ac : Act} {w' : World} (h : inv8 a0 a1 d g Z wg1 u7 u9 u26 u27 u28 u29 u30 u31 u32 u33 u34 u35 u36 u37 u38 u39 u40 u41 u42 u43 u44 u45 u46 U2 f ac w') (hf : ∀ i, i < 17 → f i = true) :
    ∃ y : Nat → Value, ac = { tmps := #[.int .i64 a0, .int .i64 a1, undef, undef, .bool false, .int .i64 (1 + d), .pointer (some ⟨wg1.heap.size, 0, none⟩), u7, .int .i64 1700, u9, .int .i64 1700, y 14, .int .i64 1700, undef, undef, undef, undef, undef, undef, undef, undef, undef, undef, undef, undef, undef, u26, u27, u28, u29, u30, u31, u32, u33, u34, u35, u36, u37, u38, u39, u40, u41, u42, u43, u44, u45, u46, y 11, y 0, y 1, y 2, y 3, y 4, y 5, y 6, y 7, y 8, y 9, y 10, y 12, y 13, undef, undef, undef, undef, undef, undef, undef, undef, undef, undef, undef, undef, undef, undef, undef, undef, undef, undef, undef, undef, undef, undef, undef, undef, undef, undef, undef, undef, undef, undef, undef, undef, undef, undef, undef, undef, undef, undef, undef, undef, undef, undef, undef, undef, undef, undef, undef, undef, undef, undef, undef, undef, undef, undef, undef, undef, undef, undef, undef, undef, undef, undef, undef, undef, undef, undef, undef, undef, undef, undef, undef, undef, undef, undef, undef, undef, undef, undef, undef, undef, undef, undef, undef, undef, undef, undef, undef, undef, undef, undef, undef, undef, undef, undef, undef, undef, undef, undef, undef, undef, undef, undef, undef, undef, undef, undef, undef, undef, undef, undef, undef, undef, undef], defers := [] } ∧ Below U2.heap.size U2 w' := by
  unfold inv8 at h
  obtain ⟨x0, x1, x2, x3, x4, x5, x6, x7, x8, x9, x10, x11, x12, x13, x14, x16, na, nb, nc, r5, r6, r7, r8, e5, e6, e7, e8, pb, px, rfl, hb, g0, g1, g2, g3, g4, g5, g6, g7, g8, g9, g10, g11, g12, g13, g14, g15, g16⟩ := h
  obtain rfl := g16 (hf 16 (by omega))
  exact ⟨fun i => match i with | 0 => x0 | 1 => x1 | 2 => x2 | 3 => x3 | 4 => x4 | 5 => x5 | 6 => x6 | 7 => x7 | 8 => x8 | 9 => x9 | 10 => x10 | 11 => x11 | 12 => x12 | 13 => x13 | 14 => x14 | _ => undef, rfl, hb⟩

set_option maxRecDepth 20000 in
def inv9 (a0 a1 d : Int) (g : Nat) (Z : Int) (wg1 : World) (u7 u9 u11 u26 u27 u28 u29 u30 u31 u32 u33 u34 u35 u36 u37 u38 u39 u40 u41 u42 u43 u44 u45 u46 u47 u48 u49 u50 u51 u52 u53 u54 u55 u56 u57 u58 u59 u60 : Value) (U3 : World) (f : Nat → Bool) (ac : Act) (w' : World) : Prop := ∃ (x0 x1 x2 x3 x4 x5 x6 x7 x8 x9 x10 x11 x12 x13 x14 x16 : Value) (na nb nc r5 r6 r7 r8 : Option Addr) (e5 e6 e7 e8 pb px : Nat),
      ac = { tmps := #[.int .i64 a0, .int .i64 a1, undef, undef, .bool false, .int .i64 (1 + d), .pointer (some ⟨wg1.heap.size, 0, none⟩), u7, .int .i64 1700, u9, .int .i64 1700, u11, .int .i64 1700, x14, x16, undef, undef, undef, undef, undef, undef, undef, undef, undef, undef, undef, u26, u27, u28, u29, u30, u31, u32, u33, u34, u35, u36, u37, u38, u39, u40, u41, u42, u43, u44, u45, u46, u47, u48, u49, u50, u51, u52, u53, u54, u55, u56, u57, u58, u59, u60, x11, x0, x1, x2, x3, x4, x5, x6, x7, x8, x9, x10, x12, x13, undef, undef, undef, undef, undef, undef, undef, undef, undef, undef, undef, undef, undef, undef, undef, undef, undef, undef, undef, undef, undef, undef, undef, undef, undef, undef, undef, undef, undef, undef, undef, undef, undef, undef, undef, undef, undef, undef, undef, undef, undef, undef, undef, undef, undef, undef, undef, undef, undef, undef, undef, undef, undef, undef, undef, undef, undef, undef, undef, undef, undef, undef, undef, undef, undef, undef, undef, undef, undef, undef, undef, undef, undef, undef, undef, undef, undef, undef, undef, undef, undef, undef, undef, undef, undef, undef, undef, undef, undef, undef, undef, undef, undef, undef, undef, undef, undef, undef, undef], defers := [] } ∧ Below U3.heap.size U3 w' ∧
      (f 0 = true → x0 = .agg #[.bool true, .int .i64 100, .slice na 3 3, .slice nb 1 1, .slice nc 3 3, .slice none 0 0] ∧ (f 15 = false → NdAt 0 w'.heap.size w' (.slice na 3 3) (.slice nb 1 1) (.slice nc 3 3) (.slice none 0 0) gnP [7] gnT [])) ∧
      (f 1 = true → x1 = .int .i64 (1 + d)) ∧ (f 2 = true → x2 = .int .i64 (-(1 + d))) ∧ (f 3 = true → x3 = .int .i64 (1 + d)) ∧ (f 4 = true → x4 = .int .i64 (255 + (1 + d))) ∧
      (f 5 = true → x5 = .slice (some ⟨pb, 0, none⟩) 2 2 ∧ (f 15 = false → Box w' pb #[.int .i64 (-(1 + d)), .int .i64 (255 + (1 + d))])) ∧
      (f 6 = true → x6 = .int .i64 a0) ∧ (f 7 = true → x7 = .int .i64 (g : Int)) ∧ (f 8 = true → f 5 = true ∧ x8 = .pointer (some ⟨pb, g, none⟩)) ∧ (f 9 = true → x9 = .int .i64 Z) ∧
      (f 10 = true → x10 = .tuple #[.agg #[.bool false, .int .i64 0, .slice r5 0 e5, .slice r6 0 e6, .slice r7 0 e7, .slice r8 0 e8], .int .i64 1700]) ∧ (f 11 = true → f 10 = true ∧ x11 = .tuple #[.agg #[.bool false, .int .i64 0, .slice r5 0 e5, .slice r6 0 e6, .slice r7 0 e7, .slice r8 0 e8], .int .i64 1700]) ∧ (f 12 = true → f 10 = true ∧ x12 = .agg #[.bool false, .int .i64 0, .slice r5 0 e5, .slice r6 0 e6, .slice r7 0 e7, .slice r8 0 e8]) ∧ (f 13 = true → x13 = .int .i64 1700) ∧
      (f 14 = true → x14 = .pointer (some ⟨px, 0, none⟩) ∧ U3.heap.size ≤ px ∧ (f 15 = false → Box w' px #[.bool false, .int .i64 0, .slice none 0 0, .slice none 0 0, .slice none 0 0, .slice none 0 0])) ∧ (f 15 = true → f 9 = true ∧ f 10 = true) ∧ (f 16 = true → x16 = .int .i64 1700)
set_option maxRecDepth 20000 in
theorem inv9_end {a0 a1 d : Int} {g : Nat} {Z : Int} {wg1 : World} {u7 u9 u11 u26 u27 u28 u29 u30 u31 u32 u33 u34 u35 u36 u37 u38 u39 u40 u41 u42 u43 u44 u45 u46 u47 u48 u49 u50 u51 u52 u53 u54 u55 u56 u57 u58 u59 u60 : Value} {U3 : World} {f : Nat → Bool} {ac : Act} {w' : World} (h : inv9 a0 a1 d g Z wg1 u7 u9 u11 u26 u27 u28 u29 u30 u31 u32 u33 u34 u35 u36 u37 u38 u39 u40 u41 u42 u43 u44 u45 u46 u47 u48 u49 u50 u51 u52 u53 u54 u55 u56 u57 u58 u59 u60 U3 f ac w') (hf : ∀ i, i < 17 → f i = true) :
    ∃ y : Nat → Value, ac = { tmps := #[.int .i64 a0, .int .i64 a1, undef, undef, .bool false, .int .i64 (1 + d), .pointer (some ⟨wg1.heap.size, 0, none⟩), u7, .int .i64 1700, u9, .int .i64 1700, u11, .int .i64 1700, y 14, .int .i64 1700, undef, undef, undef, undef, undef, undef, undef, undef, undef, undef, undef, u26, u27, u28, u29, u30, u31, u32, u33, u34, u35, u36, u37, u38, u39, u40, u41, u42, u43, u44, u45, u46, u47, u48, u49, u50, u51, u52, u53, u54, u55, u56, u57, u58, u59, u60, y 11, y 0, y 1, y 2, y 3, y 4, y 5, y 6, y 7, y 8, y 9, y 10, y 12, y 13, undef, undef, undef, undef, undef, undef, undef, undef, undef, undef, undef, undef, undef, undef, undef, undef, undef, undef, undef, undef, undef, undef, undef, undef, undef, undef, undef, undef, undef, undef, undef, undef, undef, undef, undef, undef, undef, undef, undef, undef, undef, undef, undef, undef, undef, undef, undef, undef, undef, undef, undef, undef, undef, undef, undef, undef, undef, undef, undef, undef, undef, undef, undef, undef, undef, undef, undef, undef, undef, undef, undef, undef, undef, undef, undef, undef, undef, undef, undef, undef, undef, undef, undef, undef, undef, undef, undef, undef, undef, undef, undef, undef, undef, undef, undef, undef, undef, undef, undef], defers := [] } ∧ Below U3.heap.size U3 w' := by
  unfold inv9 at h
  obtain ⟨x0, x1, x2, x3, x4, x5, x6, x7, x8, x9, x10, x11, x12, x13, x14, x16, na, nb, nc, r5, r6, r7, r8, e5, e6, e7, e8, pb, px, rfl, hb, g0, g1, g2, g3, g4, g5, g6, g7, g8, g9, g10, g11, g12, g13, g14, g15, g16⟩ := h
  obtain rfl := g16 (hf 16 (by omega))
  exact ⟨fun i => match i with | 0 => x0 | 1 => x1 | 2 => x2 | 3 => x3 | 4 => x4 | 5 => x5 | 6 => x6 | 7 => x7 | 8 => x8 | 9 => x9 | 10 => x10 | 11 => x11 | 12 => x12 | 13 => x13 | 14 => x14 | _ => undef, rfl, hb⟩

set_option maxRecDepth 20000 in
def inv10 (a0 a1 d : Int) (g : Nat) (Z : Int) (wg1 : World) (u7 u9 u11 u13 u26 u27 u28 u29 u30 u31 u32 u33 u34 u35 u36 u37 u38 u39 u40 u41 u42 u43 u44 u45 u46 u47 u48 u49 u50 u51 u52 u53 u54 u55 u56 u57 u58 u59 u60 u61 u62 u63 u64 u65 u66 u67 u68 u69 u70 u71 u72 u73 u74 : Value) (U4 : World) (f : Nat → Bool) (ac : Act) (w' : World) : Prop := ∃ (x0 x1 x2 x3 x4 x5 x6 x7 x8 x9 x10 x11 x12 x13 x14 x16 : Value) (na nb nc r5 r6 r7 r8 : Option Addr) (e5 e6 e7 e8 pb px : Nat),
      ac = { tmps := #[.int .i64 a0, .int .i64 a1, undef, undef, .bool false, .int .i64 (1 + d), .pointer (some ⟨wg1.heap.size, 0, none⟩), u7, .int .i64 1700, u9, .int .i64 1700, u11, .int .i64 1700, u13, .int .i64 1700, x14, x16, undef, undef, undef, undef, undef, undef, undef, undef, undef, u26, u27, u28, u29, u30, u31, u32, u33, u34, u35, u36, u37, u38, u39, u40, u41, u42, u43, u44, u45, u46, u47, u48, u49, u50, u51, u52, u53, u54, u55, u56, u57, u58, u59, u60, u61, u62, u63, u64, u65, u66, u67, u68, u69, u70, u71, u72, u73, u74, x11, x0, x1, x2, x3, x4, x5, x6, x7, x8, x9, x10, x12, x13, undef, undef, undef, undef, undef, undef, undef, undef, undef, undef, undef, undef, undef, undef, undef, undef, undef, undef, undef, undef, undef, undef, undef, undef, undef, undef, undef, undef, undef, undef, undef, undef, undef, undef, undef, undef, undef, undef, undef, undef, undef, undef, undef, undef, undef, undef, undef, undef, undef, undef, undef, undef, undef, undef, undef, undef, undef, undef, undef, undef, undef, undef, undef, undef, undef, undef, undef, undef, undef, undef, undef, undef, undef, undef, undef, undef, undef, undef, undef, undef, undef, undef, undef, undef, undef], defers := [] } ∧ Below U4.heap.size U4 w' ∧
      (f 0 = true → x0 = .agg #[.bool true, .int .i64 100, .slice na 3 3, .slice nb 1 1, .slice nc 3 3, .slice none 0 0] ∧ (f 15 = false → NdAt 0 w'.heap.size w' (.slice na 3 3) (.slice nb 1 1) (.slice nc 3 3) (.slice none 0 0) gnP [7] gnT [])) ∧
      (f 1 = true → x1 = .int .i64 (1 + d)) ∧ (f 2 = true → x2 = .int .i64 (-(1 + d))) ∧ (f 3 = true → x3 = .int .i64 (1 + d)) ∧ (f 4 = true → x4 = .int .i64 (255 + (1 + d))) ∧
      (f 5 = true → x5 = .slice (some ⟨pb, 0, none⟩) 2 2 ∧ (f 15 = false → Box w' pb #[.int .i64 (-(1 + d)), .int .i64 (255 + (1 + d))])) ∧
      (f 6 = true → x6 = .int .i64 a0) ∧ (f 7 = true → x7 = .int .i64 (g : Int)) ∧ (f 8 = true → f 5 = true ∧ x8 = .pointer (some ⟨pb, g, none⟩)) ∧ (f 9 = true → x9 = .int .i64 Z) ∧
      (f 10 = true → x10 = .tuple #[.agg #[.bool false, .int .i64 0, .slice r5 0 e5, .slice r6 0 e6, .slice r7 0 e7, .slice r8 0 e8], .int .i64 1700]) ∧ (f 11 = true → f 10 = true ∧ x11 = .tuple #[.agg #[.bool false, .int .i64 0, .slice r5 0 e5, .slice r6 0 e6, .slice r7 0 e7, .slice r8 0 e8], .int .i64 1700]) ∧ (f 12 = true → f 10 = true ∧ x12 = .agg #[.bool false, .int .i64 0, .slice r5 0 e5, .slice r6 0 e6, .slice r7 0 e7, .slice r8 0 e8]) ∧ (f 13 = true → x13 = .int .i64 1700) ∧
      (f 14 = true → x14 = .pointer (some ⟨px, 0, none⟩) ∧ U4.heap.size ≤ px ∧ (f 15 = false → Box w' px #[.bool false, .int .i64 0, .slice none 0 0, .slice none 0 0, .slice none 0 0, .slice none 0 0])) ∧ (f 15 = true → f 9 = true ∧ f 10 = true) ∧ (f 16 = true → x16 = .int .i64 1700)
set_option maxRecDepth 20000 in
theorem inv10_end {a0 a1 d : Int} {g : Nat} {Z : Int} {wg1 : World} {u7 u9 u11 u13 u26 u27 u28 u29 u30 u31 u32 u33 u34 u35 u36 u37 u38 u39 u40 u41 u42 u43 u44 u45 u46 u47 u48 u49 u50 u51 u52 u53 u54 u55 u56 u57 u58 u59 u60 u61 u62 u63 u64 u65 u66 u67 u68 u69 u70 u71 u72 u73 u74 : Value} {U4 : World} {f : Nat → Bool} {ac : Act} {w' : World} (h : inv10 a0 a1 d g Z wg1 u7 u9 u11 u13 u26 u27 u28 u29 u30 u31 u32 u33 u34 u35 u36 u37 u38 u39 u40 u41 u42 u43 u44 u45 u46 u47 u48 u49 u50 u51 u52 u53 u54 u55 u56 u57 u58 u59 u60 u61 u62 u63 u64 u65 u66 u67 u68 u69 u70 u71 u72 u73 u74 U4 f ac w') (hf : ∀ i, i < 17 → f i = true) :
    ∃ y : Nat → Value, ac = { tmps := #[.int .i64 a0, .int .i64 a1, undef, undef, .bool false, .int .i64 (1 + d), .pointer (some ⟨wg1.heap.size, 0, none⟩), u7, .int .i64 1700, u9, .int .i64 1700, u11, .int .i64 1700, u13, .int .i64 1700, y 14, .int .i64 1700, undef, undef, undef, undef, undef, undef, undef, undef, undef, u26, u27, u28, u29, u30, u31, u32, u33, u34, u35, u36, u37, u38, u39, u40, u41, u42, u43, u44, u45, u46, u47, u48, u49, u50, u51, u52, u53, u54, u55, u56, u57, u58, u59, u60, u61, u62, u63, u64, u65, u66, u67, u68, u69, u70, u71, u72, u73, u74, y 11, y 0, y 1, y 2, y 3, y 4, y 5, y 6, y 7, y 8, y 9, y 10, y 12, y 13, undef, undef, undef, undef, undef, undef, undef, undef, undef, undef, undef, undef, undef, undef, undef, undef, undef, undef, undef, undef, undef, undef, undef, undef, undef, undef, undef, undef, undef, undef, undef, undef, undef, undef, undef, undef, undef, undef, undef, undef, undef, undef, undef, undef, undef, undef, undef, undef, undef, undef, undef, undef, undef, undef, undef, undef, undef, undef, undef, undef, undef, undef, undef, undef, undef, undef, undef, undef, undef, undef, undef, undef, undef, undef, undef, undef, undef, undef, undef, undef, undef, undef, undef, undef, undef], defers := [] } ∧ Below U4.heap.size U4 w' := by
  unfold inv10 at h
  obtain ⟨x0, x1, x2, x3, x4, x5, x6, x7, x8, x9, x10, x11, x12, x13, x14, x16, na, nb, nc, r5, r6, r7, r8, e5, e6, e7, e8, pb, px, rfl, hb, g0, g1, g2, g3, g4, g5, g6, g7, g8, g9, g10, g11, g12, g13, g14, g15, g16⟩ := h
  obtain rfl := g16 (hf 16 (by omega))
  exact ⟨fun i => match i with | 0 => x0 | 1 => x1 | 2 => x2 | 3 => x3 | 4 => x4 | 5 => x5 | 6 => x6 | 7 => x7 | 8 => x8 | 9 => x9 | 10 => x10 | 11 => x11 | 12 => x12 | 13 => x13 | 14 => x14 | _ => undef, rfl, hb⟩

set_option maxRecDepth 20000 in
set_option maxHeartbeats 8000000 in
theorem walk (a0 : Int) (a1 : Int) (w : World) (w0 : (Lit.int .i64 a0).wf = true) (w1 : (Lit.int .i64 a1).wf = true) :
    Calls Try.prog 4 #[.int .i64 a0, .int .i64 a1] w fun e w' => e = .returned (.bool true) ∧ Below w.heap.size w w' := by
  have rx10 : bits .and .i64 a1 1023 = a1 % 1024 := and1023 a1
  have rx15 : bits .and .i64 a1 15 = a1 % 16 := and15 a1
  have rx1 : bits .and .i64 a0 1 = a0 % 2 := and1 a0
  obtain ⟨d, hd⟩ : ∃ x, a1 % 1024 = x := ⟨_, rfl⟩
  obtain ⟨q, hq⟩ : ∃ q : Nat, a1 % 16 = (q : Int) := ⟨(a1 % 16).toNat, by omega⟩
  have hd0 : 0 ≤ d ∧ d < 1024 := by omega
  obtain ⟨d0, d1⟩ := hd0
  have hq16 : q < 16 := by omega
  rw [hd] at rx10
  rw [hq] at rx15
  replace rx15 := toHid rx15
  obtain ⟨g, hg⟩ : ∃ g : Nat, a0 % 2 = (g : Int) := ⟨(a0 % 2).toNat, by omega⟩
  have hg2 : g = 0 ∨ g = 1 := by omega
  rw [hg] at rx1
  clear hd hq hg w0 w1
  have hB := toHid (Below.refl w.heap.size w)
  go_enter Try.func4, Try.ntmps4
  go_upto_region 4 with (first
    | (go_at_call 16; refine (awake17_any _).mono ?_; rintro e W1 ⟨rfl, h1⟩
       replace hB := toHid (hB.out.on h1)
       clear h1))
  clear rx10
  go_upto_region 5 with (go_at_call 17; refine (gNode_any _).mono ?_; rintro e wg1 ⟨ya1, yb1, yc1, rfl, N1, hg1⟩)
  have X1 := toHid (Box.new wg1 #[.bool true, .int .i64 100, .slice ya1 3 3, .slice yb1 1 1, .slice yc1 3 3, .slice none 0 0] 29)
  have V1 := toHid ((N1.vw.alloc (.cells #[.bool true, .int .i64 100, .slice ya1 3 3, .slice yb1 1 1, .slice yc1 3 3, .slice none 0 0] 29)).wide (Nat.zero_le _) (hi' := wg1.heap.size) (Nat.le_refl _))
  have z1 : Hid (w.heap.size ≤ wg1.heap.size) := toHid (hB.out.on hg1).size
  replace hB := toHid ((hB.out.on hg1).onA (.cells #[.bool true, .int .i64 100, .slice ya1 3 3, .slice yb1 1 1, .slice yc1 3 3, .slice none 0 0] 29))
  clear hg1 N1
  generalize wg1.alloc (.cells #[.bool true, .int .i64 100, .slice ya1 3 3, .slice yb1 1 1, .slice yc1 3 3, .slice none 0 0] 29) = W1 at X1 V1 hB ⊢
  have t1 := trivial
  obtain ⟨m1, m2, m3⟩ := X1.out
  go_upto_region 6 with (first
    | (go_at_call 18; clear t1; refine (gIt_any _ _ _).mono ?_; rintro e wj ⟨rfl, hj⟩)
    | (go_at_call 18; refine (gIt_any _ _ _).mono ?_; rintro e wi ⟨rfl, hi⟩
       clear m1 m2 m3
       obtain ⟨m1, m2, m3⟩ := X1.out.below (((Below.refl _ W1).on hj).on hi)))
  clear m1 m2 m3
  have st := (((Below.refl _ W1).on hj).on hi)
  have zx := X1.out.1
  have zi := (((Below.refl _ W1).on hj).on hi).size
  have ON := (Only.refl wg1.heap.size (wg1.heap.size + 1) wi).setCell (b := wg1.heap.size) (o := 4) (Nat.le_refl _) (Nat.lt_succ_self _) (.slice (some ⟨wi.heap.size, 0, none⟩) 2 2)
  have zo := ON.size
  have zw : ((wi.setCell ⟨wg1.heap.size, 4, none⟩ (.slice (some ⟨wi.heap.size, 0, none⟩) 2 2)).alloc (.cells #[.int .i64 9, .int .i64 1, .int .i64 1, .int .i64 1, .bool false, .int .i64 3, .int .i64 1, .int .i64 1, .int .i64 1, .bool false] 47)).heap.size = (wi.setCell ⟨wg1.heap.size, 4, none⟩ (.slice (some ⟨wi.heap.size, 0, none⟩) 2 2)).heap.size + 1 := by simp
  have RI := Box.rowT [⟨9, 1, 1, 1, false⟩, ⟨3, 1, 1, 1, false⟩] (Box.newAt (w := (wi.setCell ⟨wg1.heap.size, 4, none⟩ (.slice (some ⟨wi.heap.size, 0, none⟩) 2 2))) #[.int .i64 9, .int .i64 1, .int .i64 1, .int .i64 1, .bool false, .int .i64 3, .int .i64 1, .int .i64 1, .int .i64 1, .bool false] 47 zo.symm) rfl rfl (by decide)
  have RV := (V1.out.below st (by omega))
  have N1 := toHid (NdAt.mk (VwAt.mk (((RV.ps.only ON (.inl (Nat.le_refl _))).alloc (.cells #[.int .i64 9, .int .i64 1, .int .i64 1, .int .i64 1, .bool false, .int .i64 3, .int .i64 1, .int .i64 1, .int .i64 1, .bool false] 47) PeV_len).wide (Nat.zero_le _) (hi' := ((wi.setCell ⟨wg1.heap.size, 4, none⟩ (.slice (some ⟨wi.heap.size, 0, none⟩) 2 2)).alloc (.cells #[.int .i64 9, .int .i64 1, .int .i64 1, .int .i64 1, .bool false, .int .i64 3, .int .i64 1, .int .i64 1, .int .i64 1, .bool false] 47)).heap.size) (by omega)) (((RV.is.only ON (.inl (Nat.le_refl _))).alloc (.cells #[.int .i64 9, .int .i64 1, .int .i64 1, .int .i64 1, .bool false, .int .i64 3, .int .i64 1, .int .i64 1, .int .i64 1, .bool false] 47)).wide (Nat.zero_le _) (hi' := ((wi.setCell ⟨wg1.heap.size, 4, none⟩ (.slice (some ⟨wi.heap.size, 0, none⟩) 2 2)).alloc (.cells #[.int .i64 9, .int .i64 1, .int .i64 1, .int .i64 1, .bool false, .int .i64 3, .int .i64 1, .int .i64 1, .int .i64 1, .bool false] 47)).heap.size) (by omega))) (RI.wide (Nat.zero_le _) (hi' := ((wi.setCell ⟨wg1.heap.size, 4, none⟩ (.slice (some ⟨wi.heap.size, 0, none⟩) 2 2)).alloc (.cells #[.int .i64 9, .int .i64 1, .int .i64 1, .int .i64 1, .bool false, .int .i64 3, .int .i64 1, .int .i64 1, .int .i64 1, .bool false] 47)).heap.size) (by omega)) (RowC.nil0 : RowE _ _ _ (.slice none 0 0) []))
  replace X1 := toHid (((X1.out.below st).setS (ys := #[.bool true, .int .i64 100, .slice ya1 3 3, .slice yb1 1 1, .slice (some ⟨wi.heap.size, 0, none⟩) 2 2, .slice none 0 0]) 4 (.slice (some ⟨wi.heap.size, 0, none⟩) 2 2) (by simp) (by simp)).alloc (.cells #[.int .i64 9, .int .i64 1, .int .i64 1, .int .i64 1, .bool false, .int .i64 3, .int .i64 1, .int .i64 1, .int .i64 1, .bool false] 47))
  replace hB := toHid (((hB.out.on st).trans (ON.below.mono z1.out)).onA (.cells #[.int .i64 9, .int .i64 1, .int .i64 1, .int .i64 1, .bool false, .int .i64 3, .int .i64 1, .int .i64 1, .int .i64 1, .bool false] 47))
  clear st zx zi ON zo zw RI RV V1
  generalize ((wi.setCell ⟨wg1.heap.size, 4, none⟩ (.slice (some ⟨wi.heap.size, 0, none⟩) 2 2)).alloc (.cells #[.int .i64 9, .int .i64 1, .int .i64 1, .int .i64 1, .bool false, .int .i64 3, .int .i64 1, .int .i64 1, .int .i64 1, .bool false] 47)) = W1' at X1 N1 hB ⊢
  go_upto_region 6 with (fail)
  go_cut [7, 8] from 26 to 40 (fun v7 v8 wx => v8 = .int .i64 1700 ∧ Below W1'.heap.size W1' wx)
  case first =>
    obtain ⟨m1, m2, m3⟩ := X1.out
    go_wp2_with (go_at_call 9; refine (wPut17_at (up' := false) (i' := 0) (E := 1700) (ps' := []) (is' := []) (ts' := []) (ls' := []) true 100 N1.out (Nat.le_refl _) 5 5 (by decide +kernel) (by kernel_rfl)).mono ?_; rintro e wp ⟨a5, c5, a6, c6, a7, c7, a8, c8, rfl, -, hp⟩)
    go_meet
    exact ⟨rfl, ((Below.refl _ W1').on hp).onA _⟩
  case rest =>
  obtain ⟨rfl, hcc⟩ := hcut
  generalize hnx : wc = U1 at hcc ⊢
  clear hnx
  replace hB := toHid (hB.out.on hcc)
  clear hcc
  clear X1 N1
  go_upto_region 7 with (fail)
  go_cut [9, 10] from 41 to 46 (fun v9 v10 wx => v10 = .int .i64 1700 ∧ Below U1.heap.size U1 wx)
  case first =>
    go_wp2_with (go_at_call 11; refine (wDrop17_at (lo := 0) (hi := 0) (up' := false) (i' := 0) (E := 1700) (ps' := []) (is' := []) (ts' := []) (ls' := []) false 5 NdAt.nil0 (Nat.zero_le _) 5 (by decide +kernel) (by kernel_rfl)).mono ?_; rintro e wp ⟨a5, c5, a6, c6, a7, c7, a8, c8, rfl, -, hp⟩)
    go_meet
    exact ⟨rfl, ((Below.refl _ U1).on hp).onA _⟩
  case rest =>
  obtain ⟨rfl, hcc⟩ := hcut
  generalize hnx : wc = U2 at hcc ⊢
  clear hnx
  replace hB := toHid (hB.out.on hcc)
  clear hcc
  obtain ⟨Z, hZ⟩ : ∃ Z : Int, Z = if g = 0 then (-(1 + d)) else (255 + (1 + d)) := ⟨_, rfl⟩
  have hZ0 : Hid (g = 0 → Z = (-(1 + d))) := toHid (fun h => by rw [hZ, if_pos h])
  have hZ1 : Hid (g = 1 → Z = (255 + (1 + d))) := toHid (fun h => by rw [hZ, if_neg (by omega)])
  have hz : Z < 0 ∨ 255 < Z := by
    rcases hg2 with rfl | rfl
    · rw [hZ0.out rfl]; omega
    · rw [hZ1.out rfl]; omega
  clear hZ
  have gi0 : 0 ≤ (g : Int) := by omega
  have gi2 : (g : Int) < 2 := by omega
  replace hz := toHid hz
  go_upto_region 8 with (fail)
  go_cut [11, 12] from 47 to 60 (fun v11 v12 wx => v12 = .int .i64 1700 ∧ Below U2.heap.size U2 wx)
  case first =>
    have HP := toHid (fun (W : World) (p q r s : Value) (lo hi : Nat) (N : NdAt lo hi W p q r s gnP [7] gnT []) (hh : hi ≤ W.heap.size) => wPut17_at (up' := false) (i' := 0) (E := 1700) (ps' := []) (is' := []) (ts' := []) (ls' := []) true 100 N hh Z 5 (bad_key hz.out).1 (bad_key hz.out).2)
    refine wp_region_inv (by kernel_rfl) (by kernel_rfl) (inv8 a0 a1 d g Z wg1 u7 u9 u26 u27 u28 u29 u30 u31 u32 u33 u34 u35 u36 u37 u38 u39 u40 u41 u42 u43 u44 u45 u46 U2) ?_ ?_ ?_
    · unfold inv8
      exact ⟨undef, undef, undef, undef, undef, undef, undef, undef, undef, undef, undef, undef, undef, undef, undef, undef, none, none, none, none, none, none, none, 0, 0, 0, 0, 0, 0, rfl, (Below.refl _ U2).onD 1, nofun, nofun, nofun, nofun, nofun, nofun, nofun, nofun, nofun, nofun, nofun, nofun, nofun, nofun, nofun, nofun, nofun⟩
    · intro f i o ho hf hd
      match i, ho, hf with
      | 0, ho, hf =>
        simp only [List.getElem?_toArray, List.getElem?_cons_zero, Option.some.injEq] at ho
        subst ho
        rintro ac w' hI K hK
        replace hK := toHid hK
        replace hd := toHid hd
        unfold inv8 at hI
        obtain ⟨x0, x1, x2, x3, x4, x5, x6, x7, x8, x9, x10, x11, x12, x13, x14, x16, na, nb, nc, r5, r6, r7, r8, e5, e6, e7, e8, pb, px, rfl, hb, g0, g1, g2, g3, g4, g5, g6, g7, g8, g9, g10, g11, g12, g13, g14, g15, g16⟩ := hI
        replace g0 := toHid g0
        replace g1 := toHid g1
        replace g2 := toHid g2
        replace g3 := toHid g3
        replace g4 := toHid g4
        replace g5 := toHid g5
        replace g6 := toHid g6
        replace g7 := toHid g7
        replace g8 := toHid g8
        replace g9 := toHid g9
        replace g10 := toHid g10
        replace g11 := toHid g11
        replace g12 := toHid g12
        replace g13 := toHid g13
        replace g14 := toHid g14
        replace g15 := toHid g15
        replace g16 := toHid g16
        go_wp2_with (go_at_call 17; refine (gNode_any _).mono ?_; rintro e w9 ⟨ma, mb, mc, rfl, NN, h9⟩)
        exact hK.out _ _ (by unfold inv8; exact ⟨_, x1, x2, x3, x4, x5, x6, x7, x8, x9, x10, x11, x12, x13, x14, x16, ma, mb, mc, r5, r6, r7, r8, e5, e6, e7, e8, pb, px, rfl, (hb.on h9), (fun _ => ⟨rfl, fun _ => NN.wide (Nat.zero_le _) (Nat.le_refl _)⟩), g1.out, g2.out, g3.out, g4.out, (fun q => ⟨(g5.out q).1, fun r => ((g5.out q).2 r).below h9⟩), g6.out, g7.out, g8.out, g9.out, g10.out, g11.out, g12.out, g13.out, (fun q => ⟨(g14.out q).1, (g14.out q).2.1, fun r => ((g14.out q).2.2 r).below h9⟩), g15.out, g16.out⟩)
      | 1, ho, hf =>
        simp only [List.getElem?_toArray, List.getElem?_cons_zero, List.getElem?_cons_succ, Option.some.injEq] at ho
        subst ho
        rintro ac w' hI K hK
        replace hK := toHid hK
        replace hd := toHid hd
        unfold inv8 at hI
        obtain ⟨x0, x1, x2, x3, x4, x5, x6, x7, x8, x9, x10, x11, x12, x13, x14, x16, na, nb, nc, r5, r6, r7, r8, e5, e6, e7, e8, pb, px, rfl, hb, g0, g1, g2, g3, g4, g5, g6, g7, g8, g9, g10, g11, g12, g13, g14, g15, g16⟩ := hI
        replace g0 := toHid g0
        replace g1 := toHid g1
        replace g2 := toHid g2
        replace g3 := toHid g3
        replace g4 := toHid g4
        replace g5 := toHid g5
        replace g6 := toHid g6
        replace g7 := toHid g7
        replace g8 := toHid g8
        replace g9 := toHid g9
        replace g10 := toHid g10
        replace g11 := toHid g11
        replace g12 := toHid g12
        replace g13 := toHid g13
        replace g14 := toHid g14
        replace g15 := toHid g15
        replace g16 := toHid g16
        go_wp2
        exact hK.out _ _ (by unfold inv8; exact ⟨x0, _, x2, x3, x4, x5, x6, x7, x8, x9, x10, x11, x12, x13, x14, x16, na, nb, nc, r5, r6, r7, r8, e5, e6, e7, e8, pb, px, rfl, hb, g0.out, (fun _ => rfl), g2.out, g3.out, g4.out, g5.out, g6.out, g7.out, g8.out, g9.out, g10.out, g11.out, g12.out, g13.out, g14.out, g15.out, g16.out⟩)
      | 2, ho, hf =>
        simp only [List.getElem?_toArray, List.getElem?_cons_zero, List.getElem?_cons_succ, Option.some.injEq] at ho
        subst ho
        have q1 := hd ⟨1, .data⟩ (by simp) (by rfl)
        rintro ac w' hI K hK
        replace hK := toHid hK
        replace hd := toHid hd
        unfold inv8 at hI
        obtain ⟨x0, x1, x2, x3, x4, x5, x6, x7, x8, x9, x10, x11, x12, x13, x14, x16, na, nb, nc, r5, r6, r7, r8, e5, e6, e7, e8, pb, px, rfl, hb, g0, g1, g2, g3, g4, g5, g6, g7, g8, g9, g10, g11, g12, g13, g14, g15, g16⟩ := hI
        obtain rfl := g1 q1
        replace g0 := toHid g0
        replace g1 := toHid g1
        replace g2 := toHid g2
        replace g3 := toHid g3
        replace g4 := toHid g4
        replace g5 := toHid g5
        replace g6 := toHid g6
        replace g7 := toHid g7
        replace g8 := toHid g8
        replace g9 := toHid g9
        replace g10 := toHid g10
        replace g11 := toHid g11
        replace g12 := toHid g12
        replace g13 := toHid g13
        replace g14 := toHid g14
        replace g15 := toHid g15
        replace g16 := toHid g16
        go_wp2
        exact hK.out _ _ (by unfold inv8; exact ⟨x0, _, _, x3, x4, x5, x6, x7, x8, x9, x10, x11, x12, x13, x14, x16, na, nb, nc, r5, r6, r7, r8, e5, e6, e7, e8, pb, px, rfl, hb, g0.out, (fun _ => rfl), (fun _ => rfl), g3.out, g4.out, g5.out, g6.out, g7.out, g8.out, g9.out, g10.out, g11.out, g12.out, g13.out, g14.out, g15.out, g16.out⟩)
      | 3, ho, hf =>
        simp only [List.getElem?_toArray, List.getElem?_cons_zero, List.getElem?_cons_succ, Option.some.injEq] at ho
        subst ho
        rintro ac w' hI K hK
        replace hK := toHid hK
        replace hd := toHid hd
        unfold inv8 at hI
        obtain ⟨x0, x1, x2, x3, x4, x5, x6, x7, x8, x9, x10, x11, x12, x13, x14, x16, na, nb, nc, r5, r6, r7, r8, e5, e6, e7, e8, pb, px, rfl, hb, g0, g1, g2, g3, g4, g5, g6, g7, g8, g9, g10, g11, g12, g13, g14, g15, g16⟩ := hI
        replace g0 := toHid g0
        replace g1 := toHid g1
        replace g2 := toHid g2
        replace g3 := toHid g3
        replace g4 := toHid g4
        replace g5 := toHid g5
        replace g6 := toHid g6
        replace g7 := toHid g7
        replace g8 := toHid g8
        replace g9 := toHid g9
        replace g10 := toHid g10
        replace g11 := toHid g11
        replace g12 := toHid g12
        replace g13 := toHid g13
        replace g14 := toHid g14
        replace g15 := toHid g15
        replace g16 := toHid g16
        go_wp2
        exact hK.out _ _ (by unfold inv8; exact ⟨x0, x1, x2, _, x4, x5, x6, x7, x8, x9, x10, x11, x12, x13, x14, x16, na, nb, nc, r5, r6, r7, r8, e5, e6, e7, e8, pb, px, rfl, hb, g0.out, g1.out, g2.out, (fun _ => rfl), g4.out, g5.out, g6.out, g7.out, g8.out, g9.out, g10.out, g11.out, g12.out, g13.out, g14.out, g15.out, g16.out⟩)
      | 4, ho, hf =>
        simp only [List.getElem?_toArray, List.getElem?_cons_zero, List.getElem?_cons_succ, Option.some.injEq] at ho
        subst ho
        have q3 := hd ⟨3, .data⟩ (by simp) (by rfl)
        rintro ac w' hI K hK
        replace hK := toHid hK
        replace hd := toHid hd
        unfold inv8 at hI
        obtain ⟨x0, x1, x2, x3, x4, x5, x6, x7, x8, x9, x10, x11, x12, x13, x14, x16, na, nb, nc, r5, r6, r7, r8, e5, e6, e7, e8, pb, px, rfl, hb, g0, g1, g2, g3, g4, g5, g6, g7, g8, g9, g10, g11, g12, g13, g14, g15, g16⟩ := hI
        obtain rfl := g3 q3
        replace g0 := toHid g0
        replace g1 := toHid g1
        replace g2 := toHid g2
        replace g3 := toHid g3
        replace g4 := toHid g4
        replace g5 := toHid g5
        replace g6 := toHid g6
        replace g7 := toHid g7
        replace g8 := toHid g8
        replace g9 := toHid g9
        replace g10 := toHid g10
        replace g11 := toHid g11
        replace g12 := toHid g12
        replace g13 := toHid g13
        replace g14 := toHid g14
        replace g15 := toHid g15
        replace g16 := toHid g16
        go_wp2
        exact hK.out _ _ (by unfold inv8; exact ⟨x0, x1, x2, _, _, x5, x6, x7, x8, x9, x10, x11, x12, x13, x14, x16, na, nb, nc, r5, r6, r7, r8, e5, e6, e7, e8, pb, px, rfl, hb, g0.out, g1.out, g2.out, (fun _ => rfl), (fun _ => rfl), g5.out, g6.out, g7.out, g8.out, g9.out, g10.out, g11.out, g12.out, g13.out, g14.out, g15.out, g16.out⟩)
      | 5, ho, hf =>
        simp only [List.getElem?_toArray, List.getElem?_cons_zero, List.getElem?_cons_succ, Option.some.injEq] at ho
        subst ho
        have q2 := hd ⟨2, .data⟩ (by simp) (by rfl)
        have q4 := hd ⟨4, .data⟩ (by simp) (by rfl)
        rintro ac w' hI K hK
        replace hK := toHid hK
        replace hd := toHid hd
        unfold inv8 at hI
        obtain ⟨x0, x1, x2, x3, x4, x5, x6, x7, x8, x9, x10, x11, x12, x13, x14, x16, na, nb, nc, r5, r6, r7, r8, e5, e6, e7, e8, pb, px, rfl, hb, g0, g1, g2, g3, g4, g5, g6, g7, g8, g9, g10, g11, g12, g13, g14, g15, g16⟩ := hI
        obtain rfl := g2 q2
        obtain rfl := g4 q4
        replace g0 := toHid g0
        replace g1 := toHid g1
        replace g2 := toHid g2
        replace g3 := toHid g3
        replace g4 := toHid g4
        replace g5 := toHid g5
        replace g6 := toHid g6
        replace g7 := toHid g7
        replace g8 := toHid g8
        replace g9 := toHid g9
        replace g10 := toHid g10
        replace g11 := toHid g11
        replace g12 := toHid g12
        replace g13 := toHid g13
        replace g14 := toHid g14
        replace g15 := toHid g15
        replace g16 := toHid g16
        go_wp2
        exact hK.out _ _ (by unfold inv8; exact ⟨x0, x1, _, x3, _, _, x6, x7, x8, x9, x10, x11, x12, x13, x14, x16, na, nb, nc, r5, r6, r7, r8, e5, e6, e7, e8, w'.heap.size, px, rfl, (hb.onA _), (fun q => ⟨(g0.out q).1, fun r => ((g0.out q).2 r).up ((Below.refl _ w').onA _)⟩), g1.out, (fun _ => rfl), g3.out, (fun _ => rfl), (fun _ => ⟨rfl, fun _ => Box.new w' _ _⟩), g6.out, g7.out, (fun q => absurd (g8.out q).1 (by simp [hf])), g9.out, g10.out, g11.out, g12.out, g13.out, (fun q => ⟨(g14.out q).1, (g14.out q).2.1, fun r => ((g14.out q).2.2 r).below ((Below.refl _ w').onA _)⟩), g15.out, g16.out⟩)
      | 6, ho, hf =>
        simp only [List.getElem?_toArray, List.getElem?_cons_zero, List.getElem?_cons_succ, Option.some.injEq] at ho
        subst ho
        rintro ac w' hI K hK
        replace hK := toHid hK
        replace hd := toHid hd
        unfold inv8 at hI
        obtain ⟨x0, x1, x2, x3, x4, x5, x6, x7, x8, x9, x10, x11, x12, x13, x14, x16, na, nb, nc, r5, r6, r7, r8, e5, e6, e7, e8, pb, px, rfl, hb, g0, g1, g2, g3, g4, g5, g6, g7, g8, g9, g10, g11, g12, g13, g14, g15, g16⟩ := hI
        replace g0 := toHid g0
        replace g1 := toHid g1
        replace g2 := toHid g2
        replace g3 := toHid g3
        replace g4 := toHid g4
        replace g5 := toHid g5
        replace g6 := toHid g6
        replace g7 := toHid g7
        replace g8 := toHid g8
        replace g9 := toHid g9
        replace g10 := toHid g10
        replace g11 := toHid g11
        replace g12 := toHid g12
        replace g13 := toHid g13
        replace g14 := toHid g14
        replace g15 := toHid g15
        replace g16 := toHid g16
        go_wp2
        exact hK.out _ _ (by unfold inv8; exact ⟨x0, x1, x2, x3, x4, x5, _, x7, x8, x9, x10, x11, x12, x13, x14, x16, na, nb, nc, r5, r6, r7, r8, e5, e6, e7, e8, pb, px, rfl, hb, g0.out, g1.out, g2.out, g3.out, g4.out, g5.out, (fun _ => rfl), g7.out, g8.out, g9.out, g10.out, g11.out, g12.out, g13.out, g14.out, g15.out, g16.out⟩)
      | 7, ho, hf =>
        simp only [List.getElem?_toArray, List.getElem?_cons_zero, List.getElem?_cons_succ, Option.some.injEq] at ho
        subst ho
        have q6 := hd ⟨6, .data⟩ (by simp) (by rfl)
        rintro ac w' hI K hK
        replace hK := toHid hK
        replace hd := toHid hd
        unfold inv8 at hI
        obtain ⟨x0, x1, x2, x3, x4, x5, x6, x7, x8, x9, x10, x11, x12, x13, x14, x16, na, nb, nc, r5, r6, r7, r8, e5, e6, e7, e8, pb, px, rfl, hb, g0, g1, g2, g3, g4, g5, g6, g7, g8, g9, g10, g11, g12, g13, g14, g15, g16⟩ := hI
        obtain rfl := g6 q6
        replace g0 := toHid g0
        replace g1 := toHid g1
        replace g2 := toHid g2
        replace g3 := toHid g3
        replace g4 := toHid g4
        replace g5 := toHid g5
        replace g6 := toHid g6
        replace g7 := toHid g7
        replace g8 := toHid g8
        replace g9 := toHid g9
        replace g10 := toHid g10
        replace g11 := toHid g11
        replace g12 := toHid g12
        replace g13 := toHid g13
        replace g14 := toHid g14
        replace g15 := toHid g15
        replace g16 := toHid g16
        go_wp2
        exact hK.out _ _ (by unfold inv8; exact ⟨x0, x1, x2, x3, x4, x5, _, _, x8, x9, x10, x11, x12, x13, x14, x16, na, nb, nc, r5, r6, r7, r8, e5, e6, e7, e8, pb, px, rfl, hb, g0.out, g1.out, g2.out, g3.out, g4.out, g5.out, (fun _ => rfl), (fun _ => rfl), g8.out, g9.out, g10.out, g11.out, g12.out, g13.out, g14.out, g15.out, g16.out⟩)
      | 8, ho, hf =>
        simp only [List.getElem?_toArray, List.getElem?_cons_zero, List.getElem?_cons_succ, Option.some.injEq] at ho
        subst ho
        have q5 := hd ⟨5, .data⟩ (by simp) (by rfl)
        have q7 := hd ⟨7, .data⟩ (by simp) (by rfl)
        rintro ac w' hI K hK
        replace hK := toHid hK
        replace hd := toHid hd
        unfold inv8 at hI
        obtain ⟨x0, x1, x2, x3, x4, x5, x6, x7, x8, x9, x10, x11, x12, x13, x14, x16, na, nb, nc, r5, r6, r7, r8, e5, e6, e7, e8, pb, px, rfl, hb, g0, g1, g2, g3, g4, g5, g6, g7, g8, g9, g10, g11, g12, g13, g14, g15, g16⟩ := hI
        obtain ⟨rfl, B5⟩ := g5 q5
        obtain rfl := g7 q7
        replace g0 := toHid g0
        replace g1 := toHid g1
        replace g2 := toHid g2
        replace g3 := toHid g3
        replace g4 := toHid g4
        replace g5 := toHid g5
        replace g6 := toHid g6
        replace g7 := toHid g7
        replace g8 := toHid g8
        replace g9 := toHid g9
        replace g10 := toHid g10
        replace g11 := toHid g11
        replace g12 := toHid g12
        replace g13 := toHid g13
        replace g14 := toHid g14
        replace g15 := toHid g15
        replace g16 := toHid g16
        go_wp2
        exact hK.out _ _ (by unfold inv8; exact ⟨x0, x1, x2, x3, x4, _, x6, _, _, x9, x10, x11, x12, x13, x14, x16, na, nb, nc, r5, r6, r7, r8, e5, e6, e7, e8, pb, px, rfl, hb, g0.out, g1.out, g2.out, g3.out, g4.out, (fun _ => ⟨rfl, B5⟩), g6.out, (fun _ => rfl), (fun _ => ⟨q5, rfl⟩), g9.out, g10.out, g11.out, g12.out, g13.out, g14.out, g15.out, g16.out⟩)
      | 9, ho, hf =>
        simp only [List.getElem?_toArray, List.getElem?_cons_zero, List.getElem?_cons_succ, Option.some.injEq] at ho
        subst ho
        have q8 := hd ⟨8, .data⟩ (by simp) (by rfl)
        rintro ac w' hI K hK
        replace hK := toHid hK
        replace hd := toHid hd
        unfold inv8 at hI
        obtain ⟨x0, x1, x2, x3, x4, x5, x6, x7, x8, x9, x10, x11, x12, x13, x14, x16, na, nb, nc, r5, r6, r7, r8, e5, e6, e7, e8, pb, px, rfl, hb, g0, g1, g2, g3, g4, g5, g6, g7, g8, g9, g10, g11, g12, g13, g14, g15, g16⟩ := hI
        have z15 : f 15 = false := by
          cases hx : f 15 with
          | false => rfl
          | true => exact absurd (g15 hx).1 (by simp [hf])
        obtain ⟨q5, rfl⟩ := g8 q8
        have BB := (g5 q5).2 z15
        have hc : w'.cell? ⟨pb, g, none⟩ = some (.int .i64 Z) := by
          rw [BB.2.1 g]
          rcases hg2 with rfl | rfl
          · rw [hZ0.out rfl]; rfl
          · rw [hZ1.out rfl]; rfl
        replace q5 := toHid q5
        replace g0 := toHid g0
        replace g1 := toHid g1
        replace g2 := toHid g2
        replace g3 := toHid g3
        replace g4 := toHid g4
        replace g5 := toHid g5
        replace g6 := toHid g6
        replace g7 := toHid g7
        replace g8 := toHid g8
        replace g9 := toHid g9
        replace g10 := toHid g10
        replace g11 := toHid g11
        replace g12 := toHid g12
        replace g13 := toHid g13
        replace g14 := toHid g14
        replace g15 := toHid g15
        replace g16 := toHid g16
        go_wp2
        exact hK.out _ _ (by unfold inv8; exact ⟨x0, x1, x2, x3, x4, x5, x6, x7, _, _, x10, x11, x12, x13, x14, x16, na, nb, nc, r5, r6, r7, r8, e5, e6, e7, e8, pb, px, rfl, hb, g0.out, g1.out, g2.out, g3.out, g4.out, g5.out, g6.out, g7.out, (fun _ => ⟨q5.out, rfl⟩), (fun _ => rfl), g10.out, g11.out, g12.out, g13.out, g14.out, (fun q => absurd (g15.out q).1 (by simp [hf])), g16.out⟩)
      | 10, ho, hf =>
        simp only [List.getElem?_toArray, List.getElem?_cons_zero, List.getElem?_cons_succ, Option.some.injEq] at ho
        subst ho
        have q0 := hd ⟨0, .data⟩ (by simp) (by rfl)
        have q9 := hd ⟨9, .data⟩ (by simp) (by rfl)
        rintro ac w' hI K hK
        replace hK := toHid hK
        replace hd := toHid hd
        unfold inv8 at hI
        obtain ⟨x0, x1, x2, x3, x4, x5, x6, x7, x8, x9, x10, x11, x12, x13, x14, x16, na, nb, nc, r5, r6, r7, r8, e5, e6, e7, e8, pb, px, rfl, hb, g0, g1, g2, g3, g4, g5, g6, g7, g8, g9, g10, g11, g12, g13, g14, g15, g16⟩ := hI
        have z15 : f 15 = false := by
          cases hx : f 15 with
          | false => rfl
          | true => exact absurd (g15 hx).2 (by simp [hf])
        obtain ⟨rfl, N0⟩ := g0 q0
        obtain rfl := g9 q9
        have NN := N0 z15
        replace g0 := toHid g0
        replace g1 := toHid g1
        replace g2 := toHid g2
        replace g3 := toHid g3
        replace g4 := toHid g4
        replace g5 := toHid g5
        replace g6 := toHid g6
        replace g7 := toHid g7
        replace g8 := toHid g8
        replace g9 := toHid g9
        replace g10 := toHid g10
        replace g11 := toHid g11
        replace g12 := toHid g12
        replace g13 := toHid g13
        replace g14 := toHid g14
        replace g15 := toHid g15
        replace g16 := toHid g16
        go_wp2_with (go_at_call 9; refine (HP.out _ _ _ _ _ _ _ NN (Nat.le_refl _)).mono ?_; rintro e w9 ⟨a5, c5, a6, c6, a7, c7, a8, c8, rfl, -, h9⟩)
        exact hK.out _ _ (by unfold inv8; exact ⟨_, x1, x2, x3, x4, x5, x6, x7, x8, _, _, x11, x12, x13, x14, x16, na, nb, nc, a5, a6, a7, a8, c5, c6, c7, c8, pb, px, rfl, (hb.on h9), (fun _ => ⟨rfl, fun _ => NN.up h9⟩), g1.out, g2.out, g3.out, g4.out, (fun q => ⟨(g5.out q).1, fun r => ((g5.out q).2 r).below h9⟩), g6.out, g7.out, g8.out, (fun _ => rfl), (fun _ => rfl), (fun q => absurd (g11.out q).1 (by simp [hf])), (fun q => absurd (g12.out q).1 (by simp [hf])), g13.out, (fun q => ⟨(g14.out q).1, (g14.out q).2.1, fun r => ((g14.out q).2.2 r).below h9⟩), (fun q => absurd (g15.out q).2 (by simp [hf])), g16.out⟩)
      | 11, ho, hf =>
        simp only [List.getElem?_toArray, List.getElem?_cons_zero, List.getElem?_cons_succ, Option.some.injEq] at ho
        subst ho
        have q10 := hd ⟨10, .data⟩ (by simp) (by rfl)
        rintro ac w' hI K hK
        replace hK := toHid hK
        replace hd := toHid hd
        unfold inv8 at hI
        obtain ⟨x0, x1, x2, x3, x4, x5, x6, x7, x8, x9, x10, x11, x12, x13, x14, x16, na, nb, nc, r5, r6, r7, r8, e5, e6, e7, e8, pb, px, rfl, hb, g0, g1, g2, g3, g4, g5, g6, g7, g8, g9, g10, g11, g12, g13, g14, g15, g16⟩ := hI
        obtain rfl := g10 q10
        replace g0 := toHid g0
        replace g1 := toHid g1
        replace g2 := toHid g2
        replace g3 := toHid g3
        replace g4 := toHid g4
        replace g5 := toHid g5
        replace g6 := toHid g6
        replace g7 := toHid g7
        replace g8 := toHid g8
        replace g9 := toHid g9
        replace g10 := toHid g10
        replace g11 := toHid g11
        replace g12 := toHid g12
        replace g13 := toHid g13
        replace g14 := toHid g14
        replace g15 := toHid g15
        replace g16 := toHid g16
        go_wp2
        exact hK.out _ _ (by unfold inv8; exact ⟨x0, x1, x2, x3, x4, x5, x6, x7, x8, x9, _, _, x12, x13, x14, x16, na, nb, nc, r5, r6, r7, r8, e5, e6, e7, e8, pb, px, rfl, hb, g0.out, g1.out, g2.out, g3.out, g4.out, g5.out, g6.out, g7.out, g8.out, g9.out, (fun _ => rfl), (fun _ => ⟨q10, rfl⟩), g12.out, g13.out, g14.out, g15.out, g16.out⟩)
      | 12, ho, hf =>
        simp only [List.getElem?_toArray, List.getElem?_cons_zero, List.getElem?_cons_succ, Option.some.injEq] at ho
        subst ho
        have q11 := hd ⟨11, .data⟩ (by simp) (by rfl)
        rintro ac w' hI K hK
        replace hK := toHid hK
        replace hd := toHid hd
        unfold inv8 at hI
        obtain ⟨x0, x1, x2, x3, x4, x5, x6, x7, x8, x9, x10, x11, x12, x13, x14, x16, na, nb, nc, r5, r6, r7, r8, e5, e6, e7, e8, pb, px, rfl, hb, g0, g1, g2, g3, g4, g5, g6, g7, g8, g9, g10, g11, g12, g13, g14, g15, g16⟩ := hI
        obtain ⟨q10, rfl⟩ := g11 q11
        replace q10 := toHid q10
        replace g0 := toHid g0
        replace g1 := toHid g1
        replace g2 := toHid g2
        replace g3 := toHid g3
        replace g4 := toHid g4
        replace g5 := toHid g5
        replace g6 := toHid g6
        replace g7 := toHid g7
        replace g8 := toHid g8
        replace g9 := toHid g9
        replace g10 := toHid g10
        replace g11 := toHid g11
        replace g12 := toHid g12
        replace g13 := toHid g13
        replace g14 := toHid g14
        replace g15 := toHid g15
        replace g16 := toHid g16
        go_wp2
        exact hK.out _ _ (by unfold inv8; exact ⟨x0, x1, x2, x3, x4, x5, x6, x7, x8, x9, x10, _, _, x13, x14, x16, na, nb, nc, r5, r6, r7, r8, e5, e6, e7, e8, pb, px, rfl, hb, g0.out, g1.out, g2.out, g3.out, g4.out, g5.out, g6.out, g7.out, g8.out, g9.out, g10.out, (fun _ => ⟨q10.out, rfl⟩), (fun _ => ⟨q10.out, rfl⟩), g13.out, g14.out, g15.out, g16.out⟩)
      | 13, ho, hf =>
        simp only [List.getElem?_toArray, List.getElem?_cons_zero, List.getElem?_cons_succ, Option.some.injEq] at ho
        subst ho
        have q11 := hd ⟨11, .data⟩ (by simp) (by rfl)
        rintro ac w' hI K hK
        replace hK := toHid hK
        replace hd := toHid hd
        unfold inv8 at hI
        obtain ⟨x0, x1, x2, x3, x4, x5, x6, x7, x8, x9, x10, x11, x12, x13, x14, x16, na, nb, nc, r5, r6, r7, r8, e5, e6, e7, e8, pb, px, rfl, hb, g0, g1, g2, g3, g4, g5, g6, g7, g8, g9, g10, g11, g12, g13, g14, g15, g16⟩ := hI
        obtain ⟨q10, rfl⟩ := g11 q11
        replace q10 := toHid q10
        replace g0 := toHid g0
        replace g1 := toHid g1
        replace g2 := toHid g2
        replace g3 := toHid g3
        replace g4 := toHid g4
        replace g5 := toHid g5
        replace g6 := toHid g6
        replace g7 := toHid g7
        replace g8 := toHid g8
        replace g9 := toHid g9
        replace g10 := toHid g10
        replace g11 := toHid g11
        replace g12 := toHid g12
        replace g13 := toHid g13
        replace g14 := toHid g14
        replace g15 := toHid g15
        replace g16 := toHid g16
        go_wp2
        exact hK.out _ _ (by unfold inv8; exact ⟨x0, x1, x2, x3, x4, x5, x6, x7, x8, x9, x10, _, x12, _, x14, x16, na, nb, nc, r5, r6, r7, r8, e5, e6, e7, e8, pb, px, rfl, hb, g0.out, g1.out, g2.out, g3.out, g4.out, g5.out, g6.out, g7.out, g8.out, g9.out, g10.out, (fun _ => ⟨q10.out, rfl⟩), g12.out, (fun _ => rfl), g14.out, g15.out, g16.out⟩)
      | 14, ho, hf =>
        simp only [List.getElem?_toArray, List.getElem?_cons_zero, List.getElem?_cons_succ, Option.some.injEq] at ho
        subst ho
        rintro ac w' hI K hK
        replace hK := toHid hK
        replace hd := toHid hd
        unfold inv8 at hI
        obtain ⟨x0, x1, x2, x3, x4, x5, x6, x7, x8, x9, x10, x11, x12, x13, x14, x16, na, nb, nc, r5, r6, r7, r8, e5, e6, e7, e8, pb, px, rfl, hb, g0, g1, g2, g3, g4, g5, g6, g7, g8, g9, g10, g11, g12, g13, g14, g15, g16⟩ := hI
        replace g0 := toHid g0
        replace g1 := toHid g1
        replace g2 := toHid g2
        replace g3 := toHid g3
        replace g4 := toHid g4
        replace g5 := toHid g5
        replace g6 := toHid g6
        replace g7 := toHid g7
        replace g8 := toHid g8
        replace g9 := toHid g9
        replace g10 := toHid g10
        replace g11 := toHid g11
        replace g12 := toHid g12
        replace g13 := toHid g13
        replace g14 := toHid g14
        replace g15 := toHid g15
        replace g16 := toHid g16
        go_wp2
        exact hK.out _ _ (by unfold inv8; exact ⟨x0, x1, x2, x3, x4, x5, x6, x7, x8, x9, x10, x11, x12, x13, _, x16, na, nb, nc, r5, r6, r7, r8, e5, e6, e7, e8, pb, w'.heap.size, rfl, (hb.onA _), (fun q => ⟨(g0.out q).1, fun r => ((g0.out q).2 r).up ((Below.refl _ w').onA _)⟩), g1.out, g2.out, g3.out, g4.out, (fun q => ⟨(g5.out q).1, fun r => ((g5.out q).2 r).below ((Below.refl _ w').onA _)⟩), g6.out, g7.out, g8.out, g9.out, g10.out, g11.out, g12.out, g13.out, (fun _ => ⟨rfl, hb.size, fun _ => Box.new w' _ _⟩), g15.out, g16.out⟩)
      | 15, ho, hf =>
        simp only [List.getElem?_toArray, List.getElem?_cons_zero, List.getElem?_cons_succ, Option.some.injEq] at ho
        subst ho
        have q14 := hd ⟨14, .data⟩ (by simp) (by rfl)
        have q12 := hd ⟨12, .data⟩ (by simp) (by rfl)
        have q9 := hd ⟨9, .phase⟩ (by simp) (by rfl)
        rintro ac w' hI K hK
        replace hK := toHid hK
        replace hd := toHid hd
        unfold inv8 at hI
        obtain ⟨x0, x1, x2, x3, x4, x5, x6, x7, x8, x9, x10, x11, x12, x13, x14, x16, na, nb, nc, r5, r6, r7, r8, e5, e6, e7, e8, pb, px, rfl, hb, g0, g1, g2, g3, g4, g5, g6, g7, g8, g9, g10, g11, g12, g13, g14, g15, g16⟩ := hI
        obtain ⟨rfl, k14, B14⟩ := g14 q14
        have BX := B14 hf
        obtain ⟨q10, rfl⟩ := g12 q12
        obtain ⟨bx1, bx2, bx3⟩ := id BX
        obtain ⟨-, ON⟩ := BX.set6 (.bool false) (.int .i64 0) (.slice r5 0 e5) (.slice r6 0 e6) (.slice r7 0 e7) (.slice r8 0 e8)
        replace ON := toHid ON
        replace q10 := toHid q10
        replace q9 := toHid q9
        replace g0 := toHid g0
        replace g1 := toHid g1
        replace g2 := toHid g2
        replace g3 := toHid g3
        replace g4 := toHid g4
        replace g5 := toHid g5
        replace g6 := toHid g6
        replace g7 := toHid g7
        replace g8 := toHid g8
        replace g9 := toHid g9
        replace g10 := toHid g10
        replace g11 := toHid g11
        replace g12 := toHid g12
        replace g13 := toHid g13
        replace g14 := toHid g14
        replace g15 := toHid g15
        replace g16 := toHid g16
        go_wp2
        exact hK.out _ _ (by unfold inv8; exact ⟨x0, x1, x2, x3, x4, x5, x6, x7, x8, x9, x10, x11, _, x13, _, x16, na, nb, nc, r5, r6, r7, r8, e5, e6, e7, e8, pb, px, rfl, (hb.trans (ON.out.below.mono k14)), (fun q => ⟨(g0.out q).1, fun r => by cases r⟩), g1.out, g2.out, g3.out, g4.out, (fun q => ⟨(g5.out q).1, fun r => by cases r⟩), g6.out, g7.out, g8.out, g9.out, g10.out, g11.out, (fun _ => ⟨q10.out, rfl⟩), g13.out, (fun _ => ⟨rfl, k14, fun r => by cases r⟩), (fun _ => ⟨q9.out, q10.out⟩), g16.out⟩)
      | 16, ho, hf =>
        simp only [List.getElem?_toArray, List.getElem?_cons_zero, List.getElem?_cons_succ, Option.some.injEq] at ho
        subst ho
        have q13 := hd ⟨13, .data⟩ (by simp) (by rfl)
        rintro ac w' hI K hK
        replace hK := toHid hK
        replace hd := toHid hd
        unfold inv8 at hI
        obtain ⟨x0, x1, x2, x3, x4, x5, x6, x7, x8, x9, x10, x11, x12, x13, x14, x16, na, nb, nc, r5, r6, r7, r8, e5, e6, e7, e8, pb, px, rfl, hb, g0, g1, g2, g3, g4, g5, g6, g7, g8, g9, g10, g11, g12, g13, g14, g15, g16⟩ := hI
        obtain rfl := g13 q13
        replace g0 := toHid g0
        replace g1 := toHid g1
        replace g2 := toHid g2
        replace g3 := toHid g3
        replace g4 := toHid g4
        replace g5 := toHid g5
        replace g6 := toHid g6
        replace g7 := toHid g7
        replace g8 := toHid g8
        replace g9 := toHid g9
        replace g10 := toHid g10
        replace g11 := toHid g11
        replace g12 := toHid g12
        replace g13 := toHid g13
        replace g14 := toHid g14
        replace g15 := toHid g15
        replace g16 := toHid g16
        go_wp2
        exact hK.out _ _ (by unfold inv8; exact ⟨x0, x1, x2, x3, x4, x5, x6, x7, x8, x9, x10, x11, x12, _, x14, _, na, nb, nc, r5, r6, r7, r8, e5, e6, e7, e8, pb, px, rfl, hb, g0.out, g1.out, g2.out, g3.out, g4.out, g5.out, g6.out, g7.out, g8.out, g9.out, g10.out, g11.out, g12.out, (fun _ => rfl), g14.out, g15.out, (fun _ => rfl)⟩)
      | j + 17, ho, hf => simp at ho
    · rintro f ac w' hf hI
      obtain ⟨y, rfl, hb⟩ := inv8_end hI (by simpa using hf)
      clear hI
      replace hf := toHid hf
      go_wp2
      go_meet
      exact ⟨rfl, hb⟩
  case rest =>
  obtain ⟨rfl, hcc⟩ := hcut
  generalize hnx : wc = U3 at hcc ⊢
  clear hnx
  replace hB := toHid (hB.out.on hcc)
  clear hcc
  go_upto_region 9 with (fail)
  go_cut [13, 14] from 61 to 74 (fun v13 v14 wx => v14 = .int .i64 1700 ∧ Below U3.heap.size U3 wx)
  case first =>
    have HP := toHid (fun (W : World) (p q r s : Value) (lo hi : Nat) (N : NdAt lo hi W p q r s gnP [7] gnT []) (hh : hi ≤ W.heap.size) => wPut17_at (up' := false) (i' := 0) (E := 1700) (ps' := []) (is' := []) (ts' := []) (ls' := []) true 100 N hh 5 Z (bad_value hz.out).1 (bad_value hz.out).2)
    refine wp_region_inv (by kernel_rfl) (by kernel_rfl) (inv9 a0 a1 d g Z wg1 u7 u9 u11 u26 u27 u28 u29 u30 u31 u32 u33 u34 u35 u36 u37 u38 u39 u40 u41 u42 u43 u44 u45 u46 u47 u48 u49 u50 u51 u52 u53 u54 u55 u56 u57 u58 u59 u60 U3) ?_ ?_ ?_
    · unfold inv9
      exact ⟨undef, undef, undef, undef, undef, undef, undef, undef, undef, undef, undef, undef, undef, undef, undef, undef, none, none, none, none, none, none, none, 0, 0, 0, 0, 0, 0, rfl, (Below.refl _ U3).onD 1, nofun, nofun, nofun, nofun, nofun, nofun, nofun, nofun, nofun, nofun, nofun, nofun, nofun, nofun, nofun, nofun, nofun⟩
    · intro f i o ho hf hd
      match i, ho, hf with
      | 0, ho, hf =>
        simp only [List.getElem?_toArray, List.getElem?_cons_zero, Option.some.injEq] at ho
        subst ho
        rintro ac w' hI K hK
        replace hK := toHid hK
        replace hd := toHid hd
        unfold inv9 at hI
        obtain ⟨x0, x1, x2, x3, x4, x5, x6, x7, x8, x9, x10, x11, x12, x13, x14, x16, na, nb, nc, r5, r6, r7, r8, e5, e6, e7, e8, pb, px, rfl, hb, g0, g1, g2, g3, g4, g5, g6, g7, g8, g9, g10, g11, g12, g13, g14, g15, g16⟩ := hI
        replace g0 := toHid g0
        replace g1 := toHid g1
        replace g2 := toHid g2
        replace g3 := toHid g3
        replace g4 := toHid g4
        replace g5 := toHid g5
        replace g6 := toHid g6
        replace g7 := toHid g7
        replace g8 := toHid g8
        replace g9 := toHid g9
        replace g10 := toHid g10
        replace g11 := toHid g11
        replace g12 := toHid g12
        replace g13 := toHid g13
        replace g14 := toHid g14
        replace g15 := toHid g15
        replace g16 := toHid g16
        go_wp2_with (go_at_call 17; refine (gNode_any _).mono ?_; rintro e w9 ⟨ma, mb, mc, rfl, NN, h9⟩)
        exact hK.out _ _ (by unfold inv9; exact ⟨_, x1, x2, x3, x4, x5, x6, x7, x8, x9, x10, x11, x12, x13, x14, x16, ma, mb, mc, r5, r6, r7, r8, e5, e6, e7, e8, pb, px, rfl, (hb.on h9), (fun _ => ⟨rfl, fun _ => NN.wide (Nat.zero_le _) (Nat.le_refl _)⟩), g1.out, g2.out, g3.out, g4.out, (fun q => ⟨(g5.out q).1, fun r => ((g5.out q).2 r).below h9⟩), g6.out, g7.out, g8.out, g9.out, g10.out, g11.out, g12.out, g13.out, (fun q => ⟨(g14.out q).1, (g14.out q).2.1, fun r => ((g14.out q).2.2 r).below h9⟩), g15.out, g16.out⟩)
      | 1, ho, hf =>
        simp only [List.getElem?_toArray, List.getElem?_cons_zero, List.getElem?_cons_succ, Option.some.injEq] at ho
        subst ho
        rintro ac w' hI K hK
        replace hK := toHid hK
        replace hd := toHid hd
        unfold inv9 at hI
        obtain ⟨x0, x1, x2, x3, x4, x5, x6, x7, x8, x9, x10, x11, x12, x13, x14, x16, na, nb, nc, r5, r6, r7, r8, e5, e6, e7, e8, pb, px, rfl, hb, g0, g1, g2, g3, g4, g5, g6, g7, g8, g9, g10, g11, g12, g13, g14, g15, g16⟩ := hI
        replace g0 := toHid g0
        replace g1 := toHid g1
        replace g2 := toHid g2
        replace g3 := toHid g3
        replace g4 := toHid g4
        replace g5 := toHid g5
        replace g6 := toHid g6
        replace g7 := toHid g7
        replace g8 := toHid g8
        replace g9 := toHid g9
        replace g10 := toHid g10
        replace g11 := toHid g11
        replace g12 := toHid g12
        replace g13 := toHid g13
        replace g14 := toHid g14
        replace g15 := toHid g15
        replace g16 := toHid g16
        go_wp2
        exact hK.out _ _ (by unfold inv9; exact ⟨x0, _, x2, x3, x4, x5, x6, x7, x8, x9, x10, x11, x12, x13, x14, x16, na, nb, nc, r5, r6, r7, r8, e5, e6, e7, e8, pb, px, rfl, hb, g0.out, (fun _ => rfl), g2.out, g3.out, g4.out, g5.out, g6.out, g7.out, g8.out, g9.out, g10.out, g11.out, g12.out, g13.out, g14.out, g15.out, g16.out⟩)
      | 2, ho, hf =>
        simp only [List.getElem?_toArray, List.getElem?_cons_zero, List.getElem?_cons_succ, Option.some.injEq] at ho
        subst ho
        have q1 := hd ⟨1, .data⟩ (by simp) (by rfl)
        rintro ac w' hI K hK
        replace hK := toHid hK
        replace hd := toHid hd
        unfold inv9 at hI
        obtain ⟨x0, x1, x2, x3, x4, x5, x6, x7, x8, x9, x10, x11, x12, x13, x14, x16, na, nb, nc, r5, r6, r7, r8, e5, e6, e7, e8, pb, px, rfl, hb, g0, g1, g2, g3, g4, g5, g6, g7, g8, g9, g10, g11, g12, g13, g14, g15, g16⟩ := hI
        obtain rfl := g1 q1
        replace g0 := toHid g0
        replace g1 := toHid g1
        replace g2 := toHid g2
        replace g3 := toHid g3
        replace g4 := toHid g4
        replace g5 := toHid g5
        replace g6 := toHid g6
        replace g7 := toHid g7
        replace g8 := toHid g8
        replace g9 := toHid g9
        replace g10 := toHid g10
        replace g11 := toHid g11
        replace g12 := toHid g12
        replace g13 := toHid g13
        replace g14 := toHid g14
        replace g15 := toHid g15
        replace g16 := toHid g16
        go_wp2
        exact hK.out _ _ (by unfold inv9; exact ⟨x0, _, _, x3, x4, x5, x6, x7, x8, x9, x10, x11, x12, x13, x14, x16, na, nb, nc, r5, r6, r7, r8, e5, e6, e7, e8, pb, px, rfl, hb, g0.out, (fun _ => rfl), (fun _ => rfl), g3.out, g4.out, g5.out, g6.out, g7.out, g8.out, g9.out, g10.out, g11.out, g12.out, g13.out, g14.out, g15.out, g16.out⟩)
      | 3, ho, hf =>
        simp only [List.getElem?_toArray, List.getElem?_cons_zero, List.getElem?_cons_succ, Option.some.injEq] at ho
        subst ho
        rintro ac w' hI K hK
        replace hK := toHid hK
        replace hd := toHid hd
        unfold inv9 at hI
        obtain ⟨x0, x1, x2, x3, x4, x5, x6, x7, x8, x9, x10, x11, x12, x13, x14, x16, na, nb, nc, r5, r6, r7, r8, e5, e6, e7, e8, pb, px, rfl, hb, g0, g1, g2, g3, g4, g5, g6, g7, g8, g9, g10, g11, g12, g13, g14, g15, g16⟩ := hI
        replace g0 := toHid g0
        replace g1 := toHid g1
        replace g2 := toHid g2
        replace g3 := toHid g3
        replace g4 := toHid g4
        replace g5 := toHid g5
        replace g6 := toHid g6
        replace g7 := toHid g7
        replace g8 := toHid g8
        replace g9 := toHid g9
        replace g10 := toHid g10
        replace g11 := toHid g11
        replace g12 := toHid g12
        replace g13 := toHid g13
        replace g14 := toHid g14
        replace g15 := toHid g15
        replace g16 := toHid g16
        go_wp2
        exact hK.out _ _ (by unfold inv9; exact ⟨x0, x1, x2, _, x4, x5, x6, x7, x8, x9, x10, x11, x12, x13, x14, x16, na, nb, nc, r5, r6, r7, r8, e5, e6, e7, e8, pb, px, rfl, hb, g0.out, g1.out, g2.out, (fun _ => rfl), g4.out, g5.out, g6.out, g7.out, g8.out, g9.out, g10.out, g11.out, g12.out, g13.out, g14.out, g15.out, g16.out⟩)
      | 4, ho, hf =>
        simp only [List.getElem?_toArray, List.getElem?_cons_zero, List.getElem?_cons_succ, Option.some.injEq] at ho
        subst ho
        have q3 := hd ⟨3, .data⟩ (by simp) (by rfl)
        rintro ac w' hI K hK
        replace hK := toHid hK
        replace hd := toHid hd
        unfold inv9 at hI
        obtain ⟨x0, x1, x2, x3, x4, x5, x6, x7, x8, x9, x10, x11, x12, x13, x14, x16, na, nb, nc, r5, r6, r7, r8, e5, e6, e7, e8, pb, px, rfl, hb, g0, g1, g2, g3, g4, g5, g6, g7, g8, g9, g10, g11, g12, g13, g14, g15, g16⟩ := hI
        obtain rfl := g3 q3
        replace g0 := toHid g0
        replace g1 := toHid g1
        replace g2 := toHid g2
        replace g3 := toHid g3
        replace g4 := toHid g4
        replace g5 := toHid g5
        replace g6 := toHid g6
        replace g7 := toHid g7
        replace g8 := toHid g8
        replace g9 := toHid g9
        replace g10 := toHid g10
        replace g11 := toHid g11
        replace g12 := toHid g12
        replace g13 := toHid g13
        replace g14 := toHid g14
        replace g15 := toHid g15
        replace g16 := toHid g16
        go_wp2
        exact hK.out _ _ (by unfold inv9; exact ⟨x0, x1, x2, _, _, x5, x6, x7, x8, x9, x10, x11, x12, x13, x14, x16, na, nb, nc, r5, r6, r7, r8, e5, e6, e7, e8, pb, px, rfl, hb, g0.out, g1.out, g2.out, (fun _ => rfl), (fun _ => rfl), g5.out, g6.out, g7.out, g8.out, g9.out, g10.out, g11.out, g12.out, g13.out, g14.out, g15.out, g16.out⟩)
      | 5, ho, hf =>
        simp only [List.getElem?_toArray, List.getElem?_cons_zero, List.getElem?_cons_succ, Option.some.injEq] at ho
        subst ho
        have q2 := hd ⟨2, .data⟩ (by simp) (by rfl)
        have q4 := hd ⟨4, .data⟩ (by simp) (by rfl)
        rintro ac w' hI K hK
        replace hK := toHid hK
        replace hd := toHid hd
        unfold inv9 at hI
        obtain ⟨x0, x1, x2, x3, x4, x5, x6, x7, x8, x9, x10, x11, x12, x13, x14, x16, na, nb, nc, r5, r6, r7, r8, e5, e6, e7, e8, pb, px, rfl, hb, g0, g1, g2, g3, g4, g5, g6, g7, g8, g9, g10, g11, g12, g13, g14, g15, g16⟩ := hI
        obtain rfl := g2 q2
        obtain rfl := g4 q4
        replace g0 := toHid g0
        replace g1 := toHid g1
        replace g2 := toHid g2
        replace g3 := toHid g3
        replace g4 := toHid g4
        replace g5 := toHid g5
        replace g6 := toHid g6
        replace g7 := toHid g7
        replace g8 := toHid g8
        replace g9 := toHid g9
        replace g10 := toHid g10
        replace g11 := toHid g11
        replace g12 := toHid g12
        replace g13 := toHid g13
        replace g14 := toHid g14
        replace g15 := toHid g15
        replace g16 := toHid g16
        go_wp2
        exact hK.out _ _ (by unfold inv9; exact ⟨x0, x1, _, x3, _, _, x6, x7, x8, x9, x10, x11, x12, x13, x14, x16, na, nb, nc, r5, r6, r7, r8, e5, e6, e7, e8, w'.heap.size, px, rfl, (hb.onA _), (fun q => ⟨(g0.out q).1, fun r => ((g0.out q).2 r).up ((Below.refl _ w').onA _)⟩), g1.out, (fun _ => rfl), g3.out, (fun _ => rfl), (fun _ => ⟨rfl, fun _ => Box.new w' _ _⟩), g6.out, g7.out, (fun q => absurd (g8.out q).1 (by simp [hf])), g9.out, g10.out, g11.out, g12.out, g13.out, (fun q => ⟨(g14.out q).1, (g14.out q).2.1, fun r => ((g14.out q).2.2 r).below ((Below.refl _ w').onA _)⟩), g15.out, g16.out⟩)
      | 6, ho, hf =>
        simp only [List.getElem?_toArray, List.getElem?_cons_zero, List.getElem?_cons_succ, Option.some.injEq] at ho
        subst ho
        rintro ac w' hI K hK
        replace hK := toHid hK
        replace hd := toHid hd
        unfold inv9 at hI
        obtain ⟨x0, x1, x2, x3, x4, x5, x6, x7, x8, x9, x10, x11, x12, x13, x14, x16, na, nb, nc, r5, r6, r7, r8, e5, e6, e7, e8, pb, px, rfl, hb, g0, g1, g2, g3, g4, g5, g6, g7, g8, g9, g10, g11, g12, g13, g14, g15, g16⟩ := hI
        replace g0 := toHid g0
        replace g1 := toHid g1
        replace g2 := toHid g2
        replace g3 := toHid g3
        replace g4 := toHid g4
        replace g5 := toHid g5
        replace g6 := toHid g6
        replace g7 := toHid g7
        replace g8 := toHid g8
        replace g9 := toHid g9
        replace g10 := toHid g10
        replace g11 := toHid g11
        replace g12 := toHid g12
        replace g13 := toHid g13
        replace g14 := toHid g14
        replace g15 := toHid g15
        replace g16 := toHid g16
        go_wp2
        exact hK.out _ _ (by unfold inv9; exact ⟨x0, x1, x2, x3, x4, x5, _, x7, x8, x9, x10, x11, x12, x13, x14, x16, na, nb, nc, r5, r6, r7, r8, e5, e6, e7, e8, pb, px, rfl, hb, g0.out, g1.out, g2.out, g3.out, g4.out, g5.out, (fun _ => rfl), g7.out, g8.out, g9.out, g10.out, g11.out, g12.out, g13.out, g14.out, g15.out, g16.out⟩)
      | 7, ho, hf =>
        simp only [List.getElem?_toArray, List.getElem?_cons_zero, List.getElem?_cons_succ, Option.some.injEq] at ho
        subst ho
        have q6 := hd ⟨6, .data⟩ (by simp) (by rfl)
        rintro ac w' hI K hK
        replace hK := toHid hK
        replace hd := toHid hd
        unfold inv9 at hI
        obtain ⟨x0, x1, x2, x3, x4, x5, x6, x7, x8, x9, x10, x11, x12, x13, x14, x16, na, nb, nc, r5, r6, r7, r8, e5, e6, e7, e8, pb, px, rfl, hb, g0, g1, g2, g3, g4, g5, g6, g7, g8, g9, g10, g11, g12, g13, g14, g15, g16⟩ := hI
        obtain rfl := g6 q6
        replace g0 := toHid g0
        replace g1 := toHid g1
        replace g2 := toHid g2
        replace g3 := toHid g3
        replace g4 := toHid g4
        replace g5 := toHid g5
        replace g6 := toHid g6
        replace g7 := toHid g7
        replace g8 := toHid g8
        replace g9 := toHid g9
        replace g10 := toHid g10
        replace g11 := toHid g11
        replace g12 := toHid g12
        replace g13 := toHid g13
        replace g14 := toHid g14
        replace g15 := toHid g15
        replace g16 := toHid g16
        go_wp2
        exact hK.out _ _ (by unfold inv9; exact ⟨x0, x1, x2, x3, x4, x5, _, _, x8, x9, x10, x11, x12, x13, x14, x16, na, nb, nc, r5, r6, r7, r8, e5, e6, e7, e8, pb, px, rfl, hb, g0.out, g1.out, g2.out, g3.out, g4.out, g5.out, (fun _ => rfl), (fun _ => rfl), g8.out, g9.out, g10.out, g11.out, g12.out, g13.out, g14.out, g15.out, g16.out⟩)
      | 8, ho, hf =>
        simp only [List.getElem?_toArray, List.getElem?_cons_zero, List.getElem?_cons_succ, Option.some.injEq] at ho
        subst ho
        have q5 := hd ⟨5, .data⟩ (by simp) (by rfl)
        have q7 := hd ⟨7, .data⟩ (by simp) (by rfl)
        rintro ac w' hI K hK
        replace hK := toHid hK
        replace hd := toHid hd
        unfold inv9 at hI
        obtain ⟨x0, x1, x2, x3, x4, x5, x6, x7, x8, x9, x10, x11, x12, x13, x14, x16, na, nb, nc, r5, r6, r7, r8, e5, e6, e7, e8, pb, px, rfl, hb, g0, g1, g2, g3, g4, g5, g6, g7, g8, g9, g10, g11, g12, g13, g14, g15, g16⟩ := hI
        obtain ⟨rfl, B5⟩ := g5 q5
        obtain rfl := g7 q7
        replace g0 := toHid g0
        replace g1 := toHid g1
        replace g2 := toHid g2
        replace g3 := toHid g3
        replace g4 := toHid g4
        replace g5 := toHid g5
        replace g6 := toHid g6
        replace g7 := toHid g7
        replace g8 := toHid g8
        replace g9 := toHid g9
        replace g10 := toHid g10
        replace g11 := toHid g11
        replace g12 := toHid g12
        replace g13 := toHid g13
        replace g14 := toHid g14
        replace g15 := toHid g15
        replace g16 := toHid g16
        go_wp2
        exact hK.out _ _ (by unfold inv9; exact ⟨x0, x1, x2, x3, x4, _, x6, _, _, x9, x10, x11, x12, x13, x14, x16, na, nb, nc, r5, r6, r7, r8, e5, e6, e7, e8, pb, px, rfl, hb, g0.out, g1.out, g2.out, g3.out, g4.out, (fun _ => ⟨rfl, B5⟩), g6.out, (fun _ => rfl), (fun _ => ⟨q5, rfl⟩), g9.out, g10.out, g11.out, g12.out, g13.out, g14.out, g15.out, g16.out⟩)
      | 9, ho, hf =>
        simp only [List.getElem?_toArray, List.getElem?_cons_zero, List.getElem?_cons_succ, Option.some.injEq] at ho
        subst ho
        have q8 := hd ⟨8, .data⟩ (by simp) (by rfl)
        rintro ac w' hI K hK
        replace hK := toHid hK
        replace hd := toHid hd
        unfold inv9 at hI
        obtain ⟨x0, x1, x2, x3, x4, x5, x6, x7, x8, x9, x10, x11, x12, x13, x14, x16, na, nb, nc, r5, r6, r7, r8, e5, e6, e7, e8, pb, px, rfl, hb, g0, g1, g2, g3, g4, g5, g6, g7, g8, g9, g10, g11, g12, g13, g14, g15, g16⟩ := hI
        have z15 : f 15 = false := by
          cases hx : f 15 with
          | false => rfl
          | true => exact absurd (g15 hx).1 (by simp [hf])
        obtain ⟨q5, rfl⟩ := g8 q8
        have BB := (g5 q5).2 z15
        have hc : w'.cell? ⟨pb, g, none⟩ = some (.int .i64 Z) := by
          rw [BB.2.1 g]
          rcases hg2 with rfl | rfl
          · rw [hZ0.out rfl]; rfl
          · rw [hZ1.out rfl]; rfl
        replace q5 := toHid q5
        replace g0 := toHid g0
        replace g1 := toHid g1
        replace g2 := toHid g2
        replace g3 := toHid g3
        replace g4 := toHid g4
        replace g5 := toHid g5
        replace g6 := toHid g6
        replace g7 := toHid g7
        replace g8 := toHid g8
        replace g9 := toHid g9
        replace g10 := toHid g10
        replace g11 := toHid g11
        replace g12 := toHid g12
        replace g13 := toHid g13
        replace g14 := toHid g14
        replace g15 := toHid g15
        replace g16 := toHid g16
        go_wp2
        exact hK.out _ _ (by unfold inv9; exact ⟨x0, x1, x2, x3, x4, x5, x6, x7, _, _, x10, x11, x12, x13, x14, x16, na, nb, nc, r5, r6, r7, r8, e5, e6, e7, e8, pb, px, rfl, hb, g0.out, g1.out, g2.out, g3.out, g4.out, g5.out, g6.out, g7.out, (fun _ => ⟨q5.out, rfl⟩), (fun _ => rfl), g10.out, g11.out, g12.out, g13.out, g14.out, (fun q => absurd (g15.out q).1 (by simp [hf])), g16.out⟩)
      | 10, ho, hf =>
        simp only [List.getElem?_toArray, List.getElem?_cons_zero, List.getElem?_cons_succ, Option.some.injEq] at ho
        subst ho
        have q0 := hd ⟨0, .data⟩ (by simp) (by rfl)
        have q9 := hd ⟨9, .data⟩ (by simp) (by rfl)
        rintro ac w' hI K hK
        replace hK := toHid hK
        replace hd := toHid hd
        unfold inv9 at hI
        obtain ⟨x0, x1, x2, x3, x4, x5, x6, x7, x8, x9, x10, x11, x12, x13, x14, x16, na, nb, nc, r5, r6, r7, r8, e5, e6, e7, e8, pb, px, rfl, hb, g0, g1, g2, g3, g4, g5, g6, g7, g8, g9, g10, g11, g12, g13, g14, g15, g16⟩ := hI
        have z15 : f 15 = false := by
          cases hx : f 15 with
          | false => rfl
          | true => exact absurd (g15 hx).2 (by simp [hf])
        obtain ⟨rfl, N0⟩ := g0 q0
        obtain rfl := g9 q9
        have NN := N0 z15
        replace g0 := toHid g0
        replace g1 := toHid g1
        replace g2 := toHid g2
        replace g3 := toHid g3
        replace g4 := toHid g4
        replace g5 := toHid g5
        replace g6 := toHid g6
        replace g7 := toHid g7
        replace g8 := toHid g8
        replace g9 := toHid g9
        replace g10 := toHid g10
        replace g11 := toHid g11
        replace g12 := toHid g12
        replace g13 := toHid g13
        replace g14 := toHid g14
        replace g15 := toHid g15
        replace g16 := toHid g16
        go_wp2_with (go_at_call 9; refine (HP.out _ _ _ _ _ _ _ NN (Nat.le_refl _)).mono ?_; rintro e w9 ⟨a5, c5, a6, c6, a7, c7, a8, c8, rfl, -, h9⟩)
        exact hK.out _ _ (by unfold inv9; exact ⟨_, x1, x2, x3, x4, x5, x6, x7, x8, _, _, x11, x12, x13, x14, x16, na, nb, nc, a5, a6, a7, a8, c5, c6, c7, c8, pb, px, rfl, (hb.on h9), (fun _ => ⟨rfl, fun _ => NN.up h9⟩), g1.out, g2.out, g3.out, g4.out, (fun q => ⟨(g5.out q).1, fun r => ((g5.out q).2 r).below h9⟩), g6.out, g7.out, g8.out, (fun _ => rfl), (fun _ => rfl), (fun q => absurd (g11.out q).1 (by simp [hf])), (fun q => absurd (g12.out q).1 (by simp [hf])), g13.out, (fun q => ⟨(g14.out q).1, (g14.out q).2.1, fun r => ((g14.out q).2.2 r).below h9⟩), (fun q => absurd (g15.out q).2 (by simp [hf])), g16.out⟩)
      | 11, ho, hf =>
        simp only [List.getElem?_toArray, List.getElem?_cons_zero, List.getElem?_cons_succ, Option.some.injEq] at ho
        subst ho
        have q10 := hd ⟨10, .data⟩ (by simp) (by rfl)
        rintro ac w' hI K hK
        replace hK := toHid hK
        replace hd := toHid hd
        unfold inv9 at hI
        obtain ⟨x0, x1, x2, x3, x4, x5, x6, x7, x8, x9, x10, x11, x12, x13, x14, x16, na, nb, nc, r5, r6, r7, r8, e5, e6, e7, e8, pb, px, rfl, hb, g0, g1, g2, g3, g4, g5, g6, g7, g8, g9, g10, g11, g12, g13, g14, g15, g16⟩ := hI
        obtain rfl := g10 q10
        replace g0 := toHid g0
        replace g1 := toHid g1
        replace g2 := toHid g2
        replace g3 := toHid g3
        replace g4 := toHid g4
        replace g5 := toHid g5
        replace g6 := toHid g6
        replace g7 := toHid g7
        replace g8 := toHid g8
        replace g9 := toHid g9
        replace g10 := toHid g10
        replace g11 := toHid g11
        replace g12 := toHid g12
        replace g13 := toHid g13
        replace g14 := toHid g14
        replace g15 := toHid g15
        replace g16 := toHid g16
        go_wp2
        exact hK.out _ _ (by unfold inv9; exact ⟨x0, x1, x2, x3, x4, x5, x6, x7, x8, x9, _, _, x12, x13, x14, x16, na, nb, nc, r5, r6, r7, r8, e5, e6, e7, e8, pb, px, rfl, hb, g0.out, g1.out, g2.out, g3.out, g4.out, g5.out, g6.out, g7.out, g8.out, g9.out, (fun _ => rfl), (fun _ => ⟨q10, rfl⟩), g12.out, g13.out, g14.out, g15.out, g16.out⟩)
      | 12, ho, hf =>
        simp only [List.getElem?_toArray, List.getElem?_cons_zero, List.getElem?_cons_succ, Option.some.injEq] at ho
        subst ho
        have q11 := hd ⟨11, .data⟩ (by simp) (by rfl)
        rintro ac w' hI K hK
        replace hK := toHid hK
        replace hd := toHid hd
        unfold inv9 at hI
        obtain ⟨x0, x1, x2, x3, x4, x5, x6, x7, x8, x9, x10, x11, x12, x13, x14, x16, na, nb, nc, r5, r6, r7, r8, e5, e6, e7, e8, pb, px, rfl, hb, g0, g1, g2, g3, g4, g5, g6, g7, g8, g9, g10, g11, g12, g13, g14, g15, g16⟩ := hI
        obtain ⟨q10, rfl⟩ := g11 q11
        replace q10 := toHid q10
        replace g0 := toHid g0
        replace g1 := toHid g1
        replace g2 := toHid g2
        replace g3 := toHid g3
        replace g4 := toHid g4
        replace g5 := toHid g5
        replace g6 := toHid g6
        replace g7 := toHid g7
        replace g8 := toHid g8
        replace g9 := toHid g9
        replace g10 := toHid g10
        replace g11 := toHid g11
        replace g12 := toHid g12
        replace g13 := toHid g13
        replace g14 := toHid g14
        replace g15 := toHid g15
        replace g16 := toHid g16
        go_wp2
        exact hK.out _ _ (by unfold inv9; exact ⟨x0, x1, x2, x3, x4, x5, x6, x7, x8, x9, x10, _, _, x13, x14, x16, na, nb, nc, r5, r6, r7, r8, e5, e6, e7, e8, pb, px, rfl, hb, g0.out, g1.out, g2.out, g3.out, g4.out, g5.out, g6.out, g7.out, g8.out, g9.out, g10.out, (fun _ => ⟨q10.out, rfl⟩), (fun _ => ⟨q10.out, rfl⟩), g13.out, g14.out, g15.out, g16.out⟩)
      | 13, ho, hf =>
        simp only [List.getElem?_toArray, List.getElem?_cons_zero, List.getElem?_cons_succ, Option.some.injEq] at ho
        subst ho
        have q11 := hd ⟨11, .data⟩ (by simp) (by rfl)
        rintro ac w' hI K hK
        replace hK := toHid hK
        replace hd := toHid hd
        unfold inv9 at hI
        obtain ⟨x0, x1, x2, x3, x4, x5, x6, x7, x8, x9, x10, x11, x12, x13, x14, x16, na, nb, nc, r5, r6, r7, r8, e5, e6, e7, e8, pb, px, rfl, hb, g0, g1, g2, g3, g4, g5, g6, g7, g8, g9, g10, g11, g12, g13, g14, g15, g16⟩ := hI
        obtain ⟨q10, rfl⟩ := g11 q11
        replace q10 := toHid q10
        replace g0 := toHid g0
        replace g1 := toHid g1
        replace g2 := toHid g2
        replace g3 := toHid g3
        replace g4 := toHid g4
        replace g5 := toHid g5
        replace g6 := toHid g6
        replace g7 := toHid g7
        replace g8 := toHid g8
        replace g9 := toHid g9
        replace g10 := toHid g10
        replace g11 := toHid g11
        replace g12 := toHid g12
        replace g13 := toHid g13
        replace g14 := toHid g14
        replace g15 := toHid g15
        replace g16 := toHid g16
        go_wp2
        exact hK.out _ _ (by unfold inv9; exact ⟨x0, x1, x2, x3, x4, x5, x6, x7, x8, x9, x10, _, x12, _, x14, x16, na, nb, nc, r5, r6, r7, r8, e5, e6, e7, e8, pb, px, rfl, hb, g0.out, g1.out, g2.out, g3.out, g4.out, g5.out, g6.out, g7.out, g8.out, g9.out, g10.out, (fun _ => ⟨q10.out, rfl⟩), g12.out, (fun _ => rfl), g14.out, g15.out, g16.out⟩)
      | 14, ho, hf =>
        simp only [List.getElem?_toArray, List.getElem?_cons_zero, List.getElem?_cons_succ, Option.some.injEq] at ho
        subst ho
        rintro ac w' hI K hK
        replace hK := toHid hK
        replace hd := toHid hd
        unfold inv9 at hI
        obtain ⟨x0, x1, x2, x3, x4, x5, x6, x7, x8, x9, x10, x11, x12, x13, x14, x16, na, nb, nc, r5, r6, r7, r8, e5, e6, e7, e8, pb, px, rfl, hb, g0, g1, g2, g3, g4, g5, g6, g7, g8, g9, g10, g11, g12, g13, g14, g15, g16⟩ := hI
        replace g0 := toHid g0
        replace g1 := toHid g1
        replace g2 := toHid g2
        replace g3 := toHid g3
        replace g4 := toHid g4
        replace g5 := toHid g5
        replace g6 := toHid g6
        replace g7 := toHid g7
        replace g8 := toHid g8
        replace g9 := toHid g9
        replace g10 := toHid g10
        replace g11 := toHid g11
        replace g12 := toHid g12
        replace g13 := toHid g13
        replace g14 := toHid g14
        replace g15 := toHid g15
        replace g16 := toHid g16
        go_wp2
        exact hK.out _ _ (by unfold inv9; exact ⟨x0, x1, x2, x3, x4, x5, x6, x7, x8, x9, x10, x11, x12, x13, _, x16, na, nb, nc, r5, r6, r7, r8, e5, e6, e7, e8, pb, w'.heap.size, rfl, (hb.onA _), (fun q => ⟨(g0.out q).1, fun r => ((g0.out q).2 r).up ((Below.refl _ w').onA _)⟩), g1.out, g2.out, g3.out, g4.out, (fun q => ⟨(g5.out q).1, fun r => ((g5.out q).2 r).below ((Below.refl _ w').onA _)⟩), g6.out, g7.out, g8.out, g9.out, g10.out, g11.out, g12.out, g13.out, (fun _ => ⟨rfl, hb.size, fun _ => Box.new w' _ _⟩), g15.out, g16.out⟩)
      | 15, ho, hf =>
        simp only [List.getElem?_toArray, List.getElem?_cons_zero, List.getElem?_cons_succ, Option.some.injEq] at ho
        subst ho
        have q14 := hd ⟨14, .data⟩ (by simp) (by rfl)
        have q12 := hd ⟨12, .data⟩ (by simp) (by rfl)
        have q9 := hd ⟨9, .phase⟩ (by simp) (by rfl)
        rintro ac w' hI K hK
        replace hK := toHid hK
        replace hd := toHid hd
        unfold inv9 at hI
        obtain ⟨x0, x1, x2, x3, x4, x5, x6, x7, x8, x9, x10, x11, x12, x13, x14, x16, na, nb, nc, r5, r6, r7, r8, e5, e6, e7, e8, pb, px, rfl, hb, g0, g1, g2, g3, g4, g5, g6, g7, g8, g9, g10, g11, g12, g13, g14, g15, g16⟩ := hI
        obtain ⟨rfl, k14, B14⟩ := g14 q14
        have BX := B14 hf
        obtain ⟨q10, rfl⟩ := g12 q12
        obtain ⟨bx1, bx2, bx3⟩ := id BX
        obtain ⟨-, ON⟩ := BX.set6 (.bool false) (.int .i64 0) (.slice r5 0 e5) (.slice r6 0 e6) (.slice r7 0 e7) (.slice r8 0 e8)
        replace ON := toHid ON
        replace q10 := toHid q10
        replace q9 := toHid q9
        replace g0 := toHid g0
        replace g1 := toHid g1
        replace g2 := toHid g2
        replace g3 := toHid g3
        replace g4 := toHid g4
        replace g5 := toHid g5
        replace g6 := toHid g6
        replace g7 := toHid g7
        replace g8 := toHid g8
        replace g9 := toHid g9
        replace g10 := toHid g10
        replace g11 := toHid g11
        replace g12 := toHid g12
        replace g13 := toHid g13
        replace g14 := toHid g14
        replace g15 := toHid g15
        replace g16 := toHid g16
        go_wp2
        exact hK.out _ _ (by unfold inv9; exact ⟨x0, x1, x2, x3, x4, x5, x6, x7, x8, x9, x10, x11, _, x13, _, x16, na, nb, nc, r5, r6, r7, r8, e5, e6, e7, e8, pb, px, rfl, (hb.trans (ON.out.below.mono k14)), (fun q => ⟨(g0.out q).1, fun r => by cases r⟩), g1.out, g2.out, g3.out, g4.out, (fun q => ⟨(g5.out q).1, fun r => by cases r⟩), g6.out, g7.out, g8.out, g9.out, g10.out, g11.out, (fun _ => ⟨q10.out, rfl⟩), g13.out, (fun _ => ⟨rfl, k14, fun r => by cases r⟩), (fun _ => ⟨q9.out, q10.out⟩), g16.out⟩)
      | 16, ho, hf =>
        simp only [List.getElem?_toArray, List.getElem?_cons_zero, List.getElem?_cons_succ, Option.some.injEq] at ho
        subst ho
        have q13 := hd ⟨13, .data⟩ (by simp) (by rfl)
        rintro ac w' hI K hK
        replace hK := toHid hK
        replace hd := toHid hd
        unfold inv9 at hI
        obtain ⟨x0, x1, x2, x3, x4, x5, x6, x7, x8, x9, x10, x11, x12, x13, x14, x16, na, nb, nc, r5, r6, r7, r8, e5, e6, e7, e8, pb, px, rfl, hb, g0, g1, g2, g3, g4, g5, g6, g7, g8, g9, g10, g11, g12, g13, g14, g15, g16⟩ := hI
        obtain rfl := g13 q13
        replace g0 := toHid g0
        replace g1 := toHid g1
        replace g2 := toHid g2
        replace g3 := toHid g3
        replace g4 := toHid g4
        replace g5 := toHid g5
        replace g6 := toHid g6
        replace g7 := toHid g7
        replace g8 := toHid g8
        replace g9 := toHid g9
        replace g10 := toHid g10
        replace g11 := toHid g11
        replace g12 := toHid g12
        replace g13 := toHid g13
        replace g14 := toHid g14
        replace g15 := toHid g15
        replace g16 := toHid g16
        go_wp2
        exact hK.out _ _ (by unfold inv9; exact ⟨x0, x1, x2, x3, x4, x5, x6, x7, x8, x9, x10, x11, x12, _, x14, _, na, nb, nc, r5, r6, r7, r8, e5, e6, e7, e8, pb, px, rfl, hb, g0.out, g1.out, g2.out, g3.out, g4.out, g5.out, g6.out, g7.out, g8.out, g9.out, g10.out, g11.out, g12.out, (fun _ => rfl), g14.out, g15.out, (fun _ => rfl)⟩)
      | j + 17, ho, hf => simp at ho
    · rintro f ac w' hf hI
      obtain ⟨y, rfl, hb⟩ := inv9_end hI (by simpa using hf)
      clear hI
      replace hf := toHid hf
      go_wp2
      go_meet
      exact ⟨rfl, hb⟩
  case rest =>
  obtain ⟨rfl, hcc⟩ := hcut
  generalize hnx : wc = U4 at hcc ⊢
  clear hnx
  replace hB := toHid (hB.out.on hcc)
  clear hcc
  go_upto_region 10 with (fail)
  go_cut [15, 16] from 75 to 88 (fun v15 v16 wx => v16 = .int .i64 1700 ∧ Below U4.heap.size U4 wx)
  case first =>
    have HP := toHid (fun (W : World) (p q r s : Value) (lo hi : Nat) (N : NdAt lo hi W p q r s gnP [7] gnT []) (hh : hi ≤ W.heap.size) => wDrop17_at (up' := false) (i' := 0) (E := 1700) (ps' := []) (is' := []) (ts' := []) (ls' := []) true 100 N hh Z (bad_key hz.out).1 (bad_key hz.out).2)
    refine wp_region_inv (by kernel_rfl) (by kernel_rfl) (inv10 a0 a1 d g Z wg1 u7 u9 u11 u13 u26 u27 u28 u29 u30 u31 u32 u33 u34 u35 u36 u37 u38 u39 u40 u41 u42 u43 u44 u45 u46 u47 u48 u49 u50 u51 u52 u53 u54 u55 u56 u57 u58 u59 u60 u61 u62 u63 u64 u65 u66 u67 u68 u69 u70 u71 u72 u73 u74 U4) ?_ ?_ ?_
    · unfold inv10
      exact ⟨undef, undef, undef, undef, undef, undef, undef, undef, undef, undef, undef, undef, undef, undef, undef, undef, none, none, none, none, none, none, none, 0, 0, 0, 0, 0, 0, rfl, (Below.refl _ U4).onD 1, nofun, nofun, nofun, nofun, nofun, nofun, nofun, nofun, nofun, nofun, nofun, nofun, nofun, nofun, nofun, nofun, nofun⟩
    · intro f i o ho hf hd
      match i, ho, hf with
      | 0, ho, hf =>
        simp only [List.getElem?_toArray, List.getElem?_cons_zero, Option.some.injEq] at ho
        subst ho
        rintro ac w' hI K hK
        replace hK := toHid hK
        replace hd := toHid hd
        unfold inv10 at hI
        obtain ⟨x0, x1, x2, x3, x4, x5, x6, x7, x8, x9, x10, x11, x12, x13, x14, x16, na, nb, nc, r5, r6, r7, r8, e5, e6, e7, e8, pb, px, rfl, hb, g0, g1, g2, g3, g4, g5, g6, g7, g8, g9, g10, g11, g12, g13, g14, g15, g16⟩ := hI
        replace g0 := toHid g0
        replace g1 := toHid g1
        replace g2 := toHid g2
        replace g3 := toHid g3
        replace g4 := toHid g4
        replace g5 := toHid g5
        replace g6 := toHid g6
        replace g7 := toHid g7
        replace g8 := toHid g8
        replace g9 := toHid g9
        replace g10 := toHid g10
        replace g11 := toHid g11
        replace g12 := toHid g12
        replace g13 := toHid g13
        replace g14 := toHid g14
        replace g15 := toHid g15
        replace g16 := toHid g16
        go_wp2_with (go_at_call 17; refine (gNode_any _).mono ?_; rintro e w9 ⟨ma, mb, mc, rfl, NN, h9⟩)
        exact hK.out _ _ (by unfold inv10; exact ⟨_, x1, x2, x3, x4, x5, x6, x7, x8, x9, x10, x11, x12, x13, x14, x16, ma, mb, mc, r5, r6, r7, r8, e5, e6, e7, e8, pb, px, rfl, (hb.on h9), (fun _ => ⟨rfl, fun _ => NN.wide (Nat.zero_le _) (Nat.le_refl _)⟩), g1.out, g2.out, g3.out, g4.out, (fun q => ⟨(g5.out q).1, fun r => ((g5.out q).2 r).below h9⟩), g6.out, g7.out, g8.out, g9.out, g10.out, g11.out, g12.out, g13.out, (fun q => ⟨(g14.out q).1, (g14.out q).2.1, fun r => ((g14.out q).2.2 r).below h9⟩), g15.out, g16.out⟩)
      | 1, ho, hf =>
        simp only [List.getElem?_toArray, List.getElem?_cons_zero, List.getElem?_cons_succ, Option.some.injEq] at ho
        subst ho
        rintro ac w' hI K hK
        replace hK := toHid hK
        replace hd := toHid hd
        unfold inv10 at hI
        obtain ⟨x0, x1, x2, x3, x4, x5, x6, x7, x8, x9, x10, x11, x12, x13, x14, x16, na, nb, nc, r5, r6, r7, r8, e5, e6, e7, e8, pb, px, rfl, hb, g0, g1, g2, g3, g4, g5, g6, g7, g8, g9, g10, g11, g12, g13, g14, g15, g16⟩ := hI
        replace g0 := toHid g0
        replace g1 := toHid g1
        replace g2 := toHid g2
        replace g3 := toHid g3
        replace g4 := toHid g4
        replace g5 := toHid g5
        replace g6 := toHid g6
        replace g7 := toHid g7
        replace g8 := toHid g8
        replace g9 := toHid g9
        replace g10 := toHid g10
        replace g11 := toHid g11
        replace g12 := toHid g12
        replace g13 := toHid g13
        replace g14 := toHid g14
        replace g15 := toHid g15
        replace g16 := toHid g16
        go_wp2
        exact hK.out _ _ (by unfold inv10; exact ⟨x0, _, x2, x3, x4, x5, x6, x7, x8, x9, x10, x11, x12, x13, x14, x16, na, nb, nc, r5, r6, r7, r8, e5, e6, e7, e8, pb, px, rfl, hb, g0.out, (fun _ => rfl), g2.out, g3.out, g4.out, g5.out, g6.out, g7.out, g8.out, g9.out, g10.out, g11.out, g12.out, g13.out, g14.out, g15.out, g16.out⟩)
      | 2, ho, hf =>
        simp only [List.getElem?_toArray, List.getElem?_cons_zero, List.getElem?_cons_succ, Option.some.injEq] at ho
        subst ho
        have q1 := hd ⟨1, .data⟩ (by simp) (by rfl)
        rintro ac w' hI K hK
        replace hK := toHid hK
        replace hd := toHid hd
        unfold inv10 at hI
        obtain ⟨x0, x1, x2, x3, x4, x5, x6, x7, x8, x9, x10, x11, x12, x13, x14, x16, na, nb, nc, r5, r6, r7, r8, e5, e6, e7, e8, pb, px, rfl, hb, g0, g1, g2, g3, g4, g5, g6, g7, g8, g9, g10, g11, g12, g13, g14, g15, g16⟩ := hI
        obtain rfl := g1 q1
        replace g0 := toHid g0
        replace g1 := toHid g1
        replace g2 := toHid g2
        replace g3 := toHid g3
        replace g4 := toHid g4
        replace g5 := toHid g5
        replace g6 := toHid g6
        replace g7 := toHid g7
        replace g8 := toHid g8
        replace g9 := toHid g9
        replace g10 := toHid g10
        replace g11 := toHid g11
        replace g12 := toHid g12
        replace g13 := toHid g13
        replace g14 := toHid g14
        replace g15 := toHid g15
        replace g16 := toHid g16
        go_wp2
        exact hK.out _ _ (by unfold inv10; exact ⟨x0, _, _, x3, x4, x5, x6, x7, x8, x9, x10, x11, x12, x13, x14, x16, na, nb, nc, r5, r6, r7, r8, e5, e6, e7, e8, pb, px, rfl, hb, g0.out, (fun _ => rfl), (fun _ => rfl), g3.out, g4.out, g5.out, g6.out, g7.out, g8.out, g9.out, g10.out, g11.out, g12.out, g13.out, g14.out, g15.out, g16.out⟩)
      | 3, ho, hf =>
        simp only [List.getElem?_toArray, List.getElem?_cons_zero, List.getElem?_cons_succ, Option.some.injEq] at ho
        subst ho
        rintro ac w' hI K hK
        replace hK := toHid hK
        replace hd := toHid hd
        unfold inv10 at hI
        obtain ⟨x0, x1, x2, x3, x4, x5, x6, x7, x8, x9, x10, x11, x12, x13, x14, x16, na, nb, nc, r5, r6, r7, r8, e5, e6, e7, e8, pb, px, rfl, hb, g0, g1, g2, g3, g4, g5, g6, g7, g8, g9, g10, g11, g12, g13, g14, g15, g16⟩ := hI
        replace g0 := toHid g0
        replace g1 := toHid g1
        replace g2 := toHid g2
        replace g3 := toHid g3
        replace g4 := toHid g4
        replace g5 := toHid g5
        replace g6 := toHid g6
        replace g7 := toHid g7
        replace g8 := toHid g8
        replace g9 := toHid g9
        replace g10 := toHid g10
        replace g11 := toHid g11
        replace g12 := toHid g12
        replace g13 := toHid g13
        replace g14 := toHid g14
        replace g15 := toHid g15
        replace g16 := toHid g16
        go_wp2
        exact hK.out _ _ (by unfold inv10; exact ⟨x0, x1, x2, _, x4, x5, x6, x7, x8, x9, x10, x11, x12, x13, x14, x16, na, nb, nc, r5, r6, r7, r8, e5, e6, e7, e8, pb, px, rfl, hb, g0.out, g1.out, g2.out, (fun _ => rfl), g4.out, g5.out, g6.out, g7.out, g8.out, g9.out, g10.out, g11.out, g12.out, g13.out, g14.out, g15.out, g16.out⟩)
      | 4, ho, hf =>
        simp only [List.getElem?_toArray, List.getElem?_cons_zero, List.getElem?_cons_succ, Option.some.injEq] at ho
        subst ho
        have q3 := hd ⟨3, .data⟩ (by simp) (by rfl)
        rintro ac w' hI K hK
        replace hK := toHid hK
        replace hd := toHid hd
        unfold inv10 at hI
        obtain ⟨x0, x1, x2, x3, x4, x5, x6, x7, x8, x9, x10, x11, x12, x13, x14, x16, na, nb, nc, r5, r6, r7, r8, e5, e6, e7, e8, pb, px, rfl, hb, g0, g1, g2, g3, g4, g5, g6, g7, g8, g9, g10, g11, g12, g13, g14, g15, g16⟩ := hI
        obtain rfl := g3 q3
        replace g0 := toHid g0
        replace g1 := toHid g1
        replace g2 := toHid g2
        replace g3 := toHid g3
        replace g4 := toHid g4
        replace g5 := toHid g5
        replace g6 := toHid g6
        replace g7 := toHid g7
        replace g8 := toHid g8
        replace g9 := toHid g9
        replace g10 := toHid g10
        replace g11 := toHid g11
        replace g12 := toHid g12
        replace g13 := toHid g13
        replace g14 := toHid g14
        replace g15 := toHid g15
        replace g16 := toHid g16
        go_wp2
        exact hK.out _ _ (by unfold inv10; exact ⟨x0, x1, x2, _, _, x5, x6, x7, x8, x9, x10, x11, x12, x13, x14, x16, na, nb, nc, r5, r6, r7, r8, e5, e6, e7, e8, pb, px, rfl, hb, g0.out, g1.out, g2.out, (fun _ => rfl), (fun _ => rfl), g5.out, g6.out, g7.out, g8.out, g9.out, g10.out, g11.out, g12.out, g13.out, g14.out, g15.out, g16.out⟩)
      | 5, ho, hf =>
        simp only [List.getElem?_toArray, List.getElem?_cons_zero, List.getElem?_cons_succ, Option.some.injEq] at ho
        subst ho
        have q2 := hd ⟨2, .data⟩ (by simp) (by rfl)
        have q4 := hd ⟨4, .data⟩ (by simp) (by rfl)
        rintro ac w' hI K hK
        replace hK := toHid hK
        replace hd := toHid hd
        unfold inv10 at hI
        obtain ⟨x0, x1, x2, x3, x4, x5, x6, x7, x8, x9, x10, x11, x12, x13, x14, x16, na, nb, nc, r5, r6, r7, r8, e5, e6, e7, e8, pb, px, rfl, hb, g0, g1, g2, g3, g4, g5, g6, g7, g8, g9, g10, g11, g12, g13, g14, g15, g16⟩ := hI
        obtain rfl := g2 q2
        obtain rfl := g4 q4
        replace g0 := toHid g0
        replace g1 := toHid g1
        replace g2 := toHid g2
        replace g3 := toHid g3
        replace g4 := toHid g4
        replace g5 := toHid g5
        replace g6 := toHid g6
        replace g7 := toHid g7
        replace g8 := toHid g8
        replace g9 := toHid g9
        replace g10 := toHid g10
        replace g11 := toHid g11
        replace g12 := toHid g12
        replace g13 := toHid g13
        replace g14 := toHid g14
        replace g15 := toHid g15
        replace g16 := toHid g16
        go_wp2
        exact hK.out _ _ (by unfold inv10; exact ⟨x0, x1, _, x3, _, _, x6, x7, x8, x9, x10, x11, x12, x13, x14, x16, na, nb, nc, r5, r6, r7, r8, e5, e6, e7, e8, w'.heap.size, px, rfl, (hb.onA _), (fun q => ⟨(g0.out q).1, fun r => ((g0.out q).2 r).up ((Below.refl _ w').onA _)⟩), g1.out, (fun _ => rfl), g3.out, (fun _ => rfl), (fun _ => ⟨rfl, fun _ => Box.new w' _ _⟩), g6.out, g7.out, (fun q => absurd (g8.out q).1 (by simp [hf])), g9.out, g10.out, g11.out, g12.out, g13.out, (fun q => ⟨(g14.out q).1, (g14.out q).2.1, fun r => ((g14.out q).2.2 r).below ((Below.refl _ w').onA _)⟩), g15.out, g16.out⟩)
      | 6, ho, hf =>
        simp only [List.getElem?_toArray, List.getElem?_cons_zero, List.getElem?_cons_succ, Option.some.injEq] at ho
        subst ho
        rintro ac w' hI K hK
        replace hK := toHid hK
        replace hd := toHid hd
        unfold inv10 at hI
        obtain ⟨x0, x1, x2, x3, x4, x5, x6, x7, x8, x9, x10, x11, x12, x13, x14, x16, na, nb, nc, r5, r6, r7, r8, e5, e6, e7, e8, pb, px, rfl, hb, g0, g1, g2, g3, g4, g5, g6, g7, g8, g9, g10, g11, g12, g13, g14, g15, g16⟩ := hI
        replace g0 := toHid g0
        replace g1 := toHid g1
        replace g2 := toHid g2
        replace g3 := toHid g3
        replace g4 := toHid g4
        replace g5 := toHid g5
        replace g6 := toHid g6
        replace g7 := toHid g7
        replace g8 := toHid g8
        replace g9 := toHid g9
        replace g10 := toHid g10
        replace g11 := toHid g11
        replace g12 := toHid g12
        replace g13 := toHid g13
        replace g14 := toHid g14
        replace g15 := toHid g15
        replace g16 := toHid g16
        go_wp2
        exact hK.out _ _ (by unfold inv10; exact ⟨x0, x1, x2, x3, x4, x5, _, x7, x8, x9, x10, x11, x12, x13, x14, x16, na, nb, nc, r5, r6, r7, r8, e5, e6, e7, e8, pb, px, rfl, hb, g0.out, g1.out, g2.out, g3.out, g4.out, g5.out, (fun _ => rfl), g7.out, g8.out, g9.out, g10.out, g11.out, g12.out, g13.out, g14.out, g15.out, g16.out⟩)
      | 7, ho, hf =>
        simp only [List.getElem?_toArray, List.getElem?_cons_zero, List.getElem?_cons_succ, Option.some.injEq] at ho
        subst ho
        have q6 := hd ⟨6, .data⟩ (by simp) (by rfl)
        rintro ac w' hI K hK
        replace hK := toHid hK
        replace hd := toHid hd
        unfold inv10 at hI
        obtain ⟨x0, x1, x2, x3, x4, x5, x6, x7, x8, x9, x10, x11, x12, x13, x14, x16, na, nb, nc, r5, r6, r7, r8, e5, e6, e7, e8, pb, px, rfl, hb, g0, g1, g2, g3, g4, g5, g6, g7, g8, g9, g10, g11, g12, g13, g14, g15, g16⟩ := hI
        obtain rfl := g6 q6
        replace g0 := toHid g0
        replace g1 := toHid g1
        replace g2 := toHid g2
        replace g3 := toHid g3
        replace g4 := toHid g4
        replace g5 := toHid g5
        replace g6 := toHid g6
        replace g7 := toHid g7
        replace g8 := toHid g8
        replace g9 := toHid g9
        replace g10 := toHid g10
        replace g11 := toHid g11
        replace g12 := toHid g12
        replace g13 := toHid g13
        replace g14 := toHid g14
        replace g15 := toHid g15
        replace g16 := toHid g16
        go_wp2
        exact hK.out _ _ (by unfold inv10; exact ⟨x0, x1, x2, x3, x4, x5, _, _, x8, x9, x10, x11, x12, x13, x14, x16, na, nb, nc, r5, r6, r7, r8, e5, e6, e7, e8, pb, px, rfl, hb, g0.out, g1.out, g2.out, g3.out, g4.out, g5.out, (fun _ => rfl), (fun _ => rfl), g8.out, g9.out, g10.out, g11.out, g12.out, g13.out, g14.out, g15.out, g16.out⟩)
      | 8, ho, hf =>
        simp only [List.getElem?_toArray, List.getElem?_cons_zero, List.getElem?_cons_succ, Option.some.injEq] at ho
        subst ho
        have q5 := hd ⟨5, .data⟩ (by simp) (by rfl)
        have q7 := hd ⟨7, .data⟩ (by simp) (by rfl)
        rintro ac w' hI K hK
        replace hK := toHid hK
        replace hd := toHid hd
        unfold inv10 at hI
        obtain ⟨x0, x1, x2, x3, x4, x5, x6, x7, x8, x9, x10, x11, x12, x13, x14, x16, na, nb, nc, r5, r6, r7, r8, e5, e6, e7, e8, pb, px, rfl, hb, g0, g1, g2, g3, g4, g5, g6, g7, g8, g9, g10, g11, g12, g13, g14, g15, g16⟩ := hI
        obtain ⟨rfl, B5⟩ := g5 q5
        obtain rfl := g7 q7
        replace g0 := toHid g0
        replace g1 := toHid g1
        replace g2 := toHid g2
        replace g3 := toHid g3
        replace g4 := toHid g4
        replace g5 := toHid g5
        replace g6 := toHid g6
        replace g7 := toHid g7
        replace g8 := toHid g8
        replace g9 := toHid g9
        replace g10 := toHid g10
        replace g11 := toHid g11
        replace g12 := toHid g12
        replace g13 := toHid g13
        replace g14 := toHid g14
        replace g15 := toHid g15
        replace g16 := toHid g16
        go_wp2
        exact hK.out _ _ (by unfold inv10; exact ⟨x0, x1, x2, x3, x4, _, x6, _, _, x9, x10, x11, x12, x13, x14, x16, na, nb, nc, r5, r6, r7, r8, e5, e6, e7, e8, pb, px, rfl, hb, g0.out, g1.out, g2.out, g3.out, g4.out, (fun _ => ⟨rfl, B5⟩), g6.out, (fun _ => rfl), (fun _ => ⟨q5, rfl⟩), g9.out, g10.out, g11.out, g12.out, g13.out, g14.out, g15.out, g16.out⟩)
      | 9, ho, hf =>
        simp only [List.getElem?_toArray, List.getElem?_cons_zero, List.getElem?_cons_succ, Option.some.injEq] at ho
        subst ho
        have q8 := hd ⟨8, .data⟩ (by simp) (by rfl)
        rintro ac w' hI K hK
        replace hK := toHid hK
        replace hd := toHid hd
        unfold inv10 at hI
        obtain ⟨x0, x1, x2, x3, x4, x5, x6, x7, x8, x9, x10, x11, x12, x13, x14, x16, na, nb, nc, r5, r6, r7, r8, e5, e6, e7, e8, pb, px, rfl, hb, g0, g1, g2, g3, g4, g5, g6, g7, g8, g9, g10, g11, g12, g13, g14, g15, g16⟩ := hI
        have z15 : f 15 = false := by
          cases hx : f 15 with
          | false => rfl
          | true => exact absurd (g15 hx).1 (by simp [hf])
        obtain ⟨q5, rfl⟩ := g8 q8
        have BB := (g5 q5).2 z15
        have hc : w'.cell? ⟨pb, g, none⟩ = some (.int .i64 Z) := by
          rw [BB.2.1 g]
          rcases hg2 with rfl | rfl
          · rw [hZ0.out rfl]; rfl
          · rw [hZ1.out rfl]; rfl
        replace q5 := toHid q5
        replace g0 := toHid g0
        replace g1 := toHid g1
        replace g2 := toHid g2
        replace g3 := toHid g3
        replace g4 := toHid g4
        replace g5 := toHid g5
        replace g6 := toHid g6
        replace g7 := toHid g7
        replace g8 := toHid g8
        replace g9 := toHid g9
        replace g10 := toHid g10
        replace g11 := toHid g11
        replace g12 := toHid g12
        replace g13 := toHid g13
        replace g14 := toHid g14
        replace g15 := toHid g15
        replace g16 := toHid g16
        go_wp2
        exact hK.out _ _ (by unfold inv10; exact ⟨x0, x1, x2, x3, x4, x5, x6, x7, _, _, x10, x11, x12, x13, x14, x16, na, nb, nc, r5, r6, r7, r8, e5, e6, e7, e8, pb, px, rfl, hb, g0.out, g1.out, g2.out, g3.out, g4.out, g5.out, g6.out, g7.out, (fun _ => ⟨q5.out, rfl⟩), (fun _ => rfl), g10.out, g11.out, g12.out, g13.out, g14.out, (fun q => absurd (g15.out q).1 (by simp [hf])), g16.out⟩)
      | 10, ho, hf =>
        simp only [List.getElem?_toArray, List.getElem?_cons_zero, List.getElem?_cons_succ, Option.some.injEq] at ho
        subst ho
        have q0 := hd ⟨0, .data⟩ (by simp) (by rfl)
        have q9 := hd ⟨9, .data⟩ (by simp) (by rfl)
        rintro ac w' hI K hK
        replace hK := toHid hK
        replace hd := toHid hd
        unfold inv10 at hI
        obtain ⟨x0, x1, x2, x3, x4, x5, x6, x7, x8, x9, x10, x11, x12, x13, x14, x16, na, nb, nc, r5, r6, r7, r8, e5, e6, e7, e8, pb, px, rfl, hb, g0, g1, g2, g3, g4, g5, g6, g7, g8, g9, g10, g11, g12, g13, g14, g15, g16⟩ := hI
        have z15 : f 15 = false := by
          cases hx : f 15 with
          | false => rfl
          | true => exact absurd (g15 hx).2 (by simp [hf])
        obtain ⟨rfl, N0⟩ := g0 q0
        obtain rfl := g9 q9
        have NN := N0 z15
        replace g0 := toHid g0
        replace g1 := toHid g1
        replace g2 := toHid g2
        replace g3 := toHid g3
        replace g4 := toHid g4
        replace g5 := toHid g5
        replace g6 := toHid g6
        replace g7 := toHid g7
        replace g8 := toHid g8
        replace g9 := toHid g9
        replace g10 := toHid g10
        replace g11 := toHid g11
        replace g12 := toHid g12
        replace g13 := toHid g13
        replace g14 := toHid g14
        replace g15 := toHid g15
        replace g16 := toHid g16
        go_wp2_with (go_at_call 11; refine (HP.out _ _ _ _ _ _ _ NN (Nat.le_refl _)).mono ?_; rintro e w9 ⟨a5, c5, a6, c6, a7, c7, a8, c8, rfl, -, h9⟩)
        exact hK.out _ _ (by unfold inv10; exact ⟨_, x1, x2, x3, x4, x5, x6, x7, x8, _, _, x11, x12, x13, x14, x16, na, nb, nc, a5, a6, a7, a8, c5, c6, c7, c8, pb, px, rfl, (hb.on h9), (fun _ => ⟨rfl, fun _ => NN.up h9⟩), g1.out, g2.out, g3.out, g4.out, (fun q => ⟨(g5.out q).1, fun r => ((g5.out q).2 r).below h9⟩), g6.out, g7.out, g8.out, (fun _ => rfl), (fun _ => rfl), (fun q => absurd (g11.out q).1 (by simp [hf])), (fun q => absurd (g12.out q).1 (by simp [hf])), g13.out, (fun q => ⟨(g14.out q).1, (g14.out q).2.1, fun r => ((g14.out q).2.2 r).below h9⟩), (fun q => absurd (g15.out q).2 (by simp [hf])), g16.out⟩)
      | 11, ho, hf =>
        simp only [List.getElem?_toArray, List.getElem?_cons_zero, List.getElem?_cons_succ, Option.some.injEq] at ho
        subst ho
        have q10 := hd ⟨10, .data⟩ (by simp) (by rfl)
        rintro ac w' hI K hK
        replace hK := toHid hK
        replace hd := toHid hd
        unfold inv10 at hI
        obtain ⟨x0, x1, x2, x3, x4, x5, x6, x7, x8, x9, x10, x11, x12, x13, x14, x16, na, nb, nc, r5, r6, r7, r8, e5, e6, e7, e8, pb, px, rfl, hb, g0, g1, g2, g3, g4, g5, g6, g7, g8, g9, g10, g11, g12, g13, g14, g15, g16⟩ := hI
        obtain rfl := g10 q10
        replace g0 := toHid g0
        replace g1 := toHid g1
        replace g2 := toHid g2
        replace g3 := toHid g3
        replace g4 := toHid g4
        replace g5 := toHid g5
        replace g6 := toHid g6
        replace g7 := toHid g7
        replace g8 := toHid g8
        replace g9 := toHid g9
        replace g10 := toHid g10
        replace g11 := toHid g11
        replace g12 := toHid g12
        replace g13 := toHid g13
        replace g14 := toHid g14
        replace g15 := toHid g15
        replace g16 := toHid g16
        go_wp2
        exact hK.out _ _ (by unfold inv10; exact ⟨x0, x1, x2, x3, x4, x5, x6, x7, x8, x9, _, _, x12, x13, x14, x16, na, nb, nc, r5, r6, r7, r8, e5, e6, e7, e8, pb, px, rfl, hb, g0.out, g1.out, g2.out, g3.out, g4.out, g5.out, g6.out, g7.out, g8.out, g9.out, (fun _ => rfl), (fun _ => ⟨q10, rfl⟩), g12.out, g13.out, g14.out, g15.out, g16.out⟩)
      | 12, ho, hf =>
        simp only [List.getElem?_toArray, List.getElem?_cons_zero, List.getElem?_cons_succ, Option.some.injEq] at ho
        subst ho
        have q11 := hd ⟨11, .data⟩ (by simp) (by rfl)
        rintro ac w' hI K hK
        replace hK := toHid hK
        replace hd := toHid hd
        unfold inv10 at hI
        obtain ⟨x0, x1, x2, x3, x4, x5, x6, x7, x8, x9, x10, x11, x12, x13, x14, x16, na, nb, nc, r5, r6, r7, r8, e5, e6, e7, e8, pb, px, rfl, hb, g0, g1, g2, g3, g4, g5, g6, g7, g8, g9, g10, g11, g12, g13, g14, g15, g16⟩ := hI
        obtain ⟨q10, rfl⟩ := g11 q11
        replace q10 := toHid q10
        replace g0 := toHid g0
        replace g1 := toHid g1
        replace g2 := toHid g2
        replace g3 := toHid g3
        replace g4 := toHid g4
        replace g5 := toHid g5
        replace g6 := toHid g6
        replace g7 := toHid g7
        replace g8 := toHid g8
        replace g9 := toHid g9
        replace g10 := toHid g10
        replace g11 := toHid g11
        replace g12 := toHid g12
        replace g13 := toHid g13
        replace g14 := toHid g14
        replace g15 := toHid g15
        replace g16 := toHid g16
        go_wp2
        exact hK.out _ _ (by unfold inv10; exact ⟨x0, x1, x2, x3, x4, x5, x6, x7, x8, x9, x10, _, _, x13, x14, x16, na, nb, nc, r5, r6, r7, r8, e5, e6, e7, e8, pb, px, rfl, hb, g0.out, g1.out, g2.out, g3.out, g4.out, g5.out, g6.out, g7.out, g8.out, g9.out, g10.out, (fun _ => ⟨q10.out, rfl⟩), (fun _ => ⟨q10.out, rfl⟩), g13.out, g14.out, g15.out, g16.out⟩)
      | 13, ho, hf =>
        simp only [List.getElem?_toArray, List.getElem?_cons_zero, List.getElem?_cons_succ, Option.some.injEq] at ho
        subst ho
        have q11 := hd ⟨11, .data⟩ (by simp) (by rfl)
        rintro ac w' hI K hK
        replace hK := toHid hK
        replace hd := toHid hd
        unfold inv10 at hI
        obtain ⟨x0, x1, x2, x3, x4, x5, x6, x7, x8, x9, x10, x11, x12, x13, x14, x16, na, nb, nc, r5, r6, r7, r8, e5, e6, e7, e8, pb, px, rfl, hb, g0, g1, g2, g3, g4, g5, g6, g7, g8, g9, g10, g11, g12, g13, g14, g15, g16⟩ := hI
        obtain ⟨q10, rfl⟩ := g11 q11
        replace q10 := toHid q10
        replace g0 := toHid g0
        replace g1 := toHid g1
        replace g2 := toHid g2
        replace g3 := toHid g3
        replace g4 := toHid g4
        replace g5 := toHid g5
        replace g6 := toHid g6
        replace g7 := toHid g7
        replace g8 := toHid g8
        replace g9 := toHid g9
        replace g10 := toHid g10
        replace g11 := toHid g11
        replace g12 := toHid g12
        replace g13 := toHid g13
        replace g14 := toHid g14
        replace g15 := toHid g15
        replace g16 := toHid g16
        go_wp2
        exact hK.out _ _ (by unfold inv10; exact ⟨x0, x1, x2, x3, x4, x5, x6, x7, x8, x9, x10, _, x12, _, x14, x16, na, nb, nc, r5, r6, r7, r8, e5, e6, e7, e8, pb, px, rfl, hb, g0.out, g1.out, g2.out, g3.out, g4.out, g5.out, g6.out, g7.out, g8.out, g9.out, g10.out, (fun _ => ⟨q10.out, rfl⟩), g12.out, (fun _ => rfl), g14.out, g15.out, g16.out⟩)
      | 14, ho, hf =>
        simp only [List.getElem?_toArray, List.getElem?_cons_zero, List.getElem?_cons_succ, Option.some.injEq] at ho
        subst ho
        rintro ac w' hI K hK
        replace hK := toHid hK
        replace hd := toHid hd
        unfold inv10 at hI
        obtain ⟨x0, x1, x2, x3, x4, x5, x6, x7, x8, x9, x10, x11, x12, x13, x14, x16, na, nb, nc, r5, r6, r7, r8, e5, e6, e7, e8, pb, px, rfl, hb, g0, g1, g2, g3, g4, g5, g6, g7, g8, g9, g10, g11, g12, g13, g14, g15, g16⟩ := hI
        replace g0 := toHid g0
        replace g1 := toHid g1
        replace g2 := toHid g2
        replace g3 := toHid g3
        replace g4 := toHid g4
        replace g5 := toHid g5
        replace g6 := toHid g6
        replace g7 := toHid g7
        replace g8 := toHid g8
        replace g9 := toHid g9
        replace g10 := toHid g10
        replace g11 := toHid g11
        replace g12 := toHid g12
        replace g13 := toHid g13
        replace g14 := toHid g14
        replace g15 := toHid g15
        replace g16 := toHid g16
        go_wp2
        exact hK.out _ _ (by unfold inv10; exact ⟨x0, x1, x2, x3, x4, x5, x6, x7, x8, x9, x10, x11, x12, x13, _, x16, na, nb, nc, r5, r6, r7, r8, e5, e6, e7, e8, pb, w'.heap.size, rfl, (hb.onA _), (fun q => ⟨(g0.out q).1, fun r => ((g0.out q).2 r).up ((Below.refl _ w').onA _)⟩), g1.out, g2.out, g3.out, g4.out, (fun q => ⟨(g5.out q).1, fun r => ((g5.out q).2 r).below ((Below.refl _ w').onA _)⟩), g6.out, g7.out, g8.out, g9.out, g10.out, g11.out, g12.out, g13.out, (fun _ => ⟨rfl, hb.size, fun _ => Box.new w' _ _⟩), g15.out, g16.out⟩)
      | 15, ho, hf =>
        simp only [List.getElem?_toArray, List.getElem?_cons_zero, List.getElem?_cons_succ, Option.some.injEq] at ho
        subst ho
        have q14 := hd ⟨14, .data⟩ (by simp) (by rfl)
        have q12 := hd ⟨12, .data⟩ (by simp) (by rfl)
        have q9 := hd ⟨9, .phase⟩ (by simp) (by rfl)
        rintro ac w' hI K hK
        replace hK := toHid hK
        replace hd := toHid hd
        unfold inv10 at hI
        obtain ⟨x0, x1, x2, x3, x4, x5, x6, x7, x8, x9, x10, x11, x12, x13, x14, x16, na, nb, nc, r5, r6, r7, r8, e5, e6, e7, e8, pb, px, rfl, hb, g0, g1, g2, g3, g4, g5, g6, g7, g8, g9, g10, g11, g12, g13, g14, g15, g16⟩ := hI
        obtain ⟨rfl, k14, B14⟩ := g14 q14
        have BX := B14 hf
        obtain ⟨q10, rfl⟩ := g12 q12
        obtain ⟨bx1, bx2, bx3⟩ := id BX
        obtain ⟨-, ON⟩ := BX.set6 (.bool false) (.int .i64 0) (.slice r5 0 e5) (.slice r6 0 e6) (.slice r7 0 e7) (.slice r8 0 e8)
        replace ON := toHid ON
        replace q10 := toHid q10
        replace q9 := toHid q9
        replace g0 := toHid g0
        replace g1 := toHid g1
        replace g2 := toHid g2
        replace g3 := toHid g3
        replace g4 := toHid g4
        replace g5 := toHid g5
        replace g6 := toHid g6
        replace g7 := toHid g7
        replace g8 := toHid g8
        replace g9 := toHid g9
        replace g10 := toHid g10
        replace g11 := toHid g11
        replace g12 := toHid g12
        replace g13 := toHid g13
        replace g14 := toHid g14
        replace g15 := toHid g15
        replace g16 := toHid g16
        go_wp2
        exact hK.out _ _ (by unfold inv10; exact ⟨x0, x1, x2, x3, x4, x5, x6, x7, x8, x9, x10, x11, _, x13, _, x16, na, nb, nc, r5, r6, r7, r8, e5, e6, e7, e8, pb, px, rfl, (hb.trans (ON.out.below.mono k14)), (fun q => ⟨(g0.out q).1, fun r => by cases r⟩), g1.out, g2.out, g3.out, g4.out, (fun q => ⟨(g5.out q).1, fun r => by cases r⟩), g6.out, g7.out, g8.out, g9.out, g10.out, g11.out, (fun _ => ⟨q10.out, rfl⟩), g13.out, (fun _ => ⟨rfl, k14, fun r => by cases r⟩), (fun _ => ⟨q9.out, q10.out⟩), g16.out⟩)
      | 16, ho, hf =>
        simp only [List.getElem?_toArray, List.getElem?_cons_zero, List.getElem?_cons_succ, Option.some.injEq] at ho
        subst ho
        have q13 := hd ⟨13, .data⟩ (by simp) (by rfl)
        rintro ac w' hI K hK
        replace hK := toHid hK
        replace hd := toHid hd
        unfold inv10 at hI
        obtain ⟨x0, x1, x2, x3, x4, x5, x6, x7, x8, x9, x10, x11, x12, x13, x14, x16, na, nb, nc, r5, r6, r7, r8, e5, e6, e7, e8, pb, px, rfl, hb, g0, g1, g2, g3, g4, g5, g6, g7, g8, g9, g10, g11, g12, g13, g14, g15, g16⟩ := hI
        obtain rfl := g13 q13
        replace g0 := toHid g0
        replace g1 := toHid g1
        replace g2 := toHid g2
        replace g3 := toHid g3
        replace g4 := toHid g4
        replace g5 := toHid g5
        replace g6 := toHid g6
        replace g7 := toHid g7
        replace g8 := toHid g8
        replace g9 := toHid g9
        replace g10 := toHid g10
        replace g11 := toHid g11
        replace g12 := toHid g12
        replace g13 := toHid g13
        replace g14 := toHid g14
        replace g15 := toHid g15
        replace g16 := toHid g16
        go_wp2
        exact hK.out _ _ (by unfold inv10; exact ⟨x0, x1, x2, x3, x4, x5, x6, x7, x8, x9, x10, x11, x12, _, x14, _, na, nb, nc, r5, r6, r7, r8, e5, e6, e7, e8, pb, px, rfl, hb, g0.out, g1.out, g2.out, g3.out, g4.out, g5.out, g6.out, g7.out, g8.out, g9.out, g10.out, g11.out, g12.out, (fun _ => rfl), g14.out, g15.out, (fun _ => rfl)⟩)
      | j + 17, ho, hf => simp at ho
    · rintro f ac w' hf hI
      obtain ⟨y, rfl, hb⟩ := inv10_end hI (by simpa using hf)
      clear hI
      replace hf := toHid hf
      go_wp2
      go_meet
      exact ⟨rfl, hb⟩
  case rest =>
  obtain ⟨rfl, hcc⟩ := hcut
  generalize hnx : wc = U5 at hcc ⊢
  clear hnx
  replace hB := toHid (hB.out.on hcc)
  clear hcc
  clear hg2 hZ0 hZ1 hz gi0 gi2 d0 d1 rx1
  go_upto_region 12 with (go_at_call 17; refine (gNode_any _).mono ?_; rintro e wg2 ⟨ya2, yb2, yc2, rfl, N2, hg2⟩)
  have X2 := toHid (Box.new wg2 #[.bool true, .int .i64 100, .slice ya2 3 3, .slice yb2 1 1, .slice yc2 3 3, .slice none 0 0] 29)
  have V2 := toHid ((N2.vw.alloc (.cells #[.bool true, .int .i64 100, .slice ya2 3 3, .slice yb2 1 1, .slice yc2 3 3, .slice none 0 0] 29)).wide (Nat.zero_le _) (hi' := wg2.heap.size) (Nat.le_refl _))
  have z2 : Hid (w.heap.size ≤ wg2.heap.size) := toHid (hB.out.on hg2).size
  replace hB := toHid ((hB.out.on hg2).onA (.cells #[.bool true, .int .i64 100, .slice ya2 3 3, .slice yb2 1 1, .slice yc2 3 3, .slice none 0 0] 29))
  clear hg2 N2
  generalize wg2.alloc (.cells #[.bool true, .int .i64 100, .slice ya2 3 3, .slice yb2 1 1, .slice yc2 3 3, .slice none 0 0] 29) = W2 at X2 V2 hB ⊢
  have t1 := trivial
  obtain ⟨m1, m2, m3⟩ := X2.out
  go_upto_region 13 with (first
    | (go_at_call 18; refine (gIt_any _ _ _).mono ?_; rintro e wi ⟨rfl, hi⟩
       clear m1 m2 m3
       obtain ⟨m1, m2, m3⟩ := X2.out.below ((Below.refl _ W2).on hi)))
  clear m1 m2 m3
  have st := ((Below.refl _ W2).on hi)
  have zx := X2.out.1
  have zi := ((Below.refl _ W2).on hi).size
  have ON := (Only.refl wg2.heap.size (wg2.heap.size + 1) wi).setCell (b := wg2.heap.size) (o := 4) (Nat.le_refl _) (Nat.lt_succ_self _) (.slice (some ⟨wi.heap.size, 0, none⟩) 1 1)
  have zo := ON.size
  have zw : ((wi.setCell ⟨wg2.heap.size, 4, none⟩ (.slice (some ⟨wi.heap.size, 0, none⟩) 1 1)).alloc (.cells #[.int .i64 9, .int .i64 65535, .int .i64 1, .int .i64 255, .bool false] 47)).heap.size = (wi.setCell ⟨wg2.heap.size, 4, none⟩ (.slice (some ⟨wi.heap.size, 0, none⟩) 1 1)).heap.size + 1 := by simp
  have RI := Box.rowT [⟨9, 65535, 1, 255, false⟩] (Box.newAt (w := (wi.setCell ⟨wg2.heap.size, 4, none⟩ (.slice (some ⟨wi.heap.size, 0, none⟩) 1 1))) #[.int .i64 9, .int .i64 65535, .int .i64 1, .int .i64 255, .bool false] 47 zo.symm) rfl rfl (by decide)
  have RV := (V2.out.below st (by omega))
  have N2 := toHid (NdAt.mk (VwAt.mk (((RV.ps.only ON (.inl (Nat.le_refl _))).alloc (.cells #[.int .i64 9, .int .i64 65535, .int .i64 1, .int .i64 255, .bool false] 47) PeV_len).wide (Nat.zero_le _) (hi' := ((wi.setCell ⟨wg2.heap.size, 4, none⟩ (.slice (some ⟨wi.heap.size, 0, none⟩) 1 1)).alloc (.cells #[.int .i64 9, .int .i64 65535, .int .i64 1, .int .i64 255, .bool false] 47)).heap.size) (by omega)) (((RV.is.only ON (.inl (Nat.le_refl _))).alloc (.cells #[.int .i64 9, .int .i64 65535, .int .i64 1, .int .i64 255, .bool false] 47)).wide (Nat.zero_le _) (hi' := ((wi.setCell ⟨wg2.heap.size, 4, none⟩ (.slice (some ⟨wi.heap.size, 0, none⟩) 1 1)).alloc (.cells #[.int .i64 9, .int .i64 65535, .int .i64 1, .int .i64 255, .bool false] 47)).heap.size) (by omega))) (RI.wide (Nat.zero_le _) (hi' := ((wi.setCell ⟨wg2.heap.size, 4, none⟩ (.slice (some ⟨wi.heap.size, 0, none⟩) 1 1)).alloc (.cells #[.int .i64 9, .int .i64 65535, .int .i64 1, .int .i64 255, .bool false] 47)).heap.size) (by omega)) (RowC.nil0 : RowE _ _ _ (.slice none 0 0) []))
  replace X2 := toHid (((X2.out.below st).setS (ys := #[.bool true, .int .i64 100, .slice ya2 3 3, .slice yb2 1 1, .slice (some ⟨wi.heap.size, 0, none⟩) 1 1, .slice none 0 0]) 4 (.slice (some ⟨wi.heap.size, 0, none⟩) 1 1) (by simp) (by simp)).alloc (.cells #[.int .i64 9, .int .i64 65535, .int .i64 1, .int .i64 255, .bool false] 47))
  replace hB := toHid (((hB.out.on st).trans (ON.below.mono z2.out)).onA (.cells #[.int .i64 9, .int .i64 65535, .int .i64 1, .int .i64 255, .bool false] 47))
  clear st zx zi ON zo zw RI RV V2
  generalize ((wi.setCell ⟨wg2.heap.size, 4, none⟩ (.slice (some ⟨wi.heap.size, 0, none⟩) 1 1)).alloc (.cells #[.int .i64 9, .int .i64 65535, .int .i64 1, .int .i64 255, .bool false] 47)) = W2' at X2 N2 hB ⊢
  go_upto_region 13 with (fail)
  go_cut [18, 19] from 89 to 97 (fun v18 v19 wx => v19 = .int .i64 1701 ∧ Below W2'.heap.size W2' wx)
  case first =>
    obtain ⟨m1, m2, m3⟩ := X2.out
    go_wp2_with (go_at_call 9; refine (wPut17_at (up' := false) (i' := 0) (E := 1701) (ps' := []) (is' := []) (ts' := []) (ls' := []) true 100 N2.out (Nat.le_refl _) 9 5 top_count (wr_no (by rw [top_count]; decide))).mono ?_; rintro e wp ⟨a5, c5, a6, c6, a7, c7, a8, c8, rfl, -, hp⟩)
    go_meet
    exact ⟨rfl, ((Below.refl _ W2').on hp).onA _⟩
  case rest =>
  obtain ⟨rfl, hcc⟩ := hcut
  generalize hnx : wc = U6 at hcc ⊢
  clear hnx
  replace hB := toHid (hB.out.on hcc)
  clear hcc
  clear X2 N2
  go_upto_region 15 with (go_at_call 17; refine (gNode_any _).mono ?_; rintro e wg3 ⟨ya3, yb3, yc3, rfl, N3, hg3⟩)
  have X3 := toHid (Box.new wg3 #[.bool true, .int .i64 100, .slice ya3 3 3, .slice yb3 1 1, .slice yc3 3 3, .slice none 0 0] 29)
  have V3 := toHid ((N3.vw.alloc (.cells #[.bool true, .int .i64 100, .slice ya3 3 3, .slice yb3 1 1, .slice yc3 3 3, .slice none 0 0] 29)).wide (Nat.zero_le _) (hi' := wg3.heap.size) (Nat.le_refl _))
  have z3 : Hid (w.heap.size ≤ wg3.heap.size) := toHid (hB.out.on hg3).size
  replace hB := toHid ((hB.out.on hg3).onA (.cells #[.bool true, .int .i64 100, .slice ya3 3 3, .slice yb3 1 1, .slice yc3 3 3, .slice none 0 0] 29))
  clear hg3 N3
  generalize wg3.alloc (.cells #[.bool true, .int .i64 100, .slice ya3 3 3, .slice yb3 1 1, .slice yc3 3 3, .slice none 0 0] 29) = W3 at X3 V3 hB ⊢
  obtain ⟨m1, m2, m3⟩ := X3.out
  go_upto_region 16 with (fail)
  have ON := (Only.refl wg3.heap.size (wg3.heap.size + 1) W3).setCell (b := wg3.heap.size) (o := 4) (Nat.le_refl _) (Nat.lt_succ_self _) (.slice none 0 0)
  replace X3 := toHid (X3.out.setS (ys := #[.bool true, .int .i64 100, .slice ya3 3 3, .slice yb3 1 1, .slice none 0 0, .slice none 0 0]) 4 (.slice none 0 0) (by simp) (by simp))
  replace V3 := toHid (VwAt.mk (V3.out.ps.only ON (.inl (Nat.le_refl _))) (V3.out.is.only ON (.inl (Nat.le_refl _))))
  replace hB := toHid (hB.out.trans (ON.below.mono z3.out))
  clear m1 m2 m3 ON
  generalize W3.setCell ⟨wg3.heap.size, 4, none⟩ (.slice none 0 0) = WL at X3 V3 hB ⊢
  have xL : wg3.heap.size < WL.heap.size := X3.out.1
  have zL : w.heap.size ≤ wg3.heap.size := z3.out
  go_wp2
  go_loopw [21] (fun s21 wr => ∃ (m : Nat) (v : Value), m ≤ 16 ∧ s21 = .int .i64 m ∧ Box wr wg3.heap.size #[.bool true, .int .i64 100, .slice ya3 3 3, .slice yb3 1 1, v, .slice none 0 0] ∧ wr.ownsRow WL.heap.size 47 5 v m ((fullW m).flatMap ItV) ∧ Below wg3.heap.size WL wr) (fun s21 _ => 16 - (intOf s21).toNat)
  case atStart => exact ⟨0, .slice none 0 0, Nat.zero_le _, rfl, X3.out, World.ownsRow_nil _ _ _ _, Below.refl _ _⟩
  case round =>
    clear X3
    obtain ⟨m, v, hm, rfl, X3, own, hbr⟩ := hrel
    have hsr := hbr.size
    replace X3 := toHid X3
    replace own := toHid own
    replace hbr := toHid hbr
    by_cases hlt : m < 16
    · have hlt' : (m : Int) < 16 := by omega
      have hm0 : 0 ≤ (m : Int) := by omega
      obtain ⟨u1, u2, u3⟩ := X3.out
      obtain ⟨pv, cv, rfl, -⟩ := own_slice own.out
      clear hm
      have hwm : IntKind.i64.wrap (2 * (m : Int)) = 2 * (m : Int) := by rw [IntKind.wrap_i64]; omega
      go_wp2
      go_region_law (first
        | (refine step_call rfl (F := 18) (args := #[.int .i64 (2 * (m : Int)), .int .i64 1]) (by first | (go_simp; done) | (go_simp; rfl)) (gIt_any _ _ _) ?_
           rintro e w9 ⟨rfl, h9⟩
           refine ⟨_, rfl, ?_⟩
           have hr9 : Below wr.heap.size wr w9 := ((Below.refl _ wr).onD 1).on h9
           have X9 := toHid (X3.out.below hr9)
           have O9 := toHid (own_below own.out hr9)
           have s9 : wr.heap.size ≤ w9.heap.size := hr9.size
           have hb9 := toHid (hbr.out.trans (hr9.mono (by omega)))
           clear h9 hr9 u1 u2 u3
           obtain ⟨u1, u2, u3⟩ := X9.out)
        | (refine step_its rfl (.tmp 105) (.tmp 109) rfl WL.heap.size _ m (fullW m) rfl (O9.out.alloc _) ⟨w9.heap.size, 0, none⟩ 1 1 [⟨2 * (m : Int), 1, 1, 1, false⟩] rfl rfl (fun j hj => ?_) (by omega) (by simp; omega) ?_; · (rw [add_plain, Nat.zero_add]; refine ((Box.newAt _ _ rfl).2.1 j).trans ?_; simp [ItV])
           intro v6 w6 own6 hgr6 hb6
           have X6 := toHid ((X9.out.alloc _).belowAt hb6 xL)
           have hb7 := toHid ((hb9.out.alloc (show wg3.heap.size ≤ w9.heap.size by omega) _).trans (hb6.mono (by omega)))
           have O6 : Hid (w6.ownsRow WL.heap.size 47 5 v6 (m + 1) ((fullW (m + 1)).flatMap ItV)) := toHid (by rw [fullW_next]; exact own6)
           clear own6 hgr6 hb6 u1 u2 u3
           obtain ⟨p6, c6, rfl, -⟩ := own_slice O6.out
           obtain ⟨u1, u2, u3⟩ := X6.out))
      all_goals
        have X7 := toHid (X6.out.setS (ys := #[.bool true, .int .i64 100, .slice ya3 3 3, .slice yb3 1 1, .slice p6 (m + 1) c6, .slice none 0 0]) 4 (.slice p6 (m + 1) c6) (by simp) (by simp))
        have O7 := toHid (ownsRow_setCell_below (a := ⟨wg3.heap.size, 4, none⟩) O6.out xL (.slice p6 (m + 1) c6))
        have hb8 := toHid (hb7.out.setCell (p := ⟨wg3.heap.size, 4, none⟩) (Nat.le_refl _) (.slice p6 (m + 1) c6))
        go_wp2
        go_roundw
        case rel => exact ⟨m + 1, _, by omega, by go_num, X7.out, O7.out, hb8.out⟩
        case measure => simp [intOf]; omega
    · obtain rfl : m = 16 := by omega
      have hlt' : ¬ (16 : Int) < 16 := by omega
      obtain ⟨pf, cf, rfl, -⟩ := own_slice own.out
      have RF : RowT WL.heap.size wr.heap.size wr (.slice pf 16 cf) (fullW 16) := RowC.of_owns (by omega) ItV_len (by simpa [fullW_len] using own.out)
      have V3r := V3.out.below hbr.out (Nat.le_refl _)
      have N3 := toHid (NdAt.mk (VwAt.mk (V3r.ps.wide (Nat.zero_le _) (hi' := wr.heap.size) (by omega)) (V3r.is.wide (Nat.zero_le _) (hi' := wr.heap.size) (by omega))) (RF.wide (Nat.zero_le _) (Nat.le_refl _)) (RowC.nil0 : RowE _ _ _ (.slice none 0 0) []))
      replace hB := toHid (hB.out.trans (hbr.out.mono zL))
      clear RF V3r own hbr hlt hlt' hm V3
      have kn := full_new q hq16
      have ko := full_old q hq16
      obtain ⟨⟨u1, i1, p1, s1, t1, l1⟩, hN1⟩ : ∃ x, wrN ⟨true, 100, gnP, [7], fullW 16, []⟩ (2 * (q : Int)) 0 true = x := ⟨_, rfl⟩
      have HD1 := toHid (fun (W : World) (p q r s : Value) (lo hi : Nat) (N : NdAt lo hi W p q r s gnP [7] (fullW 16) []) (hh : hi ≤ W.heap.size) => wDrop17_at (up' := false) (i' := 0) (ps' := []) (is' := []) (ts' := []) (ls' := []) true 100 N hh _ kn (wr_no (by rw [kn]; decide)))
      have HD2 := toHid (fun (W : World) (p q r s : Value) (lo hi : Nat) (N : NdAt lo hi W p q r s gnP [7] (fullW 16) []) (hh : hi ≤ W.heap.size) => wDrop17_at true 100 N hh _ ko hN1)
      clear kn ko hN1
      have rx := rx15.out
      have hq0 : 0 ≤ (q : Int) := by omega
      have hq1 : (q : Int) < 16 := by omega
      obtain ⟨n1, n2, n3⟩ := X3.out
      go_upto_region 21 with (first
        | (go_at_call 11; refine (HD1.out _ _ _ _ _ _ _ N3.out (Nat.le_refl _)).mono ?_; rintro e wp ⟨a5, c5, a6, c6, a7, c7, a8, c8, rfl, -, hp⟩))
      clear n1 n2 n3 HD1
      have st := hp.on ((Below.refl _ wp).onA (.cells #[.bool false, .int .i64 0, .slice a5 0 c5, .slice a6 0 c6, .slice a7 0 c7, .slice a8 0 c8] 29))
      replace X3 := toHid (X3.out.below st)
      replace N3 := toHid (N3.out.up st)
      replace hB := toHid (hB.out.on st)
      clear st hp
      generalize wp.alloc (.cells #[.bool false, .int .i64 0, .slice a5 0 c5, .slice a6 0 c6, .slice a7 0 c7, .slice a8 0 c8] 29) = Wx at X3 N3 hB ⊢
      obtain ⟨n1, n2, n3⟩ := X3.out
      go_upto_region 22 with (first
        | (go_at_call 11; refine (HD2.out _ _ _ _ _ _ _ N3.out (Nat.le_refl _)).mono ?_; rintro e wp ⟨a5, c5, a6, c6, a7, c7, a8, c8, rfl, -, hp⟩))
      clear n1 n2 n3 HD2
      have st := hp.on ((Below.refl _ wp).onA (.cells #[.bool u1, .int .i64 i1, .slice a5 p1.length c5, .slice a6 s1.length c6, .slice a7 t1.length c7, .slice a8 l1.length c8] 29))
      replace X3 := toHid (X3.out.below st)
      replace N3 := toHid (N3.out.up st)
      replace hB := toHid (hB.out.on st)
      clear st hp
      generalize wp.alloc (.cells #[.bool u1, .int .i64 i1, .slice a5 p1.length c5, .slice a6 s1.length c6, .slice a7 t1.length c7, .slice a8 l1.length c8] 29) = Wy at X3 N3 hB ⊢
      obtain ⟨n1, n2, n3⟩ := X3.out
      have pl5 : plB 5 = true := by decide
      go_wp2_with (first
        | (go_at_call 14; refine (num_any _ _).mono ?_; rintro e w' ⟨rfl, hw'⟩; subst w')
        | (go_at_call 19; refine (pl5 ▸ rPlaceMay_any 5 _).mono ?_; rintro e w' ⟨rfl, hw'⟩; subst w')
        | (go_at_call 20; refine (rNodeMay_is N3.out (Nat.le_refl _) (by decide) (by decide) (by decide +kernel) (by decide) full_may).mono ?_; rintro e wz ⟨rfl, hz⟩))
      go_ret
      exact ⟨rfl, hB.out.on hz⟩

/-! ### The row's step -/
set_option maxRecDepth 100000 in
theorem lifted (os : Os) (started : os.Started) (H : Type) (enc : TypeId × Value → H) :
    ReturnsInHanded {} Try.checked os 4 .any (Rows.writeFormsSpec.pre6 enc Try.prog Try.f4 Rows.writeFormsRow.domain false) (Rows.writeFormsSpec.post enc Try.prog Try.f4 false true false false) := by
  refine returnsInHanded_of_change_sized (C := Try.checked) ownK started (by kernel_rfl) Try.func4
    (ChangeSpec.witness6 (enc := enc) (C := Try.checked) false ⟨#[], #[.int .i64 0, .int .i64 0], []⟩ 8 (by kernel_rfl) (by kernel_rfl) (by kernel_rfl) (by kernel_rfl)) ?_
  intro W base args ds gs before hval0 hW hcnd hsz0 _
  have hsz : (DataW.weightsEach Try.prog (Try.f4.params.toList ++ Rows.writeFormsSpec.plain.varTypes Try.prog) (ds ++ gs)).all (· ≤ reachBytes) = true := hsz0
  have hval : ∀ (j : Nat) t v, Try.f4.params[j]? = some t → args[j]? = some v → Value.okWide Try.prog W .any base t v := hval0
  have hW' := hW
  obtain ⟨p, q, hA0, hV, rfl, hfz, hnd⟩ := hW
  have hA : DataW.TrodAll enc Try.prog W 0 (fun _ => true) true Try.f4.params.toList args.toList ds p := hA0
  rw [Try.params4] at hA hval hsz
  obtain ⟨v0, vs0, d0, ds0, p0, q0, hargs, rfl, rfl, h0, r0⟩ := trodAll_cons hA
  obtain ⟨v1, vs1, d1, ds1, p1, q1, rfl, rfl, rfl, h1, r1⟩ := trodAll_cons r0
  obtain ⟨rfl, rfl, rfl⟩ := trodAll_nil r1
  obtain rfl : args = #[v0, v1] := by cases args; simp_all
  obtain ⟨rfl, rfl⟩ := trodVars_none hV
  clear r0 r1
  have k0 := h0
  have lt0 : ∀ x ∈ p0, x.block < W.heap.size := by obtain ⟨m, hm⟩ := k0; exact DataW.trod_lt m _ _ _ hm
  have k1 := h1
  have lt1 : ∀ x ∈ p1, x.block < W.heap.size := by obtain ⟨m, hm⟩ := k1; exact DataW.trod_lt m _ _ _ hm
  obtain ⟨a0, rfl, rfl, rfl, w0⟩ := open_int Try.underlying3 (hval 0 3 v0 rfl rfl) h0
  obtain ⟨a1, rfl, rfl, rfl, w1⟩ := open_int Try.underlying3 (hval 1 3 v1 rfl rfl) h1
  clear hA0 hval0
  refine (walk a0 a1 W w0 w1).mono fun e W' ⟨he, bel⟩ => ?_
  subst he
  exact ⟨_, rfl, _, _, _, [], _, [], hW', trodAll_mk1 (shut_bool Try.underlying4 _), (trodAll_cons_mk (Below.trod laidOut (by kernel_rfl) (of_decide_eq_true (by kernel_rfl)) k0 bel lt0) (trodAll_cons_mk (Below.trod laidOut (by kernel_rfl) (of_decide_eq_true (by kernel_rfl)) k1 bel lt1) trodAll_mk0)), rfl, bel.frame _, fun h => by cases h⟩

theorem over : Rows.writeFormsRow.holds Try.pinned (OpenSpec.ofChange Rows.writeFormsSpec) :=
  OpenClaim.holds_of_wide 4 Try.f4 rfl rfl rfl rfl rfl rfl rfl ⟨rfl, rfl, rfl, rfl, rfl⟩ rfl rfl rfl rfl rfl (by kernel_rfl) Try.func4 (by kernel_rfl)
    (of_decide_eq_true (by kernel_rfl)) (by unfold Func.isWrapper; first | (rw [if_pos (by decide +kernel)]; kernel_rfl) | (rw [if_neg (by decide +kernel)]; exact ⟨rfl, rfl⟩))
    (fun os started H enc _ => lifted os started H enc)

end Go.Proofs.Ytgakfbdaiogflaa.writeForms

namespace Go.Proofs.Ytgakfbdaiogflaa
/-- The statement, by its short name. -/
theorem writeForms_holds : Rows.WriteFormsSaid := writeForms.over
#print axioms writeForms_holds
end Go.Proofs.Ytgakfbdaiogflaa
