
/-
  Eighteen messages that may not be, one thing at a time: as cells of one block, and that none of them may be.
-/
import Derived.Test.YtpbjlomlkjkedaaMsgMath
import Derived.Test.YtpbjlomlkjkedaaMade
namespace Go.Proofs.Ytpbjlomlkjkedaa
open Go.ChangeShapes Go.WideShapes Go.ChangeAt Go.RowKit

/-- What the operations leave, each in its slot. -/
def badV (e : Int) (N pa pb pc px : Nat) : Nat → Value
  | 0 => .int .i64 e
  | 1 => .int .i64 (IntKind.i64.wrap (-e))
  | 2 => .agg #[.int .i64 (IntKind.i64.wrap (-e)), .int .i64 1, .int .i64 2, .slice none 0 0, .int .i64 0, .int .i64 0, .int .i64 0, .int .i64 0, .int .i64 0, .bool false, .bool false]
  | 3 => .int .i64 e
  | 4 => .int .i64 (IntKind.i64.wrap (3 + e))
  | 5 => .agg #[.int .i64 (IntKind.i64.wrap (3 + e)), .int .i64 1, .int .i64 2, .slice none 0 0, .int .i64 0, .int .i64 0, .int .i64 0, .int .i64 0, .int .i64 0, .bool false, .bool false]
  | 6 => .int .i64 e
  | 7 => .int .i64 (IntKind.i64.wrap (-e))
  | 8 => .agg #[.int .i64 0, .int .i64 (IntKind.i64.wrap (-e)), .int .i64 2, .slice none 0 0, .int .i64 0, .int .i64 0, .int .i64 0, .int .i64 0, .int .i64 0, .bool false, .bool false]
  | 9 => .int .i64 e
  | 10 => .int .i64 (IntKind.i64.wrap (255 + e))
  | 11 => .agg #[.int .i64 0, .int .i64 1, .int .i64 (IntKind.i64.wrap (255 + e)), .slice none 0 0, .int .i64 0, .int .i64 0, .int .i64 0, .int .i64 0, .int .i64 0, .bool false, .bool false]
  | 12 => .agg #[.int .i64 0, .int .i64 7, .int .i64 7, .slice none 0 0, .int .i64 0, .int .i64 0, .int .i64 0, .int .i64 0, .int .i64 0, .bool false, .bool false]
  | 13 => .int .i64 e
  | 14 => .int .i64 (IntKind.i64.wrap (16 + e))
  | 15 => .slice (some ⟨pa, 0, none⟩) N N
  | 16 => .agg #[.int .i64 0, .int .i64 1, .int .i64 2, .slice (some ⟨pa, 0, none⟩) N N, .int .i64 0, .int .i64 0, .int .i64 0, .int .i64 0, .int .i64 0, .bool false, .bool false]
  | 17 => .int .i64 e
  | 18 => .int .i64 (IntKind.i64.wrap (-e))
  | 19 => .slice (some ⟨pb, 0, none⟩) 1 1
  | 20 => .agg #[.int .i64 0, .int .i64 1, .int .i64 2, .slice (some ⟨pb, 0, none⟩) 1 1, .int .i64 0, .int .i64 0, .int .i64 0, .int .i64 0, .int .i64 0, .bool false, .bool false]
  | 21 => .int .i64 e
  | 22 => .agg #[.int .i64 0, .int .i64 1, .int .i64 2, .slice none 0 0, .int .i64 e, .int .i64 0, .int .i64 0, .int .i64 0, .int .i64 0, .bool false, .bool false]
  | 23 => .agg #[.int .i64 0, .int .i64 1, .int .i64 2, .slice none 0 0, .int .i64 0, .int .i64 0, .int .i64 0, .int .i64 0, .int .i64 0, .bool false, .bool true]
  | 24 => .agg #[.int .i64 5, .int .i64 1, .int .i64 2, .int .i64 3, .bool false]
  | 25 => .agg #[.int .i64 0, .int .i64 1, .int .i64 2, .slice none 0 0, .int .i64 0, .int .i64 5, .int .i64 1, .int .i64 2, .int .i64 3, .bool false, .bool false]
  | 26 => .agg #[.int .i64 1, .int .i64 1, .int .i64 2, .slice none 0 0, .int .i64 0, .int .i64 0, .int .i64 0, .int .i64 0, .int .i64 0, .bool false, .bool false]
  | 27 => .agg #[.int .i64 5, .int .i64 1, .int .i64 2, .int .i64 3, .bool false]
  | 28 => .agg #[.int .i64 1, .int .i64 1, .int .i64 2, .slice none 0 0, .int .i64 5, .int .i64 5, .int .i64 1, .int .i64 2, .int .i64 3, .bool false, .bool false]
  | 29 => .agg #[.int .i64 5, .int .i64 1, .int .i64 2, .int .i64 3, .bool false]
  | 30 => .slice (some ⟨pc, 0, none⟩) 1 1
  | 31 => .agg #[.int .i64 1, .int .i64 1, .int .i64 2, .slice (some ⟨pc, 0, none⟩) 1 1, .int .i64 0, .int .i64 5, .int .i64 1, .int .i64 2, .int .i64 3, .bool false, .bool false]
  | 32 => .int .i64 e
  | 33 => .int .i64 (IntKind.i64.wrap (255 + e))
  | 34 => .agg #[.int .i64 2, .int .i64 1, .int .i64 2, .slice none 0 0, .int .i64 (IntKind.i64.wrap (255 + e)), .int .i64 0, .int .i64 0, .int .i64 0, .int .i64 0, .bool false, .bool false]
  | 35 => .agg #[.int .i64 5, .int .i64 1, .int .i64 2, .int .i64 3, .bool false]
  | 36 => .agg #[.int .i64 2, .int .i64 1, .int .i64 2, .slice none 0 0, .int .i64 0, .int .i64 5, .int .i64 1, .int .i64 2, .int .i64 3, .bool false, .bool false]
  | 37 => .agg #[.int .i64 5, .int .i64 1, .int .i64 2, .int .i64 3, .bool false]
  | 38 => .agg #[.int .i64 3, .int .i64 1, .int .i64 2, .slice none 0 0, .int .i64 5, .int .i64 5, .int .i64 1, .int .i64 2, .int .i64 3, .bool false, .bool false]
  | 39 => .agg #[.int .i64 3, .int .i64 1, .int .i64 2, .slice none 0 0, .int .i64 5, .int .i64 0, .int .i64 0, .int .i64 0, .int .i64 0, .bool false, .bool true]
  | 40 => .int .i64 e
  | 41 => .int .i64 (IntKind.i64.wrap (-e))
  | 42 => .agg #[.int .i64 3, .int .i64 1, .int .i64 2, .slice none 0 0, .int .i64 (IntKind.i64.wrap (-e)), .int .i64 0, .int .i64 0, .int .i64 0, .int .i64 0, .bool false, .bool false]
  | 43 => .slice (some ⟨px, 0, none⟩) 18 18
  | 44 => .slice (some ⟨px, 0, none⟩) 18 18
  | _ => undef
def badC (e : Int) (N pa pb pc : Nat) : Array Value := #[.int .i64 (IntKind.i64.wrap (-e)), .int .i64 1, .int .i64 2, .slice none 0 0, .int .i64 0, .int .i64 0, .int .i64 0, .int .i64 0, .int .i64 0, .bool false, .bool false, .int .i64 (IntKind.i64.wrap (3 + e)), .int .i64 1, .int .i64 2, .slice none 0 0, .int .i64 0, .int .i64 0, .int .i64 0, .int .i64 0, .int .i64 0, .bool false, .bool false, .int .i64 0, .int .i64 (IntKind.i64.wrap (-e)), .int .i64 2, .slice none 0 0, .int .i64 0, .int .i64 0, .int .i64 0, .int .i64 0, .int .i64 0, .bool false, .bool false, .int .i64 0, .int .i64 1, .int .i64 (IntKind.i64.wrap (255 + e)), .slice none 0 0, .int .i64 0, .int .i64 0, .int .i64 0, .int .i64 0, .int .i64 0, .bool false, .bool false, .int .i64 0, .int .i64 7, .int .i64 7, .slice none 0 0, .int .i64 0, .int .i64 0, .int .i64 0, .int .i64 0, .int .i64 0, .bool false, .bool false, .int .i64 0, .int .i64 1, .int .i64 2, .slice (some ⟨pa, 0, none⟩) N N, .int .i64 0, .int .i64 0, .int .i64 0, .int .i64 0, .int .i64 0, .bool false, .bool false, .int .i64 0, .int .i64 1, .int .i64 2, .slice (some ⟨pb, 0, none⟩) 1 1, .int .i64 0, .int .i64 0, .int .i64 0, .int .i64 0, .int .i64 0, .bool false, .bool false, .int .i64 0, .int .i64 1, .int .i64 2, .slice none 0 0, .int .i64 e, .int .i64 0, .int .i64 0, .int .i64 0, .int .i64 0, .bool false, .bool false, .int .i64 0, .int .i64 1, .int .i64 2, .slice none 0 0, .int .i64 0, .int .i64 0, .int .i64 0, .int .i64 0, .int .i64 0, .bool false, .bool true, .int .i64 0, .int .i64 1, .int .i64 2, .slice none 0 0, .int .i64 0, .int .i64 5, .int .i64 1, .int .i64 2, .int .i64 3, .bool false, .bool false, .int .i64 1, .int .i64 1, .int .i64 2, .slice none 0 0, .int .i64 0, .int .i64 0, .int .i64 0, .int .i64 0, .int .i64 0, .bool false, .bool false, .int .i64 1, .int .i64 1, .int .i64 2, .slice none 0 0, .int .i64 5, .int .i64 5, .int .i64 1, .int .i64 2, .int .i64 3, .bool false, .bool false, .int .i64 1, .int .i64 1, .int .i64 2, .slice (some ⟨pc, 0, none⟩) 1 1, .int .i64 0, .int .i64 5, .int .i64 1, .int .i64 2, .int .i64 3, .bool false, .bool false, .int .i64 2, .int .i64 1, .int .i64 2, .slice none 0 0, .int .i64 (IntKind.i64.wrap (255 + e)), .int .i64 0, .int .i64 0, .int .i64 0, .int .i64 0, .bool false, .bool false, .int .i64 2, .int .i64 1, .int .i64 2, .slice none 0 0, .int .i64 0, .int .i64 5, .int .i64 1, .int .i64 2, .int .i64 3, .bool false, .bool false, .int .i64 3, .int .i64 1, .int .i64 2, .slice none 0 0, .int .i64 5, .int .i64 5, .int .i64 1, .int .i64 2, .int .i64 3, .bool false, .bool false, .int .i64 3, .int .i64 1, .int .i64 2, .slice none 0 0, .int .i64 5, .int .i64 0, .int .i64 0, .int .i64 0, .int .i64 0, .bool false, .bool true, .int .i64 3, .int .i64 1, .int .i64 2, .slice none 0 0, .int .i64 (IntKind.i64.wrap (-e)), .int .i64 0, .int .i64 0, .int .i64 0, .int .i64 0, .bool false, .bool false]
/-- What a slot holds, before its operation has come up and behind it. -/
def slotv (f : Nat → Bool) (V : Nat → Value) (i : Nat) : Value := if f i = true then V i else undef
theorem upd {f : Nat → Bool} {j : Nat} {b : Bool} (h : f j = b) : ∃ g : Nat → Bool, f = fun k => if k = j then b else g k := ⟨f, by
  funext k
  by_cases hk : k = j
  · rw [if_pos hk, hk, h]
  · rw [if_neg hk]⟩

/-- In this block, at this place, lies a message that may not be. -/
structure BadAt (w : World) (px r : Nat) : Prop where
  out : ∃ (n a b : Int) (p : Option Addr) (m c : Nat) (k tk tc tu tx : Int) (tg h : Bool) (is : List Int),
    w.cell? ⟨px, r * 11, none⟩ = some (.int .i64 n) ∧
    w.cell? ⟨px, r * 11 + 1, none⟩ = some (.int .i64 a) ∧
    w.cell? ⟨px, r * 11 + 2, none⟩ = some (.int .i64 b) ∧
    w.cell? ⟨px, r * 11 + 3, none⟩ = some (.slice p m c) ∧
    w.cell? ⟨px, r * 11 + 4, none⟩ = some (.int .i64 k) ∧
    w.cell? ⟨px, r * 11 + 5, none⟩ = some (.int .i64 tk) ∧
    w.cell? ⟨px, r * 11 + 6, none⟩ = some (.int .i64 tc) ∧
    w.cell? ⟨px, r * 11 + 7, none⟩ = some (.int .i64 tu) ∧
    w.cell? ⟨px, r * 11 + 8, none⟩ = some (.int .i64 tx) ∧
    w.cell? ⟨px, r * 11 + 9, none⟩ = some (.bool tg) ∧
    w.cell? ⟨px, r * 11 + 10, none⟩ = some (.bool h) ∧
    RowI 0 w.heap.size w (.slice p m c) is ∧ mgB n a b is k ⟨tk, tc, tu, tx, tg⟩ h = false

set_option maxRecDepth 20000 in
theorem bad_at {w : World} {e : Int} {N pa pb pc px : Nat} (h1 : 1 ≤ e) (h2 : e ≤ 1024) (hN : 16 + e = (N : Int)) (BX : Box w px (badC e N pa pb pc)) (BA : Box w pa (madeC N)) (BB : Box w pb #[.int .i64 (IntKind.i64.wrap (-e))]) (BC : Box w pc #[.int .i64 3]) (r : Nat) (hr : r < 18) : BadAt w px r := by
  have y1 := w64i (n := -e) (by omega) (by omega)
  have y2 := w64i (n := 3 + e) (by omega) (by omega)
  have y3 := w64i (n := 255 + e) (by omega) (by omega)
  have hc := BX.2.1
  unfold badC at hc
  rw [y1] at BB
  simp only [y1, y2, y3] at hc
  match r, hr with
  | 0, _ => exact ⟨(-e), 1, 2, none, 0, 0, 0, 0, 0, 0, 0, false, false, [], hc 0, hc 1, hc 2, hc 3, hc 4, hc 5, hc 6, hc 7, hc 8, hc 9, hc 10, RowI.nil0, (by have : ¬ (-e) = 0 ∧ ¬ (-e) = 1 ∧ ¬ (-e) = 2 ∧ ¬ (-e) = 3 := (by omega); simp [mgB, knB, this])⟩
  | 1, _ => exact ⟨(3 + e), 1, 2, none, 0, 0, 0, 0, 0, 0, 0, false, false, [], hc 11, hc 12, hc 13, hc 14, hc 15, hc 16, hc 17, hc 18, hc 19, hc 20, hc 21, RowI.nil0, (by have : ¬ (3 + e) = 0 ∧ ¬ (3 + e) = 1 ∧ ¬ (3 + e) = 2 ∧ ¬ (3 + e) = 3 := (by omega); simp [mgB, knB, this])⟩
  | 2, _ => exact ⟨0, (-e), 2, none, 0, 0, 0, 0, 0, 0, 0, false, false, [], hc 22, hc 23, hc 24, hc 25, hc 26, hc 27, hc 28, hc 29, hc 30, hc 31, hc 32, RowI.nil0, (by have : plB (-e) = false := (by simp [plB]; omega); simp [mgB, endB, this])⟩
  | 3, _ => exact ⟨0, 1, (255 + e), none, 0, 0, 0, 0, 0, 0, 0, false, false, [], hc 33, hc 34, hc 35, hc 36, hc 37, hc 38, hc 39, hc 40, hc 41, hc 42, hc 43, RowI.nil0, (by have : plB (255 + e) = false := (by simp [plB]; omega); simp [mgB, endB, this])⟩
  | 4, _ => exact ⟨0, 7, 7, none, 0, 0, 0, 0, 0, 0, 0, false, false, [], hc 44, hc 45, hc 46, hc 47, hc 48, hc 49, hc 50, hc 51, hc 52, hc 53, hc 54, RowI.nil0, (by decide +kernel)⟩
  | 5, _ => exact ⟨0, 1, 2, (some ⟨pa, 0, none⟩), N, N, 0, 0, 0, 0, 0, false, false, List.replicate N 0, hc 55, hc 56, hc 57, hc 58, hc 59, hc 60, hc 61, hc 62, hc 63, hc 64, hc 65, (rowI_made (by omega) BA), (by have : ¬ N ≤ 16 := (by omega); simp [mgB, knB, grtB, nmdB, this])⟩
  | 6, _ => exact ⟨0, 1, 2, (some ⟨pb, 0, none⟩), 1, 1, 0, 0, 0, 0, 0, false, false, [-e], hc 66, hc 67, hc 68, hc 69, hc 70, hc 71, hc 72, hc 73, hc 74, hc 75, hc 76, (rowI_one BB), (by have : plB (-e) = false := (by simp [plB]; omega); simp [mgB, knB, grtB, nmdB, plsB, this])⟩
  | 7, _ => exact ⟨0, 1, 2, none, 0, 0, e, 0, 0, 0, 0, false, false, [], hc 77, hc 78, hc 79, hc 80, hc 81, hc 82, hc 83, hc 84, hc 85, hc 86, hc 87, RowI.nil0, (by have : ¬ e = 0 := (by omega); simp [mgB, knB, grtB, this])⟩
  | 8, _ => exact ⟨0, 1, 2, none, 0, 0, 0, 0, 0, 0, 0, false, true, [], hc 88, hc 89, hc 90, hc 91, hc 92, hc 93, hc 94, hc 95, hc 96, hc 97, hc 98, RowI.nil0, (by decide +kernel)⟩
  | 9, _ => exact ⟨0, 1, 2, none, 0, 0, 0, 5, 1, 2, 3, false, false, [], hc 99, hc 100, hc 101, hc 102, hc 103, hc 104, hc 105, hc 106, hc 107, hc 108, hc 109, RowI.nil0, (by decide +kernel)⟩
  | 10, _ => exact ⟨1, 1, 2, none, 0, 0, 0, 0, 0, 0, 0, false, false, [], hc 110, hc 111, hc 112, hc 113, hc 114, hc 115, hc 116, hc 117, hc 118, hc 119, hc 120, RowI.nil0, (by decide +kernel)⟩
  | 11, _ => exact ⟨1, 1, 2, none, 0, 0, 5, 5, 1, 2, 3, false, false, [], hc 121, hc 122, hc 123, hc 124, hc 125, hc 126, hc 127, hc 128, hc 129, hc 130, hc 131, RowI.nil0, (by decide +kernel)⟩
  | 12, _ => exact ⟨1, 1, 2, (some ⟨pc, 0, none⟩), 1, 1, 0, 5, 1, 2, 3, false, false, [3], hc 132, hc 133, hc 134, hc 135, hc 136, hc 137, hc 138, hc 139, hc 140, hc 141, hc 142, (rowI_one BC), (by decide +kernel)⟩
  | 13, _ => exact ⟨2, 1, 2, none, 0, 0, (255 + e), 0, 0, 0, 0, false, false, [], hc 143, hc 144, hc 145, hc 146, hc 147, hc 148, hc 149, hc 150, hc 151, hc 152, hc 153, RowI.nil0, (by have : plB (255 + e) = false := (by simp [plB]; omega); simp [mgB, knB, askB, this])⟩
  | 14, _ => exact ⟨2, 1, 2, none, 0, 0, 0, 5, 1, 2, 3, false, false, [], hc 154, hc 155, hc 156, hc 157, hc 158, hc 159, hc 160, hc 161, hc 162, hc 163, hc 164, RowI.nil0, (by decide +kernel)⟩
  | 15, _ => exact ⟨3, 1, 2, none, 0, 0, 5, 5, 1, 2, 3, false, false, [], hc 165, hc 166, hc 167, hc 168, hc 169, hc 170, hc 171, hc 172, hc 173, hc 174, hc 175, RowI.nil0, (by decide +kernel)⟩
  | 16, _ => exact ⟨3, 1, 2, none, 0, 0, 5, 0, 0, 0, 0, false, true, [], hc 176, hc 177, hc 178, hc 179, hc 180, hc 181, hc 182, hc 183, hc 184, hc 185, hc 186, RowI.nil0, (by decide +kernel)⟩
  | 17, _ => exact ⟨3, 1, 2, none, 0, 0, (-e), 0, 0, 0, 0, false, false, [], hc 187, hc 188, hc 189, hc 190, hc 191, hc 192, hc 193, hc 194, hc 195, hc 196, hc 197, RowI.nil0, (by have : plB (-e) = false := (by simp [plB]; omega); simp [mgB, knB, telB, this])⟩
  | j + 18, hj => exact absurd hj (by omega)

end Go.Proofs.Ytpbjlomlkjkedaa
