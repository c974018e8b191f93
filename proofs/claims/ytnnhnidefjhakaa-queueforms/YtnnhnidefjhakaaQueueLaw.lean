
/-
  Queues: one taken, whatever comes in; lists of messages just built; what every program answers that is one.
-/
import Derived.Test.YtnnhnidefjhakaaQueueC
import Derived.Test.YtnnhnidefjhakaaQueueD
import Derived.Test.YtnnhnidefjhakaaQueueAdd
import Derived.Test.YtnnhnidefjhakaaMsgsSame
import Derived.Test.YtnnhnidefjhakaaNum
namespace Go.Proofs.Ytnnhnidefjhakaa
open Go.ChangeShapes Go.WideShapes Go.ChangeAt Go.RowKit

/-- One way of being told for both: what a way of taking answers. -/
theorem take_both {F : Nat} {w : World} {v : Value} {ms : List Mg} (i : Int)
    (no : tkB ms i = false → Calls Try.prog F #[v, .int .i64 i] w fun e w' => e = .returned (.tuple #[.agg #[.int .i64 0, .int .i64 0, .int .i64 0, .slice none 0 0, .int .i64 0, .int .i64 0, .int .i64 0, .int .i64 0, .int .i64 0, .bool false, .bool false], .slice none 0 0, .int .i64 1400]) ∧ Below w.heap.size w w')
    (yes : ∀ j : Nat, quB ms = true → ∀ hj : j < ms.length, Calls Try.prog F #[v, .int .i64 j] w fun e w' => ∃ p c v', e = .returned (.tuple #[.agg #[.int .i64 ms[j].n, .int .i64 ms[j].a, .int .i64 ms[j].b, .slice p ms[j].is.length c, .int .i64 ms[j].k, .int .i64 ms[j].t.k, .int .i64 ms[j].t.c, .int .i64 ms[j].t.u, .int .i64 ms[j].t.x, .bool ms[j].t.g, .bool ms[j].h], v', .int .i64 0]) ∧
      w'.ownsRow w.heap.size 3 1 (.slice p ms[j].is.length c) ms[j].is.length (ms[j].is.map (Value.int .i64)) ∧ OwnM w.heap.size w' v' (ms.take j ++ ms.drop (j + 1)) ∧ Below w.heap.size w w')
    {n a b k tk tc tu tx : Int} {is : List Int} {tg g : Bool} {L : List Mg} {E : Int} (hM : tqM ms i = ⟨n, a, b, is, k, ⟨tk, tc, tu, tx, tg⟩, g⟩) (hL : tqL ms i = L) (hE : tqE ms i = E) :
    Calls Try.prog F #[v, .int .i64 i] w fun e w' => ∃ p c v', e = .returned (.tuple #[.agg #[.int .i64 n, .int .i64 a, .int .i64 b, .slice p is.length c, .int .i64 k, .int .i64 tk, .int .i64 tc, .int .i64 tu, .int .i64 tx, .bool tg, .bool g], v', .int .i64 E]) ∧
      w'.ownsRow w.heap.size 3 1 (.slice p is.length c) is.length (is.map (Value.int .i64)) ∧ OwnM w.heap.size w' v' L ∧ Below w.heap.size w w' := by
  subst hL hE
  cases ht : tkB ms i with
  | false =>
    have e1 : tqM ms i = zeroM := by simp [tqM, ht]
    rw [e1] at hM
    unfold zeroM zeroI at hM
    simp only [Mg.mk.injEq, It.mk.injEq] at hM
    obtain ⟨rfl, rfl, rfl, rfl, rfl, ⟨rfl, rfl, rfl, rfl, rfl⟩, rfl⟩ := hM
    have e2 : tqL ms i = [] := by simp [tqL, ht]
    have e3 : tqE ms i = 1400 := by simp [tqE, ht]
    rw [e2, e3]
    exact (no ht).mono fun e w' ⟨he, hb⟩ => ⟨none, 0, .slice none 0 0, he, ⟨rfl, .inl ⟨rfl, rfl⟩⟩, OwnM.nil0, hb⟩
  | true =>
    have hq := ht
    simp only [tkB, Bool.and_eq_true, decide_eq_true_eq] at hq
    obtain ⟨hq, h0, h1⟩ := hq
    have hj : i.toNat < ms.length := by omega
    have ei : i = (i.toNat : Int) := by omega
    have e1 : tqM ms i = ms[i.toNat] := by simp [tqM, ht, List.getD, List.getElem?_eq_getElem hj]
    have e2 : tqL ms i = ms.take i.toNat ++ ms.drop (i.toNat + 1) := by simp [tqL, ht]
    have e3 : tqE ms i = 0 := by simp [tqE, ht]
    rw [e2, e3]
    have := yes i.toNat hq hj
    rw [← e1, hM, ← ei] at this
    exact this

theorem qTake_any {lo hi : Nat} {w : World} {v : Value} {ms : List Mg} (h : RowM lo hi w v ms) (hh : hi ≤ w.heap.size) (i : Int)
    {n a b k tk tc tu tx : Int} {is : List Int} {tg g : Bool} {L : List Mg} {E : Int} (hM : tqM ms i = ⟨n, a, b, is, k, ⟨tk, tc, tu, tx, tg⟩, g⟩) (hL : tqL ms i = L) (hE : tqE ms i = E) :
    Calls Try.prog 11 #[v, .int .i64 i] w fun e w' => ∃ p c v', e = .returned (.tuple #[.agg #[.int .i64 n, .int .i64 a, .int .i64 b, .slice p is.length c, .int .i64 k, .int .i64 tk, .int .i64 tc, .int .i64 tu, .int .i64 tx, .bool tg, .bool g], v', .int .i64 E]) ∧
      w'.ownsRow w.heap.size 3 1 (.slice p is.length c) is.length (is.map (Value.int .i64)) ∧ OwnM w.heap.size w' v' L ∧ Below w.heap.size w w' :=
  take_both i (qTake_no h hh i) (fun j hq hj => qTake_yes h hh j hq hj) hM hL hE
theorem rTake_any {lo hi : Nat} {w : World} {v : Value} {ms : List Mg} (h : RowM lo hi w v ms) (hh : hi ≤ w.heap.size) (i : Int)
    {n a b k tk tc tu tx : Int} {is : List Int} {tg g : Bool} {L : List Mg} {E : Int} (hM : tqM ms i = ⟨n, a, b, is, k, ⟨tk, tc, tu, tx, tg⟩, g⟩) (hL : tqL ms i = L) (hE : tqE ms i = E) :
    Calls Try.prog 12 #[v, .int .i64 i] w fun e w' => ∃ p c v', e = .returned (.tuple #[.agg #[.int .i64 n, .int .i64 a, .int .i64 b, .slice p is.length c, .int .i64 k, .int .i64 tk, .int .i64 tc, .int .i64 tu, .int .i64 tx, .bool tg, .bool g], v', .int .i64 E]) ∧
      w'.ownsRow w.heap.size 3 1 (.slice p is.length c) is.length (is.map (Value.int .i64)) ∧ OwnM w.heap.size w' v' L ∧ Below w.heap.size w w' :=
  take_both i (rTakeQueue_no h hh i) (fun j hq hj => rTakeQueue_yes h hh j hq hj) hM hL hE

theorem qAdd_at {lo hi lo' hi' : Nat} {w : World} {v u : Value} {ms : List Mg} {is : List Int} (h : RowM lo hi w v ms) (hh : hi ≤ w.heap.size) (hu : RowI lo' hi' w u is) (hh' : hi' ≤ w.heap.size) (n a b k tk tc tu tx : Int) (tg g : Bool) {L : List Mg} {E : Int}
    (hE : adE ms ⟨n, a, b, is, k, ⟨tk, tc, tu, tx, tg⟩, g⟩ = E) (hL : adL ms ⟨n, a, b, is, k, ⟨tk, tc, tu, tx, tg⟩, g⟩ = L) :
    Calls Try.prog 9 #[v, .agg #[.int .i64 n, .int .i64 a, .int .i64 b, u, .int .i64 k, .int .i64 tk, .int .i64 tc, .int .i64 tu, .int .i64 tx, .bool tg, .bool g]] w fun e w' =>
      ∃ v', e = .returned (.tuple #[v', .int .i64 E]) ∧ OwnM w.heap.size w' v' L ∧ Below w.heap.size w w' := hE ▸ hL ▸ qAdd_any h hh hu hh' n a b k tk tc tu tx tg g

theorem sameMsgs_at {lo hi lo' hi' : Nat} {w : World} {v u : Value} {ms ns : List Mg} (h : RowM lo hi w v ms) (hh : hi ≤ w.heap.size) (h' : RowM lo' hi' w u ns) (hh' : hi' ≤ w.heap.size) {r : Bool} (hr : decide (ms = ns) = r) :
    Calls Try.prog 13 #[v, u] w fun e w' => e = .returned (.bool r) ∧ Below w.heap.size w w' := hr ▸ sameMsgs_any h hh h' hh'

/-- A list of messages, just built. -/
theorem RowM.lits {lo hi : Nat} {w : World} {b n : Nat} (xs : List MgO) {cs : Array Value} (hn : n = xs.length) (hc : cs.toList = xs.flatMap MvV) (hx : ∀ x ∈ xs, RowI lo hi w x.v x.is) (hm : n ≤ maxLen) (hb : b = w.heap.size) :
    RowM 0 (max hi (b + 1)) (w.alloc (.cells cs 29)) (.slice (some ⟨b, 0, none⟩) n n) (xs.map MgO.mg) := by
  subst hb hn
  have B := Box.new w cs 29
  refine ⟨xs, rfl, ⟨_, _, rfl, ⟨Nat.le_refl _, fun h => by cases h⟩, hm, fun _ => ⟨w.heap.size, 0, rfl, Nat.zero_le _, by omega, fun j hj => ?_⟩⟩, fun y hy => ?_⟩
  · rw [Nat.zero_add]
    refine ⟨(B.2.1 j).trans ?_, B.2.2 j⟩
    rw [← hc, Array.getElem?_toList]
  · exact ((hx y hy).alloc _).wide (Nat.zero_le _) (by omega)

end Go.Proofs.Ytnnhnidefjhakaa
