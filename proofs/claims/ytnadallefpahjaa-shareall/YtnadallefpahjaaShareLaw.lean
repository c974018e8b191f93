
/-
  What the statements about sharing ask first: that the program answers at some nodes at all; what stands in a list of messages without places.
-/
import Derived.Test.YtnadallefpahjaaShareA
import Derived.Test.YtnadallefpahjaaNodeLend
import Derived.Test.YtnadallefpahjaaCalm
import Derived.Test.YtnadallefpahjaaOld
namespace Go.Proofs.Ytnadallefpahjaa
open Go.ChangeShapes Go.WideShapes Go.ChangeAt Go.RowKit

/-- A message without places stands in eleven cells from o on. -/
def SmAt (w : World) (b o : Nat) (m : Mg) : Prop :=
  ∃ q c, w.cell? ⟨b, o, none⟩ = some (.int .i64 m.n) ∧ w.cell? ⟨b, o + 1, none⟩ = some (.int .i64 m.a) ∧ w.cell? ⟨b, o + 2, none⟩ = some (.int .i64 m.b) ∧ w.cell? ⟨b, o + 3, none⟩ = some (.slice q 0 c) ∧ w.cell? ⟨b, o + 4, none⟩ = some (.int .i64 m.k) ∧
    (w.cell? ⟨b, o + 5, none⟩ = some (.int .i64 m.t.k) ∧ w.cell? ⟨b, o + 6, none⟩ = some (.int .i64 m.t.c) ∧ w.cell? ⟨b, o + 7, none⟩ = some (.int .i64 m.t.u) ∧ w.cell? ⟨b, o + 8, none⟩ = some (.int .i64 m.t.x) ∧ w.cell? ⟨b, o + 9, none⟩ = some (.bool m.t.g)) ∧ w.cell? ⟨b, o + 10, none⟩ = some (.bool m.h) ∧ ∀ W : World, RowI 0 0 W (.slice q 0 c) []
theorem MgAt.sm {lo hi : Nat} {w : World} {b o : Nat} {x : MgO} {m : Mg} (h : MgAt lo hi w b o x) (e : x.mg = m) (hm : m.is = []) : SmAt w b o m := by
  subst e
  obtain ⟨hc, hi⟩ := h
  have e2 : x.is = [] := hm
  rw [e2] at hi
  obtain ⟨q, c, ev, hl1, hc1, -⟩ := hi
  refine ⟨q, c, hc 0 (by decide), hc 1 (by decide), hc 2 (by decide), (hc 3 (by decide)).trans (by simp [MvV, ev]), hc 4 (by decide), ⟨hc 5 (by decide), hc 6 (by decide), hc 7 (by decide), hc 8 (by decide), hc 9 (by decide)⟩, hc 10 (by decide), fun W => ⟨q, c, rfl, hl1, hc1, fun h => absurd rfl h⟩⟩
theorem RowM.sm {lo hi : Nat} {w : World} {v : Value} {ms : List Mg} (h : RowM lo hi w v ms) (hn : ∀ m ∈ ms, m.is = []) :
    ∃ p c, v = .slice p ms.length c ∧ (0 < ms.length → ∃ b off, p = some ⟨b, off, none⟩ ∧ lo ≤ b ∧ b < hi ∧ ∀ j (hj : j < ms.length), SmAt w b (off + j * 11) ms[j]) := by
  obtain ⟨p, c, e, -, f⟩ := h.at
  refine ⟨p, c, e, fun h0 => ?_⟩
  obtain ⟨b, off, ep, h1, h2, h3⟩ := f h0
  refine ⟨b, off, ep, h1, h2, fun j hj => ?_⟩
  obtain ⟨x, hx, hA⟩ := h3 j hj
  exact hA.sm hx (hn _ (List.getElem_mem hj))
theorem shL_is (i : Int) (ps : List Pe) (is : List Int) (ts : List It) : ∀ m ∈ shL i ps is ts, m.is = [] := by
  intro m hm
  obtain ⟨z, -, hz⟩ := List.mem_flatMap.1 hm
  split at hz
  · cases hz
  · rw [List.mem_singleton.1 hz]

section
variable {lo hi : Nat} {w : World} {p q r s : Value} {ps : List Pe} {is : List Int} {ts : List It} {ls : List Te}
theorem sOf_at {E : Int} {L : List Mg} (up : Bool) (i : Int) (h : NdAt lo hi w p q r s ps is ts ls) (hh : hi ≤ w.heap.size) (hE : (if (up && ndB ⟨up, i, ps, is, ts, ls⟩) = true then 0 else 1800) = E) (hL : (if (up && ndB ⟨up, i, ps, is, ts, ls⟩) = true then shL i ps is ts else []) = L) :
    Calls Try.prog 10 #[.agg #[.bool up, .int .i64 i, p, q, r, s]] w fun e w' => ∃ v, e = .returned (.tuple #[v, .int .i64 E]) ∧ OwnM w.heap.size w' v L ∧ Below w.heap.size w w' := by
  have := sOf_any up i h hh
  rw [hE, hL] at this
  exact this
end

def gsM : List Mg := [⟨1, 100, 101, [], 0, ⟨95, 1, 1, 1, false⟩, false⟩, ⟨1, 100, 101, [], 0, ⟨99, 3, 1, 3, false⟩, false⟩, ⟨1, 100, 90, [], 0, ⟨250, 2, 1, 2, false⟩, false⟩]

set_option maxHeartbeats 4000000 in
theorem awake18_any (w : World) :
    Calls Try.prog 16 #[] w fun e w' => e = .returned (.bool true) ∧ Below w.heap.size w w' := by
  have k0 := toHid (Below.refl w.heap.size w)
  have t1 := trivial
  go_enter Try.func16, Try.ntmps16
  go_upto_region 3 with (first
    | (go_at_call 21; refine (gNode_any _).mono ?_; rintro e wg ⟨ga, gb, gc, rfl, NG, hg⟩)
    | (go_at_call 10; clear t1; refine (sOf_at (E := 0) (L := gsM) true 100 NG (Nat.le_refl _) (by decide +kernel) (by decide +kernel)).mono ?_; rintro e w1 ⟨v1, rfl, O1, h1⟩
       have k1 := toHid ((k0.out.on hg).on h1)
       have O1' := toHid O1
       clear O1 NG hg h1)
    | (go_at_call 10; refine (sOf_at (lo := 0) (hi := 0) (E := 1800) (L := []) false 0 NdAt.nil0 (Nat.zero_le _) (by decide +kernel) (by decide +kernel)).mono ?_; rintro e w2 ⟨v2, rfl, O2, h2⟩
       have k2 := toHid (k1.out.on h2)
       have R1 := toHid (O1'.out.below h2).row
       clear O2 O1' h2))
  obtain ⟨p1, d1, rfl, hp1⟩ := R1.out.sm (ms := gsM) (by decide)
  obtain ⟨b1, f1, rfl, -, hb1, g1⟩ := hp1 (by decide)
  have G0 : SmAt w2 b1 f1 ⟨1, 100, 101, [], 0, ⟨95, 1, 1, 1, false⟩, false⟩ := g1 0 (by decide)
  have G1 : SmAt w2 b1 (f1 + 11) ⟨1, 100, 101, [], 0, ⟨99, 3, 1, 3, false⟩, false⟩ := g1 1 (by decide)
  have G2 : SmAt w2 b1 (f1 + 22) ⟨1, 100, 90, [], 0, ⟨250, 2, 1, 2, false⟩, false⟩ := g1 2 (by decide)
  have hl : (gsM.length : Int) = 3 := rfl
  clear g1 hp1 R1
  obtain ⟨-, -, -, -, u2, -⟩ := G0
  obtain ⟨-, -, -, -, v2', -⟩ := G1
  obtain ⟨-, -, -, x1, x2, -, -, ⟨x5, x6, x7, x8, x9⟩, -⟩ := G2
  dsimp only at u2 v2' x1 x2 x5 x6 x7 x8 x9
  have HI := toHid (fun W : World => gIt_any 250 2 W)
  go_upto_region 5 with (fail)
  refine wp_region_below (by kernel_rfl) (by kernel_rfl) ?_
  repeat (first
    | go_big_quiet_skip
    | (go_big_quiet_want; go_big_quiet_op; go_big_quiet_on)
    | (refine wpQuiet_step (fun K hK => ?_)
       go_simp
       first
         | (refine hK _ ?_; clear hK K)
         | (refine ⟨_, fun w' hw' => rfl, hK _ ?_⟩; clear hK K)
         | (apply Exists.intro
            refine ⟨fun w' hw' => ?_, hK _ ?_⟩
            · (obtain ⟨hc', hf'⟩ := bcell hw'
               first
                 | (go_simp; rfl)
                 | (go_at_call 22; refine (HI.out _).mono ?_; rintro e w9 ⟨rfl, h9⟩; exact ⟨rfl, hw'.on h9⟩)
                 | (go_at_call 13; refine (num_any _ _).mono ?_; rintro e w9 ⟨rfl, hw9⟩; subst w9; exact ⟨rfl, hw'⟩))
            clear hK K)))
  refine wpQuiet_nil ?_
  intro wc hc0
  go_wp2
  go_ret
  exact ⟨rfl, k2.out.on hc0⟩

end Go.Proofs.Ytnadallefpahjaa
