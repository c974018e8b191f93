
/-
  Contracts of package store's withBest and withNew, at every list of items: what they return, in new memory, and that no old memory has turned.
-/
import Derived.Test.YtgakfbdaiogflaaStoreB
import Derived.Test.YtgakfbdaiogflaaRowSet
import Derived.WalkSpells
import Derived.Deep.RegionHeld3
namespace Go.Proofs.Ytgakfbdaiogflaa
open Go.ChangeShapes Go.WideShapes Go.ChangeAt Go.RowKit

set_option maxHeartbeats 400000 in
theorem sClone_any {lo hi : Nat} {w : World} {v : Value} {xs : List It} (hx : RowT lo hi w v xs) (h47 : xs.length * 40 ≤ 140737488355328) :
    Calls Try.prog 83 #[v] w fun e w' => ∃ u, e = .returned u ∧ w'.ownsRow w.heap.size 47 5 u xs.length (xs.flatMap ItV) ∧ Below w.heap.size w w' := by
  have hx' := hx.alloc (.cells #[] 47) ItV_len
  obtain ⟨p, c, rfl, ⟨hl, hpn⟩, hc, hpx⟩ := hx
  have q22 : ∀ (w : World) (a : Option Addr) (n c n' c' : Nat), (binOp .eql 26 (.slice a n c) (.slice none n' c')).run Try.prog w = .ok (.bool a.isNone) w := fun w a n c n' c' => Lib.run_eql_slice_nil w _ _ a n c n' c' Try.underlying26
  cases p with
  | none =>
    have hn : xs = [] := by
      by_cases e : xs = []
      · exact e
      · obtain ⟨b, off, h0, _⟩ := hpx e
        cases h0
    subst hn
    clear hx' hpx
    go_enter Try.func83, Try.ntmps83
    go_wp2
    go_ret
    exact ⟨_, rfl, ⟨rfl, .inl ⟨rfl, rfl⟩⟩, Below.refl _ _⟩
  | some ad =>
    clear hpx
    go_enter Try.func83, Try.ntmps83
    go_wp2_with (at_builtin; refine app_rowT rfl (.tmp 5) (.tmp 6) rfl w.heap.size _ 0 [] rfl (World.ownsRow_lit w #[] 0 (Nat.le_refl _) (Nat.zero_le _) rfl) lo hi _ xs rfl hx' (by omega) (by simp) ?_; intro v' w' hown hgr hbel)
    go_ret
    exact ⟨_, rfl, by simpa using hown, ((Below.refl _ w).alloc (Nat.le_refl _) _).trans hbel⟩

set_option maxHeartbeats 400000 in
theorem sBest_any {lo hi : Nat} {w : World} {v : Value} {xs : List It} (hx : RowT lo hi w v xs) (hh : hi ≤ w.heap.size) (hl : xs.length ≤ 16) (m : Nat) (hm : m < xs.length) (k c u y : Int) (g : Bool) :
    Calls Try.prog 62 #[v, .int .i64 m, .agg #[.int .i64 k, .int .i64 c, .int .i64 u, .int .i64 y, .bool g]] w fun e w' => ∃ o, e = .returned o ∧ RowT w.heap.size w'.heap.size w' o (xs.set m (bstI xs[m] ⟨k, c, u, y, g⟩)) ∧ Below w.heap.size w w' := by
  have HC : Hid (∀ w', Below w.heap.size w w' → _) := fun w' hb => sClone_any (hx.below hb hh) (by omega)
  obtain ⟨p, cc, rfl, hn, hp⟩ := hx.its hh
  obtain ⟨b, off, rfl, _, hb, hc⟩ := hp (by omega)
  have HI : Hid (∀ w', Below w.heap.size w w' → ItAt w' b (off + m * 5) xs[m]) := fun w' hw => by have := (hc _ hm).below hw hb; rwa [getD_at _ _ hm] at this
  have hm' : (m : Int) < (xs.length : Int) := by omega
  clear hp hc
  have HB := fun (w : World) => iBest_any xs[m].k xs[m].c xs[m].u xs[m].x xs[m].g k c u y g w
  have E0 : (⟨xs[m].k, xs[m].c, xs[m].u, xs[m].x, xs[m].g⟩ : It) = xs[m] := rfl
  rw [E0] at HB
  clear E0
  generalize xs[m] = a at *
  generalize bstI a ⟨k, c, u, y, g⟩ = z at *
  generalize bstE a ⟨k, c, u, y, g⟩ = ze at *
  obtain ⟨ak, ac, au, ax, ag⟩ := a
  obtain ⟨zk, zc, zu, zx, zg⟩ := z
  dsimp only at HB
  replace HB := toHid HB
  go_enter Try.func62, Try.ntmps62
  go_wp2_with (first
    | (go_at_call 83; refine (HC.out _ ((Below.refl _ w).onA _)).mono ?_; rintro e w1 ⟨o, rfl, own, hb1⟩
       have bx1 := (Box.new w _ _).below hb1))
  have hB1 : Below w.heap.size w w1 := ((Below.refl _ w).onA _).on hb1
  have hcf : ∀ gb cp, o = .slice (some ⟨gb, 0, none⟩) xs.length cp → ∀ j, j < xs.length * 5 → w1.cell? ⟨gb, 0 + j, none⟩ = (xs.flatMap ItV)[j]? ∧ w1.frozen? ⟨gb, 0 + j, none⟩ = false := by
    intro gb cp e j hj
    subst e
    rw [Nat.zero_add]
    exact ⟨own.cellAt j hj, own.frozenAt j⟩
  rcases own.2 with ⟨_, e0⟩ | ⟨gb, cp, cur, rfl, hg, hh1, hle, hcap, _⟩
  · omega
  replace hcf := hcf gb cp rfl
  have hgN : w.heap.size < gb := Nat.lt_of_succ_le (by simpa using hg)
  have hgw : gb < w1.heap.size := (Array.getElem?_eq_some_iff.1 hh1).1
  obtain ⟨c1, c2, c3, c4, c5⟩ := HI.out _ hB1
  have hGc := itsAt hcf m hm
  have hGf : ∀ i, i < 5 → w1.frozen? ⟨gb, m * 5 + i, none⟩ = false := fun i hi => by have := (hcf (m * 5 + i) (by omega)).2; rwa [Nat.zero_add] at this
  rw [Nat.zero_add] at hGc
  obtain ⟨g1, g2, g3, g4, g5⟩ := hGc
  have f1 := hGf 0 (by omega)
  have f2 := hGf 1 (by omega)
  have f3 := hGf 2 (by omega)
  have f4 := hGf 3 (by omega)
  have f5 := hGf 4 (by omega)
  dsimp only at c1 c2 c3 c4 c5
  have hN1 : gb ≠ b := by omega
  have hN2 : gb ≠ w.heap.size := by omega
  have hbw : b < w1.heap.size := Nat.lt_of_lt_of_le hb hB1.size
  replace hcf := toHid hcf
  have HS : Hid (∀ w', Below w1.heap.size w1 w' → RowT w.heap.size (put5 w' gb (m * 5) ⟨zk, zc, zu, zx, zg⟩).heap.size (put5 w' gb (m * 5) ⟨zk, zc, zu, zx, zg⟩) (.slice (some ⟨gb, 0, none⟩) xs.length cp) (xs.set m ⟨zk, zc, zu, zx, zg⟩)) := fun w' hw => by
    have h5 := its_put5 (w := w') (b := gb) (off := 0) (zs := xs) (fun j hj => ⟨(hw.cell (p := ⟨gb, 0 + j, none⟩) hgw).trans (hcf.out j hj).1, (hw.frozen (p := ⟨gb, 0 + j, none⟩) hgw).trans (hcf.out j hj).2⟩) m hm ⟨zk, zc, zu, zx, zg⟩
    simp only [Nat.zero_add] at h5
    refine ⟨some ⟨gb, 0, none⟩, cp, by rw [List.length_set], ⟨by rw [List.length_set]; exact hle, fun h => by cases h⟩, hcap, fun _ => ⟨gb, 0, rfl, by omega, by rw [put5_size]; have := hw.size; omega, ?_⟩⟩
    simpa only [Nat.zero_add] using h5
  clear own hx HC hcf hGf
  generalize xs[m] = q at g1 g2 g3 g4 g5
  clear hm
  generalize xs.length = n at *
  have s0 := bx1.2.1 0
  have s1 := bx1.2.1 1
  have s2 := bx1.2.1 2
  have s3 := bx1.2.1 3
  have s4 := bx1.2.1 4
  simp at s0 s1 s2 s3 s4
  go_wp2
  go_region_held3 (fun w' => w'.cell? ⟨b, off + m * 5, none⟩ = some (.int .i64 ak) ∧ w'.cell? ⟨b, off + m * 5 + 1, none⟩ = some (.int .i64 ac) ∧ w'.cell? ⟨b, off + m * 5 + 2, none⟩ = some (.int .i64 au) ∧ w'.cell? ⟨b, off + m * 5 + 3, none⟩ = some (.int .i64 ax) ∧ w'.cell? ⟨b, off + m * 5 + 4, none⟩ = some (.bool ag) ∧ w'.cell? ⟨w.heap.size, 0, none⟩ = some (.int .i64 k) ∧ w'.cell? ⟨w.heap.size, 1, none⟩ = some (.int .i64 c) ∧ w'.cell? ⟨w.heap.size, 2, none⟩ = some (.int .i64 u) ∧ w'.cell? ⟨w.heap.size, 3, none⟩ = some (.int .i64 y) ∧ w'.cell? ⟨w.heap.size, 4, none⟩ = some (.bool g)) (go_keep) (first
    | (go_at_call 84; refine (HB.out _).mono ?_; rintro e w5 ⟨rfl, hb5⟩
       have hbr5 : Below w1.heap.size w1 w5 := by first | exact ((Below.refl _ w1).onD _).on hb5 | exact hb5
       have q1 := (hbr5.cell (p := ⟨b, off + m * 5, none⟩) hbw).trans c1
       have q2 := (hbr5.cell (p := ⟨b, off + m * 5 + 1, none⟩) hbw).trans c2
       have q3 := (hbr5.cell (p := ⟨b, off + m * 5 + 2, none⟩) hbw).trans c3
       have q4 := (hbr5.cell (p := ⟨b, off + m * 5 + 3, none⟩) hbw).trans c4
       have q5 := (hbr5.cell (p := ⟨b, off + m * 5 + 4, none⟩) hbw).trans c5
       have r1 := (hbr5.cell (p := ⟨gb, m * 5, none⟩) hgw).trans g1
       have r2 := (hbr5.cell (p := ⟨gb, m * 5 + 1, none⟩) hgw).trans g2
       have r3 := (hbr5.cell (p := ⟨gb, m * 5 + 2, none⟩) hgw).trans g3
       have r4 := (hbr5.cell (p := ⟨gb, m * 5 + 3, none⟩) hgw).trans g4
       have r5 := (hbr5.cell (p := ⟨gb, m * 5 + 4, none⟩) hgw).trans g5
       have p1 := (hbr5.frozen (p := ⟨gb, m * 5, none⟩) hgw).trans f1
       have p2 := (hbr5.frozen (p := ⟨gb, m * 5 + 1, none⟩) hgw).trans f2
       have p3 := (hbr5.frozen (p := ⟨gb, m * 5 + 2, none⟩) hgw).trans f3
       have p4 := (hbr5.frozen (p := ⟨gb, m * 5 + 3, none⟩) hgw).trans f4
       have p5 := (hbr5.frozen (p := ⟨gb, m * 5 + 4, none⟩) hgw).trans f5
       have t0 := (hbr5.cell (p := ⟨w.heap.size, 0, none⟩) bx1.1).trans s0
       have t1 := (hbr5.cell (p := ⟨w.heap.size, 1, none⟩) bx1.1).trans s1
       have t2 := (hbr5.cell (p := ⟨w.heap.size, 2, none⟩) bx1.1).trans s2
       have t3 := (hbr5.cell (p := ⟨w.heap.size, 3, none⟩) bx1.1).trans s3
       have t4 := (hbr5.cell (p := ⟨w.heap.size, 4, none⟩) bx1.1).trans s4))
  go_wp2
  go_ret
  exact ⟨_, rfl, HS.out w5 hbr5, put5_below (hB1.on hbr5) (Nat.le_of_lt hgN) ⟨zk, zc, zu, zx, zg⟩⟩

set_option maxHeartbeats 400000 in
theorem sNew_any {lo hi : Nat} {w : World} {v : Value} {xs : List It} (hx : RowT lo hi w v xs) (hh : hi ≤ w.heap.size) (hl : xs.length ≤ 16) (m : Nat) (hm : m ≤ xs.length) (k c u y : Int) (g : Bool) :
    Calls Try.prog 63 #[v, .int .i64 m, .agg #[.int .i64 k, .int .i64 c, .int .i64 u, .int .i64 y, .bool g]] w fun e w' => ∃ o, e = .returned o ∧ RowT w.heap.size w'.heap.size w' o (xs.take m ++ (⟨k, c, u, y, g⟩ :: xs.drop m)) ∧ Below w.heap.size w w' := by
  obtain ⟨i0, hi, hz0, hz1, hz2⟩ := info_parts Try.infoIt
  rcases Nat.eq_zero_or_pos xs.length with h0 | h0
  · obtain rfl : xs = [] := List.length_eq_zero_iff.1 h0
    obtain rfl : m = 0 := by simpa using hm
    obtain ⟨p, cc, rfl, ⟨hcc, hpn⟩, hcm, -⟩ := hx
    unfold maxLen at hcm
    cases p with
    | none =>
      obtain rfl := hpn rfl
      go_enter Try.func63, Try.ntmps63
      go_wp2_with (at_make; refine wpList_make_own _ rfl _ _ 26 rfl (w.heap.size + 1) 47 i0 _ 5 Try.underlying26 hi hz0 hz1 _ _ _ 1 rfl rfl (by simp) (by rw [hz2]; omega) (by unfold maxLen; omega) (by simp) ?_)
      intro w1 hown1 hgr1
      have hA1 : Below (w.heap.size + 1) (w.alloc (.cells #[.int .i64 k, .int .i64 c, .int .i64 u, .int .i64 y, .bool g] 47)) w1 := (Below.refl _ _).grown hgr1 (by simp) (fun j hj => by cases hj)
      clear hgr1
      have hown0 : w1.ownsRow (w.heap.size + 1) 47 5 (.slice (some ⟨w.heap.size + 1, 0, none⟩) 0 1) 0 (([] : List It).flatMap ItV) := by simpa using hown1
      clear hown1
      have hW1 : w.heap.size + 1 ≤ w1.heap.size := by have := hA1.size; simpa using this
      replace hown0 := toHid hown0
      go_wp2_with (at_builtin; refine app_rowT rfl (.tmp 12) (.tmp 15) rfl (w.heap.size + 1) _ 0 [] rfl hown0.out 0 0 _ [] rfl RowC.nil0 (by simp) hW1 ?_)
      intro v2 w2 hown2 hgr2 hA2
      clear hgr2
      replace hA2 := hA1.trans hA2
      have hown2' : Hid (w2.ownsRow (w.heap.size + 1) 47 5 v2 0 (([] : List It).flatMap ItV)) := toHid (by simpa using hown2)
      clear hown2
      have hW2 : w.heap.size + 1 ≤ w2.heap.size := by have := hA2.size; simpa using this
      obtain ⟨x1, x2, x3⟩ := (Box.new w _ _).below (w' := w2) (by simpa using hA2)
      go_wp2_with (at_builtin; refine app_its rfl (.tmp 17) (.tmp 19) rfl (w.heap.size + 1) _ _ _ rfl (hown2'.out.alloc _) ⟨w2.heap.size, 0, none⟩ 1 1 [⟨k, c, u, y, g⟩] rfl rfl (fun j hj => ?_) (by simp) (by simp; omega) ?_; · (rw [add_plain, Nat.zero_add]; refine ((Box.newAt _ _ rfl).2.1 j).trans ?_; simp [ItV]))
      intro v3 w3 hown3 hgr3 hA3
      clear hgr3 x1 x2 x3
      replace hA3 := (hA2.alloc hW2 _).trans hA3
      have hown3' : Hid (w3.ownsRow (w.heap.size + 1) 47 5 v3 1 (([⟨k, c, u, y, g⟩] : List It).flatMap ItV)) := toHid (by simpa using hown3)
      clear hown3
      have hW3 : w.heap.size + 1 ≤ w3.heap.size := by have := hA3.size; simpa using this
      go_wp2_with (at_builtin; refine app_rowT rfl (.tmp 21) (.tmp 24) rfl (w.heap.size + 1) _ _ _ rfl hown3'.out 0 0 _ [] rfl RowC.nil0 (by simp) hW3 ?_)
      intro v4 w4 hown4 hgr4 hA4
      clear hgr4
      replace hA4 := hA3.trans hA4
      have hB4 : Below w.heap.size w w4 := ((Below.refl _ w).onA _).trans (hA4.mono (Nat.le_succ _))
      have hown4' : Hid (w4.ownsRow (w.heap.size + 1) 47 5 v4 1 (([⟨k, c, u, y, g⟩] : List It).flatMap ItV)) := toHid (by simpa using hown4)
      clear hown4
      go_wp2
      go_ret
      refine ⟨_, rfl, ?_, hB4⟩
      have R := (RowC.of_owns (by omega) ItV_len hown4'.out).wide (Nat.le_succ _) (Nat.le_refl _)
      simpa using R
    | some ad =>
      rcases Nat.eq_zero_or_pos cc with hc0 | hc0
      · subst hc0
        go_enter Try.func63, Try.ntmps63
        go_wp2_with (at_make; refine wpList_make_own _ rfl _ _ 26 rfl (w.heap.size + 1) 47 i0 _ 5 Try.underlying26 hi hz0 hz1 _ _ _ 1 rfl rfl (by simp) (by rw [hz2]; omega) (by unfold maxLen; omega) (by simp) ?_)
        intro w1 hown1 hgr1
        have hA1 : Below (w.heap.size + 1) (w.alloc (.cells #[.int .i64 k, .int .i64 c, .int .i64 u, .int .i64 y, .bool g] 47)) w1 := (Below.refl _ _).grown hgr1 (by simp) (fun j hj => by cases hj)
        clear hgr1
        have hown0 : w1.ownsRow (w.heap.size + 1) 47 5 (.slice (some ⟨w.heap.size + 1, 0, none⟩) 0 1) 0 (([] : List It).flatMap ItV) := by simpa using hown1
        clear hown1
        have hW1 : w.heap.size + 1 ≤ w1.heap.size := by have := hA1.size; simpa using this
        replace hown0 := toHid hown0
        go_wp2_with (at_builtin; refine app_rowT rfl (.tmp 12) (.tmp 15) rfl (w.heap.size + 1) _ 0 [] rfl hown0.out 0 0 _ [] rfl (RowC.nil (by unfold maxLen; omega) (fun h => by cases h)) (by simp) hW1 ?_)
        intro v2 w2 hown2 hgr2 hA2
        clear hgr2
        replace hA2 := hA1.trans hA2
        have hown2' : Hid (w2.ownsRow (w.heap.size + 1) 47 5 v2 0 (([] : List It).flatMap ItV)) := toHid (by simpa using hown2)
        clear hown2
        have hW2 : w.heap.size + 1 ≤ w2.heap.size := by have := hA2.size; simpa using this
        obtain ⟨x1, x2, x3⟩ := (Box.new w _ _).below (w' := w2) (by simpa using hA2)
        go_wp2_with (at_builtin; refine app_its rfl (.tmp 17) (.tmp 19) rfl (w.heap.size + 1) _ _ _ rfl (hown2'.out.alloc _) ⟨w2.heap.size, 0, none⟩ 1 1 [⟨k, c, u, y, g⟩] rfl rfl (fun j hj => ?_) (by simp) (by simp; omega) ?_; · (rw [add_plain, Nat.zero_add]; refine ((Box.newAt _ _ rfl).2.1 j).trans ?_; simp [ItV]))
        intro v3 w3 hown3 hgr3 hA3
        clear hgr3 x1 x2 x3
        replace hA3 := (hA2.alloc hW2 _).trans hA3
        have hown3' : Hid (w3.ownsRow (w.heap.size + 1) 47 5 v3 1 (([⟨k, c, u, y, g⟩] : List It).flatMap ItV)) := toHid (by simpa using hown3)
        clear hown3
        have hW3 : w.heap.size + 1 ≤ w3.heap.size := by have := hA3.size; simpa using this
        go_wp2_with (at_builtin; refine app_rowT rfl (.tmp 21) (.tmp 24) rfl (w.heap.size + 1) _ _ _ rfl hown3'.out 0 0 _ [] rfl (RowC.nil (by unfold maxLen; omega) (fun h => by cases h)) (by simp) hW3 ?_)
        intro v4 w4 hown4 hgr4 hA4
        clear hgr4
        replace hA4 := hA3.trans hA4
        have hB4 : Below w.heap.size w w4 := ((Below.refl _ w).onA _).trans (hA4.mono (Nat.le_succ _))
        have hown4' : Hid (w4.ownsRow (w.heap.size + 1) 47 5 v4 1 (([⟨k, c, u, y, g⟩] : List It).flatMap ItV)) := toHid (by simpa using hown4)
        clear hown4
        go_wp2
        go_ret
        refine ⟨_, rfl, ?_, hB4⟩
        have R := (RowC.of_owns (by omega) ItV_len hown4'.out).wide (Nat.le_succ _) (Nat.le_refl _)
        simpa using R
      · have hc1 : ¬ cc = 0 := by omega
        go_enter Try.func63, Try.ntmps63
        go_wp2_with (at_make; refine wpList_make_own _ rfl _ _ 26 rfl (w.heap.size + 1) 47 i0 _ 5 Try.underlying26 hi hz0 hz1 _ _ _ 1 rfl rfl (by simp) (by rw [hz2]; omega) (by unfold maxLen; omega) (by simp) ?_)
        intro w1 hown1 hgr1
        have hA1 : Below (w.heap.size + 1) (w.alloc (.cells #[.int .i64 k, .int .i64 c, .int .i64 u, .int .i64 y, .bool g] 47)) w1 := (Below.refl _ _).grown hgr1 (by simp) (fun j hj => by cases hj)
        clear hgr1
        have hown0 : w1.ownsRow (w.heap.size + 1) 47 5 (.slice (some ⟨w.heap.size + 1, 0, none⟩) 0 1) 0 (([] : List It).flatMap ItV) := by simpa using hown1
        clear hown1
        have hW1 : w.heap.size + 1 ≤ w1.heap.size := by have := hA1.size; simpa using this
        replace hown0 := toHid hown0
        go_wp2_with (at_builtin; refine app_rowT rfl (.tmp 12) (.tmp 15) rfl (w.heap.size + 1) _ 0 [] rfl hown0.out 0 0 _ [] rfl (RowC.nil (by unfold maxLen; omega) (fun h => by cases h)) (by simp) hW1 ?_)
        intro v2 w2 hown2 hgr2 hA2
        clear hgr2
        replace hA2 := hA1.trans hA2
        have hown2' : Hid (w2.ownsRow (w.heap.size + 1) 47 5 v2 0 (([] : List It).flatMap ItV)) := toHid (by simpa using hown2)
        clear hown2
        have hW2 : w.heap.size + 1 ≤ w2.heap.size := by have := hA2.size; simpa using this
        obtain ⟨x1, x2, x3⟩ := (Box.new w _ _).below (w' := w2) (by simpa using hA2)
        go_wp2_with (at_builtin; refine app_its rfl (.tmp 17) (.tmp 19) rfl (w.heap.size + 1) _ _ _ rfl (hown2'.out.alloc _) ⟨w2.heap.size, 0, none⟩ 1 1 [⟨k, c, u, y, g⟩] rfl rfl (fun j hj => ?_) (by simp) (by simp; omega) ?_; · (rw [add_plain, Nat.zero_add]; refine ((Box.newAt _ _ rfl).2.1 j).trans ?_; simp [ItV]))
        intro v3 w3 hown3 hgr3 hA3
        clear hgr3 x1 x2 x3
        replace hA3 := (hA2.alloc hW2 _).trans hA3
        have hown3' : Hid (w3.ownsRow (w.heap.size + 1) 47 5 v3 1 (([⟨k, c, u, y, g⟩] : List It).flatMap ItV)) := toHid (by simpa using hown3)
        clear hown3
        have hW3 : w.heap.size + 1 ≤ w3.heap.size := by have := hA3.size; simpa using this
        go_wp2_with (at_builtin; refine app_rowT rfl (.tmp 21) (.tmp 24) rfl (w.heap.size + 1) _ _ _ rfl hown3'.out 0 0 _ [] rfl (RowC.nil (by unfold maxLen; omega) (fun h => by cases h)) (by simp) hW3 ?_)
        intro v4 w4 hown4 hgr4 hA4
        clear hgr4
        replace hA4 := hA3.trans hA4
        have hB4 : Below w.heap.size w w4 := ((Below.refl _ w).onA _).trans (hA4.mono (Nat.le_succ _))
        have hown4' : Hid (w4.ownsRow (w.heap.size + 1) 47 5 v4 1 (([⟨k, c, u, y, g⟩] : List It).flatMap ItV)) := toHid (by simpa using hown4)
        clear hown4
        go_wp2
        go_ret
        refine ⟨_, rfl, ?_, hB4⟩
        have R := (RowC.of_owns (by omega) ItV_len hown4'.out).wide (Nat.le_succ _) (Nat.le_refl _)
        simpa using R
  · have hx0 := hx
    obtain ⟨p, cc, rfl, ⟨hcc, _⟩, hcm, hp⟩ := hx
    unfold maxLen at hcm
    obtain ⟨b, off, rfl, _, _, _⟩ := hp (by intro e; rw [e] at h0; exact absurd h0 (Nat.lt_irrefl _))
    have RT : Hid (∀ w', Below w.heap.size w w' → _) := fun w' hb => (hx0.below hb hh).take ItV_len m hm
    have RD : Hid (∀ w', Below w.heap.size w w' → _) := fun w' hb => (hx0.below hb hh).drop ItV_len m hm
    have hm1 : (m : Int) ≤ (xs.length : Int) := by omega
    have hm2 : (m : Int) ≤ (cc : Int) := by omega
    have htl : (xs.take m).length = m := by rw [List.length_take]; omega
    have hdl : (xs.drop m).length = xs.length - m := List.length_drop
    replace htl := toHid htl
    replace hdl := toHid hdl
    clear hp
    by_cases hcm0 : cc = m
    · have hdr : Hid (xs.drop m = []) := toHid (List.drop_eq_nil_of_le (by omega))
      subst hcm0
      clear RD
      go_enter Try.func63, Try.ntmps63
      go_wp2_with (at_make; refine wpList_make_own _ rfl _ _ 26 rfl (w.heap.size + 1) 47 i0 _ 5 Try.underlying26 hi hz0 hz1 _ _ _ (xs.length + 1) rfl rfl (by simp) (by rw [hz2]; omega) (by unfold maxLen; omega) (by simp) ?_)
      intro w1 hown1 hgr1
      have hA1 : Below (w.heap.size + 1) (w.alloc (.cells #[.int .i64 k, .int .i64 c, .int .i64 u, .int .i64 y, .bool g] 47)) w1 := (Below.refl _ _).grown hgr1 (by simp) (fun j hj => by cases hj)
      clear hgr1
      have hown0 : w1.ownsRow (w.heap.size + 1) 47 5 (.slice (some ⟨w.heap.size + 1, 0, none⟩) 0 (xs.length + 1)) 0 (([] : List It).flatMap ItV) := by simpa using hown1
      clear hown1
      have hB1 : Below w.heap.size w w1 := ((Below.refl _ w).onA _).trans (hA1.mono (Nat.le_succ _))
      have hW1 : w.heap.size + 1 ≤ w1.heap.size := by have := hA1.size; simpa using this
      have rT := RT.out w1 hB1
      go_wp2_with (at_builtin; refine app_rowT rfl (.tmp 12) (.tmp 15) rfl (w.heap.size + 1) _ 0 [] rfl hown0 _ _ _ _ rfl rT (by have := htl.out; omega) hW1 ?_)
      intro v2 w2 hown2 hgr2 hA2
      clear hgr2 rT
      replace hA2 := hA1.trans hA2
      have hB2 : Below w.heap.size w w2 := ((Below.refl _ w).onA _).trans (hA2.mono (Nat.le_succ _))
      have hW2 : w.heap.size + 1 ≤ w2.heap.size := by have := hA2.size; simpa using this
      obtain ⟨x1, x2, x3⟩ := (Box.new w _ _).below (w' := w2) (by simpa using hA2)
      go_wp2_with (at_builtin; refine app_its rfl (.tmp 17) (.tmp 19) rfl (w.heap.size + 1) _ _ _ rfl (hown2.alloc _) ⟨w2.heap.size, 0, none⟩ 1 1 [⟨k, c, u, y, g⟩] rfl rfl (fun j hj => ?_) (by have := htl.out; omega) (by simp; omega) ?_; · (rw [add_plain, Nat.zero_add]; refine ((Box.newAt _ _ rfl).2.1 j).trans ?_; simp [ItV]))
      intro v3 w3 hown3 hgr3 hA3
      clear hgr3 x1 x2 x3
      have hown3' : Hid (w3.ownsRow (w.heap.size + 1) 47 5 v3 (cc + 1) ((xs.take cc ++ ([⟨k, c, u, y, g⟩] : List It)).flatMap ItV)) := toHid (by simpa using hown3)
      clear hown3
      replace hA3 := (hA2.alloc hW2 _).trans hA3
      have hB3 : Below w.heap.size w w3 := ((Below.refl _ w).onA _).trans (hA3.mono (Nat.le_succ _))
      have hW3 : w.heap.size + 1 ≤ w3.heap.size := by have := hA3.size; simpa using this
      go_wp2_with (at_builtin; refine app_rowT rfl (.tmp 21) (.tmp 24) rfl (w.heap.size + 1) _ _ _ rfl hown3'.out 0 0 _ [] rfl (RowC.nil (Nat.zero_le _) (fun _ => rfl)) (by simp; omega) hW3 ?_)
      intro v4 w4 hown4 hgr4 hA4
      clear hgr4
      replace hA4 := hA3.trans hA4
      have hB4 : Below w.heap.size w w4 := ((Below.refl _ w).onA _).trans (hA4.mono (Nat.le_succ _))
      have hown4' : Hid (w4.ownsRow (w.heap.size + 1) 47 5 v4 (cc + 1) ((xs.take cc ++ ([⟨k, c, u, y, g⟩] : List It)).flatMap ItV)) := toHid (by simpa using hown4)
      clear hown4
      go_wp2
      go_ret
      refine ⟨_, rfl, ?_, hB4⟩
      have R := (RowC.of_owns (by omega) ItV_len hown4'.out).wide (Nat.le_succ _) (Nat.le_refl _)
      rw [hdr.out]
      exact R
    · have hcm1 : ¬ (cc : Int) = (m : Int) := by omega
      have hcm2 : ¬ cc - m = 0 := by omega
      go_enter Try.func63, Try.ntmps63
      go_wp2_with (at_make; refine wpList_make_own _ rfl _ _ 26 rfl (w.heap.size + 1) 47 i0 _ 5 Try.underlying26 hi hz0 hz1 _ _ _ (xs.length + 1) rfl rfl (by simp) (by rw [hz2]; omega) (by unfold maxLen; omega) (by simp) ?_)
      intro w1 hown1 hgr1
      have hA1 : Below (w.heap.size + 1) (w.alloc (.cells #[.int .i64 k, .int .i64 c, .int .i64 u, .int .i64 y, .bool g] 47)) w1 := (Below.refl _ _).grown hgr1 (by simp) (fun j hj => by cases hj)
      clear hgr1
      have hown0 : w1.ownsRow (w.heap.size + 1) 47 5 (.slice (some ⟨w.heap.size + 1, 0, none⟩) 0 (xs.length + 1)) 0 (([] : List It).flatMap ItV) := by simpa using hown1
      clear hown1
      have hB1 : Below w.heap.size w w1 := ((Below.refl _ w).onA _).trans (hA1.mono (Nat.le_succ _))
      have hW1 : w.heap.size + 1 ≤ w1.heap.size := by have := hA1.size; simpa using this
      have rT := RT.out w1 hB1
      go_wp2_with (at_builtin; refine app_rowT rfl (.tmp 12) (.tmp 15) rfl (w.heap.size + 1) _ 0 [] rfl hown0 _ _ _ _ rfl rT (by have := htl.out; omega) hW1 ?_)
      intro v2 w2 hown2 hgr2 hA2
      clear hgr2 rT
      replace hA2 := hA1.trans hA2
      have hB2 : Below w.heap.size w w2 := ((Below.refl _ w).onA _).trans (hA2.mono (Nat.le_succ _))
      have hW2 : w.heap.size + 1 ≤ w2.heap.size := by have := hA2.size; simpa using this
      obtain ⟨x1, x2, x3⟩ := (Box.new w _ _).below (w' := w2) (by simpa using hA2)
      go_wp2_with (at_builtin; refine app_its rfl (.tmp 17) (.tmp 19) rfl (w.heap.size + 1) _ _ _ rfl (hown2.alloc _) ⟨w2.heap.size, 0, none⟩ 1 1 [⟨k, c, u, y, g⟩] rfl rfl (fun j hj => ?_) (by have := htl.out; omega) (by simp; omega) ?_; · (rw [add_plain, Nat.zero_add]; refine ((Box.newAt _ _ rfl).2.1 j).trans ?_; simp [ItV]))
      intro v3 w3 hown3 hgr3 hA3
      clear hgr3 x1 x2 x3
      have hown3' : Hid (w3.ownsRow (w.heap.size + 1) 47 5 v3 (m + 1) ((xs.take m ++ ([⟨k, c, u, y, g⟩] : List It)).flatMap ItV)) := toHid (by simpa using hown3)
      clear hown3
      replace hA3 := (hA2.alloc hW2 _).trans hA3
      have hB3 : Below w.heap.size w w3 := ((Below.refl _ w).onA _).trans (hA3.mono (Nat.le_succ _))
      have hW3 : w.heap.size + 1 ≤ w3.heap.size := by have := hA3.size; simpa using this
      have rD := RD.out w3 hB3
      go_wp2_with (at_builtin; refine app_rowT rfl (.tmp 21) (.tmp 24) rfl (w.heap.size + 1) _ _ _ rfl hown3'.out _ _ _ _ rfl rD (by simp only [List.length_drop]; omega) hW3 ?_)
      intro v4 w4 hown4 hgr4 hA4
      clear hgr4 rD
      replace hA4 := hA3.trans hA4
      have hB4 : Below w.heap.size w w4 := ((Below.refl _ w).onA _).trans (hA4.mono (Nat.le_succ _))
      have hown4' : Hid (w4.ownsRow (w.heap.size + 1) 47 5 v4 (m + 1 + (xs.length - m)) ((xs.take m ++ (⟨k, c, u, y, g⟩ :: xs.drop m)).flatMap ItV)) := toHid (by simpa using hown4)
      clear hown4
      go_wp2
      go_ret
      refine ⟨_, rfl, ?_, hB4⟩
      have R := (RowC.of_owns (by omega) ItV_len hown4'.out).wide (Nat.le_succ _) (Nat.le_refl _)
      simpa using R

end Go.Proofs.Ytgakfbdaiogflaa

namespace Go.Proofs.Ytgakfbdaiogflaa
open Go.ChangeShapes Go.WideShapes Go.ChangeAt Go.RowKit

theorem take_lt {xs : List It} {x : It} {m : Nat} (hP : PosOf xs x.k m) : ∀ a ∈ xs.take m, a.k < x.k := by
  intro a ha
  obtain ⟨j, hj, rfl⟩ := List.mem_iff_getElem.1 ha
  have hjm : j < m ∧ j < xs.length := by rw [List.length_take] at hj; omega
  rw [List.getElem_take, ← getD_at _ ⟨0, 0, 0, 0, false⟩ hjm.2]
  exact hP.lt j hjm.1
theorem ins_new {xs : List It} {x : It} {m : Nat} (hP : PosOf xs x.k m) (hl : look xs x.k = none) : ins xs x = xs.take m ++ (x :: xs.drop m) := by
  conv => lhs; rw [← List.take_append_drop m xs]
  rw [ins_app (take_lt hP)]
  congr 1
  cases hd : xs.drop m with
  | nil => rfl
  | cons b r =>
    have hm : m < xs.length := by
      rcases Nat.lt_or_ge m xs.length with h | h
      · exact h
      · rw [List.drop_eq_nil_of_le h] at hd; cases hd
    have hb : b = xs.getD m ⟨0, 0, 0, 0, false⟩ := by
      rw [getD_at _ _ hm]
      have := List.drop_eq_getElem_cons hm
      rw [hd] at this
      exact (List.cons.inj this).1
    have := hP.none hl m (Nat.le_refl _) hm
    show (if x.k < b.k then _ else _) = _
    rw [if_pos (by rw [hb]; exact this)]
theorem ins_set {xs : List It} {x a : It} {m : Nat} (hP : PosOf xs x.k m) (hl : look xs x.k = some a) : ins xs x = xs.set m (mx a x) := by
  obtain ⟨hm, ha, hk⟩ := hP.some a hl
  rw [getD_at _ _ hm] at ha
  conv => lhs; rw [← List.take_append_drop m xs]
  rw [ins_app (take_lt hP), List.drop_eq_getElem_cons hm, ha, List.set_eq_take_append_cons_drop, if_pos hm]
  congr 1
  show (if x.k < a.k then _ else if a.k = x.k then mx a x :: _ else _) = _
  rw [if_neg (by omega), if_pos hk]

set_option maxHeartbeats 1000000 in
theorem sPut_any {lo hi : Nat} {w : World} {v : Value} {xs : List It} (hx : RowT lo hi w v xs) (hh : hi ≤ w.heap.size) (k c u y : Int) (g : Bool) :
    Calls Try.prog 42 #[v, .agg #[.int .i64 k, .int .i64 c, .int .i64 u, .int .i64 y, .bool g]] w fun e w' => ∃ o, e = .returned (.tuple #[o, .int .i64 (putE xs ⟨k, c, u, y, g⟩)]) ∧ RowT w.heap.size w'.heap.size w' o (putL xs ⟨k, c, u, y, g⟩) ∧ Below w.heap.size w w' := by
  rcases Bool.eq_false_or_eq_true (stB xs) with hs | hs
  · have HM : Hid (∀ w', Below w.heap.size w w' → _) := fun w' hb => sMay_is (hx.below hb hh) (Nat.le_trans hh hb.size) hs
    rcases Bool.eq_false_or_eq_true (itB ⟨k, c, u, y, g⟩) with hi' | hi'
    · obtain ⟨hv, hsr, hl⟩ := stB_iff.1 hs
      have hP := posOf_any k hsr
      have HF : Hid (∀ w', Below w.heap.size w w' → _) := fun w' hb => sFind_pos (hx.below hb hh) (Nat.le_trans hh hb.size) hl hsr k
      cases hlk : look xs k with
      | some a =>
        obtain ⟨hm, ha, hk⟩ := hP.some a hlk
        have hav : itB a = true := (look_val hv hlk).1
        have hins : ins xs ⟨k, c, u, y, g⟩ = xs.set (posN xs k) (mx a ⟨k, c, u, y, g⟩) := ins_set hP hlk
        obtain ⟨e1, e2, _⟩ := put_ok hs hi' (by rw [hins, List.length_set]; exact hl)
        rw [hlk] at HF
        dsimp only [Option.isSome] at HF
        have HB : Hid (∀ w', Below w.heap.size w w' → _) := fun w' hb => sBest_any (hx.below hb hh) (Nat.le_trans hh hb.size) hl (posN xs k) hm k c u y g
        rw [show xs[posN xs k] = a by rw [← ha, getD_at _ _ hm], (bst_mx hav hi' hk).1, ← hins, ← e1] at HB
        rw [e2]
        obtain ⟨p, cc, rfl, hn, hp⟩ := hx.its hh
        clear hp hx hs hv hsr hP hlk hins e1 e2 ha hav hk hm
        generalize posN xs k = m at *
        generalize putL xs ⟨k, c, u, y, g⟩ = ys at *
        generalize xs.length = n at *
        go_enter Try.func42, Try.ntmps42
        go_wp2_with (first
          | (go_at_call 57; refine (HM.out _ ((Below.refl _ w).onA _)).mono ?_; rintro e w1 ⟨rfl, hb1⟩
             have bx1 := (Box.new w _ _).below hb1
             obtain ⟨x1, x2, x3⟩ := id bx1)
          | (go_at_call 60; refine (iMay_yes _ _ _ _ _ _ hi').mono ?_; rintro e w2 ⟨rfl, hb2⟩
             have bx2 := bx1.below hb2
             clear x1 x2 x3
             obtain ⟨x1, x2, x3⟩ := id bx2)
          | (go_at_call 61; refine (HF.out _ ((((Below.refl _ w).onA _).on hb1).on hb2)).mono ?_; rintro e w3 ⟨rfl, hb3⟩
             have bx3 := bx2.below hb3
             clear x1 x2 x3
             obtain ⟨x1, x2, x3⟩ := id bx3)
          | (go_at_call 62; refine (HB.out _ (((((Below.refl _ w).onA _).on hb1).on hb2).on hb3)).mono ?_; rintro e w4 ⟨o, rfl, hR, hb4⟩))
        have hB3 := ((((Below.refl _ w).onA _).on hb1).on hb2).on hb3
        go_ret2
        exact ⟨_, rfl, hR.wide hB3.size (Nat.le_refl _), hB3.on hb4⟩
      | none =>
        have hins : ins xs ⟨k, c, u, y, g⟩ = xs.take (posN xs k) ++ (⟨k, c, u, y, g⟩ :: xs.drop (posN xs k)) := ins_new hP hlk
        have hil : (ins xs ⟨k, c, u, y, g⟩).length = xs.length + 1 := by
          rw [hins, List.length_append, List.length_cons, List.length_take, List.length_drop]
          have := hP.le
          omega
        rw [hlk] at HF
        dsimp only [Option.isSome] at HF
        have hml := hP.le
        by_cases hfull : xs.length = 16
        · obtain ⟨e1, e2⟩ := put_full hs hi' (by rw [hil]; omega)
          rw [e1, e2]
          obtain ⟨p, cc, rfl, hn, hp⟩ := hx.its hh
          have hf1 : (xs.length : Int) = 16 := by omega
          clear hp hx hs hv hsr hP hlk hins e1 e2 hil
          generalize posN xs k = m at *
          generalize xs.length = n at *
          subst hfull
          go_enter Try.func42, Try.ntmps42
          go_wp2_with (first
            | (go_at_call 57; refine (HM.out _ ((Below.refl _ w).onA _)).mono ?_; rintro e w1 ⟨rfl, hb1⟩
               have bx1 := (Box.new w _ _).below hb1
               obtain ⟨x1, x2, x3⟩ := id bx1)
            | (go_at_call 60; refine (iMay_yes _ _ _ _ _ _ hi').mono ?_; rintro e w2 ⟨rfl, hb2⟩
               have bx2 := bx1.below hb2
               clear x1 x2 x3
               obtain ⟨x1, x2, x3⟩ := id bx2)
            | (go_at_call 61; refine (HF.out _ ((((Below.refl _ w).onA _).on hb1).on hb2)).mono ?_; rintro e w3 ⟨rfl, hb3⟩
               have bx3 := bx2.below hb3
               clear x1 x2 x3
               obtain ⟨x1, x2, x3⟩ := id bx3))
          have hB3 := ((((Below.refl _ w).onA _).on hb1).on hb2).on hb3
          go_ret2
          exact ⟨_, rfl, RowC.nil0, hB3⟩
        · obtain ⟨e1, e2, _⟩ := put_ok hs hi' (by rw [hil]; omega)
          have HB : Hid (∀ w', Below w.heap.size w w' → _) := fun w' hb => sNew_any (hx.below hb hh) (Nat.le_trans hh hb.size) hl (posN xs k) hml k c u y g
          rw [← hins, ← e1] at HB
          rw [e2]
          obtain ⟨p, cc, rfl, hn, hp⟩ := hx.its hh
          have hf1 : ¬ (xs.length : Int) = 16 := by omega
          have hf2 : ((xs.length : Int) == 16) = false := by simpa using hf1
          clear hp hx hs hv hsr hP hlk hins e1 e2 hil
          generalize posN xs k = m at *
          generalize putL xs ⟨k, c, u, y, g⟩ = ys at *
          generalize xs.length = n at *
          go_enter Try.func42, Try.ntmps42
          go_wp2_with (first
            | (go_at_call 57; refine (HM.out _ ((Below.refl _ w).onA _)).mono ?_; rintro e w1 ⟨rfl, hb1⟩
               have bx1 := (Box.new w _ _).below hb1
               obtain ⟨x1, x2, x3⟩ := id bx1)
            | (go_at_call 60; refine (iMay_yes _ _ _ _ _ _ hi').mono ?_; rintro e w2 ⟨rfl, hb2⟩
               have bx2 := bx1.below hb2
               clear x1 x2 x3
               obtain ⟨x1, x2, x3⟩ := id bx2)
            | (go_at_call 61; refine (HF.out _ ((((Below.refl _ w).onA _).on hb1).on hb2)).mono ?_; rintro e w3 ⟨rfl, hb3⟩
               have bx3 := bx2.below hb3
               clear x1 x2 x3
               obtain ⟨x1, x2, x3⟩ := id bx3)
            | (go_at_call 63; refine (HB.out _ (((((Below.refl _ w).onA _).on hb1).on hb2).on hb3)).mono ?_; rintro e w4 ⟨o, rfl, hR, hb4⟩))
          have hB3 := ((((Below.refl _ w).onA _).on hb1).on hb2).on hb3
          go_ret2
          exact ⟨_, rfl, hR.wide hB3.size (Nat.le_refl _), hB3.on hb4⟩
    · obtain ⟨e1, e2⟩ := put_form (xs := xs) (x := ⟨k, c, u, y, g⟩) (Or.inr hi')
      rw [e1, e2]
      clear e1 e2
      obtain ⟨p, cc, rfl, hn, hp⟩ := hx.its hh
      clear hp hx hs
      generalize xs.length = n at *
      go_enter Try.func42, Try.ntmps42
      go_wp2_with (first
        | (go_at_call 57; refine (HM.out _ ((Below.refl _ w).onA _)).mono ?_; rintro e w1 ⟨rfl, hb1⟩
           have bx1 := (Box.new w _ _).below hb1
           obtain ⟨x1, x2, x3⟩ := id bx1)
        | (go_at_call 60; refine (iMay_no _ _ _ _ _ _ hi').mono ?_; rintro e w2 ⟨rfl, hb2⟩))
      go_ret2
      exact ⟨_, rfl, RowC.nil0, (((Below.refl _ w).onA _).on hb1).on hb2⟩
  · have HM : Hid (∀ w', Below w.heap.size w w' → _) := fun w' hb => sMay_is (hx.below hb hh) (Nat.le_trans hh hb.size) hs
    obtain ⟨e1, e2⟩ := put_form (xs := xs) (x := ⟨k, c, u, y, g⟩) (Or.inl hs)
    rw [e1, e2]
    clear e1 e2
    obtain ⟨p, cc, rfl, hn, hp⟩ := hx.its hh
    clear hp hx hs
    generalize xs.length = n at *
    go_enter Try.func42, Try.ntmps42
    go_wp2_with (first
      | (go_at_call 57; refine (HM.out _ ((Below.refl _ w).onA _)).mono ?_; rintro e w1 ⟨rfl, hb1⟩))
    go_ret2
    exact ⟨_, rfl, RowC.nil0, ((Below.refl _ w).onA _).on hb1⟩

end Go.Proofs.Ytgakfbdaiogflaa
