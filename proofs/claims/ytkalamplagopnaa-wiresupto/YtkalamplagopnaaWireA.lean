
/-
  Contracts of the program's own helpers that fill in a message's bytes: what each returns, in new memory, and that no old memory has turned.
-/
import Derived.Test.YtkalamplagopnaaWireRef
import Derived.Test.YtkalamplagopnaaLit
import Derived.Deep.RegionHeld3
import Derived.Deep.RegionLawGrows
namespace Go.Proofs.Ytkalamplagopnaa
open Go.ChangeShapes Go.WideShapes Go.ChangeAt Go.RowKit

theorem Try.info5 : (Try.prog.info? 5).map (fun i => (i.zero, i.size, i.bytes)) = some (some (.int .u8 0), 1, 1) := by kernel_rfl

/-- 'append' onto a row of the call's own, of bytes. -/
theorem app_bytes {w : World} {ops : Array Oper} {rest : List Oper} {o : Oper} {a : Act} {Q : Exit → Act → World → Prop} (hgd : o.guard = none) (s x : Operand)
    (ho : o.op = .call { callee := .builtin .append, args := #[s, x], argTypes := #[46, 46] }) (base : Nat) (v : Value) (n : Nat) (zs : List Int) (hs : a.eval s = v)
    (hown : w.ownsRow base 5 1 v n (zs.map (Value.int .u8))) (ad : Addr) (m c : Nat) (news : List Int) (hx : a.eval x = .slice (some ad) m c) (hl : news.length = m)
    (hnews : ∀ j, j < m → w.cell? (ad.add j) = some (.int .u8 (news.getD j 0))) (hb : (n + m) * 1 ≤ 140737488355328) (hbase : base ≤ w.heap.size)
    (h : ∀ v' w', w'.ownsRow base 5 1 v' (n + m) ((zs ++ news).map (Value.int .u8)) → w.grownBy w' v.ownBlock → Below base w w' → wpList Try.prog ops Q rest (a.put o.dst v') w') :
    wpList Try.prog ops Q (o :: rest) a w := by
  obtain ⟨i0, hi, hz0, hz1, hz2⟩ := info_parts Try.info5
  refine wpList_append_own _ hgd s x 46 ho base 5 i0 (.int .u8 0) 1 1 Try.underlying46 hi hz0 hz1 hz2 rfl (by decide) v n _ hs hown ad m c (news.map (Value.int .u8)) hx (by simpa using hl) ?_ ?_ ?_ hb hbase ?_
  · intro j u hj
    rw [List.getElem?_map] at hj
    obtain ⟨y, hy, rfl⟩ := Option.map_eq_some_iff.1 hj
    have hjl : j < news.length := (List.getElem?_eq_some_iff.1 hy).1
    rw [hnews j (by omega)]
    simp [List.getD, hy]
  · intro u hu
    obtain ⟨y, _, rfl⟩ := List.mem_map.1 hu
    rfl
  · unfold maxLen; omega
  · intro v' w' h1 h2 _
    refine h v' w' (by simpa using h1) h2 ?_
    exact (Below.refl base w).grown h2 hbase (fun j hj => (hown.lt j hj).1)
/-- The same as one step of a region that draws its order. -/
theorem step_bytes {ops : Array Oper} {o : Oper} {a : Act} {w : World} {K : Act → World → Prop} {Q : Exit → Act → World → Prop} {E : Prop} (hg : o.guard = none) (s x : Operand)
    (hop : o.op = .call { callee := .builtin .append, args := #[s, x], argTypes := #[46, 46] }) (base : Nat) (v : Value) (n : Nat) (zs : List Int) (hs : a.eval s = v)
    (hown : w.ownsRow base 5 1 v n (zs.map (Value.int .u8))) (ad : Addr) (m c : Nat) (news : List Int) (hx : a.eval x = .slice (some ad) m c) (hl : news.length = m)
    (hnews : ∀ j, j < m → w.cell? (ad.add j) = some (.int .u8 (news.getD j 0))) (hb : (n + m) * 1 ≤ 140737488355328) (hbase : base ≤ w.heap.size)
    (hK : ∀ v' w', w'.ownsRow base 5 1 v' (n + m) ((zs ++ news).map (Value.int .u8)) → w.grownBy w' v.ownBlock → Below base w w' → K (a.put o.dst v') w') :
    if Region.wanted o (yielded ops a.tmps) = true then Oper.wp Try.prog o a w K Q else E := by
  have hw : Region.wanted o (yielded ops a.tmps) = true := by simp [Region.wanted, hg]
  rw [if_pos hw]
  obtain ⟨i0, hi, hz0, hz1, hz2⟩ := info_parts Try.info5
  obtain ⟨v', w', hrun, r1, r2, _⟩ := run_append_own (P := Try.prog) w base 46 o.type 5 i0 (.int .u8 0) 1 1 Try.underlying46 hi hz0 hz1 hz2 rfl (by decide) v n _ hown ad m c (news.map (Value.int .u8)) (by simpa using hl) (fun j u hj => by
      rw [List.getElem?_map] at hj
      obtain ⟨y, hy, rfl⟩ := Option.map_eq_some_iff.1 hj
      have hjl : j < news.length := (List.getElem?_eq_some_iff.1 hy).1
      rw [hnews j (by omega)]
      simp [List.getD, hy]) (fun u hu => by
      obtain ⟨y, _, rfl⟩ := List.mem_map.1 hu
      rfl) (by unfold maxLen; omega) hb hbase
  unfold Oper.wp
  simp [execOp, hop, resolve, invoke, builtin, hs, hx, hrun, Result.andThen]
  exact hK v' w' (by simpa using r1) r2 ((Below.refl base w).grown r2 hbase (fun j hj => (hown.lt j hj).1))

/-- A row of bytes just built. -/
theorem own_built {w : World} {base b n : Nat} {cs : Array Value} (xs : List Int) (hx : cs.toList = xs.map (Value.int .u8)) (hn : n = xs.length) (hb : base ≤ b) (hw : b = w.heap.size) (hm : n ≤ maxLen) :
    (w.alloc (.cells cs 5)).ownsRow base 5 1 (.slice (some ⟨b, 0, none⟩) n n) n (xs.map (Value.int .u8)) := by
  subst hw hn
  have hs : cs.size = xs.length := by rw [← Array.length_toList, hx, List.length_map]
  refine ⟨by simp, .inr ⟨_, _, cs, rfl, hb, heap_alloc_new w _, Nat.le_refl _, hm, by omega, ?_⟩⟩
  rw [hx, List.take_of_length_le (by simp)]
/-- What a row of the call's own, of bytes, reads as. -/
theorem own_cells {w : World} {base n : Nat} {v : Value} {xs : List Int} (h : w.ownsRow base 5 1 v n (xs.map (Value.int .u8))) (hx : xs ≠ []) :
    ∃ g c, v = .slice (some ⟨g, 0, none⟩) n c ∧ base ≤ g ∧ g < w.heap.size ∧ n = xs.length ∧ ∀ j, j < n → w.cell? ⟨g, j, none⟩ = some (.int .u8 (xs.getD j 0)) := by
  have h0 := h
  obtain ⟨h1, h2⟩ := h
  have hn : n = xs.length := by simpa using h1.symm
  rcases h2 with ⟨-, e⟩ | ⟨g, c, cur, rfl, hg, hh, -⟩
  · exact absurd (List.length_eq_zero_iff.1 (by omega)) hx
  · refine ⟨g, c, rfl, hg, (h0.lt g rfl).2, hn, fun j hj => ?_⟩
    have := h0.cells rfl j (.int .u8 (xs.getD j 0)) (by simp [List.getD, show j < xs.length by omega])
    simpa [add_plain] using this
/-- And the text that it is. -/
theorem conv_own {w : World} {base n : Nat} {v : Value} {xs : List Int} (h : w.ownsRow base 5 1 v n (xs.map (Value.int .u8))) (hx : xs ≠ []) (hB : Byts xs) :
    (convert 46 9 v).run Try.prog w = .ok (.string (sb xs)) w := by
  obtain ⟨g, c, rfl, -, -, hn, hc⟩ := own_cells h hx
  refine conv_bytes w g 0 n c xs hn.symm fun i hi => ?_
  rw [Nat.zero_add, hc i hi]
  have hm : xs.getD i 0 ∈ xs := by simp [List.getD, show i < xs.length by omega]
  rw [by8_in (hB _ hm).1 (hB _ hm).2]

theorem wBit_any (g : Bool) (w : World) :
    Calls Try.prog 40 #[.bool g] w fun e w' => e = .returned (.int .u8 (fl g)) ∧ w' = w := by
  cases g
  all_goals
    go_enter Try.func40, Try.ntmps40
    go_wp2
    go_ret
    exact ⟨rfl, rfl⟩

theorem u8_by8 (x : Int) : IntKind.u8.wrap x = by8 x := by simp [IntKind.wrap, by8, IntKind.signed, IntKind.bits]
theorem own_drew {w : World} {base n : Nat} {e : TypeId} {v : Value} {xs : List Value} (h : w.ownsRow base e 1 v n xs) (q : Nat) : (w.drewN q).ownsRow base e 1 v n xs := h

set_option maxHeartbeats 2000000 in
theorem wItem_any (k : Int) {c : Int} (hc0 : 0 ≤ c) (hc1 : c < 65536) (u x : Int) (g : Bool) (w : World) :
    Calls Try.prog 37 #[.agg #[.int .i64 k, .int .i64 c, .int .i64 u, .int .i64 x, .bool g]] w fun e w' => ∃ v, e = .returned v ∧ w'.ownsRow w.heap.size 5 1 v 7 ((encI ⟨k, c, u, x, g⟩).map (Value.int .u8)) ∧ Below w.heap.size w w' := by
  go_enter Try.func37, Try.ntmps37
  go_upto_region 2 with (fail)
  have BM := Box.new w #[.int .i64 k, .int .i64 c, .int .i64 u, .int .i64 x, .bool g] 26
  have k0 := BM.2.1 0
  have k1 := BM.2.1 1
  have k2 := BM.2.1 2
  have k3 := BM.2.1 3
  have k4 := BM.2.1 4
  simp only [List.getElem?_toArray, List.getElem?_cons_zero, List.getElem?_cons_succ] at k0 k1 k2 k3 k4
  go_region_held3 (fun w' => w'.cell? ⟨w.heap.size, 0, none⟩ = some (.int .i64 k) ∧ w'.cell? ⟨w.heap.size, 1, none⟩ = some (.int .i64 c) ∧ w'.cell? ⟨w.heap.size, 2, none⟩ = some (.int .i64 u) ∧ w'.cell? ⟨w.heap.size, 3, none⟩ = some (.int .i64 x) ∧ w'.cell? ⟨w.heap.size, 4, none⟩ = some (.bool g)) (go_keep) (first
    | (go_at_call 40; refine (wBit_any _ _).mono ?_; rintro e w9 ⟨rfl, hw9⟩; subst w9))
  have q1 : IntKind.u8.wrap (c.tmod 256) = by8 c := by rw [Int.tmod_eq_emod_of_nonneg hc0, u8_by8]; unfold by8; omega
  have q2 : IntKind.u8.wrap (IntKind.i64.wrap (c.tdiv 256)) = by8 (c / 256) := by
    rw [Int.tdiv_eq_ediv_of_nonneg hc0, show IntKind.i64.wrap (c / 256) = c / 256 by rw [IntKind.wrap_i64]; omega, u8_by8]
  rw [q1, q2, u8_by8, u8_by8, u8_by8]
  clear q1 q2 k0 k1 k2 k3 k4 BM
  obtain ⟨L, hL⟩ : ∃ L, L = [by8 k, by8 c, by8 (c / 256), by8 u, by8 x, fl g] := ⟨_, rfl⟩
  have hE : Hid (encI ⟨k, c, u, x, g⟩ = L ++ [by8 (sumL (L.take 6))]) := toHid (by subst hL; rfl)
  have OW : Hid ((((w.alloc (.cells #[.int .i64 k, .int .i64 c, .int .i64 u, .int .i64 x, .bool g] 26)).alloc (.cells #[.int .u8 (by8 k), .int .u8 (by8 c), .int .u8 (by8 (c / 256)), .int .u8 (by8 u), .int .u8 (by8 x), .int .u8 (fl g)] 5)).drew).ownsRow w.heap.size 5 1 (.slice (some ⟨w.heap.size + 1, 0, none⟩) 6 6) 6 (L.map (Value.int .u8))) :=
    toHid (own_drew (own_built L (by subst hL; rfl) (by subst hL; rfl) (by omega) (by simp) (by decide)) 1)
  have hB : Hid (Below w.heap.size w (((w.alloc (.cells #[.int .i64 k, .int .i64 c, .int .i64 u, .int .i64 x, .bool g] 26)).alloc (.cells #[.int .u8 (by8 k), .int .u8 (by8 c), .int .u8 (by8 (c / 256)), .int .u8 (by8 u), .int .u8 (by8 x), .int .u8 (fl g)] 5)).drew)) := toHid ((((Below.refl _ w).onA _).onA _).onD 1)
  go_wp2
  have hl : L.length = 6 := by rw [hL]; rfl
  have hLB : ∀ i, 0 ≤ by8 (L.getD i 0) ∧ by8 (L.getD i 0) < 256 := fun i => by8_range _
  have hL8 : Byts L := by
    intro y hy
    rw [hL] at hy
    have hf : 0 ≤ fl g ∧ fl g < 256 := by cases g <;> decide
    simp only [List.mem_cons, List.not_mem_nil, or_false] at hy
    rcases hy with rfl | rfl | rfl | rfl | rfl | rfl
    all_goals first | exact by8_range _ | exact hf
  clear hL hLB
  generalize ((w.alloc (.cells #[.int .i64 k, .int .i64 c, .int .i64 u, .int .i64 x, .bool g] 26)).alloc (.cells #[.int .u8 (by8 k), .int .u8 (by8 c), .int .u8 (by8 (c / 256)), .int .u8 (by8 u), .int .u8 (by8 x), .int .u8 (fl g)] 5)).drew = wB at OW hB ⊢
  replace OW := toHid OW.out
  replace hB := toHid hB.out
  go_loop [5, 33] (fun s5 s33 => ∃ i : Nat, i ≤ 6 ∧ s33 = .int .i64 i ∧ s5 = .int .u8 (by8 (sumL (L.take i)))) (fun _ s33 => 6 - (intOf s33).toNat)
  case atStart => exact ⟨0, Nat.zero_le _, rfl, rfl⟩
  case round =>
    obtain ⟨i, hi, rfl, rfl⟩ := hrel
    by_cases hlt : i < 6
    · have hlt' : (i : Int) < 6 := by omega
      have hi0 : 0 ≤ (i : Int) := by omega
      obtain ⟨z, hz⟩ : ∃ z, L.getD i 0 = z := ⟨_, rfl⟩
      have hzr : 0 ≤ z ∧ z < 256 := hz ▸ hL8 _ (by simp [List.getD, show i < L.length by omega])
      have hcell : wB.cell? ⟨w.heap.size + 1, i, none⟩ = some (.int .u8 z) := by
        obtain ⟨g', c', e, -, -, -, hc⟩ := own_cells OW.out (by intro e; rw [e] at hl; cases hl)
        cases e
        rw [← hz]
        exact hc i hlt
      have hS : Hid (by8 (sumL (L.take (i + 1))) = (by8 (sumL (L.take i)) + z) % 256) := toHid (by
        rw [List.take_add_one, List.getElem?_eq_getElem (show i < L.length by omega)]
        have e : L[i]'(by omega) = z := by rw [← hz]; simp [List.getD, show i < L.length by omega]
        rw [e, Option.toList_some, sumL_snoc]
        unfold by8
        omega)
      obtain ⟨T, hT⟩ : ∃ T, by8 (sumL (L.take i)) = T := ⟨_, rfl⟩
      rw [hT] at hS ⊢
      have hTr : 0 ≤ T ∧ T < 256 := hT ▸ by8_range _
      obtain ⟨hT0, hT1⟩ := hTr
      obtain ⟨hz0, hz1⟩ := hzr
      clear hz hT
      go_wp2
      go_round
      case rel => exact ⟨i + 1, by omega, by go_num, by rw [hS.out]⟩
      case measure => simp [intOf]; omega
    · obtain rfl : i = 6 := by omega
      go_wp2_with (at_builtin; refine app_bytes rfl (.tmp 41) (.tmp 43) rfl w.heap.size _ 6 L rfl (OW.out.alloc _) ⟨wB.heap.size, 0, none⟩ 1 1 [by8 (sumL (L.take 6))] rfl rfl (fun j hj => ?_) (by omega) (by have := hB.out.size; simp; omega) ?_; · (rw [add_plain, Nat.zero_add]; refine ((Box.newAt _ _ (by simp)).2.1 j).trans ?_; (obtain rfl : j = 0 := by omega); rfl))
      intro v' w4 hown4 hgr4 hbel4
      go_wp2
      go_ret
      exact ⟨v', rfl, by rw [hE.out, List.map_append]; exact hown4, (hB.out.onA _).trans hbel4⟩

end Go.Proofs.Ytkalamplagopnaa
