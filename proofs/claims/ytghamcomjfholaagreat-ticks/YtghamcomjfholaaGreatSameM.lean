
/-
  'append' onto a row of messages of the call's own, and where the new row lies.
-/
import Derived.Test.YtghamcomjfholaaGreatMsgsMem
import Derived.Test.YtghamcomjfholaaGreatIntRow
import Derived.Test.YtghamcomjfholaaGreatOld
import Derived.Test.YtghamcomjfholaaGreatMsgRow
namespace Go.Proofs.YtghamcomjfholaaGreat
open Go.ChangeShapes Go.WideShapes Go.ChangeAt Go.RowKit

theorem app_msgs2 {w : World} {ops : Array Oper} {rest : List Oper} {o : Oper} {a : Act} {Q : Exit → Act → World → Prop} (hgd : o.guard = none) (s x : Operand)
    (ho : o.op = .call { callee := .builtin .append, args := #[s, x], argTypes := #[31, 31] }) (base : Nat) (v : Value) (ms : List Mg) (hs : a.eval s = v)
    (hown : OwnM base w v ms) (ad : Addr) (m c : Nat) (ys : List MgO) (hx : a.eval x = .slice (some ad) m c) (hl : ys.length = m)
    (hnews : ∀ j, j < m * 11 → w.cell? (ad.add j) = (ys.flatMap MvV)[j]?) (hi : ∀ y ∈ ys, w.ownsRow base 3 1 y.v y.is.length (y.is.map (Value.int .i64))) (hb : (ms.length + m) * 104 ≤ 140737488355328) (hbase : base ≤ w.heap.size)
    (h : ∀ v' w', OwnM base w' v' (ms ++ ys.map MgO.mg) → w.grownBy w' v.ownBlock → Below base w w' → (v'.ownBlock = v.ownBlock ∨ ∃ g, v'.ownBlock = some g ∧ w.heap.size ≤ g) → wpList Tryz.prog ops Q rest (a.put o.dst v') w') :
    wpList Tryz.prog ops Q (o :: rest) a w := by
  obtain ⟨i0, hi0, hz0, hz1, hz2⟩ := info_parts Tryz.infoMsg
  obtain ⟨xs, e, r, f⟩ := hown
  have hln : (ys.flatMap MvV).length = m * 11 := by rw [flat_len MvV_len, hl]
  have hn1 : ∀ j u, (ys.flatMap MvV)[j]? = some u → w.cell? (ad.add j) = some u := by
    intro j u hj
    have hjl : j < (ys.flatMap MvV).length := (List.getElem?_eq_some_iff.1 hj).1
    rw [hnews j (by omega), hj]
  have hn2 : ∀ u ∈ ys.flatMap MvV, u.oneCell' = true := by
    intro u hu
    obtain ⟨y, hy, hu'⟩ := List.mem_flatMap.1 hu
    exact MvV_one y (hi y hy) u hu'
  have fin : ∀ v' w', w'.ownsRow base 58 11 v' (ms.length + m) (xs.flatMap MvV ++ ys.flatMap MvV) → w.grownBy w' v.ownBlock → (v'.ownBlock = v.ownBlock ∨ ∃ g, v'.ownBlock = some g ∧ w.heap.size ≤ g) → wpList Tryz.prog ops Q rest (a.put o.dst v') w' := by
    intro v' w' h1 h2 h3
    refine h v' w' ⟨xs ++ ys, by rw [List.map_append, e], ?_, fun x hx => ?_⟩ h2 ((Below.refl base w).grown h2 hbase (fun j hj => (r.lt j hj).1)) h3
    · rw [List.length_append, List.length_map, hl, List.flatMap_append]
      exact h1
    · have o' : w.ownsRow base 3 1 x.v x.is.length (x.is.map (Value.int .i64)) := by
        rcases List.mem_append.1 hx with hx | hx
        · exact f x hx
        · exact hi x hx
      exact o'.kept h2 (apart_own o' r (by decide))
  have hgrows : ∀ (ao : Option Addr) (cap : Nat), v = .slice ao ms.length cap → (ao = none → ms.length = 0 ∧ cap = 0) → (∀ b, ao = some b → ∀ j u, (xs.flatMap MvV)[j]? = some u → w.cell? (b.add j) = some u) → cap < ms.length + m →
      wpList Tryz.prog ops Q (o :: rest) a w := by
    intro ao cap hv hnone holds hfull
    refine wpList_append_grows w hgd s x 31 ho 58 i0 _ 11 104 Tryz.underlying31 hi0 hz0 hz1 hz2 rfl (by decide) ao ms.length cap (xs.flatMap MvV) (hs.trans hv) hnone r.1 holds ad m c _ hx hln hn1 hn2 hfull (by unfold maxLen; omega) hb ?_
    intro v' w' hown' hgr
    refine fin v' w' ?_ ⟨hgr.os, hgr.tape, hgr.output, hgr.size, fun k hk _ => hgr.block k hk (by simp)⟩ ?_
    · obtain ⟨e1, e2⟩ := hown'
      refine ⟨e1, ?_⟩
      rcases e2 with e2 | ⟨g, cp, cur, e3, e4, e5⟩
      · exact .inl e2
      · exact .inr ⟨g, cp, cur, e3, by omega, e5⟩
    · right
      rcases hown'.2 with ⟨_, e2⟩ | ⟨g, cp, cur, rfl, e4, _⟩
      · omega
      · exact ⟨g, rfl, e4⟩
  rcases r.2 with ⟨hv, hn⟩ | ⟨g, cap, cur, hv, hg, hh, hle, hcap, hsz, htk⟩
  · by_cases hm : m = 0
    · subst hm
      refine wpList_append_own _ hgd s x 31 ho base 58 i0 _ 11 104 Tryz.underlying31 hi0 hz0 hz1 hz2 rfl (by decide) v ms.length _ hs r ad 0 c (ys.flatMap MvV) hx hln hn1 hn2 (by unfold maxLen; omega) hb hbase ?_
      intro v' w' h1 h2 h3
      exact fin v' w' h1 h2 (.inl (by rw [h3.2 ⟨hv, rfl⟩, hv]))
    · exact hgrows none 0 (by rw [hn]; exact hv) (fun _ => ⟨hn, rfl⟩) (fun b hb => by cases hb) (by omega)
  · by_cases hfit : ms.length + m ≤ cap
    · subst hv
      refine wpList_append_fits w hgd s x 31 ho base 58 i0 11 Tryz.underlying31 hi0 hz1 g ms.length cap _ hs r ad m c _ hx hln hn1 hn2 hfit ?_
      intro w' hown' hgr
      exact fin _ w' hown' hgr (.inl rfl)
    · refine hgrows (some ⟨g, 0, none⟩) cap hv (fun h => by cases h) ?_ (by omega)
      intro b hb j u hj
      cases hb
      subst hv
      exact r.cells rfl j u hj

/-- The same, in a region that draws its order. -/
theorem step_msgs {ops : Array Oper} {o : Oper} {a : Act} {w : World} {K : Act → World → Prop} {Q : Exit → Act → World → Prop} {E : Prop} (hg : o.guard = none) (s x : Operand)
    (hop : o.op = .call { callee := .builtin .append, args := #[s, x], argTypes := #[31, 31] }) (base : Nat) (v : Value) (ms : List Mg) (hs : a.eval s = v)
    (hown : OwnM base w v ms) (ad : Addr) (m c : Nat) (ys : List MgO) (hx : a.eval x = .slice (some ad) m c) (hl : ys.length = m)
    (hnews : ∀ j, j < m * 11 → w.cell? (ad.add j) = (ys.flatMap MvV)[j]?) (hi : ∀ y ∈ ys, w.ownsRow base 3 1 y.v y.is.length (y.is.map (Value.int .i64))) (hb : (ms.length + m) * 104 ≤ 140737488355328) (hbase : base ≤ w.heap.size)
    (hK : ∀ v' w', OwnM base w' v' (ms ++ ys.map MgO.mg) → Below base w w' → K (a.put o.dst v') w') :
    if Region.wanted o (yielded ops a.tmps) = true then Oper.wp Tryz.prog o a w K Q else E := by
  have hw : Region.wanted o (yielded ops a.tmps) = true := by simp [Region.wanted, hg]
  rw [if_pos hw]
  obtain ⟨i0, hi0, hz0, hz1, hz2⟩ := info_parts Tryz.infoMsg
  obtain ⟨xs, e, r, f⟩ := hown
  have hln : (ys.flatMap MvV).length = m * 11 := by rw [flat_len MvV_len, hl]
  obtain ⟨v', w', hrun, r1, r2, _⟩ := run_append_own (P := Tryz.prog) w base 31 o.type 58 i0 _ 11 104 Tryz.underlying31 hi0 hz0 hz1 hz2 rfl (by decide) v ms.length _ r ad m c (ys.flatMap MvV) hln (fun j u hj => by
      have hjl : j < (ys.flatMap MvV).length := (List.getElem?_eq_some_iff.1 hj).1
      rw [hnews j (by omega), hj]) (fun u hu => by
      obtain ⟨y, hy, hu'⟩ := List.mem_flatMap.1 hu
      exact MvV_one y (hi y hy) u hu') (by unfold maxLen; omega) hb hbase
  unfold Oper.wp
  simp [execOp, hop, resolve, invoke, builtin, hs, hx, hrun, Result.andThen]
  refine hK v' w' ⟨xs ++ ys, by rw [List.map_append, e], ?_, fun x hx => ?_⟩ ((Below.refl base w).grown r2 hbase (fun j hj => (r.lt j hj).1))
  · rw [List.length_append, List.length_map, hl, List.flatMap_append]
    exact r1
  · have o' : w.ownsRow base 3 1 x.v x.is.length (x.is.map (Value.int .i64)) := by
      rcases List.mem_append.1 hx with hx | hx
      · exact f x hx
      · exact hi x hx
    exact o'.kept r2 (apart_own o' r (by decide))

/-- A message just built, as cells. -/
theorem lit_mv {w : World} {b : Nat} {cs : Array Value} (x : MgO) (hc : cs.toList = MvV x) (hb : b = w.heap.size) : ∀ j, j < 1 * 11 → (w.alloc (.cells cs 58)).cell? ((⟨b, 0, none⟩ : Addr).add j) = (([x] : List MgO).flatMap MvV)[j]? := fun j _ => by
  rw [add_plain, Nat.zero_add]
  refine ((Box.newAt _ _ hb).2.1 j).trans ?_
  rw [List.flatMap_cons, List.flatMap_nil, List.append_nil, ← hc, Array.getElem?_toList]

/-- Messages of one's own put behind messages of one's own. -/
theorem app_msgsO {w : World} {ops : Array Oper} {rest : List Oper} {o : Oper} {a : Act} {Q : Exit → Act → World → Prop} (hgd : o.guard = none) (s x : Operand)
    (ho : o.op = .call { callee := .builtin .append, args := #[s, x], argTypes := #[31, 31] }) (base : Nat) (v u : Value) (ms ns : List Mg) (hs : a.eval s = v)
    (hown : OwnM base w v ms) (hx : a.eval x = u) (hu : OwnM base w u ns) (hb : (ms.length + ns.length) * 104 ≤ 140737488355328) (hbase : base ≤ w.heap.size)
    (h : ∀ v' w', OwnM base w' v' (ms ++ ns) → Below base w w' → wpList Tryz.prog ops Q rest (a.put o.dst v') w') :
    wpList Tryz.prog ops Q (o :: rest) a w := by
  by_cases hne : 0 < ns.length
  · obtain ⟨g, c, xs, rfl, hc, h1, h2, h3, h4, h5⟩ := hu.at hne
    have hl : xs.length = ns.length := by rw [← h3, List.length_map]
    refine app_msgs2 hgd s x ho base v ms hs hown ⟨g, 0, none⟩ ns.length c xs hx hl (fun j hj => ?_) h5 hb hbase ?_
    · rw [add_plain, Nat.zero_add]
      exact h4 j hj
    · intro v' w' o' _ hb' _
      exact h v' w' (by rw [← h3]; exact o') hb'
  · have e : ns = [] := List.eq_nil_of_length_eq_zero (by omega)
    subst e
    obtain ⟨xs, e, r, f⟩ := hu
    rcases r.2 with ⟨rfl, -⟩ | ⟨g, c, cur, rfl, -⟩
    · obtain ⟨i0, hi0, hz0, hz1, hz2⟩ := info_parts Tryz.infoMsg
      obtain ⟨ys, e2, r2, f2⟩ := hown
      refine wpList_append_own_none hgd s x 31 ho base 58 i0 11 Tryz.underlying31 hi0 v ms.length _ hs r2 hx ?_
      exact h v w (by rw [List.append_nil]; exact ⟨ys, e2, r2, f2⟩) (Below.refl _ _)
    · refine app_msgs2 hgd s x ho base v ms hs hown ⟨g, 0, none⟩ 0 c [] hx rfl (fun j hj => absurd hj (by omega)) (fun y hy => by cases hy) hb hbase ?_
      intro v' w' o' _ hb' _
      exact h v' w' o' hb'

theorem lit_none {w : World} {base : Nat} {n a d k : Int} {z : It} {h : Bool} {y : MgO} (hy : y ∈ ([⟨n, a, d, [], k, z, h, .slice none 0 0⟩] : List MgO)) : w.ownsRow base 3 1 y.v y.is.length (y.is.map (Value.int .i64)) := by
  rw [List.mem_singleton.1 hy]
  exact ⟨rfl, .inl ⟨rfl, rfl⟩⟩

theorem OwnM.setLow {base : Nat} {w : World} {v : Value} {ms : List Mg} (h : OwnM base w v ms) {b : Nat} (hb : b < base) (o : Nat) (y : Value) : OwnM base (w.setCell ⟨b, o, none⟩ y) v ms := by
  obtain ⟨xs, e, r, f⟩ := h
  exact ⟨xs, e, ownsRow_setCell_below (a := ⟨b, o, none⟩) r hb y, fun x hx => ownsRow_setCell_below (a := ⟨b, o, none⟩) (f x hx) hb y⟩

end Go.Proofs.YtghamcomjfholaaGreat

namespace Go.Proofs.YtghamcomjfholaaGreat
open Go.RowKit

def fl (g : Bool) : Int := if g = true then 1 else 0
/-! ### There and back -/
/-! ### Lists of bytes, and strings -/
/-- A string's bytes; a string of bytes. -/
def bl (s : ByteArray) : List Int := s.data.toList.map fun x => (x.toNat : Int)
end Go.Proofs.YtghamcomjfholaaGreat

namespace Go.Proofs.YtghamcomjfholaaGreat
open Go.ChangeShapes Go.WideShapes Go.ChangeAt Go.RowKit

set_option maxHeartbeats 4000000 in
theorem sameMsg_any {lo hi lo' hi' : Nat} {w : World} {v u : Value} {is is' : List Int} (hv : RowI lo hi w v is) (hu : RowI lo' hi' w u is') (n a b k tk tc tu tx : Int) (tg h : Bool) (n' a' b' k' tk' tc' tu' tx' : Int) (tg' h' : Bool) :
    Calls Tryz.prog 27 #[.agg #[.int .i64 n, .int .i64 a, .int .i64 b, v, .int .i64 k, .int .i64 tk, .int .i64 tc, .int .i64 tu, .int .i64 tx, .bool tg, .bool h], .agg #[.int .i64 n', .int .i64 a', .int .i64 b', u, .int .i64 k', .int .i64 tk', .int .i64 tc', .int .i64 tu', .int .i64 tx', .bool tg', .bool h']] w fun e w' =>
      e = .returned (.bool (decide ((⟨n, a, b, is, k, ⟨tk, tc, tu, tx, tg⟩, h⟩ : Mg) = ⟨n', a', b', is', k', ⟨tk', tc', tu', tx', tg'⟩, h'⟩))) ∧ Below w.heap.size w w' := by
  by_cases d : n = n'
  rotate_left
  · have hf : decide ((⟨n, a, b, is, k, ⟨tk, tc, tu, tx, tg⟩, h⟩ : Mg) = ⟨n', a', b', is', k', ⟨tk', tc', tu', tx', tg'⟩, h'⟩) = false := decide_eq_false fun e => d (congrArg (Mg.n) e)
    rw [hf]
    clear hf
    obtain ⟨p, c, rfl, -⟩ := hv
    obtain ⟨p', c', rfl, -⟩ := hu
    go_enter Tryz.func27, Tryz.ntmps27
    go_wp2
    go_ret
    exact ⟨rfl, ((Below.refl _ w).onA _).onA _⟩
  subst d
  by_cases d : a = a'
  rotate_left
  · have hf : decide ((⟨n, a, b, is, k, ⟨tk, tc, tu, tx, tg⟩, h⟩ : Mg) = ⟨n, a', b', is', k', ⟨tk', tc', tu', tx', tg'⟩, h'⟩) = false := decide_eq_false fun e => d (congrArg (Mg.a) e)
    rw [hf]
    clear hf
    obtain ⟨p, c, rfl, -⟩ := hv
    obtain ⟨p', c', rfl, -⟩ := hu
    go_enter Tryz.func27, Tryz.ntmps27
    go_wp2
    go_ret
    exact ⟨rfl, ((Below.refl _ w).onA _).onA _⟩
  subst d
  by_cases d : b = b'
  rotate_left
  · have hf : decide ((⟨n, a, b, is, k, ⟨tk, tc, tu, tx, tg⟩, h⟩ : Mg) = ⟨n, a, b', is', k', ⟨tk', tc', tu', tx', tg'⟩, h'⟩) = false := decide_eq_false fun e => d (congrArg (Mg.b) e)
    rw [hf]
    clear hf
    obtain ⟨p, c, rfl, -⟩ := hv
    obtain ⟨p', c', rfl, -⟩ := hu
    go_enter Tryz.func27, Tryz.ntmps27
    go_wp2
    go_ret
    exact ⟨rfl, ((Below.refl _ w).onA _).onA _⟩
  subst d
  by_cases d : is = is'
  rotate_left
  · have hf : decide ((⟨n, a, b, is, k, ⟨tk, tc, tu, tx, tg⟩, h⟩ : Mg) = ⟨n, a, b, is', k', ⟨tk', tc', tu', tx', tg'⟩, h'⟩) = false := decide_eq_false fun e => d (congrArg (Mg.is) e)
    rw [hf]
    clear hf
    have S1 := fun (o1 o2 : Obj) => sameI_at ((hv.alloc o1).alloc o2) ((hu.alloc o1).alloc o2) (b := false) (decide_eq_false d)
    obtain ⟨p, c, rfl, -⟩ := hv
    obtain ⟨p', c', rfl, -⟩ := hu
    have B1 := toHid (fun (o : Obj) (cs : Array Value) (t : TypeId) => ((Box.new w cs t).alloc o))
    have C1 := toHid (fun (o : Obj) (cs : Array Value) (t : TypeId) => (Box.new1 w o cs t))
    go_enter Tryz.func27, Tryz.ntmps27
    go_wp2_with (first
      | (go_at_call 33; refine (S1 _ _).mono ?_; rintro e w1 ⟨rfl, h1⟩
         obtain ⟨b1, b2, b3⟩ := (B1.out _ _ _).below h1
         obtain ⟨d1, d2', d3⟩ := (C1.out _ _ _).below h1))
    go_ret
    exact ⟨rfl, (((Below.refl _ w).onA _).onA _).on h1⟩
  subst d
  by_cases d : k = k'
  rotate_left
  · have hf : decide ((⟨n, a, b, is, k, ⟨tk, tc, tu, tx, tg⟩, h⟩ : Mg) = ⟨n, a, b, is, k', ⟨tk', tc', tu', tx', tg'⟩, h'⟩) = false := decide_eq_false fun e => d (congrArg (Mg.k) e)
    rw [hf]
    clear hf
    have S1 := fun (o1 o2 : Obj) => sameI_at ((hv.alloc o1).alloc o2) ((hu.alloc o1).alloc o2) (b := true) (by simp)
    obtain ⟨p, c, rfl, -⟩ := hv
    obtain ⟨p', c', rfl, -⟩ := hu
    have B1 := toHid (fun (o : Obj) (cs : Array Value) (t : TypeId) => ((Box.new w cs t).alloc o))
    have C1 := toHid (fun (o : Obj) (cs : Array Value) (t : TypeId) => (Box.new1 w o cs t))
    go_enter Tryz.func27, Tryz.ntmps27
    go_wp2_with (first
      | (go_at_call 33; refine (S1 _ _).mono ?_; rintro e w1 ⟨rfl, h1⟩
         obtain ⟨b1, b2, b3⟩ := (B1.out _ _ _).below h1
         obtain ⟨d1, d2', d3⟩ := (C1.out _ _ _).below h1))
    go_ret
    exact ⟨rfl, (((Below.refl _ w).onA _).onA _).on h1⟩
  subst d
  by_cases d : tk = tk'
  rotate_left
  · have hf : decide ((⟨n, a, b, is, k, ⟨tk, tc, tu, tx, tg⟩, h⟩ : Mg) = ⟨n, a, b, is, k, ⟨tk', tc', tu', tx', tg'⟩, h'⟩) = false := decide_eq_false fun e => d (congrArg (fun m => m.t.k) e)
    rw [hf]
    clear hf
    have S1 := fun (o1 o2 : Obj) => sameI_at ((hv.alloc o1).alloc o2) ((hu.alloc o1).alloc o2) (b := true) (by simp)
    obtain ⟨p, c, rfl, -⟩ := hv
    obtain ⟨p', c', rfl, -⟩ := hu
    have B1 := toHid (fun (o : Obj) (cs : Array Value) (t : TypeId) => ((Box.new w cs t).alloc o))
    have C1 := toHid (fun (o : Obj) (cs : Array Value) (t : TypeId) => (Box.new1 w o cs t))
    go_enter Tryz.func27, Tryz.ntmps27
    go_wp2_with (first
      | (go_at_call 33; refine (S1 _ _).mono ?_; rintro e w1 ⟨rfl, h1⟩
         obtain ⟨b1, b2, b3⟩ := (B1.out _ _ _).below h1
         obtain ⟨d1, d2', d3⟩ := (C1.out _ _ _).below h1))
    go_ret
    exact ⟨rfl, (((Below.refl _ w).onA _).onA _).on h1⟩
  subst d
  by_cases d : tc = tc'
  rotate_left
  · have hf : decide ((⟨n, a, b, is, k, ⟨tk, tc, tu, tx, tg⟩, h⟩ : Mg) = ⟨n, a, b, is, k, ⟨tk, tc', tu', tx', tg'⟩, h'⟩) = false := decide_eq_false fun e => d (congrArg (fun m => m.t.c) e)
    rw [hf]
    clear hf
    have S1 := fun (o1 o2 : Obj) => sameI_at ((hv.alloc o1).alloc o2) ((hu.alloc o1).alloc o2) (b := true) (by simp)
    obtain ⟨p, c, rfl, -⟩ := hv
    obtain ⟨p', c', rfl, -⟩ := hu
    have B1 := toHid (fun (o : Obj) (cs : Array Value) (t : TypeId) => ((Box.new w cs t).alloc o))
    have C1 := toHid (fun (o : Obj) (cs : Array Value) (t : TypeId) => (Box.new1 w o cs t))
    go_enter Tryz.func27, Tryz.ntmps27
    go_wp2_with (first
      | (go_at_call 33; refine (S1 _ _).mono ?_; rintro e w1 ⟨rfl, h1⟩
         obtain ⟨b1, b2, b3⟩ := (B1.out _ _ _).below h1
         obtain ⟨d1, d2', d3⟩ := (C1.out _ _ _).below h1))
    go_ret
    exact ⟨rfl, (((Below.refl _ w).onA _).onA _).on h1⟩
  subst d
  by_cases d : tu = tu'
  rotate_left
  · have hf : decide ((⟨n, a, b, is, k, ⟨tk, tc, tu, tx, tg⟩, h⟩ : Mg) = ⟨n, a, b, is, k, ⟨tk, tc, tu', tx', tg'⟩, h'⟩) = false := decide_eq_false fun e => d (congrArg (fun m => m.t.u) e)
    rw [hf]
    clear hf
    have S1 := fun (o1 o2 : Obj) => sameI_at ((hv.alloc o1).alloc o2) ((hu.alloc o1).alloc o2) (b := true) (by simp)
    obtain ⟨p, c, rfl, -⟩ := hv
    obtain ⟨p', c', rfl, -⟩ := hu
    have B1 := toHid (fun (o : Obj) (cs : Array Value) (t : TypeId) => ((Box.new w cs t).alloc o))
    have C1 := toHid (fun (o : Obj) (cs : Array Value) (t : TypeId) => (Box.new1 w o cs t))
    go_enter Tryz.func27, Tryz.ntmps27
    go_wp2_with (first
      | (go_at_call 33; refine (S1 _ _).mono ?_; rintro e w1 ⟨rfl, h1⟩
         obtain ⟨b1, b2, b3⟩ := (B1.out _ _ _).below h1
         obtain ⟨d1, d2', d3⟩ := (C1.out _ _ _).below h1))
    go_ret
    exact ⟨rfl, (((Below.refl _ w).onA _).onA _).on h1⟩
  subst d
  by_cases d : tx = tx'
  rotate_left
  · have hf : decide ((⟨n, a, b, is, k, ⟨tk, tc, tu, tx, tg⟩, h⟩ : Mg) = ⟨n, a, b, is, k, ⟨tk, tc, tu, tx', tg'⟩, h'⟩) = false := decide_eq_false fun e => d (congrArg (fun m => m.t.x) e)
    rw [hf]
    clear hf
    have S1 := fun (o1 o2 : Obj) => sameI_at ((hv.alloc o1).alloc o2) ((hu.alloc o1).alloc o2) (b := true) (by simp)
    obtain ⟨p, c, rfl, -⟩ := hv
    obtain ⟨p', c', rfl, -⟩ := hu
    have B1 := toHid (fun (o : Obj) (cs : Array Value) (t : TypeId) => ((Box.new w cs t).alloc o))
    have C1 := toHid (fun (o : Obj) (cs : Array Value) (t : TypeId) => (Box.new1 w o cs t))
    go_enter Tryz.func27, Tryz.ntmps27
    go_wp2_with (first
      | (go_at_call 33; refine (S1 _ _).mono ?_; rintro e w1 ⟨rfl, h1⟩
         obtain ⟨b1, b2, b3⟩ := (B1.out _ _ _).below h1
         obtain ⟨d1, d2', d3⟩ := (C1.out _ _ _).below h1))
    go_ret
    exact ⟨rfl, (((Below.refl _ w).onA _).onA _).on h1⟩
  subst d
  by_cases d : tg = tg'
  rotate_left
  · have hf : decide ((⟨n, a, b, is, k, ⟨tk, tc, tu, tx, tg⟩, h⟩ : Mg) = ⟨n, a, b, is, k, ⟨tk, tc, tu, tx, tg'⟩, h'⟩) = false := decide_eq_false fun e => d (congrArg (fun m => m.t.g) e)
    rw [hf]
    clear hf
    have d2 : (tg == tg') = false := by cases tg <;> cases tg' <;> simp_all
    have S1 := fun (o1 o2 : Obj) => sameI_at ((hv.alloc o1).alloc o2) ((hu.alloc o1).alloc o2) (b := true) (by simp)
    obtain ⟨p, c, rfl, -⟩ := hv
    obtain ⟨p', c', rfl, -⟩ := hu
    have B1 := toHid (fun (o : Obj) (cs : Array Value) (t : TypeId) => ((Box.new w cs t).alloc o))
    have C1 := toHid (fun (o : Obj) (cs : Array Value) (t : TypeId) => (Box.new1 w o cs t))
    go_enter Tryz.func27, Tryz.ntmps27
    go_wp2_with (first
      | (go_at_call 33; refine (S1 _ _).mono ?_; rintro e w1 ⟨rfl, h1⟩
         obtain ⟨b1, b2, b3⟩ := (B1.out _ _ _).below h1
         obtain ⟨d1, d2', d3⟩ := (C1.out _ _ _).below h1))
    go_ret
    exact ⟨rfl, (((Below.refl _ w).onA _).onA _).on h1⟩
  subst d
  by_cases d : h = h'
  rotate_left
  · have hf : decide ((⟨n, a, b, is, k, ⟨tk, tc, tu, tx, tg⟩, h⟩ : Mg) = ⟨n, a, b, is, k, ⟨tk, tc, tu, tx, tg⟩, h'⟩) = false := decide_eq_false fun e => d (congrArg (Mg.h) e)
    rw [hf]
    clear hf
    have d2 : (h == h') = false := by cases h <;> cases h' <;> simp_all
    have S1 := fun (o1 o2 : Obj) => sameI_at ((hv.alloc o1).alloc o2) ((hu.alloc o1).alloc o2) (b := true) (by simp)
    obtain ⟨p, c, rfl, -⟩ := hv
    obtain ⟨p', c', rfl, -⟩ := hu
    have B1 := toHid (fun (o : Obj) (cs : Array Value) (t : TypeId) => ((Box.new w cs t).alloc o))
    have C1 := toHid (fun (o : Obj) (cs : Array Value) (t : TypeId) => (Box.new1 w o cs t))
    go_enter Tryz.func27, Tryz.ntmps27
    go_wp2_with (first
      | (go_at_call 33; refine (S1 _ _).mono ?_; rintro e w1 ⟨rfl, h1⟩
         obtain ⟨b1, b2, b3⟩ := (B1.out _ _ _).below h1
         obtain ⟨d1, d2', d3⟩ := (C1.out _ _ _).below h1))
    go_ret
    exact ⟨rfl, (((Below.refl _ w).onA _).onA _).on h1⟩
  subst d
  rw [show decide ((⟨n, a, b, is, k, ⟨tk, tc, tu, tx, tg⟩, h⟩ : Mg) = ⟨n, a, b, is, k, ⟨tk, tc, tu, tx, tg⟩, h⟩) = true from decide_eq_true rfl]
  exact sameMsg_same hv hu n a b k tk tc tu tx tg h

end Go.Proofs.YtghamcomjfholaaGreat
