
/-
  The statement QueueAll, for all messages and any picks: a queue is emptied in whatever row it is picked, and each message comes once.
-/
import Derived.Test.YtnnhnidefjhakaaRows
import Derived.Test.YtnnhnidefjhakaaOpen
import Derived.Test.YtnnhnidefjhakaaQueueAw
import Derived.Test.YtnnhnidefjhakaaOpenMs
import Derived.Test.YtnnhnidefjhakaaQueuePerm
import Derived.Deep.DeepCutAuto
import Derived.Deep.CutRange
import Derived.Deep.CutBlock
namespace Go.Proofs.Ytnnhnidefjhakaa.queueAll
open Go.ChangeShapes Go.WideShapes Go.ChangeAt Go.RowKit
set_option linter.unusedVariables false

/-! ### The walk -/
theorem RowM.keepOff {lo hi : Nat} {w w' : World} {v : Value} {ms : List Mg} {row : Option Nat} (h : RowM lo hi w v ms) (hg : w.grownBy w' row) (hd : ∀ g, row = some g → g < lo ∨ hi ≤ g) (hh : hi ≤ w.heap.size) : RowM lo hi w' v ms := by
  have hb : ∀ b, lo ≤ b → b < hi → w'.heap[b]? = w.heap[b]? := fun b h1 h2 => hg.block b (by omega) (fun e => by have := hd b e.symm; omega)
  obtain ⟨xs, e, ⟨p, cap, rfl, hl, hc, hx⟩, f⟩ := h
  refine ⟨xs, e, ⟨p, cap, rfl, hl, hc, fun hne => ?_⟩, fun x hx => ?_⟩
  · obtain ⟨b, off, rfl, h1, h2, h3⟩ := hx hne
    exact ⟨b, off, rfl, h1, h2, fun j hj => ⟨(World.cell?_of_block (hb b h1 h2)).trans (h3 j hj).1, (World.frozen?_of_block (hb b h1 h2)).trans (h3 j hj).2⟩⟩
  · obtain ⟨p2, cap2, ev, hl2, hc2, hx2⟩ := f x hx
    refine ⟨p2, cap2, ev, hl2, hc2, fun hne => ?_⟩
    obtain ⟨b, off, rfl, h1, h2, h3⟩ := hx2 hne
    exact ⟨b, off, rfl, h1, h2, fun j hj => ⟨(World.cell?_of_block (hb b h1 h2)).trans (h3 j hj).1, (World.frozen?_of_block (hb b h1 h2)).trans (h3 j hj).2⟩⟩
theorem OwnM.blk {base : Nat} {w : World} {v : Value} {ms : List Mg} (h : OwnM base w v ms) : ∀ g, v.ownBlock = some g → g < w.heap.size := by
  obtain ⟨xs, e, r, f⟩ := h
  exact fun g hg => (r.lt g hg).2
/-- A message in a row, cell by cell. -/
theorem RowM.get {lo hi : Nat} {w : World} {v : Value} {ms : List Mg} (h : RowM lo hi w v ms) {j : Nat} (hj : j < ms.length) {n a b k tk tc tu tx : Int} {is : List Int} {tg g : Bool} (hM : ms[j] = ⟨n, a, b, is, k, ⟨tk, tc, tu, tx, tg⟩, g⟩) :
    ∃ bb off c q d, v = .slice (some ⟨bb, off, none⟩) ms.length c ∧ bb < hi ∧ RowI lo hi w (.slice q is.length d) is ∧
    w.cell? ⟨bb, off + j * 11, none⟩ = some (.int .i64 n) ∧ w.cell? ⟨bb, off + j * 11 + 1, none⟩ = some (.int .i64 a) ∧ w.cell? ⟨bb, off + j * 11 + 2, none⟩ = some (.int .i64 b) ∧ w.cell? ⟨bb, off + j * 11 + 3, none⟩ = some (.slice q is.length d) ∧ w.cell? ⟨bb, off + j * 11 + 4, none⟩ = some (.int .i64 k) ∧ w.cell? ⟨bb, off + j * 11 + 5, none⟩ = some (.int .i64 tk) ∧
    w.cell? ⟨bb, off + j * 11 + 6, none⟩ = some (.int .i64 tc) ∧ w.cell? ⟨bb, off + j * 11 + 7, none⟩ = some (.int .i64 tu) ∧ w.cell? ⟨bb, off + j * 11 + 8, none⟩ = some (.int .i64 tx) ∧ w.cell? ⟨bb, off + j * 11 + 9, none⟩ = some (.bool tg) ∧ w.cell? ⟨bb, off + j * 11 + 10, none⟩ = some (.bool g) := by
  obtain ⟨q, d, e, -, hx⟩ := h.at
  obtain ⟨bb, off, e2, -, hbb, h3⟩ := hx (by omega)
  obtain ⟨x, hm, hc⟩ := h3 j hj
  obtain ⟨y, rfl⟩ := mg_of (hm.trans hM)
  have hy := hc.2
  have hcc := hc.cells
  dsimp only at hcc hy
  obtain ⟨q2, d2, e6, -⟩ := hy.cap
  subst e6 e2
  exact ⟨bb, off, d, q2, d2, e, hbb, hy, hcc⟩
theorem sameMsg_at {lo hi lo' hi' : Nat} {w : World} {v u : Value} {is is' : List Int} (hv : RowI lo hi w v is) (hu : RowI lo' hi' w u is') {n a b k tk tc tu tx : Int} {tg h : Bool} {n' a' b' k' tk' tc' tu' tx' : Int} {tg' h' r : Bool}
    (hr : decide ((⟨n, a, b, is, k, ⟨tk, tc, tu, tx, tg⟩, h⟩ : Mg) = ⟨n', a', b', is', k', ⟨tk', tc', tu', tx', tg'⟩, h'⟩) = r) :
    Calls Try.prog 15 #[.agg #[.int .i64 n, .int .i64 a, .int .i64 b, v, .int .i64 k, .int .i64 tk, .int .i64 tc, .int .i64 tu, .int .i64 tx, .bool tg, .bool h], .agg #[.int .i64 n', .int .i64 a', .int .i64 b', u, .int .i64 k', .int .i64 tk', .int .i64 tc', .int .i64 tu', .int .i64 tx', .bool tg', .bool h']] w fun e w' =>
      e = .returned (.bool r) ∧ Below w.heap.size w w' := hr ▸ sameMsg_any hv hu n a b k tk tc tu tx tg h n' a' b' k' tk' tc' tu' tx' tg' h'
def marksL (U : List Bool) : Array Value := (U.map Value.bool).toArray

set_option maxHeartbeats 8000000 in
theorem walk (v0 : Value) (x0 : List Mg) (v1 : Value) (x1 : List Int) (w : World) (r0 : RowM 0 w.heap.size w v0 x0) (s0 : x0.length * 104 ≤ 140737488351232) (u0 : ∀ m ∈ x0, m.is.length * 8 ≤ 140737488351232) (r1 : RowI 0 w.heap.size w v1 x1) (s1 : x1.length * 8 ≤ 140737488351232) (w1 : ∀ x ∈ x1, (Lit.int .i64 x).wf = true) :
    Calls Try.prog 6 #[v0, v1] w fun e w' => e = .returned (.bool true) ∧ Below w.heap.size w w' := by
  obtain ⟨p0, c0, e0, hn0, -⟩ := r0.at
  subst e0
  have R0 := toHid (fun (W : World) (hk : Below w.heap.size w W) => r0.below hk (Nat.le_refl _))
  have P0 := toHid (fun (W : World) (hk : Below w.heap.size w W) => r1.below hk (Nat.le_refl _))
  obtain ⟨pp, cp, ep, -⟩ := r1.cap
  subst ep
  have hpl := s1
  clear r0 r1 w1 u0
  cases hq : quB x0 with
  | false =>
    have hne : 0 < x0.length := by
      rcases Nat.eq_zero_or_pos x0.length with h | h
      · rw [List.length_eq_zero_iff.1 h] at hq
        cases hq
      · exact h
    have hne' : 0 < (x0.length : Int) := by omega
    by_cases h12 : (12 : Int) < (x0.length : Int)
    all_goals
      go_enter Try.func6, Try.ntmps6
      go_wp2_with (first
        | (go_at_call 20; refine (awake14_any _).mono ?_; rintro e wA ⟨rfl, hA⟩)
        | (go_at_call 16; refine (qMay_is (R0.out _ hA) hA.size hq).mono ?_; rintro e w3 ⟨rfl, h3⟩))
      go_ret
      exact ⟨by first | rfl | (simp; done) | simp [hne'], hA.on h3⟩
  | true =>
  by_cases h12 : 12 < x0.length
  · have h12' : (12 : Int) < (x0.length : Int) := by omega
    go_enter Try.func6, Try.ntmps6
    go_wp2_with (first
      | (go_at_call 20; refine (awake14_any _).mono ?_; rintro e wA ⟨rfl, hA⟩)
      | (go_at_call 16; refine (qMay_is (R0.out _ hA) hA.size hq).mono ?_; rintro e w3 ⟨rfl, h3⟩))
    go_ret
    exact ⟨rfl, hA.on h3⟩
  have h12' : ¬ (12 : Int) < (x0.length : Int) := by omega
  go_enter Try.func6, Try.ntmps6
  go_wp2_with (first
    | (go_at_call 20; refine (awake14_any _).mono ?_; rintro e wA ⟨rfl, hA⟩)
    | (go_at_call 16; refine (qMay_is (R0.out _ hA) hA.size hq).mono ?_; rintro e w3 ⟨rfl, h3⟩))
  have hA3 := hA.on h3
  clear hA h3
  go_loopw [5, 6, 7] (fun s5 s6 s7 wr => ∃ (Q S : List Mg) (lo hi : Nat), s7 = .int .i64 (S.length : Int) ∧ (S ++ Q).Perm x0 ∧ RowM lo hi wr s5 Q ∧ hi ≤ wr.heap.size ∧ OwnM w.heap.size wr s6 S ∧ (∀ g, s6.ownBlock = some g → g < lo ∨ hi ≤ g) ∧ Below w.heap.size w wr) (fun _ _ s7 _ => 13 - (intOf s7).toNat)
  case atStart => exact ⟨x0, [], 0, w.heap.size, rfl, List.Perm.refl _, R0.out _ hA3, hA3.size, OwnM.nil0, (fun g hg => by cases hg), hA3⟩
  case round =>
    clear hA3
    obtain ⟨Q, S, lo, hi, rfl, hp, RQ, hhi, OS, hgo, hk⟩ := hrel
    have hlen : S.length + Q.length = x0.length := by have := hp.length_eq; simpa using this
    obtain ⟨pq, cq, eq, -, -⟩ := RQ.at
    subst eq
    have zk := hk.size
    by_cases hQ : 0 < Q.length
    · have hQ' : 0 < (Q.length : Int) := by omega
      have hQm : quB Q = true := by
        simp only [quB, Bool.and_eq_true, List.all_eq_true, decide_eq_true_eq]
        exact ⟨fun m hm => qu_mem hq m (hp.mem_iff.1 (List.mem_append_right _ hm)), by omega⟩
      obtain ⟨j, hj⟩ : ∃ j : Nat, j = (if h : S.length < x1.length then (x1[S.length] % 18446744073709551616).toNat % Q.length else 0) := ⟨_, rfl⟩
      have hjl : j < Q.length := by
        rw [hj]
        split
        · exact Nat.mod_lt _ hQ
        · exact hQ
      obtain ⟨⟨n, a, b, is, k, ⟨tk, tc, tu, tx, tg⟩, g⟩, hM⟩ : ∃ M, Q[j] = M := ⟨_, rfl⟩
      have htk : tkB Q j = true := by
        simp only [tkB, hQm, Bool.true_and, decide_eq_true_eq]
        omega
      have t1 : tqM Q j = ⟨n, a, b, is, k, ⟨tk, tc, tu, tx, tg⟩, g⟩ := by
        rw [tqM, if_pos htk, ← hM]
        simp [List.getD, List.getElem?_eq_getElem hjl]
      have t2 : tqE Q j = 0 := by rw [tqE, if_pos htk]
      obtain ⟨L, hL⟩ : ∃ L, Q.take j ++ Q.drop (j + 1) = L := ⟨_, rfl⟩
      have t3 : tqL Q j = L := by rw [tqL, if_pos htk, ← hL]; rfl
      have hLl : Hid (L.length = Q.length - 1) := toHid (by rw [← hL]; simp; omega)
      have hLc : ((Q.length - 1 : Nat) : Int) = (Q.length : Int) - 1 := by omega
      have hpm : Hid ((S ++ [(⟨n, a, b, is, k, ⟨tk, tc, tu, tx, tg⟩, g⟩ : Mg)] ++ L).Perm x0) := toHid (by rw [← hL, ← hM]; exact perm_pick hp hjl)
      have HT := toHid (qTake_any RQ hhi (j : Int) t1 t3 t2)
      have hgl := toHid (OwnM.blk OS)
      replace OS := toHid OS
      replace hk0 := hk
      replace hk := toHid hk
      clear hgo hp t1 t2 t3 htk hL hM hQm RQ
      by_cases hx : S.length < x1.length
      · rw [dif_pos hx] at hj
        have hx' : (S.length : Int) < (x1.length : Int) := by omega
        have hS0 : 0 ≤ (S.length : Int) := by omega
        obtain ⟨pp', cp', ep, -, -, hp1⟩ := P0.out _ hk0
        cases ep
        obtain ⟨bp, op, rfl, -, hbp, hp3⟩ := hp1 (fun e => by rw [e] at hx; cases hx)
        have cx := (hp3 _ hx).1
        obtain ⟨y, hy⟩ : ∃ y, x1[S.length] = y := ⟨_, rfl⟩
        have cx2 : wr.cell? ⟨bp, op + S.length, none⟩ = some (.int .i64 y) := by rw [cx, ← hy]; simp [List.getD, List.getElem?_eq_getElem hx]
        rw [hy] at hj
        have e1 := rem_u64 y Q.length j hj
        have e2 : (IntKind.u64.wrap y) % (Q.length : Int) = (j : Int) := by rwa [Int.tmod_eq_emod_of_nonneg (u64_nonneg y)] at e1
        have hq0 : ¬ (Q.length : Int) = 0 := by omega
        have hj0 : 0 ≤ (j : Int) := by omega
        have hj1 : (j : Int) < 12 := by omega
        have hq12 : (Q.length : Int) ≤ 12 := by omega
        replace hj := toHid hj
        clear cx hp3 hp1 hy hk0
        go_wp2_with (first
          | (go_at_call 11; refine HT.out.mono ?_; rintro e w5 ⟨p5, c5, v5, rfl, own5, O5, h5⟩
             obtain ⟨pL, cL, eL⟩ := O5.cap
             rw [hLl.out] at eL
             subst eL
             have hm5 := h5.size
             have hb5 := (Below.refl _ w5).onA (.cells #[.int .i64 n, .int .i64 a, .int .i64 b, .slice p5 is.length c5, .int .i64 k, .int .i64 tk, .int .i64 tc, .int .i64 tu, .int .i64 tx, .bool tg, .bool g] 29)
             have BP := toHid (Box.new w5 #[.int .i64 n, .int .i64 a, .int .i64 b, .slice p5 is.length c5, .int .i64 k, .int .i64 tk, .int .i64 tc, .int .i64 tu, .int .i64 tx, .bool tg, .bool g] 29)
             have RL := toHid (O5.row)
             have IP := toHid (own_low (base' := w.heap.size) own5 zk)
             have OS2 := toHid (OS.out.below h5)
             replace hk := toHid (hk.out.on h5)
             obtain ⟨m1, m2, m3⟩ := BP.out
             clear own5 O5 h5)
          | (go_at_call 14; refine (num_any _ _).mono ?_; rintro e w9 ⟨rfl, hw9⟩; subst w9)
          | (at_builtin; refine app_msgs2 rfl (.tmp 72) (.tmp 74) rfl w.heap.size _ S rfl ((OS2.out.alloc _).alloc _) ⟨w5.heap.size + 1, 0, none⟩ 1 1 [⟨n, a, b, is, k, ⟨tk, tc, tu, tx, tg⟩, g, .slice p5 is.length c5⟩] rfl rfl (fun j hj => ?_) (fun y hy => ?_) (by omega) (by simp; omega) ?_
             · (rw [add_plain, Nat.zero_add]; exact ((Box.newAt _ _ (by simp)).2.1 j).trans (by simp [MvV]))
             · (obtain rfl := List.mem_singleton.1 hy; exact ownsRow_below IP.out (((Below.refl _ _).onA _).onA _))))
        intro v7 w7 O7 hg7 hb7 hp7
        have RL7 := toHid (RowM.keepOff ((RL.out.alloc _).alloc _) hg7 (fun g hg => .inl (hgl.out g hg)) (by simp; omega))
        have z7 : w5.heap.size ≤ w7.heap.size := Nat.le_trans (by simp; omega) hg7.size
        have hk7 := toHid ((((hk.out.onA _).onA _)).trans hb7)
        have hg8 : Hid (∀ g, v7.ownBlock = some g → g < wr.heap.size ∨ w5.heap.size ≤ g) := toHid (by
          intro g hg
          rcases hp7 with e | ⟨g', e, l⟩
          · rw [e] at hg
            exact .inl (hgl.out g hg)
          · rw [e] at hg
            cases hg
            try simp at l
            exact .inr (by omega))
        replace O7 := toHid O7
        clear hg7 hb7 hp7 m1 m2 m3 BP RL OS2 IP hk
        go_wp2
        go_roundw
        case rel => exact ⟨_, _, _, _, by rw [List.length_append]; go_num, hpm.out, RL7.out, z7, O7.out, hg8.out, hk7.out⟩
        case measure => simp [intOf]; omega
      · rw [dif_neg hx] at hj
        subst hj
        have hx' : ¬ (S.length : Int) < (x1.length : Int) := by omega
        have hq12 : (Q.length : Int) ≤ 12 := by omega
        clear hk0
        go_wp2_with (first
          | (go_at_call 11; refine HT.out.mono ?_; rintro e w5 ⟨p5, c5, v5, rfl, own5, O5, h5⟩
             obtain ⟨pL, cL, eL⟩ := O5.cap
             rw [hLl.out] at eL
             subst eL
             have hm5 := h5.size
             have hb5 := (Below.refl _ w5).onA (.cells #[.int .i64 n, .int .i64 a, .int .i64 b, .slice p5 is.length c5, .int .i64 k, .int .i64 tk, .int .i64 tc, .int .i64 tu, .int .i64 tx, .bool tg, .bool g] 29)
             have BP := toHid (Box.new w5 #[.int .i64 n, .int .i64 a, .int .i64 b, .slice p5 is.length c5, .int .i64 k, .int .i64 tk, .int .i64 tc, .int .i64 tu, .int .i64 tx, .bool tg, .bool g] 29)
             have RL := toHid (O5.row)
             have IP := toHid (own_low (base' := w.heap.size) own5 zk)
             have OS2 := toHid (OS.out.below h5)
             replace hk := toHid (hk.out.on h5)
             obtain ⟨m1, m2, m3⟩ := BP.out
             clear own5 O5 h5)
          | (go_at_call 14; refine (num_any _ _).mono ?_; rintro e w9 ⟨rfl, hw9⟩; subst w9)
          | (at_builtin; refine app_msgs2 rfl (.tmp 72) (.tmp 74) rfl w.heap.size _ S rfl ((OS2.out.alloc _).alloc _) ⟨w5.heap.size + 1, 0, none⟩ 1 1 [⟨n, a, b, is, k, ⟨tk, tc, tu, tx, tg⟩, g, .slice p5 is.length c5⟩] rfl rfl (fun j hj => ?_) (fun y hy => ?_) (by omega) (by simp; omega) ?_
             · (rw [add_plain, Nat.zero_add]; exact ((Box.newAt _ _ (by simp)).2.1 j).trans (by simp [MvV]))
             · (obtain rfl := List.mem_singleton.1 hy; exact ownsRow_below IP.out (((Below.refl _ _).onA _).onA _))))
        intro v7 w7 O7 hg7 hb7 hp7
        have RL7 := toHid (RowM.keepOff ((RL.out.alloc _).alloc _) hg7 (fun g hg => .inl (hgl.out g hg)) (by simp; omega))
        have z7 : w5.heap.size ≤ w7.heap.size := Nat.le_trans (by simp; omega) hg7.size
        have hk7 := toHid ((((hk.out.onA _).onA _)).trans hb7)
        have hg8 : Hid (∀ g, v7.ownBlock = some g → g < wr.heap.size ∨ w5.heap.size ≤ g) := toHid (by
          intro g hg
          rcases hp7 with e | ⟨g', e, l⟩
          · rw [e] at hg
            exact .inl (hgl.out g hg)
          · rw [e] at hg
            cases hg
            try simp at l
            exact .inr (by omega))
        replace O7 := toHid O7
        clear hg7 hb7 hp7 m1 m2 m3 BP RL OS2 IP hk
        go_wp2
        go_roundw
        case rel => exact ⟨_, _, _, _, by rw [List.length_append]; go_num, hpm.out, RL7.out, z7, O7.out, hg8.out, hk7.out⟩
        case measure => simp [intOf]; omega
    · have hQ0 : Q = [] := List.length_eq_zero_iff.1 (by omega)
      subst hQ0
      rw [List.append_nil] at hp
      have hSl : S.length = x0.length := by simpa using hlen
      obtain ⟨pS, cS, eS⟩ := OS.cap
      rw [hSl] at eS
      subst eS
      simp only [hSl, List.length_nil]
      replace hSl := toHid hSl
      have RS := toHid (OS.row.wide (Nat.zero_le _) (Nat.le_refl _))
      replace hk := toHid hk
      clear RQ OS hgo hhi hlen hQ
      obtain ⟨wE, rfl⟩ : ∃ x, x = wr := ⟨wr, rfl⟩
      have BU := toHid (Box.new wE #[.bool false, .bool false, .bool false, .bool false, .bool false, .bool false, .bool false, .bool false, .bool false, .bool false, .bool false, .bool false] 52)
      have kB := (Below.refl _ wE).onA (.cells #[.bool false, .bool false, .bool false, .bool false, .bool false, .bool false, .bool false, .bool false, .bool false, .bool false, .bool false, .bool false] 52)
      go_upto_region 21 with (fail)
      generalize wE.alloc (.cells #[.bool false, .bool false, .bool false, .bool false, .bool false, .bool false, .bool false, .bool false, .bool false, .bool false, .bool false, .bool false] 52) = wB at BU kB ⊢
      go_wp2
      go_loopw [13] (fun s13 w2 => ∃ (i : Nat) (U : List Bool), i ≤ x0.length ∧ s13 = .int .i64 i ∧ U.length = 12 ∧ Box w2 wE.heap.size (marksL U) ∧ (unM S U).Perm (x0.drop i) ∧ Below wE.heap.size wE w2) (fun s13 _ => x0.length - (intOf s13).toNat)
      case atStart => exact ⟨0, List.replicate 12 false, Nat.zero_le _, rfl, rfl, BU.out, by rw [unM_none S 12 (by have := hSl.out; omega)]; exact hp, kB⟩
      case round =>
        clear kB BU
        obtain ⟨i, U, hi, rfl, hU, BU, hpu, kc⟩ := hrel
        obtain ⟨w2, rfl⟩ : ∃ x, x = wr := ⟨wr, rfl⟩
        by_cases hlt : i < x0.length
        · have hlt' : (i : Int) < (x0.length : Int) := by omega
          have hi0 : 0 ≤ (i : Int) := by omega
          have hdr : x0.drop i = x0[i] :: x0.drop (i + 1) := List.drop_eq_getElem_cons hlt
          rw [hdr] at hpu
          obtain ⟨⟨n', a', b', is', k', ⟨tk', tc', tu', tx', tg'⟩, g'⟩, hN⟩ : ∃ M, x0[i] = M := ⟨_, rfl⟩
          rw [hN] at hpu
          replace hdr := toHid hdr
          have hpu2 := toHid hpu
          replace hp := toHid hp
          clear hpu
          go_wp2
          go_loopw [14, 15] (fun s14 s15 w3 => ∃ z : Nat, z ≤ x0.length ∧ s15 = .int .i64 z ∧ Below wE.heap.size wE w3 ∧ ((s14 = .bool false ∧ Box w3 wE.heap.size (marksL U) ∧ ∀ y1 (h1 : y1 < S.length) (h2 : y1 < U.length), y1 < z → U[y1] = false → S[y1] ≠ ⟨n', a', b', is', k', ⟨tk', tc', tu', tx', tg'⟩, g'⟩) ∨
            (s14 = .bool true ∧ ∃ U' : List Bool, U'.length = 12 ∧ Box w3 wE.heap.size (marksL U') ∧ (unM S U').Perm (x0.drop (i + 1))))) (fun _ s15 _ => x0.length - (intOf s15).toNat)
          case atStart => exact ⟨0, Nat.zero_le _, rfl, kc, .inl ⟨rfl, BU, fun y1 _ _ h => absurd h (Nat.not_lt_zero _)⟩⟩
          case round =>
            clear kc BU
            obtain ⟨z, hkS, rfl, kc, hrel⟩ := hrel
            rcases hrel with ⟨rfl, BU, hno⟩ | ⟨rfl, U', hU', BU, hpu3⟩
            · by_cases hk1 : z < S.length
              · have hk0 : z < x0.length := by have := hSl.out; omega
                have hk1' : (z : Int) < (x0.length : Int) := by omega
                have hk2 : z < U.length := by omega
                have hk12 : (z : Int) < 12 := by omega
                have hkz : 0 ≤ (z : Int) := by omega
                obtain ⟨⟨n, a, b, is, k, ⟨tk, tc, tu, tx, tg⟩, g⟩, hM⟩ : ∃ M, S[z] = M := ⟨_, rfl⟩
                obtain ⟨bS, oS, dS, qS, eS1, ev, hbS, RI1, f0, f1, f2, f3, f4, f5, f6, f7, f8, f9, f10⟩ := RowM.get (RS.out.fwd kc) hk1 hM
                simp only [Value.slice.injEq] at ev
                obtain ⟨rfl, -, rfl⟩ := ev
                have hkk := hk.out.on kc
                obtain ⟨b0, o0, d0, q0, e00, ev, hb0, RI0, m0, m1, m2, m3, m4, m5, m6, m7, m8, m9, m10⟩ := RowM.get (R0.out _ hkk) hlt hN
                cases ev
                have zk2 := hkk.size
                have hb0' : b0 < wr.heap.size := by omega
                have hUk : wr.cell? ⟨wE.heap.size, z, none⟩ = some (.bool U[z]) := by
                  rw [BU.2.1 z]
                  simp [marksL, hk2]
                have zE := BU.1
                have RI0' := toHid RI0
                have RI1' := toHid RI1
                have BU' := toHid BU
                replace kc := toHid kc
                replace hno := toHid hno
                clear RI0 RI1 BU hkk
                cases hu : U[z] with
                | true =>
                  rw [hu] at hUk
                  have hno2 : Hid (∀ y1 (h1 : y1 < S.length) (h2 : y1 < U.length), y1 < z + 1 → U[y1] = false → S[y1] ≠ ⟨n', a', b', is', k', ⟨tk', tc', tu', tx', tg'⟩, g'⟩) := toHid (by
                    intro y1 h1 h2 h3 h4
                    rcases Nat.lt_or_ge y1 z with h5 | h5
                    · exact hno.out y1 h1 h2 h5 h4
                    · obtain rfl : y1 = z := by omega
                      rw [hu] at h4
                      cases h4)
                  clear hu hM hno
                  have HS := trivial
                  go_upto_region 28 with (fail)
                  refine wp_region_below (by kernel_rfl) (by kernel_rfl) ?_
                  repeat (first
                    | go_big_quiet_skip
                    | (go_big_quiet_want; go_big_quiet_op; go_big_quiet_on)
                    | (refine wpQuiet_step (fun K hK => ?_)
                       go_simp
                       first
                         | (refine hK _ ?_; clear hK K)
                         | (refine ⟨_, fun w' hw' => rfl, hK _ ?_⟩; clear hK K)
                         | (apply Exists.intro
                            refine ⟨fun w' hw' => ?_, hK _ ?_⟩
                            · (obtain ⟨hc', hf'⟩ := bcell hw'
                               first
                                 | (go_simp; rfl)
                                 | (fail))
                            clear hK K)))
                  refine wpQuiet_nil ?_
                  intro wc hc0
                  clear HS f0 f1 f2 f3 f4 f5 f6 f7 f8 f9 f10 m0 m1 m2 m3 m4 m5 m6 m7 m8 m9 m10 hUk
                  go_wp2
                  go_roundw
                  case rel => exact ⟨z + 1, by omega, by go_num, kc.out.trans (hc0.mono (Nat.le_of_lt zE)), .inl ⟨rfl, BU'.out.below hc0, hno2.out⟩⟩
                  case measure => simp [intOf]; omega
                | false =>
                  rw [hu] at hUk
                  by_cases he : (⟨n, a, b, is, k, ⟨tk, tc, tu, tx, tg⟩, g⟩ : Mg) = ⟨n', a', b', is', k', ⟨tk', tc', tu', tx', tg'⟩, g'⟩
                  · have hst : Hid ((unM S (U.set z true)).Perm (x0.drop (i + 1))) := toHid (unM_step hpu2.out hk1 hk2 hu (hM.trans he))
                    have HS := toHid (fun (W : World) (hb : Below wr.heap.size wr W) => sameMsg_at (RI1'.out.below hb (Nat.le_refl _)) (RI0'.out.below hb zk2) (decide_eq_true he))
                    have hu3 := toHid hu
                    clear hu hM hno he
                    go_upto_region 28 with (fail)
                    refine wp_region_below (by kernel_rfl) (by kernel_rfl) ?_
                    repeat (first
                      | go_big_quiet_skip
                      | (go_big_quiet_want; go_big_quiet_op; go_big_quiet_on)
                      | (refine wpQuiet_step (fun K hK => ?_)
                         go_simp
                         first
                           | (refine hK _ ?_; clear hK K)
                           | (refine ⟨_, fun w' hw' => rfl, hK _ ?_⟩; clear hK K)
                           | (apply Exists.intro
                              refine ⟨fun w' hw' => ?_, hK _ ?_⟩
                              · (obtain ⟨hc', hf'⟩ := bcell hw'
                                 first
                                   | (go_simp; rfl)
                                   | (go_at_call 15; refine (HS.out _ hw').mono ?_; rintro e w9 ⟨rfl, h9⟩; exact ⟨rfl, hw'.on h9⟩))
                              clear hK K)))
                    refine wpQuiet_nil ?_
                    intro wc hc0
                    clear HS f0 f1 f2 f3 f4 f5 f6 f7 f8 f9 f10 m0 m1 m2 m3 m4 m5 m6 m7 m8 m9 m10 hUk
                    have BV := BU'.out.below hc0
                    have BW := toHid (BV.setS (ys := marksL (U.set z true)) z (.bool true) (by simp [marksL]; omega) (by simp [marksL, List.map_set]))
                    have c1 : wc.cell? ⟨wE.heap.size, z, none⟩ = some (.bool false) := by
                      rw [BV.2.1 z]
                      simp [marksL, hk2, hu3.out]
                    have c2 := BV.2.2 z
                    have kd := toHid ((kc.out.trans (hc0.mono (Nat.le_of_lt zE))).setCell (p := ⟨wE.heap.size, z, none⟩) (Nat.le_refl _) (.bool true))
                    clear BV
                    go_wp2
                    go_roundw
                    case rel => exact ⟨z + 1, by omega, by go_num, kd.out, .inr ⟨rfl, U.set z true, by simpa using hU, BW.out, hst.out⟩⟩
                    case measure => simp [intOf]; omega
                  · have HS := toHid (fun (W : World) (hb : Below wr.heap.size wr W) => sameMsg_at (RI1'.out.below hb (Nat.le_refl _)) (RI0'.out.below hb zk2) (decide_eq_false he))
                    have hno2 : Hid (∀ y1 (h1 : y1 < S.length) (h2 : y1 < U.length), y1 < z + 1 → U[y1] = false → S[y1] ≠ ⟨n', a', b', is', k', ⟨tk', tc', tu', tx', tg'⟩, g'⟩) := toHid (by
                      intro y1 h1 h2 h3 h4
                      rcases Nat.lt_or_ge y1 z with h5 | h5
                      · exact hno.out y1 h1 h2 h5 h4
                      · obtain rfl : y1 = z := by omega
                        rw [hM]
                        exact he)
                    clear hu hM hno he
                    go_upto_region 28 with (fail)
                    refine wp_region_below (by kernel_rfl) (by kernel_rfl) ?_
                    repeat (first
                      | go_big_quiet_skip
                      | (go_big_quiet_want; go_big_quiet_op; go_big_quiet_on)
                      | (refine wpQuiet_step (fun K hK => ?_)
                         go_simp
                         first
                           | (refine hK _ ?_; clear hK K)
                           | (refine ⟨_, fun w' hw' => rfl, hK _ ?_⟩; clear hK K)
                           | (apply Exists.intro
                              refine ⟨fun w' hw' => ?_, hK _ ?_⟩
                              · (obtain ⟨hc', hf'⟩ := bcell hw'
                                 first
                                   | (go_simp; rfl)
                                   | (go_at_call 15; refine (HS.out _ hw').mono ?_; rintro e w9 ⟨rfl, h9⟩; exact ⟨rfl, hw'.on h9⟩))
                              clear hK K)))
                    refine wpQuiet_nil ?_
                    intro wc hc0
                    clear HS f0 f1 f2 f3 f4 f5 f6 f7 f8 f9 f10 m0 m1 m2 m3 m4 m5 m6 m7 m8 m9 m10 hUk
                    go_wp2
                    go_roundw
                    case rel => exact ⟨z + 1, by omega, by go_num, kc.out.trans (hc0.mono (Nat.le_of_lt zE)), .inl ⟨rfl, BU'.out.below hc0, hno2.out⟩⟩
                    case measure => simp [intOf]; omega
              · exfalso
                have hmem : (⟨n', a', b', is', k', ⟨tk', tc', tu', tx', tg'⟩, g'⟩ : Mg) ∈ unM S U := hpu2.out.mem_iff.2 List.mem_cons_self
                obtain ⟨j, h1, h2, h3, h4⟩ := unM_mem S U _ hmem
                exact hno j h1 h2 (by have := hSl.out; omega) h3 h4
            · replace BU := toHid BU
              replace kc := toHid kc
              replace hpu3 := toHid hpu3
              by_cases hk1 : (z : Int) < (x0.length : Int)
              all_goals
                go_wp2
                go_roundw
                case rel => exact ⟨i + 1, U', by omega, by go_num, hU', BU.out, hpu3.out, kc.out⟩
                case measure => simp [intOf]; omega
        · have hlt' : ¬ (i : Int) < (x0.length : Int) := by omega
          replace kc := toHid kc
          replace BU := toHid BU
          clear hpu hp
          go_wp2
          go_ret
          exact ⟨rfl, hk.out.on kc.out⟩

/-! ### The row's step -/
set_option maxRecDepth 100000 in
theorem lifted (os : Os) (started : os.Started) (H : Type) (enc : TypeId × Value → H) :
    ReturnsInHanded {} Try.checked os 6 .any (Rows.queueAllSpec.pre6 enc Try.prog Try.f6 Rows.queueAllRow.domain false) (Rows.queueAllSpec.post enc Try.prog Try.f6 false true false false) := by
  refine returnsInHanded_of_change_sized (C := Try.checked) ownK started (by kernel_rfl) Try.func6
    (ChangeSpec.witness6 (enc := enc) (C := Try.checked) false ⟨#[], #[.slice none 0 0, .slice none 0 0], []⟩ 8 (by kernel_rfl) (by kernel_rfl) (by kernel_rfl) (by kernel_rfl)) ?_
  intro W base args ds gs before hval0 hW hcnd hsz0 _
  have hsz : (DataW.weightsEach Try.prog (Try.f6.params.toList ++ Rows.queueAllSpec.plain.varTypes Try.prog) (ds ++ gs)).all (· ≤ reachBytes) = true := hsz0
  have hval : ∀ (j : Nat) t v, Try.f6.params[j]? = some t → args[j]? = some v → Value.okWide Try.prog W .any base t v := hval0
  have hW' := hW
  obtain ⟨p, q, hA0, hV, rfl, hfz, hnd⟩ := hW
  have hA : DataW.TrodAll enc Try.prog W 0 (fun _ => true) true Try.f6.params.toList args.toList ds p := hA0
  rw [Try.params6] at hA hval hsz
  obtain ⟨v0, vs0, d0, ds0, p0, q0, hargs, rfl, rfl, h0, r0⟩ := trodAll_cons hA
  obtain ⟨v1, vs1, d1, ds1, p1, q1, rfl, rfl, rfl, h1, r1⟩ := trodAll_cons r0
  obtain ⟨rfl, rfl, rfl⟩ := trodAll_nil r1
  obtain rfl : args = #[v0, v1] := by cases args; simp_all
  obtain ⟨rfl, rfl⟩ := trodVars_none hV
  clear r0 r1
  have k0 := h0
  have lt0 : ∀ x ∈ p0, x.block < W.heap.size := by obtain ⟨m, hm⟩ := k0; exact DataW.trod_lt m _ _ _ hm
  have z0 : ∀ n ∈ d0.weights Try.prog 22, n ≤ reachBytes := fun n hn => by simpa using List.all_eq_true.1 hsz _ (DataW.weights_mem_each (j := 0) rfl rfl n hn)
  have f0 : W.noneFrozen p0 := fun b off hm => hfz b off (by simp [hm])
  have k1 := h1
  have lt1 : ∀ x ∈ p1, x.block < W.heap.size := by obtain ⟨m, hm⟩ := k1; exact DataW.trod_lt m _ _ _ hm
  have z1 : ∀ n ∈ d1.weights Try.prog 23, n ≤ reachBytes := fun n hn => by simpa using List.all_eq_true.1 hsz _ (DataW.weights_mem_each (j := 1) rfl rfl n hn)
  have f1 : W.noneFrozen p1 := fun b off hm => hfz b off (by simp [hm])
  obtain ⟨x0, r0, s0, u0⟩ := open_rowM (hval 0 22 v0 rfl rfl) h0 f0 z0
  obtain ⟨x1, r1, s1, w1⟩ := open_rowI (hval 1 23 v1 rfl rfl) h1 f1 z1
  clear hA0 hval0
  refine (walk v0 x0 v1 x1 W r0 s0 u0 r1 s1 w1).mono fun e W' ⟨he, bel⟩ => ?_
  subst he
  exact ⟨_, rfl, _, _, _, [], _, [], hW', trodAll_mk1 (shut_bool Try.underlying4 _), (trodAll_cons_mk (Below.trod laidOut (by kernel_rfl) (of_decide_eq_true (by kernel_rfl)) k0 bel lt0) (trodAll_cons_mk (Below.trod laidOut (by kernel_rfl) (of_decide_eq_true (by kernel_rfl)) k1 bel lt1) trodAll_mk0)), rfl, bel.frame _, fun h => by cases h⟩

theorem over : Rows.queueAllRow.holds Try.pinned (OpenSpec.ofChange Rows.queueAllSpec) :=
  OpenClaim.holds_of_wide 6 Try.f6 rfl rfl rfl rfl rfl rfl rfl ⟨rfl, rfl, rfl, rfl, rfl⟩ rfl rfl rfl rfl rfl (by kernel_rfl) Try.func6 (by kernel_rfl)
    (of_decide_eq_true (by kernel_rfl)) (by unfold Func.isWrapper; first | (rw [if_pos (by decide +kernel)]; kernel_rfl) | (rw [if_neg (by decide +kernel)]; exact ⟨rfl, rfl⟩))
    (fun os started H enc _ => lifted os started H enc)

end Go.Proofs.Ytnnhnidefjhakaa.queueAll

namespace Go.Proofs.Ytnnhnidefjhakaa
/-- The statement, by its short name. -/
theorem queueAll_holds : Rows.QueueAllSaid := queueAll.over
#print axioms queueAll_holds
end Go.Proofs.Ytnnhnidefjhakaa
