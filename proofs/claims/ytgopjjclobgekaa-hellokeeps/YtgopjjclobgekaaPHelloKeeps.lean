
/-
  The statement HelloKeeps: behind a greeting whoever was known is known, nobody is known who was not told, and who greets is a peer, heard now, unless all places were taken by others.
-/
import Derived.Test.YtgopjjclobgekaaRows
import Derived.Test.YtgopjjclobgekaaOpen
import Derived.Test.YtgopjjclobgekaaHelloLaw
import Derived.Test.YtgopjjclobgekaaHelloIn
import Derived.Test.YtgopjjclobgekaaViewRef
import Derived.Test.YtgopjjclobgekaaOpenV
namespace Go.Proofs.Ytgopjjclobgekaa.helloKeeps
open Go.ChangeShapes Go.WideShapes Go.ChangeAt Go.RowKit
set_option linter.unusedVariables false

/-! ### The walk -/
theorem mem_kn {s : VSt} {x : Int} : x ∈ nmL s.1 ++ s.2 ↔ Kn s x := by
  rw [List.mem_append]
  exact ⟨fun h => h.symm, fun h => h.symm⟩
theorem nm_len (ps : List Pe) : (nmL ps).length = ps.length := by simp [nmL]
theorem getD_mem {xs : List Int} {k : Nat} (h : k < xs.length) : xs.getD k 0 ∈ xs := by
  rw [getD_in _ _ h]
  exact List.getElem_mem h

set_option maxHeartbeats 4000000 in
theorem walk (v0 : Value) (x0 : VwO) (a1 : Int) (v2 : Value) (x2 : List Int) (w : World) (r0 : v0 = .agg #[.int .i64 x0.i, x0.p, x0.q]) (w0 : (Lit.int .i64 x0.i).wf = true) (h0 : VwAt 0 w.heap.size w x0.p x0.q x0.ps x0.is) (s0 : x0.ps.length * 16 ≤ 140737488351232) (t0 : x0.is.length * 8 ≤ 140737488351232) (u0 : ∀ y ∈ x0.ps, PeW y) (y0 : ∀ y ∈ x0.is, (Lit.int .i64 y).wf = true) (w1 : (Lit.int .i64 a1).wf = true) (r2 : RowI 0 w.heap.size w v2 x2) (s2 : x2.length * 8 ≤ 140737488351232) (w2 : ∀ x ∈ x2, (Lit.int .i64 x).wf = true) :
    Calls Try.prog 4 #[v0, .int .i64 a1, v2] w fun e w' => e = .returned (.bool true) ∧ Below w.heap.size w w' := by
  obtain ⟨i, ps, is, p, q⟩ := x0
  dsimp only at r0 w0 h0 s0 t0 u0 y0
  subst r0
  clear w0 u0 y0 s2 w2 w1
  have RR := toHid (fun (o : Obj) (w1 : World) (hb : Below (w.alloc o).heap.size (w.alloc o) w1) => (r2.alloc o).below hb (by simp))
  have VV := toHid (fun (o : Obj) (w1 : World) (hb : Below (w.alloc o).heap.size (w.alloc o) w1) => (h0.alloc o).below hb (by simp))
  have B1 := toHid (fun (cs : Array Value) (t : TypeId) => Box.new w cs t)
  obtain ⟨a, c, a', c', ep, eq, hn, hn'⟩ := h0.shape
  subst ep eq
  clear h0
  obtain ⟨p2, c2, e2, -⟩ := r2
  subst e2
  have t1 := trivial
  rcases Bool.eq_false_or_eq_true (heB i (ps, is) a1 x2) with hB | hB
  · obtain ⟨e1, e2, e3⟩ := he_yes hB
    obtain ⟨k1, k2, k3, k4, k5⟩ := heB_iff.1 hB
    have hM := fun x (h : Kn (ps, is) x) => he_mono k1 k2 k3 k4 h
    have hO := fun x (h : Kn (heS i (ps, is) a1 x2) x) => he_only k1 k2 k3 k4 h
    have hMi := fun p (h : p ∈ (heS i (ps, is) a1 x2).1) (e : p.n = a1) => he_missed k1 k2 k3 k4 h e
    have hI := he_in k1 k2 k3 k4
    have hZ := ok_size (he_ok k1 k2 k3 k4)
    have hY : ps.length + is.length ≤ 16 := ok_size k1
    obtain ⟨⟨s1, s2⟩, hs⟩ : ∃ s, heS i (ps, is) a1 x2 = s := ⟨_, rfl⟩
    rw [hs] at e2 hM hO hMi hI hZ
    dsimp only at hMi hI
    replace hZ : s1.length + s2.length ≤ 16 := hZ
    obtain ⟨L1, hL1⟩ : ∃ L, nmL ps ++ is = L := ⟨_, rfl⟩
    obtain ⟨L2, hL2⟩ : ∃ L, nmL s1 ++ s2 = L := ⟨_, rfl⟩
    have F1 : Hid (∀ x ∈ L1, x ∈ L2) := toHid fun x hx => by
      rw [← hL1] at hx
      rw [← hL2]
      exact (mem_kn (s := (s1, s2))).2 (hM x ((mem_kn (s := (ps, is))).1 hx))
    have F2 : Hid (∀ x ∈ L2, x ∈ L1 ∨ x = a1 ∨ x ∈ x2) := toHid fun x hx => by
      rw [← hL2] at hx
      rw [← hL1]
      rcases hO x ((mem_kn (s := (s1, s2))).1 hx) with h | h
      · exact .inl ((mem_kn (s := (ps, is))).2 h)
      · exact .inr h
    have F4 : Hid (¬ a1 ∈ nmL s1 → L1.length = 16 ∧ ¬ a1 ∈ L1) := toHid fun h => by
      rcases hI with h' | ⟨h1, h2⟩
      · exact absurd h' h
      · rw [← hL1]
        exact ⟨by rw [List.length_append, nm_len]; exact h1, fun e => h2 ((mem_kn (s := (ps, is))).1 e)⟩
    have F5 : L2.length ≤ 16 := by
      rw [← hL2, List.length_append, nm_len]
      exact hZ
    have F6 : L1.length ≤ 16 := by
      rw [← hL1, List.length_append, nm_len]
      exact hY
    replace hMi := toHid hMi
    obtain ⟨n1, hn1⟩ : ∃ n, s1.length = n := ⟨_, rfl⟩
    obtain ⟨n2, hn2⟩ : ∃ n, s2.length = n := ⟨_, rfl⟩
    have K1 := toHid (fun (o : Obj) (w1 : World) (hb : Below (w.alloc o).heap.size (w.alloc o) w1) => hTake_at (VV.out o w1 hb) (Nat.le_trans (by simp) hb.size) (RR.out o w1 hb) (Nat.le_trans (by simp) hb.size) e1 e2 e3 hn1 hn2)
    replace hn1 := toHid hn1
    replace hn2 := toHid hn2
    replace hL1 := toHid hL1
    replace hL2 := toHid hL2
    clear e1 e2 e3 hs k1 k2 k3 k4 k5 hB hM hO hI
    go_enter Try.func4, Try.ntmps4
    go_wp2_with (first
      | (go_at_call 18; refine (awake10_any _).mono ?_; rintro e w1 ⟨rfl, hk⟩
         obtain ⟨b1, b2, b3⟩ := (B1.out _ _).below hk)
      | (go_at_call 12; refine (K1.out _ _ hk).mono ?_; rintro e w2 ⟨a2, d2, a2', d2', rfl, X2, h2⟩
         replace hk := hk.on h2
         clear b1 b2 b3
         obtain ⟨b1, b2, b3⟩ := (B1.out _ _).below hk
         replace hk := hk.onA (.cells #[.int .i64 i, .slice a2 n1 d2, .slice a2' n2 d2'] 25)
         have z2 : w.heap.size ≤ w2.heap.size := Nat.le_of_lt b1
         have XA := toHid (X2.at.alloc (.cells #[.int .i64 i, .slice a2 n1 d2, .slice a2' n2 d2'] 25))
         have AX := toHid (Box.new w2 #[.int .i64 i, .slice a2 n1 d2, .slice a2' n2 d2'] 25)
         clear X2 h2)
      | (go_at_call 15; refine (num_any _ _).mono ?_; rintro e w' ⟨rfl, hw'⟩; subst w')
      | (go_at_call 19; refine (rNames_own (VV.out _ _ hk).ps (by simp; omega) s0).mono ?_; rintro e w3 ⟨u3, rfl, own3, h3⟩
         clear b1 b2 b3
         obtain ⟨b1, b2, b3⟩ := (B1.out _ _).below (hk.on h3)
         have R3 := toHid (VV.out _ _ (hk.on h3)).is
         have z3 := h3.size)
      | (at_builtin; refine app_row rfl (.tmp 32) (.tmp 34) rfl (w2.alloc (.cells #[.int .i64 i, .slice a2 n1 d2, .slice a2' n2 d2'] 25)).heap.size _ ps.length (nmL ps) rfl own3 0 w.heap.size _ is rfl R3.out (by omega) z3 ?_))
    intro v4 w4 hown4 hgr4 hb4
    have hc4 : Below (w2.alloc (.cells #[.int .i64 i, .slice a2 n1 d2, .slice a2' n2 d2'] 25)).heap.size (w2.alloc (.cells #[.int .i64 i, .slice a2 n1 d2, .slice a2' n2 d2'] 25)) w4 := h3.trans (by simpa using hb4)
    replace hk := hk.on hc4
    rw [← List.map_append, hL1.out] at hown4
    have O4 := toHid (RowI.of_owns hown4)
    obtain ⟨a4, c4, e4, -⟩ := O4.out
    subst e4
    have X4 := toHid (XA.out.below hc4 (by simp))
    have BA4 := toHid (AX.out.below hc4)
    have z4 : w2.heap.size ≤ w4.heap.size := Nat.le_of_lt BA4.out.1
    clear hown4 hgr4 hb4 h3 own3 R3 z3 XA AX hc4 b1 b2 b3
    obtain ⟨b1, b2, b3⟩ := id BA4.out
    go_wp2_with (first
      | (go_at_call 19; refine (rNames_own X4.out.ps z4 (by omega)).mono ?_; rintro e w5 ⟨u5, rfl, own5, h5⟩
         clear b1 b2 b3
         obtain ⟨b1, b2, b3⟩ := BA4.out.below h5
         have R5 := toHid (X4.out.below h5 z4).is
         have z5 := h5.size)
      | (at_builtin; refine app_row rfl (.tmp 39) (.tmp 41) rfl w4.heap.size _ s1.length (nmL s1) rfl own5 _ _ _ s2 rfl R5.out (by omega) z5 ?_))
    intro v6 w6 hown6 hgr6 hb6
    have hc6 := h5.trans hb6
    replace hk := hk.on hc6
    rw [← List.map_append, hL2.out] at hown6
    have N6 := toHid (RowI.of_owns hown6)
    obtain ⟨a6, c6, e6, -⟩ := N6.out
    subst e6
    have O6 := toHid (O4.out.below hc6 (Nat.le_refl _))
    have P6 := toHid ((X4.out.below hc6 z4).ps.pes (Nat.le_trans z4 hc6.size))
    have R6 := toHid (RR.out _ _ hk)
    have BA6 := toHid (BA4.out.below hc6)
    have z6 : w.heap.size ≤ w6.heap.size := Nat.le_trans z2 (Nat.le_trans z4 hc6.size)
    have OI := toHid (O6.out.ints (Nat.le_trans (Nat.le_refl _) hc6.size))
    have NI := toHid (N6.out.ints (Nat.le_refl _))
    have hEnd := toHid (((Below.refl _ w).onA _).on hk)
    clear hown6 hgr6 hb6 h5 own5 R5 z5 hc6 b1 b2 b3 X4 BA4 O4 hk VV RR K1 B1
    go_wp2
    go_loop [11] (fun j => ∃ k : Nat, k ≤ L1.length ∧ j = .int .i64 k) (fun j => L1.length - (intOf j).toNat)
    case atStart => exact ⟨0, Nat.zero_le _, rfl⟩
    case round =>
      obtain ⟨k, hk, rfl⟩ := hrel
      by_cases hlt : k < L1.length
      · obtain ⟨px, cx, ex, -, hcs⟩ := OI.out
        cases ex
        obtain ⟨b, off, rfl, -, hbw, hc⟩ := hcs (by omega)
        have c1 := hc k hlt
        have hin := F1.out _ (getD_mem hlt)
        have hlt' : (k : Int) < (L1.length : Int) := by omega
        clear hc hcs OI NI P6
        generalize L1.getD k 0 = y at c1 hin
        go_wp2_with (first
          | (go_at_call 20; refine (in_is N6.out (decide_eq_true hin)).mono ?_; rintro e w' ⟨rfl, hw'⟩; subst w'))
        go_round
        case rel => exact ⟨k + 1, by omega, by go_num⟩
        case measure => simp [intOf]; omega
      · clear hk F1 OI
        go_wp2
        go_loop [12] (fun j => ∃ k : Nat, k ≤ L2.length ∧ j = .int .i64 k) (fun j => L2.length - (intOf j).toNat)
        case atStart => exact ⟨0, Nat.zero_le _, rfl⟩
        case round =>
          obtain ⟨k, hk, rfl⟩ := hrel
          by_cases hlt : k < L2.length
          · obtain ⟨px, cx, ex, -, hcs⟩ := NI.out
            cases ex
            obtain ⟨b, off, rfl, -, hbw, hc⟩ := hcs (by omega)
            have c1 := hc k hlt
            have hor := F2.out _ (getD_mem hlt)
            have hlt' : (k : Int) < (L2.length : Int) := by omega
            clear hc hcs NI P6 F2
            generalize L2.getD k 0 = y at c1 hor
            have t2 := trivial
            by_cases g1 : y ∈ L1
            · clear hor
              go_wp2_with (first
                | (go_at_call 20; refine (in_is O6.out (decide_eq_true g1)).mono ?_; rintro e w' ⟨rfl, hw'⟩; subst w'))
              go_round
              case rel => exact ⟨k + 1, by omega, by go_num⟩
              case measure => simp [intOf]; omega
            · by_cases g2 : y = a1
              · subst g2
                have g3 : (y != y) = false := by simp
                have g4 : (y == y) = true := by simp
                clear hor
                go_wp2_with (first
                  | (go_at_call 20; refine (in_is O6.out (decide_eq_false g1)).mono ?_; rintro e w' ⟨rfl, hw'⟩; subst w'))
                go_round
                case rel => exact ⟨k + 1, by omega, by go_num⟩
                case measure => simp [intOf]; omega
              · have g5 : y ∈ x2 := (hor.resolve_left g1).resolve_left g2
                have g3 : (y != a1) = true := by simpa using g2
                have g4 : (y == a1) = false := by simpa using g2
                clear hor
                go_wp2_with (first
                  | (go_at_call 20; clear t2; refine (in_is O6.out (decide_eq_false g1)).mono ?_; rintro e w' ⟨rfl, hw'⟩; subst w')
                  | (go_at_call 20; refine (in_is R6.out (decide_eq_true g5)).mono ?_; rintro e w' ⟨rfl, hw'⟩; subst w'))
                go_round
                case rel => exact ⟨k + 1, by omega, by go_num⟩
                case measure => simp [intOf]; omega
          · clear hk F2 NI
            have en := hn1.out
            subst en
            obtain ⟨b1, b2, b3⟩ := id BA6.out
            have F7 : Hid ((∀ j, j < s1.length → ¬ (s1.getD j ⟨0, 0⟩).n = a1) → L1.length = 16 ∧ ¬ a1 ∈ L1) := toHid fun h => F4.out fun hm => by
              obtain ⟨p, hp, e⟩ := nmL_mem.1 hm
              obtain ⟨j, hj, rfl⟩ := List.mem_iff_getElem.1 hp
              exact h j hj (by rw [getD_in _ _ hj]; exact e)
            have F8 : Hid (∀ j, j < s1.length → (s1.getD j ⟨0, 0⟩).n = a1 → (s1.getD j ⟨0, 0⟩).m = 0) := toHid fun j hj e => by
              rw [getD_in _ _ hj] at e ⊢
              exact hMi.out _ (List.getElem_mem hj) e
            clear F4 hMi hn1
            go_wp2
            go_loop [13] (fun j => ∃ k : Nat, k ≤ s1.length ∧ j = .int .i64 k ∧ Hid (∀ j, j < k → ¬ (s1.getD j ⟨0, 0⟩).n = a1)) (fun j => s1.length - (intOf j).toNat)
            case atStart => exact ⟨0, Nat.zero_le _, rfl, toHid (fun j hj => absurd hj (Nat.not_lt_zero _))⟩
            case round =>
              obtain ⟨k, hk, rfl, hj⟩ := hrel
              by_cases hlt : k < s1.length
              · obtain ⟨px, cx, ex, -, hcs⟩ := P6.out
                cases ex
                obtain ⟨b, off, rfl, -, hbw, hc⟩ := hcs (by omega)
                obtain ⟨c1, c2⟩ := hc k hlt
                have g8 := F8.out k hlt
                have hlt' : (k : Int) < (s1.length : Int) := by omega
                clear hc hcs P6 F8 F7
                generalize hz : s1.getD k ⟨0, 0⟩ = z at c1 c2 g8
                obtain ⟨zn, zm⟩ := z
                dsimp only at c1 c2 g8
                by_cases he : zn = a1
                · have hm := g8 he
                  subst hm
                  have h16 : (L2.length : Int) ≤ 16 := by omega
                  have h16' : decide ((L2.length : Int) ≤ 16) = true := decide_eq_true h16
                  have he2 : (zn == a1) = true := by simpa using he
                  clear hj hz g8
                  go_wp2
                  go_ret
                  exact ⟨rfl, hEnd.out⟩
                · have hj' : Hid (∀ j, j < k + 1 → ¬ (s1.getD j ⟨0, 0⟩).n = a1) := toHid fun j hjk => by
                    by_cases e : j = k
                    · rw [e, hz]; exact he
                    · exact hj.out j (by omega)
                  have he2 : (zn == a1) = false := by simpa using he
                  clear hj hz g8
                  go_wp2
                  go_round
                  case rel => exact ⟨k + 1, by omega, by go_num, hj'⟩
                  case measure => simp [intOf]; omega
              · obtain ⟨g1, g2⟩ := F7.out fun j hjs => hj.out j (by omega)
                have h16 : (L1.length : Int) = 16 := by omega
                have h16' : ((L1.length : Int) == 16) = true := by simpa using h16
                clear hj F7 F8 P6 g1
                go_wp2_with (first
                  | (go_at_call 20; refine (in_is O6.out (decide_eq_false g2)).mono ?_; rintro e w' ⟨rfl, hw'⟩; subst w'))
                go_ret
                exact ⟨rfl, hEnd.out⟩
  · obtain ⟨e1, e2, e3⟩ := he_no hB
    have K1 := toHid (fun (o : Obj) (w1 : World) (hb : Below (w.alloc o).heap.size (w.alloc o) w1) => hTake_at (n1 := 0) (n2 := 0) (VV.out o w1 hb) (Nat.le_trans (by simp) hb.size) (RR.out o w1 hb) (Nat.le_trans (by simp) hb.size) e1 e2 e3 rfl rfl)
    clear e1 e2 e3 hB VV RR s0 t0
    go_enter Try.func4, Try.ntmps4
    go_wp2_with (first
      | (go_at_call 18; refine (awake10_any _).mono ?_; rintro e w1 ⟨rfl, hk⟩
         obtain ⟨b1, b2, b3⟩ := (B1.out _ _).below hk)
      | (go_at_call 12; clear t1; refine (K1.out _ _ hk).mono ?_; rintro e w2 ⟨a2, d2, a2', d2', rfl, X2, h2⟩
         replace hk := hk.on h2
         replace X2 := toHid X2.at
         clear h2 b1 b2 b3)
      | (go_at_call 15; refine (num_any _ _).mono ?_; rintro e w' ⟨rfl, hw'⟩; subst w')
      | (go_at_call 14; refine (sameView_same (lo' := 0) (hi' := 0) 0 (X2.out.alloc _) ⟨RowC.nil0, RowI.nil0⟩ (by simp) (Nat.zero_le _)).mono ?_; rintro e w4 ⟨rfl, h4⟩))
    go_ret
    exact ⟨rfl, ((((Below.refl _ w).onA _).on hk).onA _).on h4⟩

/-! ### The row's step -/
set_option maxRecDepth 100000 in
theorem lifted (os : Os) (started : os.Started) (H : Type) (enc : TypeId × Value → H) :
    ReturnsInHanded {} Try.checked os 4 .any (Rows.helloKeepsSpec.pre6 enc Try.prog Try.f4 Rows.helloKeepsRow.domain false) (Rows.helloKeepsSpec.post enc Try.prog Try.f4 false true false false) := by
  refine returnsInHanded_of_change_sized (C := Try.checked) ownK started (by kernel_rfl) Try.func4
    (ChangeSpec.witness6 (enc := enc) (C := Try.checked) false ⟨#[], #[.agg #[.int .i64 0, .slice none 0 0, .slice none 0 0], .int .i64 0, .slice none 0 0], []⟩ 8 (by kernel_rfl) (by kernel_rfl) (by kernel_rfl) (by kernel_rfl)) ?_
  intro W base args ds gs before hval0 hW hcnd hsz0 _
  have hsz : (DataW.weightsEach Try.prog (Try.f4.params.toList ++ Rows.helloKeepsSpec.plain.varTypes Try.prog) (ds ++ gs)).all (· ≤ reachBytes) = true := hsz0
  have hval : ∀ (j : Nat) t v, Try.f4.params[j]? = some t → args[j]? = some v → Value.okWide Try.prog W .any base t v := hval0
  have hW' := hW
  obtain ⟨p, q, hA0, hV, rfl, hfz, hnd⟩ := hW
  have hA : DataW.TrodAll enc Try.prog W 0 (fun _ => true) true Try.f4.params.toList args.toList ds p := hA0
  rw [Try.params4] at hA hval hsz
  obtain ⟨v0, vs0, d0, ds0, p0, q0, hargs, rfl, rfl, h0, r0⟩ := trodAll_cons hA
  obtain ⟨v1, vs1, d1, ds1, p1, q1, rfl, rfl, rfl, h1, r1⟩ := trodAll_cons r0
  obtain ⟨v2, vs2, d2, ds2, p2, q2, rfl, rfl, rfl, h2, r2⟩ := trodAll_cons r1
  obtain ⟨rfl, rfl, rfl⟩ := trodAll_nil r2
  obtain rfl : args = #[v0, v1, v2] := by cases args; simp_all
  obtain ⟨rfl, rfl⟩ := trodVars_none hV
  clear r0 r1 r2
  have k0 := h0
  have lt0 : ∀ x ∈ p0, x.block < W.heap.size := by obtain ⟨m, hm⟩ := k0; exact DataW.trod_lt m _ _ _ hm
  have z0 : ∀ n ∈ d0.weights Try.prog 25, n ≤ reachBytes := fun n hn => by simpa using List.all_eq_true.1 hsz _ (DataW.weights_mem_each (j := 0) rfl rfl n hn)
  have f0 : W.noneFrozen p0 := fun b off hm => hfz b off (by simp [hm])
  have k1 := h1
  have lt1 : ∀ x ∈ p1, x.block < W.heap.size := by obtain ⟨m, hm⟩ := k1; exact DataW.trod_lt m _ _ _ hm
  have k2 := h2
  have lt2 : ∀ x ∈ p2, x.block < W.heap.size := by obtain ⟨m, hm⟩ := k2; exact DataW.trod_lt m _ _ _ hm
  have z2 : ∀ n ∈ d2.weights Try.prog 23, n ≤ reachBytes := fun n hn => by simpa using List.all_eq_true.1 hsz _ (DataW.weights_mem_each (j := 2) rfl rfl n hn)
  have f2 : W.noneFrozen p2 := fun b off hm => hfz b off (by simp [hm])
  obtain ⟨x0, r0, w0, h0, s0, t0, u0, y0⟩ := open_view (hval 0 25 v0 rfl rfl) h0 f0 z0
  obtain ⟨a1, rfl, rfl, rfl, w1⟩ := open_int Try.underlying3 (hval 1 3 v1 rfl rfl) h1
  obtain ⟨x2, r2, s2, w2⟩ := open_rowI (hval 2 23 v2 rfl rfl) h2 f2 z2
  clear hA0 hval0
  refine (walk v0 x0 a1 v2 x2 W r0 w0 h0 s0 t0 u0 y0 w1 r2 s2 w2).mono fun e W' ⟨he, bel⟩ => ?_
  subst he
  exact ⟨_, rfl, _, _, _, [], _, [], hW', trodAll_mk1 (shut_bool Try.underlying4 _), (trodAll_cons_mk (Below.trod laidOut (by kernel_rfl) (of_decide_eq_true (by kernel_rfl)) k0 bel lt0) (trodAll_cons_mk (Below.trod laidOut (by kernel_rfl) (of_decide_eq_true (by kernel_rfl)) k1 bel lt1) (trodAll_cons_mk (Below.trod laidOut (by kernel_rfl) (of_decide_eq_true (by kernel_rfl)) k2 bel lt2) trodAll_mk0))), rfl, bel.frame _, fun h => by cases h⟩

theorem over : Rows.helloKeepsRow.holds Try.pinned (OpenSpec.ofChange Rows.helloKeepsSpec) :=
  OpenClaim.holds_of_wide 4 Try.f4 rfl rfl rfl rfl rfl rfl rfl ⟨rfl, rfl, rfl, rfl, rfl⟩ rfl rfl rfl rfl rfl (by kernel_rfl) Try.func4 (by kernel_rfl)
    (of_decide_eq_true (by kernel_rfl)) (by unfold Func.isWrapper; first | (rw [if_pos (by decide +kernel)]; kernel_rfl) | (rw [if_neg (by decide +kernel)]; exact ⟨rfl, rfl⟩))
    (fun os started H enc _ => lifted os started H enc)

end Go.Proofs.Ytgopjjclobgekaa.helloKeeps

namespace Go.Proofs.Ytgopjjclobgekaa
/-- The statement, by its short name. -/
theorem helloKeeps_holds : Rows.HelloKeepsSaid := helloKeeps.over
#print axioms helloKeeps_holds
end Go.Proofs.Ytgopjjclobgekaa
