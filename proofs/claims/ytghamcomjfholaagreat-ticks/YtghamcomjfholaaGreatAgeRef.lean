
/-
  Contract of the document's own answer for layer 11 (time goes by): what it returns, in new memory, and that no old memory has turned.
-/
import Derived.Test.YtghamcomjfholaaGreatRowA
import Derived.Test.YtghamcomjfholaaGreatViewRef
import Derived.Test.YtghamcomjfholaaGreatPeerDoc
namespace Go.Proofs.YtghamcomjfholaaGreat
open Go.ChangeShapes Go.WideShapes Go.ChangeAt Go.RowKit

theorem rAge_is {lo hi : Nat} {w : World} {v : Value} {xs : List Pe} {b : Int} (hx : RowP lo hi w v xs) (hh : hi ≤ w.heap.size) (hs : psB b xs = true) :
    Calls Tryz.prog 48 #[.int .i64 b, v] w fun e w' => ∃ a n c a' c', e = .returned (.tuple #[.slice a n c, .slice a' (agD xs).length c', .int .i64 0]) ∧
      RowP w.heap.size w'.heap.size w' (.slice a n c) (agA xs) ∧ RowI w.heap.size w'.heap.size w' (.slice a' (agD xs).length c') (agD xs) ∧ Below w.heap.size w w' := by
  refine (rAge_any hx hh b).mono fun e w' k => ?_
  obtain ⟨o, l, he, P, Q, hb⟩ := k
  rw [(ag_yes hs).1] at P
  rw [(ag_yes hs).2.1] at Q
  rw [(ag_yes hs).2.2] at he
  obtain ⟨a, c, e1, -⟩ := id P
  obtain ⟨a', c', e2, -⟩ := id Q
  subst e1 e2
  exact ⟨a, _, c, a', c', he, P, Q, hb⟩

set_option maxHeartbeats 4000000 in
theorem rTick_any {lo hi : Nat} {w : World} {p q : Value} {ps : List Pe} {is : List Int} (i : Int) (h : VwAt lo hi w p q ps is) (hh : hi ≤ w.heap.size) (h47 : ps.length * 16 ≤ 140737488351232) :
    Calls Tryz.prog 21 #[.agg #[.int .i64 i, p, q]] w fun e w' => ∃ p' q' g, e = .returned (.tuple #[.agg #[.int .i64 (tkI i (ps, is)), p', q'], g, .int .i64 (tkE i (ps, is))]) ∧ VwAt w.heap.size w'.heap.size w' p' q' (tkV i (ps, is)).1 (tkV i (ps, is)).2 ∧ RowI w.heap.size w'.heap.size w' g (tkL i (ps, is)) ∧ Below w.heap.size w w' := by
  have H1 := toHid (fun o1 o2 : Obj => rVMay_any i ((h.alloc o1).alloc o2) (Nat.le_trans hh (by simp; omega)) h47)
  have B1 := toHid (fun (o1 : Obj) (cs : Array Value) (t : TypeId) => (Box.new w cs t).alloc o1)
  have C1 := toHid (fun (o1 : Obj) (cs : Array Value) (t : TypeId) => Box.new1 w o1 cs t)
  have HV := toHid (fun (o1 o2 : Obj) (w1 : World) (hb : Below ((w.alloc o1).alloc o2).heap.size ((w.alloc o1).alloc o2) w1) => ((h.alloc o1).alloc o2).below hb (Nat.le_trans hh (by simp; omega)))
  obtain ⟨a, c, a', c', ep, eq, hn, hn'⟩ := h.shape
  subst ep eq
  clear h
  rcases Bool.eq_false_or_eq_true (vwB i ps is) with hB | hB
  · obtain ⟨e1, e2, e3, e4⟩ := tk_yes (s := (ps, is)) hB
    rw [e1, e2, e3, e4]
    have hps := toHid (vwB_iff.1 hB).1
    have hl : ps.length + is.length ≤ 16 := (vwB_iff.1 hB).2.2.1
    have hag : (agA ps).length + (agD ps).length = ps.length := ag_len ps
    have hlT : (tkF is (agD ps)).length ≤ 16 := by
      have h1 : (tkF is (agD ps)).length = is.length + (agD ps).length := (tk_F (s := (ps, is)) hB).2.2
      omega
    show Calls _ _ _ _ fun e w' => ∃ p' q' g, e = _ ∧ VwAt w.heap.size w'.heap.size w' p' q' (agA ps) (tkF is (agD ps)) ∧ RowI w.heap.size w'.heap.size w' g (nmL (agA ps) ++ tkF is (agD ps)) ∧ _
    rw [hB] at H1
    clear e1 e2 e3 e4 hB
    go_enter Tryz.func21, Tryz.ntmps21
    go_wp2_with (first
      | (go_at_call 47; refine (H1.out _ _).mono ?_; rintro e w1 ⟨rfl, hk⟩
         obtain ⟨b1, b2, b3⟩ := (B1.out _ _ _).below hk)
      | (go_at_call 48; refine (rAge_is (HV.out _ _ _ hk).ps (Nat.le_trans hh (Nat.le_trans (by simp; omega) hk.size)) hps.out).mono ?_; rintro e w2 ⟨a2, n2, c2, a2', c2', rfl, P2, Q2, h2⟩
         have hz1 := hk.size
         simp only [World.size_alloc] at hz1
         have hz2 := h2.size
         replace hk := hk.on h2
         clear h2 b1 b2 b3
         obtain ⟨b1, b2, b3⟩ := (B1.out _ _ _).below hk
         have R2 := toHid (HV.out _ _ _ hk).is
         replace Q2 := toHid Q2
         replace P2 := toHid P2)
      | (at_builtin; refine app_row rfl (.tmp 26) (.tmp 28) rfl w2.heap.size (.slice (some ⟨w2.heap.size, 0, none⟩) 0 0) 0 [] rfl (lit_at (Nat.le_refl _) (by simp)) lo hi _ is rfl (R2.out.alloc _) (by omega) (by simp) ?_))
    intro v3 w3 hown3 hgr3 hb3
    have R3 := toHid ((RowI.of_owns (zs := is) (base := w2.heap.size) (by simpa using hown3)).wide (lo' := w.heap.size + 1 + 1) (by omega) (Nat.le_refl _))
    have hk3 : Below w2.heap.size w2 w3 := ((Below.refl _ w2).onA _).trans hb3
    have BX := toHid ((B1.out _ _ _).below hk)
    have CX := toHid ((C1.out _ _ _).below hk)
    have HR := toHid (Q2.out.ints (Nat.le_refl _))
    have hbel := toHid ((((Below.refl _ w).onA _).onA _).on hk)
    have hzw : w.heap.size + 1 + 1 ≤ w2.heap.size := by omega
    replace P2 := toHid (P2.out.wide hz1 (Nat.le_refl _))
    clear hown3 hgr3 hb3 B1 C1 HV H1 R2 Q2 hps b1 b2 b3 hz1 hz2 hk hn hn' h47
    go_wp2
    obtain ⟨n, hN⟩ : ∃ n, (agD ps).length = n := ⟨_, rfl⟩
    rw [hN] at HR hag
    rw [hN]
    replace hN := toHid hN
    go_loopw [8, 9] (fun v j wr => ∃ (k : Nat), k ≤ n ∧ j = .int .i64 k ∧ Hid (RowI (w.heap.size + 1 + 1) wr.heap.size wr v (tkF is ((agD ps).take k))) ∧ Below w2.heap.size w2 wr) (fun _ j _ => n - (intOf j).toNat)
    case atStart => exact ⟨0, Nat.zero_le _, rfl, R3, hk3⟩
    case round =>
      clear R3 hk3
      obtain ⟨k, hk, rfl, R, hbe⟩ := hrel
      by_cases hlt : k < n
      · obtain ⟨px, cx', ex, -, hcs⟩ := HR.out
        cases ex
        obtain ⟨b, off, rfl, -, hb, h1⟩ := hcs (by have := hN.out; omega)
        have c1 := (hbe.cell (p := ⟨b, off + k, none⟩) hb).trans (h1 k (by have := hN.out; omega))
        have HS := toHid (tkF_step is (agD ps) k (by have := hN.out; omega))
        have hlt' : (k : Int) < (n : Int) := by omega
        have hsz := hbe.size
        clear h1 hcs HR
        generalize (agD ps).getD k 0 = z at c1 HS
        go_wp2_with (go_at_call 49; refine (rWith_any R.out (Nat.le_refl _) z).mono ?_; rintro e w4 ⟨u4, rfl, R4, h4⟩)
        go_roundw
        case rel => exact ⟨k + 1, by omega, by go_num, by rw [HS.out]; exact toHid (R4.wide (by omega) (Nat.le_refl _)), hbe.on h4⟩
        case measure => simp [intOf]; omega
      · obtain rfl : k = n := by omega
        rw [show (agD ps).take k = agD ps from List.take_of_length_le (by have := hN.out; omega)] at R
        have hsz := hbe.size
        have PN := toHid (P2.out.below hbe (Nat.le_refl _))
        replace BX := toHid (BX.out.below hbe)
        replace CX := toHid (CX.out.below hbe)
        replace hbel := toHid (hbel.out.on hbe)
        obtain ⟨px, cx, ex, -⟩ := id R.out
        subst ex
        generalize hF : tkF is (agD ps) = fs at *
        clear HR P2 hN
        go_wp2_with (first
          | (go_at_call 22; refine (rNames_own PN.out hsz (by omega)).mono ?_; rintro e w5 ⟨u5, rfl, hown5, h5⟩
             have R5 := toHid (R.out.below h5 (Nat.le_refl _))
             replace hown5 := toHid hown5
             replace h5 := toHid h5)
          | (at_builtin; refine app_row rfl (.tmp 48) (.tmp 49) rfl wr.heap.size _ (agA ps).length (nmL (agA ps)) rfl hown5.out (w.heap.size + 1 + 1) wr.heap.size _ fs rfl R5.out (by omega) h5.out.size ?_))
        intro v6 w6 hown6 hgr6 hb6
        have R6 := toHid ((RowI.of_owns (zs := nmL (agA ps) ++ fs) (base := wr.heap.size) (by simpa using hown6)).wide (lo' := w.heap.size + 1 + 1) (by omega) (Nat.le_refl _))
        have hk6 : Below wr.heap.size wr w6 := h5.out.trans hb6
        obtain ⟨b1, b2, b3⟩ := BX.out.below hk6
        obtain ⟨d1, d2, d3⟩ := CX.out.below hk6
        replace hbel := toHid (hbel.out.on hk6)
        have hz6 := hk6.size
        have V6 := toHid (VwAt.mk (lo := w.heap.size + 1 + 1) (hi := w6.heap.size) (((PN.out.below hk6 hsz)).wide (Nat.le_refl _) (by omega)) ((R.out.below hk6 (Nat.le_refl _)).wide (Nat.le_refl _) (by omega)))
        clear hown6 hgr6 hb6 hown5 R5 h5 R PN
        go_wp2
        have hS := toHid ((((Only.refl (w.heap.size + 1) (w.heap.size + 1 + 1) w6).setCell (o := 0) (Nat.le_refl _) (by omega) (.int .i64 i)).setCell (b := w.heap.size + 1) (o := 1) (Nat.le_refl _) (by omega) (.slice a2 n2 c2)).setCell (b := w.heap.size + 1) (o := 2) (Nat.le_refl _) (by omega) (.slice px fs.length cx))
        have e6 := hS.out.size
        have hz0 : w.heap.size ≤ w.heap.size + 1 + 1 := by omega
        refine bodyPost_ret (v := .tuple #[.agg #[.int .i64 i, .slice a2 n2 c2, .slice px fs.length cx], v6, .int .i64 0]) (by simp [results, Tryz.results21, go_sem, d2]) rfl ?_
        subst hF
        exact ⟨_, _, _, rfl, ⟨(V6.out.ps.only hS.out (.inr (Nat.le_refl _))).wide hz0 (Nat.le_of_eq e6.symm), (V6.out.is.only hS.out (.inr (Nat.le_refl _))).wide hz0 (Nat.le_of_eq e6.symm)⟩, (R6.out.only hS.out (.inr (Nat.le_refl _))).wide hz0 (Nat.le_of_eq e6.symm), hbel.out.trans (hS.out.below.mono (by omega))⟩
  · obtain ⟨e1, e2, e3, e4⟩ := tk_no (s := (ps, is)) hB
    rw [e1, e2, e3, e4]
    rw [hB] at H1
    clear e1 e2 e3 e4 hB HV
    dsimp only
    go_enter Tryz.func21, Tryz.ntmps21
    go_wp2_with (first
      | (go_at_call 47; refine (H1.out _ _).mono ?_; rintro e w1 ⟨rfl, hk⟩
         obtain ⟨b1, b2, b3⟩ := (B1.out _ _ _).below hk
         obtain ⟨d1, d2, d3⟩ := (C1.out _ _ _).below hk))
    have hS := toHid ((((Only.refl (w.heap.size + 1) (w.heap.size + 1 + 1) w1).setCell (o := 0) (Nat.le_refl _) (by omega) (.int .i64 0)).setCell (b := w.heap.size + 1) (o := 1) (Nat.le_refl _) (by omega) (.slice none 0 0)).setCell (b := w.heap.size + 1) (o := 2) (Nat.le_refl _) (by omega) (.slice none 0 0))
    have hB := (((Below.refl _ w).onA _).onA _).on hk
    refine bodyPost_ret (v := .tuple #[.agg #[.int .i64 0, .slice none 0 0, .slice none 0 0], .slice none 0 0, .int .i64 1100]) (by simp [results, Tryz.results21, go_sem, d2]) rfl ?_
    exact ⟨_, _, _, rfl, ⟨RowC.nil0, RowI.nil0⟩, RowI.nil0, hB.trans (hS.out.below.mono (by omega))⟩

end Go.Proofs.YtghamcomjfholaaGreat
