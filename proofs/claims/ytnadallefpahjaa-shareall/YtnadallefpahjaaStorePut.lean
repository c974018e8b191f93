
/-
  Contract of the document's own answer about putting an item into a store.
-/
import Derived.Test.YtnadallefpahjaaStoreRef
namespace Go.Proofs.Ytnadallefpahjaa
open Go.ChangeShapes Go.WideShapes Go.ChangeAt Go.RowKit

theorem own_below {w w' : World} {base : Nat} {e : TypeId} {s : Nat} {v : Value} {m : Nat} {xs : List Value} (h : w.ownsRow base e s v m xs) (hb : Below w.heap.size w w') : w'.ownsRow base e s v m xs := by
  refine ⟨h.1, ?_⟩
  rcases h.2 with h2 | ⟨g, cap, cur, h1, h2, h3, h4⟩
  · exact .inl h2
  · exact .inr ⟨g, cap, cur, h1, h2, by rw [hb.block g (Array.getElem?_eq_some_iff.1 h3).1]; exact h3, h4⟩

theorem own_drewN {w : World} {base : Nat} {e : TypeId} {s : Nat} {v : Value} {m : Nat} {xs : List Value} (h : w.ownsRow base e s v m xs) (q : Nat) : (w.drewN q).ownsRow base e s v m xs := h

theorem own_slice {w : World} {base : Nat} {e : TypeId} {s : Nat} {v : Value} {m : Nat} {xs : List Value} (h : w.ownsRow base e s v m xs) : ∃ p cap, v = .slice p m cap ∧ m ≤ cap ∧ cap ≤ maxLen := by
  rcases h.2 with ⟨h1, h2⟩ | ⟨g, cap, cur, h1, h2, h3, h4, h5, _⟩
  · exact ⟨none, 0, by rw [h2]; exact h1, by omega, Nat.zero_le _⟩
  · exact ⟨_, cap, h1, h4, h5⟩

set_option maxHeartbeats 4000000 in
theorem rPut_ok {lo hi : Nat} {w : World} {v : Value} {xs : List It} (hx : RowT lo hi w v xs) (hh : hi ≤ w.heap.size) (k c u y : Int) (g : Bool) (hs : stB xs = true) (hi' : itB ⟨k, c, u, y, g⟩ = true) :
    Calls Try.prog 42 #[v, .agg #[.int .i64 k, .int .i64 c, .int .i64 u, .int .i64 y, .bool g]] w fun e w' => ∃ o, e = .returned (.tuple #[o, .int .i64 (putE xs ⟨k, c, u, y, g⟩)]) ∧ RowT w.heap.size w'.heap.size w' o (putL xs ⟨k, c, u, y, g⟩) ∧ Below w.heap.size w w' := by
  obtain ⟨hval, hsrt, hlen⟩ := stB_iff.1 hs
  have HM : Hid (∀ w', Below w.heap.size w w' → Calls Try.prog 38 #[v] w' fun e w'' => e = .returned (.bool true) ∧ Below w'.heap.size w' w'') := fun w' hb => hs ▸ rStoreMay_any (hx.below hb hh) (Nat.le_trans hh hb.size)
  obtain ⟨p, cc, rfl, hn, hp⟩ := hx.its hh
  go_enter Try.func42, Try.ntmps42
  go_wp2_with (first
    | (go_at_call 38; refine (HM.out _ ((Below.refl _ w).onA _)).mono ?_; rintro e w1 ⟨rfl, hb1⟩
       have bX1 := (Box.new w _ _).below hb1
       obtain ⟨x1, x2, x3⟩ := id bX1)
    | (go_at_call 35; refine (rIMay_yes _ _ _ _ _ _ hi').mono ?_; rintro e w2 ⟨rfl, hb2⟩))
  have hB0 : Below w.heap.size w w2 := (((Below.refl _ w).onA _).on hb1).on hb2
  have bX2 := bX1.below hb2
  clear x1 x2 x3 bX1 hb1 hb2
  go_loopw [6, 7, 8] (fun o b i wr => ∃ (m : Nat) (out : List It) (inb : Bool), m ≤ xs.length ∧ i = .int .i64 m ∧ b = .bool inb ∧ wr.ownsRow w2.heap.size 48 5 o out.length (out.flatMap ItV) ∧ Below w2.heap.size w2 wr ∧ PutRel xs ⟨k, c, u, y, g⟩ m out inb ∧ out.length ≤ m + 1) (fun _ _ i _ => xs.length - (intOf i).toNat)
  case atStart => exact ⟨0, [], false, Nat.zero_le _, rfl, rfl, ⟨rfl, .inl ⟨rfl, rfl⟩⟩, Below.refl _ _, PutRel.zero _ _, by simp⟩
  case round =>
    obtain ⟨m, out, inb, hm, rfl, rfl, own, hbr, hrel2, hol⟩ := hrel
    have hB1 : Below w.heap.size w wr := hB0.on hbr
    by_cases hlt : m < xs.length
    · have hlt' : (m : Int) < (xs.length : Int) := by omega
      obtain ⟨b, off, rfl, _, hb, hc⟩ := hp (by omega)
      have it1 := (hc m hlt).below hB1 hb
      rw [getD_at _ _ hlt] at it1
      obtain ⟨c1, c2, c3, c4, c5⟩ := it1
      obtain ⟨x1, x2, x3⟩ := bX2.below hbr
      cases inb with
      | true =>
        obtain ⟨hrel3, hgt⟩ := hrel2.in hsrt hlt
        replace hrel3 := toHid hrel3
        have hne : ¬ xs[m].k = k := by intro e; rw [e] at hgt; exact absurd hgt (Int.lt_irrefl _)
        clear hc hp hrel2 hgt
        generalize xs[m] = a at *
        obtain ⟨ak, ac, au, ax, ag⟩ := a
        dsimp only at c1 c2 c3 c4 c5 hne
        go_wp2
        go_quiet (fail)
        go_wp2
        go_quiet (fail)
        go_wp2_with ((at_builtin; refine app_its rfl (.tmp 62) (.tmp 67) rfl w2.heap.size _ out.length (out) rfl ((own_drewN own _).alloc _) ⟨wr.heap.size, 0, none⟩ 1 1 [⟨ak, ac, au, ax, ag⟩] rfl rfl (fun j hj => ?_) (by omega) (by have := hbr.size; simp; omega) ?_; · (rw [add_plain, Nat.zero_add]; refine ((Box.newAt _ _ rfl).2.1 j).trans ?_; simp [ItV])))
        intro v' w4 hown4 hgr4 hbel4
        go_wp2
        go_roundw
        case rel => exact ⟨m + 1, out ++ [⟨ak, ac, au, ax, ag⟩], true, by omega, by go_num, rfl, by simpa [Nat.add_assoc] using hown4, ((hbr.onD _).onA _).trans hbel4, hrel3.out, by simp; omega⟩
        case measure => simp [intOf]; omega
      | false =>
        have hol2 : out.length ≤ m := by
          rcases hrel2 with ⟨_, e, _⟩ | ⟨h, _⟩
          · rw [e]; simp; omega
          · cases h
        by_cases hgt : k < xs[m].k
        · have hrel3 := hrel2.gt hlt hgt
          replace hrel3 := toHid hrel3
          have hne : ¬ xs[m].k = k := by omega
          have HI : Hid (∀ w', Below w.heap.size w w' → ItAt w' b (off + m * 5) xs[m]) := fun w' hw => by have := (hc m hlt).below hw hb; rwa [getD_at _ _ hlt] at this
          clear hc hp hrel2
          generalize xs[m] = a at *
          obtain ⟨ak, ac, au, ax, ag⟩ := a
          dsimp only at c1 c2 c3 c4 c5 hgt hne
          go_wp2
          go_quiet (fail)
          go_wp2_with ((at_builtin; refine app_its rfl (.tmp 37) (.tmp 39) rfl w2.heap.size _ out.length (out) rfl ((own_drewN own _).alloc _) ⟨wr.heap.size, 0, none⟩ 1 1 [⟨k, c, u, y, g⟩] rfl rfl (fun j hj => ?_) (by omega) (by have := hbr.size; simp; omega) ?_; · (rw [add_plain, Nat.zero_add]; refine ((Box.newAt _ _ rfl).2.1 j).trans ?_; simp [ItV])))
          intro v4 w4 hown4s hgr4 hbel4
          have hown4 : w4.ownsRow w2.heap.size 48 5 v4 (out.length + 1) ((out ++ ([⟨k, c, u, y, g⟩] : List It)).flatMap ItV) := by simpa using hown4s
          clear hown4s
          have hbr4 : Below w2.heap.size w2 w4 := ((hbr.onD _).onA _).trans hbel4
          clear c1 c2 c3 c4 c5 x1 x2 x3
          obtain ⟨c1, c2, c3, c4, c5⟩ := HI.out w4 (hB0.on hbr4)
          obtain ⟨x1, x2, x3⟩ := bX2.below hbr4
          dsimp only at c1 c2 c3 c4 c5
          go_wp2
          go_quiet (fail)
          go_wp2_with ((at_builtin; refine app_its rfl (.tmp 62) (.tmp 67) rfl w2.heap.size _ (out.length + 1) (out ++ [⟨k, c, u, y, g⟩]) rfl ((own_drewN hown4 _).alloc _) ⟨w4.heap.size, 0, none⟩ 1 1 [⟨ak, ac, au, ax, ag⟩] rfl rfl (fun j hj => ?_) (by omega) (by have := hbr4.size; simp; omega) ?_; · (rw [add_plain, Nat.zero_add]; refine ((Box.newAt _ _ rfl).2.1 j).trans ?_; simp [ItV])))
          intro v5 w5 hown5 hgr5 hbel5
          go_wp2
          go_roundw
          case rel => exact ⟨m + 1, out ++ [⟨k, c, u, y, g⟩] ++ [⟨ak, ac, au, ax, ag⟩], true, by omega, by go_num, rfl, by simpa [Nat.add_assoc] using hown5, ((hbr4.onD _).onA _).trans hbel5, hrel3.out, by simp; omega⟩
          case measure => simp [intOf]; omega
        · by_cases heq : xs[m].k = k
          · have hav : itB xs[m] = true := hval _ (List.getElem_mem hlt)
            have hrel3 := hrel2.eq hlt heq
            have hd1 : decide (k < xs[m].k) = false := by simpa using hgt
            clear hc hp hrel2
            generalize xs[m] = a at *
            obtain ⟨ak, ac, au, ax, ag⟩ := a
            dsimp only at c1 c2 c3 c4 c5 hgt heq hd1
            subst heq
            have HB := fun w => rBest_any ak ac au ax ag ak c u y g w
            rw [(bst_mx hav hi' rfl).1, (bst_mx hav hi' rfl).2] at HB
            generalize mx ⟨ak, ac, au, ax, ag⟩ ⟨ak, c, u, y, g⟩ = Z at HB hrel3
            obtain ⟨zk, zc, zu, zx, zg⟩ := Z
            dsimp only at HB
            replace HB := toHid HB
            have hbw : b < wr.heap.size := Nat.lt_of_lt_of_le hb hB1.size
            have bXr := bX2.below hbr
            have hN1 : wr.heap.size ≠ b := by omega
            have hN2 : wr.heap.size ≠ w.heap.size := by have := bXr.1; omega
            replace hrel3 := toHid hrel3
            go_wp2
            go_quiet (fail)
            go_wp2
            go_quiet (fail)
            go_wp2
            go_region_held3 (fun w' => w'.cell? ⟨b, off + m * 5, none⟩ = some (.int .i64 ak) ∧ w'.cell? ⟨b, off + m * 5 + 1, none⟩ = some (.int .i64 ac) ∧ w'.cell? ⟨b, off + m * 5 + 2, none⟩ = some (.int .i64 au) ∧ w'.cell? ⟨b, off + m * 5 + 3, none⟩ = some (.int .i64 ax) ∧ w'.cell? ⟨b, off + m * 5 + 4, none⟩ = some (.bool ag) ∧ w'.cell? ⟨w.heap.size, 0, none⟩ = some (.int .i64 ak) ∧ w'.cell? ⟨w.heap.size, 1, none⟩ = some (.int .i64 c) ∧ w'.cell? ⟨w.heap.size, 2, none⟩ = some (.int .i64 u) ∧ w'.cell? ⟨w.heap.size, 3, none⟩ = some (.int .i64 y) ∧ w'.cell? ⟨w.heap.size, 4, none⟩ = some (.bool g)) (go_keep) (first
              | (go_at_call 57; refine (HB.out _).mono ?_; rintro e w5 ⟨rfl, hb5⟩
                 have hbr5 : Below wr.heap.size wr w5 := by first | exact ((Below.refl _ wr).onD _).on hb5 | exact (((Below.refl _ wr).onD _).onA _).on hb5
                 have q1 := (hbr5.cell (p := ⟨b, off + m * 5, none⟩) hbw).trans c1
                 have q2 := (hbr5.cell (p := ⟨b, off + m * 5 + 1, none⟩) hbw).trans c2
                 have q3 := (hbr5.cell (p := ⟨b, off + m * 5 + 2, none⟩) hbw).trans c3
                 have q4 := (hbr5.cell (p := ⟨b, off + m * 5 + 3, none⟩) hbw).trans c4
                 have q5 := (hbr5.cell (p := ⟨b, off + m * 5 + 4, none⟩) hbw).trans c5
                 have hX5 := bXr.below hbr5
                 have s0 := hX5.2.1 0
                 have s1 := hX5.2.1 1
                 have s2 := hX5.2.1 2
                 have s3 := hX5.2.1 3
                 have s4 := hX5.2.1 4
                 simp at s0 s1 s2 s3 s4
                 first
                   | (have hN := (Box.newAt (w := wr.drewN _) (n := wr.heap.size) _ _ rfl).below hb5; obtain ⟨n1, n2, n3⟩ := hN)
                   | skip))
            · go_wp2_with ((at_builtin; refine app_its rfl (.tmp 58) (.tmp 60) rfl w2.heap.size _ out.length out rfl (((own_below own hbr5).alloc _).alloc _) ⟨w5.heap.size + 1, 0, none⟩ 1 1 [⟨zk, zc, zu, zx, zg⟩] rfl rfl (fun j hj => ?_) (by omega) (by have := hbr.size; have := hbr5.size; simp; omega) ?_; · (rw [add_plain, Nat.zero_add]; refine ((Box.newAt _ _ (by simp)).2.1 j).trans ?_; simp [ItV])))
              intro v6 w6 hown6 hgr6 hbel6
              go_wp2
              go_roundw
              case rel => exact ⟨m + 1, out ++ [⟨zk, zc, zu, zx, zg⟩], true, by omega, by go_num, rfl, by simpa [Nat.add_assoc] using hown6, (((hbr.on hbr5).onA _).onA _).trans hbel6, hrel3.out, by simp; omega⟩
              case measure => simp [intOf]; omega
            · go_wp2_with ((at_builtin; refine app_its rfl (.tmp 58) (.tmp 60) rfl w2.heap.size _ out.length out rfl ((own_below own (hbr5.set5 (Nat.le_refl _) _ _ _ _ _)).alloc _) ⟨w5.heap.size, 0, none⟩ 1 1 [⟨zk, zc, zu, zx, zg⟩] rfl rfl (fun j hj => ?_) (by omega) (by have := hbr.size; have := hbr5.size; simp; omega) ?_; · (rw [add_plain, Nat.zero_add]; refine ((Box.newAt _ _ (by simp)).2.1 j).trans ?_; simp [ItV])))
              intro v6 w6 hown6 hgr6 hbel6
              go_wp2
              go_roundw
              case rel => exact ⟨m + 1, out ++ [⟨zk, zc, zu, zx, zg⟩], true, by omega, by go_num, rfl, by simpa [Nat.add_assoc] using hown6, ((hbr.on (hbr5.set5 (Nat.le_refl _) _ _ _ _ _)).onA _).trans hbel6, hrel3.out, by simp; omega⟩
              case measure => simp [intOf]; omega
          · have hrel3 := hrel2.lt hlt (show xs[m].k < k by omega)
            replace hrel3 := toHid hrel3
            have hd1 : decide (k < xs[m].k) = false := by simpa using hgt
            clear hc hp hrel2
            generalize xs[m] = a at *
            obtain ⟨ak, ac, au, ax, ag⟩ := a
            dsimp only at c1 c2 c3 c4 c5 hgt heq hd1
            go_wp2
            go_quiet (fail)
            go_wp2
            go_quiet (fail)
            go_wp2_with ((at_builtin; refine app_its rfl (.tmp 62) (.tmp 67) rfl w2.heap.size _ out.length (out) rfl ((own_drewN own _).alloc _) ⟨wr.heap.size, 0, none⟩ 1 1 [⟨ak, ac, au, ax, ag⟩] rfl rfl (fun j hj => ?_) (by omega) (by have := hbr.size; simp; omega) ?_; · (rw [add_plain, Nat.zero_add]; refine ((Box.newAt _ _ rfl).2.1 j).trans ?_; simp [ItV])))
            intro v' w4 hown4 hgr4 hbel4
            go_wp2
            go_roundw
            case rel => exact ⟨m + 1, out ++ [⟨ak, ac, au, ax, ag⟩], false, by omega, by go_num, rfl, by simpa [Nat.add_assoc] using hown4, ((hbr.onD _).onA _).trans hbel4, hrel3.out, by simp; omega⟩
            case measure => simp [intOf]; omega
    · have hml : m = xs.length := by omega
      subst hml
      have hend := hrel2.end
      clear hp hrel2
      cases inb with
      | true =>
        rw [if_pos rfl] at hend
        obtain ⟨po, co, rfl, ho1, ho2⟩ := own_slice own
        unfold maxLen at ho2
        have hrow : RowT w.heap.size wr.heap.size wr _ (out) := (RowC.of_owns (by omega) ItV_len own).wide hB0.size (Nat.le_refl _)
        replace hrow := toHid hrow
        by_cases hfit : out.length ≤ 16
        · have hp1 := put_ok hs hi' (by rw [hend]; simpa using hfit)
          have hfit' : ¬ (16 : Int) < (out.length : Nat) := by omega
          have hfit2 : decide ((16 : Int) < (out.length : Nat)) = false := by simpa using hfit'
          replace hp1 := toHid hp1
          replace hend := toHid hend
          go_wp2
          go_ret2
          exact ⟨.slice po out.length co, by rw [hp1.out.2.1]; rfl, by rw [hp1.out.1, hend.out]; exact hrow.out, hB1⟩
        · have hp1 := put_full hs hi' (by rw [hend]; simpa using hfit)
          have hfit' : (16 : Int) < (out.length : Nat) := by omega
          replace hp1 := toHid hp1
          replace hend := toHid hend
          go_wp2
          go_ret2
          exact ⟨.slice none 0 0, by rw [hp1.out.2]; rfl, by rw [hp1.out.1]; exact RowC.nil0, hB1⟩
      | false =>
        rw [if_neg (by simp)] at hend
        obtain ⟨x1, x2, x3⟩ := bX2.below hbr
        go_wp2_with (at_builtin; refine app_its rfl (.tmp 71) (.tmp 73) rfl w2.heap.size _ out.length out rfl (own.alloc _) ⟨wr.heap.size, 0, none⟩ 1 1 [⟨k, c, u, y, g⟩] rfl rfl (fun j hj => ?_) (by omega) (by have := hbr.size; simp; omega) ?_; · (rw [add_plain, Nat.zero_add]; refine ((Box.newAt _ _ rfl).2.1 j).trans ?_; simp [ItV]))
        intro v4 w4 hown4s hgr4 hbel4
        have hown4 : w4.ownsRow w2.heap.size 48 5 v4 (out.length + 1) ((out ++ ([⟨k, c, u, y, g⟩] : List It)).flatMap ItV) := by simpa using hown4s
        clear hown4s x1 x2 x3
        have hB4 : Below w.heap.size w w4 := hB0.on ((hbr.onA _).trans hbel4)
        obtain ⟨po, co, rfl, ho1, ho2⟩ := own_slice hown4
        unfold maxLen at ho2
        have hrow : RowT w.heap.size w4.heap.size w4 _ (out ++ ([⟨k, c, u, y, g⟩] : List It)) := (RowC.of_owns (by omega) ItV_len hown4).wide hB0.size (Nat.le_refl _)
        replace hrow := toHid hrow
        by_cases hfit : out.length + 1 ≤ 16
        · have hp1 := put_ok hs hi' (by rw [hend]; simpa using hfit)
          have hfit' : ¬ (16 : Int) < (out.length + 1 : Nat) := by omega
          have hfit2 : decide ((16 : Int) < (out.length + 1 : Nat)) = false := by simpa using hfit'
          replace hp1 := toHid hp1
          replace hend := toHid hend
          go_wp2
          go_ret2
          exact ⟨.slice po (out.length + 1) co, by rw [hp1.out.2.1]; rfl, by rw [hp1.out.1, hend.out]; exact hrow.out, hB4⟩
        · have hp1 := put_full hs hi' (by rw [hend]; simpa using hfit)
          have hfit' : (16 : Int) < (out.length + 1 : Nat) := by omega
          replace hp1 := toHid hp1
          replace hend := toHid hend
          go_wp2
          go_ret2
          exact ⟨.slice none 0 0, by rw [hp1.out.2]; rfl, by rw [hp1.out.1]; exact RowC.nil0, hB4⟩

set_option maxHeartbeats 1000000 in
theorem rPut_any {lo hi : Nat} {w : World} {v : Value} {xs : List It} (hx : RowT lo hi w v xs) (hh : hi ≤ w.heap.size) (k c u y : Int) (g : Bool) :
    Calls Try.prog 42 #[v, .agg #[.int .i64 k, .int .i64 c, .int .i64 u, .int .i64 y, .bool g]] w fun e w' => ∃ o, e = .returned (.tuple #[o, .int .i64 (putE xs ⟨k, c, u, y, g⟩)]) ∧ RowT w.heap.size w'.heap.size w' o (putL xs ⟨k, c, u, y, g⟩) ∧ Below w.heap.size w w' := by
  rcases Bool.eq_false_or_eq_true (stB xs) with hs | hs
  · rcases Bool.eq_false_or_eq_true (itB ⟨k, c, u, y, g⟩) with hi' | hi'
    · exact rPut_ok hx hh k c u y g hs hi'
    · obtain ⟨e1, e2⟩ := put_form (xs := xs) (x := ⟨k, c, u, y, g⟩) (Or.inr hi')
      rw [e1, e2]
      clear e1 e2
      have HM : Hid (∀ w', Below w.heap.size w w' → Calls Try.prog 38 #[v] w' fun e w'' => e = .returned (.bool true) ∧ Below w'.heap.size w' w'') := fun w' hb => hs ▸ rStoreMay_any (hx.below hb hh) (Nat.le_trans hh hb.size)
      obtain ⟨p, cc, rfl, hn, hp⟩ := hx.its hh
      clear hp hx hs
      go_enter Try.func42, Try.ntmps42
      go_wp2_with (first
        | (go_at_call 38; refine (HM.out _ ((Below.refl _ w).onA _)).mono ?_; rintro e w1 ⟨rfl, hb1⟩
           have bX1 := (Box.new w _ _).below hb1
           obtain ⟨x1, x2, x3⟩ := id bX1)
        | (go_at_call 35; refine (rIMay_no _ _ _ _ _ _ hi').mono ?_; rintro e w2 ⟨rfl, hb2⟩))
      go_ret2
      exact ⟨_, rfl, RowC.nil0, (((Below.refl _ w).onA _).on hb1).on hb2⟩
  · obtain ⟨e1, e2⟩ := put_form (xs := xs) (x := ⟨k, c, u, y, g⟩) (Or.inl hs)
    rw [e1, e2]
    clear e1 e2
    have HM : Hid (∀ w', Below w.heap.size w w' → Calls Try.prog 38 #[v] w' fun e w'' => e = .returned (.bool false) ∧ Below w'.heap.size w' w'') := fun w' hb => hs ▸ rStoreMay_any (hx.below hb hh) (Nat.le_trans hh hb.size)
    obtain ⟨p, cc, rfl, hn, hp⟩ := hx.its hh
    clear hp hx hs
    go_enter Try.func42, Try.ntmps42
    go_wp2_with (first
      | (go_at_call 38; refine (HM.out _ ((Below.refl _ w).onA _)).mono ?_; rintro e w1 ⟨rfl, hb1⟩))
    go_ret2
    exact ⟨_, rfl, RowC.nil0, ((Below.refl _ w).onA _).on hb1⟩

end Go.Proofs.Ytnadallefpahjaa
