
/-
  Contract of the program's own function that fills the bytes of what is told in behind a head; and which function fills in, by the message's kind.
-/
import Derived.Test.YtkalamplagopnaaWireFil2
namespace Go.Proofs.Ytkalamplagopnaa
open Go.ChangeShapes Go.WideShapes Go.ChangeAt Go.RowKit

set_option maxHeartbeats 4000000 in
theorem wFill4_any {base n bM : Nat} {w : World} {v : Value} {zs : List Int} {key k c u x : Int} {g h : Bool} {x0 x1 x2 x3 : Value} (hown : w.ownsRow base 5 1 v n (zs.map (Value.int .u8)))
    (hM : Box w bM #[x0, x1, x2, x3, .int .i64 key, .int .i64 k, .int .i64 c, .int .i64 u, .int .i64 x, .bool g, .bool h]) (hc : h = true → 0 ≤ c ∧ c < 65536) (hb : n ≤ 1099511627776) (hbM : bM < base) (hbase : base ≤ w.heap.size) :
    Calls Try.prog 39 #[v, .pointer (some ⟨bM, 0, none⟩)] w fun e w' => ∃ v' N, e = .returned v' ∧ w'.ownsRow base 5 1 v' N ((zs ++ [by8 key, fl h] ++ if h = true then encI ⟨k, c, u, x, g⟩ else []).map (Value.int .u8)) ∧ Below base w w' := by
  have hB := toHid (Below.refl base w)
  have HI := toHid (fun (p : h = true) (w : World) => wItem_any k (hc p).1 (hc p).2 u x g w)
  have BM := toHid hM
  replace hown := toHid hown
  obtain ⟨q0, q1, -⟩ := id hM
  clear hM hc
  obtain ⟨I, hI⟩ : ∃ I, encI ⟨k, c, u, x, g⟩ = I := ⟨_, rfl⟩
  have hIl : I.length = 7 := by rw [← hI]; rfl
  rw [hI] at HI ⊢
  clear hI
  go_enter Try.func39, Try.ntmps39
  go_upto_region 1 with (fail)
  go_region_law (first
    | (refine step_call rfl (F := 40) (args := #[.bool h]) (by first | (go_simp; done) | (go_simp; rfl)) (wBit_any h _) ?_
       rintro e w9 ⟨rfl, hw9⟩
       subst hw9
       refine ⟨_, rfl, ?_⟩)
    | (refine step_bytes rfl (.tmp 4) (.tmp 11) rfl base _ n zs rfl (by first | exact (own_drew hown.out 1).alloc _ | exact own_drew (hown.out.alloc _) 1) ⟨w.heap.size, 0, none⟩ 2 2 [by8 key, fl h] rfl rfl (fun j hj => ?_) (by omega) (by simp; omega) ?_; · (rw [add_plain, Nat.zero_add]; refine ((Box.newAt _ _ (by simp)).2.1 j).trans ?_; rw [← u8_by8]; match j, hj with | 0, _ => rfl | 1, _ => rfl)
       intro v4 w4 hown4 hgr4 hbel4
       first
         | (have B4 := ((BM.out.drewN 1).alloc _).belowAt hbel4 hbM
            have hk4 := ((hB.out.onD 1).alloc (by simpa using hbase) _).trans hbel4)
         | (have B4 := ((BM.out.alloc _).drewN 1).belowAt hbel4 hbM
            have hk4 := ((hB.out.alloc hbase _).onD 1).trans hbel4)
       have q4 := B4.2.1
       have hz4 := hk4.size
       replace hk4 := toHid hk4
       replace hown4 : Hid (w4.ownsRow base 5 1 v4 (n + 2) ((zs ++ [by8 key, fl h]).map (Value.int .u8))) := toHid hown4
       clear B4 hbel4 hgr4))
  all_goals
    cases h with
    | false =>
      go_wp2
      go_ret
      exact ⟨_, rfl, ⟨_, by simpa using hown4.out⟩, hk4.out⟩
    | true =>
      go_wp2_with (first
        | (go_at_call 37; refine (HI.out (by trivial) _).mono ?_; rintro e w5 ⟨v5, rfl, own5, h5⟩
           have C5 := own_cells own5 (by intro e; rw [e] at hIl; cases hIl)
           obtain ⟨g5, c5, rfl, -, -, -, C5⟩ := C5
           have hk5 := toHid (hk4.out.trans (h5.mono (by omega)))
           have OW := toHid (ownsRow_below hown4.out h5)
           have hz5 : base ≤ w5.heap.size := Nat.le_trans (by omega) h5.size
           replace C5 := toHid C5
           clear own5 h5)
        | (at_builtin; refine app_bytes rfl (.tmp 17) (.tmp 20) rfl base _ (n + 2) _ rfl OW.out ⟨g5, 0, none⟩ 7 c5 I rfl hIl (fun j hj => by rw [add_plain, Nat.zero_add]; exact C5.out j hj) (by omega) hz5 ?_))
      intro v6 w6 hown6 hgr6 hbel6
      replace hown6 : Hid (w6.ownsRow base 5 1 v6 (n + 2 + 7) ((zs ++ [by8 key, fl true] ++ I).map (Value.int .u8))) := toHid (by simpa using hown6)
      have hk6 := toHid (hk5.out.trans hbel6)
      clear hbel6 hgr6
      go_wp2
      go_ret
      exact ⟨_, rfl, ⟨_, by simpa using hown6.out⟩, hk6.out⟩

set_option maxHeartbeats 400000 in
theorem wFilling_any (x1 x2 x3 x4 x5 x6 x7 x8 x9 x10 : Value) (n : Int) (w : World) :
    Calls Try.prog 19 #[.agg #[.int .i64 n, x1, x2, x3, x4, x5, x6, x7, x8, x9, x10]] w fun e w' =>
      e = .returned (.func (.func (if n = 0 then 34 else if n = 1 then 36 else if n = 2 then 38 else 39)) #[] #[.pointer (some ⟨w.heap.size, 0, none⟩)]) ∧
        Box w' w.heap.size #[.int .i64 n, x1, x2, x3, x4, x5, x6, x7, x8, x9, x10] ∧ Below w.heap.size w w' := by
  have BM := toHid (Box.new w #[.int .i64 n, x1, x2, x3, x4, x5, x6, x7, x8, x9, x10] 28)
  by_cases h0 : n = 0
  · subst h0
    go_enter Try.func19, Try.ntmps19
    go_wp2
    go_ret
    exact ⟨rfl, BM.out, (Below.refl _ w).onA _⟩
  · by_cases h1 : n = 1
    · subst h1
      go_enter Try.func19, Try.ntmps19
      go_wp2
      go_ret
      exact ⟨rfl, BM.out, (Below.refl _ w).onA _⟩
    · by_cases h2 : n = 2
      · subst h2
        go_enter Try.func19, Try.ntmps19
        go_wp2
        go_ret
        exact ⟨rfl, BM.out, (Below.refl _ w).onA _⟩
      · rw [if_neg h0, if_neg h1, if_neg h2]
        go_enter Try.func19, Try.ntmps19
        go_wp2
        go_ret
        exact ⟨rfl, BM.out, (Below.refl _ w).onA _⟩

end Go.Proofs.Ytkalamplagopnaa
