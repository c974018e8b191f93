
/-
  Contract of Put: a message's bytes.
-/
import Derived.Test.YtkalamplagopnaaWireFil4
import Derived.Test.YtkalamplagopnaaMsgB
namespace Go.Proofs.Ytkalamplagopnaa
open Go.ChangeShapes Go.WideShapes Go.ChangeAt Go.RowKit

theorem may_item {a b : Int} {is : List Int} {k : Int} {t : It} {h : Bool} {n : Int} (hm : mayB ⟨n, a, b, is, k, t, h⟩ = true) (hn : n = 1) : 0 ≤ t.c ∧ t.c < 65536 := by
  subst hn
  have hk := (may_ends hm).2.2
  obtain ⟨-, -, h3, -⟩ := (by simpa [knB, brgB] using hk : is = [] ∧ k = 0 ∧ itB t = true ∧ h = false)
  have := (item_in h3).2.2.1
  omega
theorem may_told {a b : Int} {is : List Int} {k : Int} {t : It} {h : Bool} {n : Int} (hm : mayB ⟨n, a, b, is, k, t, h⟩ = true) (hn : n = 3) : h = true → 0 ≤ t.c ∧ t.c < 65536 := by
  subst hn
  intro e
  subst e
  have hk := (may_ends hm).2.2
  obtain ⟨-, -, h3, -⟩ := (by simpa [knB, telB] using hk : is = [] ∧ plB k = true ∧ itB t = true ∧ t.k = k)
  have := (item_in h3).2.2.1
  omega

set_option maxHeartbeats 4000000 in
theorem wPut_any {lo hi : Nat} {w : World} {v : Value} {is : List Int} (hv : RowI lo hi w v is) (hh : hi ≤ w.heap.size) (n a b k tk tc tu tx : Int) (tg h : Bool) :
    Calls Try.prog 9 #[.agg #[.int .i64 n, .int .i64 a, .int .i64 b, v, .int .i64 k, .int .i64 tk, .int .i64 tc, .int .i64 tu, .int .i64 tx, .bool tg, .bool h]] w fun e w' =>
      e = .returned (.tuple #[.string (sb (putL ⟨n, a, b, is, k, ⟨tk, tc, tu, tx, tg⟩, h⟩)), .int .i64 (putE ⟨n, a, b, is, k, ⟨tk, tc, tu, tx, tg⟩, h⟩)]) ∧ Below w.heap.size w w' := by
  have H0 := toHid (fun o => mMay_any (hv.alloc o) n a b k tk tc tu tx tg h)
  have RV := toHid (fun (o : Obj) (w1 : World) (hb : Below (w.alloc o).heap.size (w.alloc o) w1) => (hv.alloc o).below hb (Nat.le_trans hh (by simp)))
  obtain ⟨p, c, rfl, -⟩ := hv
  have BM := toHid (Box.new w #[.int .i64 n, .int .i64 a, .int .i64 b, .slice p is.length c, .int .i64 k, .int .i64 tk, .int .i64 tc, .int .i64 tu, .int .i64 tx, .bool tg, .bool h] 28)
  have hB := toHid ((Below.refl _ w).onA (.cells #[.int .i64 n, .int .i64 a, .int .i64 b, .slice p is.length c, .int .i64 k, .int .i64 tk, .int .i64 tc, .int .i64 tu, .int .i64 tx, .bool tg, .bool h] 28))
  replace RV := toHid (RV.out (.cells #[.int .i64 n, .int .i64 a, .int .i64 b, .slice p is.length c, .int .i64 k, .int .i64 tk, .int .i64 tc, .int .i64 tu, .int .i64 tx, .bool tg, .bool h] 28))
  cases hm : mayB ⟨n, a, b, is, k, ⟨tk, tc, tu, tx, tg⟩, h⟩ with
  | false =>
    have e1 : putL ⟨n, a, b, is, k, ⟨tk, tc, tu, tx, tg⟩, h⟩ = [] := by simp [putL, hm]
    have e2 : putE ⟨n, a, b, is, k, ⟨tk, tc, tu, tx, tg⟩, h⟩ = 1300 := by simp [putE, hm]
    rw [e1, e2]
    have hm' : mgB n a b is k ⟨tk, tc, tu, tx, tg⟩ h = false := hm
    rw [hm'] at H0
    clear e1 e2 hm hm'
    go_enter Try.func9, Try.ntmps9
    go_wp2_with (go_at_call 18; refine (H0.out _).mono ?_; rintro e w1 ⟨rfl, h1⟩)
    go_ret2
    exact ⟨rfl, ((Below.refl _ w).onA _).on h1⟩
  | true =>
    have e1 : putL ⟨n, a, b, is, k, ⟨tk, tc, tu, tx, tg⟩, h⟩ = encM ⟨n, a, b, is, k, ⟨tk, tc, tu, tx, tg⟩, h⟩ := by simp [putL, hm]
    have e2 : putE ⟨n, a, b, is, k, ⟨tk, tc, tu, tx, tg⟩, h⟩ = 0 := by simp [putE, hm]
    rw [e1, e2]
    have hm' : mgB n a b is k ⟨tk, tc, tu, tx, tg⟩ h = true := hm
    rw [hm'] at H0
    have hn := may_kind hm
    dsimp only at hn
    clear e1 e2 hm'
    rcases hn with rfl | rfl | rfl | rfl
    · have h16 : is.length ≤ 16 := may_few hm rfl
      have hE : encM ⟨0, a, b, is, k, ⟨tk, tc, tu, tx, tg⟩, h⟩ = [by8 0, by8 a, by8 b] ++ [by8 (is.length : Int)] ++ is.map by8 := by simp [encM, restM]
      have hBy := encM_byts ⟨0, a, b, is, k, ⟨tk, tc, tu, tx, tg⟩, h⟩
      have hNe : encM ⟨0, a, b, is, k, ⟨tk, tc, tu, tx, tg⟩, h⟩ ≠ [] := by simp [encM]
      rw [hE] at hBy hNe ⊢
      replace hBy := toHid hBy
      replace hNe := toHid hNe
      clear hE hm
      go_enter Try.func9, Try.ntmps9
      go_wp2_with (first
        | (go_at_call 18; refine (H0.out _).mono ?_; rintro e w1 ⟨rfl, h1⟩
           replace BM := toHid (BM.out.below h1)
           replace hB := toHid (hB.out.on h1)
           replace RV := toHid (RV.out _ h1)
           have hz1 : hi ≤ w1.heap.size := Nat.le_trans (Nat.le_trans hh (by simp)) h1.size
           obtain ⟨b1, b2, b3⟩ := BM.out
           clear h1)
        | (go_at_call 19; refine (wFilling_any _ _ _ _ _ _ _ _ _ _ _ _).mono ?_; rintro e w2 ⟨he, B2, h2⟩
           rw [if_pos rfl] at he
           subst he
           clear b1 b2 b3
           have hbM : w1.heap.size < w2.heap.size := B2.1
           have hh2 := toHid (Nat.le_trans hz1 h2.size)
           replace BM := toHid (BM.out.below h2)
           replace B2 := toHid B2
           replace hB := toHid (hB.out.on h2)
           replace RV := toHid (RV.out.below h2 hz1)
           obtain ⟨b1, b2, b3⟩ := BM.out
           clear h2)
        | (go_at_call 34; refine (wFill1_any (own_built (n := 3) (base := w2.heap.size) [by8 0, by8 a, by8 b] (by simp [by8]) rfl (Nat.le_refl _) rfl (by simp [maxLen])) (B2.out.alloc _) (RV.out.alloc _) hh2.out (by omega) hbM (by simp)).mono ?_; rintro e w3 ⟨v3, rfl, own3, h3⟩
           have hk3 := toHid ((hB.out.onA _).trans (h3.mono hB.out.size))
           have C3 := own_cells own3 hNe.out
           obtain ⟨g3, c3, rfl, -, -, -, -⟩ := C3
           have cv := conv_own own3 hNe.out hBy.out
           clear own3 h3))
      all_goals
        go_ret2
        exact ⟨rfl, hk3.out⟩
    · have hc := toHid (may_item hm rfl)
      have hE : encM ⟨1, a, b, is, k, ⟨tk, tc, tu, tx, tg⟩, h⟩ = [by8 1, by8 a, by8 b] ++ encI ⟨tk, tc, tu, tx, tg⟩ := by simp [encM, restM]
      have hBy := encM_byts ⟨1, a, b, is, k, ⟨tk, tc, tu, tx, tg⟩, h⟩
      have hNe : encM ⟨1, a, b, is, k, ⟨tk, tc, tu, tx, tg⟩, h⟩ ≠ [] := by simp [encM]
      rw [hE] at hBy hNe ⊢
      replace hBy := toHid hBy
      replace hNe := toHid hNe
      clear hE hm
      go_enter Try.func9, Try.ntmps9
      go_wp2_with (first
        | (go_at_call 18; refine (H0.out _).mono ?_; rintro e w1 ⟨rfl, h1⟩
           replace BM := toHid (BM.out.below h1)
           replace hB := toHid (hB.out.on h1)
           replace RV := toHid (RV.out _ h1)
           have hz1 : hi ≤ w1.heap.size := Nat.le_trans (Nat.le_trans hh (by simp)) h1.size
           obtain ⟨b1, b2, b3⟩ := BM.out
           clear h1)
        | (go_at_call 19; refine (wFilling_any _ _ _ _ _ _ _ _ _ _ _ _).mono ?_; rintro e w2 ⟨he, B2, h2⟩
           rw [if_neg (by decide), if_pos rfl] at he
           subst he
           clear b1 b2 b3
           have hbM : w1.heap.size < w2.heap.size := B2.1
           have hh2 := toHid (Nat.le_trans hz1 h2.size)
           replace BM := toHid (BM.out.below h2)
           replace B2 := toHid B2
           replace hB := toHid (hB.out.on h2)
           replace RV := toHid (RV.out.below h2 hz1)
           obtain ⟨b1, b2, b3⟩ := BM.out
           clear h2)
        | (go_at_call 36; refine (wFill2_any (own_built (n := 3) (base := w2.heap.size) [by8 1, by8 a, by8 b] (by simp [by8]) rfl (Nat.le_refl _) rfl (by simp [maxLen])) (B2.out.alloc _) hc.out.1 hc.out.2 (by decide) (by simp)).mono ?_; rintro e w3 ⟨v3, rfl, own3, h3⟩
           have hk3 := toHid ((hB.out.onA _).trans (h3.mono hB.out.size))
           have C3 := own_cells own3 hNe.out
           obtain ⟨g3, c3, rfl, -, -, -, -⟩ := C3
           have cv := conv_own own3 hNe.out hBy.out
           clear own3 h3))
      all_goals
        go_ret2
        exact ⟨rfl, hk3.out⟩
    · skip
      have hE : encM ⟨2, a, b, is, k, ⟨tk, tc, tu, tx, tg⟩, h⟩ = [by8 2, by8 a, by8 b] ++ [by8 k] := by simp [encM, restM]
      have hBy := encM_byts ⟨2, a, b, is, k, ⟨tk, tc, tu, tx, tg⟩, h⟩
      have hNe : encM ⟨2, a, b, is, k, ⟨tk, tc, tu, tx, tg⟩, h⟩ ≠ [] := by simp [encM]
      rw [hE] at hBy hNe ⊢
      replace hBy := toHid hBy
      replace hNe := toHid hNe
      clear hE hm
      go_enter Try.func9, Try.ntmps9
      go_wp2_with (first
        | (go_at_call 18; refine (H0.out _).mono ?_; rintro e w1 ⟨rfl, h1⟩
           replace BM := toHid (BM.out.below h1)
           replace hB := toHid (hB.out.on h1)
           replace RV := toHid (RV.out _ h1)
           have hz1 : hi ≤ w1.heap.size := Nat.le_trans (Nat.le_trans hh (by simp)) h1.size
           obtain ⟨b1, b2, b3⟩ := BM.out
           clear h1)
        | (go_at_call 19; refine (wFilling_any _ _ _ _ _ _ _ _ _ _ _ _).mono ?_; rintro e w2 ⟨he, B2, h2⟩
           rw [if_neg (by decide), if_neg (by decide), if_pos rfl] at he
           subst he
           clear b1 b2 b3
           have hbM : w1.heap.size < w2.heap.size := B2.1
           have hh2 := toHid (Nat.le_trans hz1 h2.size)
           replace BM := toHid (BM.out.below h2)
           replace B2 := toHid B2
           replace hB := toHid (hB.out.on h2)
           replace RV := toHid (RV.out.below h2 hz1)
           obtain ⟨b1, b2, b3⟩ := BM.out
           clear h2)
        | (go_at_call 38; refine (wFill3_any (own_built (n := 3) (base := w2.heap.size) [by8 2, by8 a, by8 b] (by simp [by8]) rfl (Nat.le_refl _) rfl (by simp [maxLen])) (B2.out.alloc _) (by decide) (by simp)).mono ?_; rintro e w3 ⟨v3, rfl, own3, h3⟩
           have hk3 := toHid ((hB.out.onA _).trans (h3.mono hB.out.size))
           have C3 := own_cells own3 hNe.out
           obtain ⟨g3, c3, rfl, -, -, -, -⟩ := C3
           have cv := conv_own own3 hNe.out hBy.out
           clear own3 h3))
      all_goals
        go_ret2
        exact ⟨rfl, hk3.out⟩
    · have hc := toHid (may_told hm rfl)
      have hE : encM ⟨3, a, b, is, k, ⟨tk, tc, tu, tx, tg⟩, h⟩ = [by8 3, by8 a, by8 b] ++ [by8 k, fl h] ++ if h = true then encI ⟨tk, tc, tu, tx, tg⟩ else [] := by simp [encM, restM]
      have hBy := encM_byts ⟨3, a, b, is, k, ⟨tk, tc, tu, tx, tg⟩, h⟩
      have hNe : encM ⟨3, a, b, is, k, ⟨tk, tc, tu, tx, tg⟩, h⟩ ≠ [] := by simp [encM]
      rw [hE] at hBy hNe ⊢
      replace hBy := toHid hBy
      replace hNe := toHid hNe
      clear hE hm
      go_enter Try.func9, Try.ntmps9
      go_wp2_with (first
        | (go_at_call 18; refine (H0.out _).mono ?_; rintro e w1 ⟨rfl, h1⟩
           replace BM := toHid (BM.out.below h1)
           replace hB := toHid (hB.out.on h1)
           replace RV := toHid (RV.out _ h1)
           have hz1 : hi ≤ w1.heap.size := Nat.le_trans (Nat.le_trans hh (by simp)) h1.size
           obtain ⟨b1, b2, b3⟩ := BM.out
           clear h1)
        | (go_at_call 19; refine (wFilling_any _ _ _ _ _ _ _ _ _ _ _ _).mono ?_; rintro e w2 ⟨he, B2, h2⟩
           rw [if_neg (by decide), if_neg (by decide), if_neg (by decide)] at he
           subst he
           clear b1 b2 b3
           have hbM : w1.heap.size < w2.heap.size := B2.1
           have hh2 := toHid (Nat.le_trans hz1 h2.size)
           replace BM := toHid (BM.out.below h2)
           replace B2 := toHid B2
           replace hB := toHid (hB.out.on h2)
           replace RV := toHid (RV.out.below h2 hz1)
           obtain ⟨b1, b2, b3⟩ := BM.out
           clear h2)
        | (go_at_call 39; refine (wFill4_any (own_built (n := 3) (base := w2.heap.size) [by8 3, by8 a, by8 b] (by simp [by8]) rfl (Nat.le_refl _) rfl (by simp [maxLen])) (B2.out.alloc _) hc.out (by decide) hbM (by simp)).mono ?_; rintro e w3 ⟨v3, N3, rfl, own3, h3⟩
           have hk3 := toHid ((hB.out.onA _).trans (h3.mono hB.out.size))
           have C3 := own_cells own3 hNe.out
           obtain ⟨g3, c3, rfl, -, -, -, -⟩ := C3
           have cv := conv_own own3 hNe.out hBy.out
           clear own3 h3))
      all_goals
        go_ret2
        exact ⟨rfl, hk3.out⟩

end Go.Proofs.Ytkalamplagopnaa
