
/-
  Contracts of package store's small functions (where a key stands; may all be; do they rise), at every list of items: what they return, and that no old memory has turned.
-/
import Derived.Test.YtgakfbdaiogflaaStoreMath
import Derived.Test.YtgakfbdaiogflaaNodeRow
import Derived.Test.YtgakfbdaiogflaaOnly
import Derived.Test.YtgakfbdaiogflaaCalm
import Derived.Test.YtgakfbdaiogflaaCmp
import Derived.Test.YtgakfbdaiogflaaStoreRef
namespace Go.Proofs.Ytgakfbdaiogflaa
open Go.ChangeShapes Go.WideShapes Go.ChangeAt Go.RowKit

theorem sAgainst_any (k c u x : Int) (g : Bool) (key : Int) (w : World) :
    Calls Try.prog 82 #[.agg #[.int .i64 k, .int .i64 c, .int .i64 u, .int .i64 x, .bool g], .int .i64 key] w fun e w' => e = .returned (.int .i64 (cmpI k key)) ∧ Below w.heap.size w w' := by
  go_enter Try.func82, Try.ntmps82
  go_wp2_with (first | (go_at_call 97; refine (compare_any _ _ _).mono ?_; rintro e w' ⟨rfl, hw'⟩; subst w'))
  go_ret
  exact ⟨rfl, (Below.refl _ w).onA _⟩

set_option maxHeartbeats 1000000 in
theorem sSearch_core (p : Option Addr) (n c : Nat) (g : Nat → It) (key : Int) (w : World) (hn : n < 4611686018427387904)
    (hp : 0 < n → ∃ b off, p = some ⟨b, off, none⟩ ∧ b < w.heap.size ∧ ∀ j, j < n → ItAt w b (off + j * 5) (g j))
    (hs : ∀ i j, i ≤ j → j < n → (g i).k ≤ (g j).k) :
    Calls Try.prog 81 #[.slice p n c, .int .i64 key, .func (.func 82) #[] #[]] w fun e w' =>
      ∃ m : Nat, m ≤ n ∧ e = .returned (.tuple #[.int .i64 m, .bool (decide (m < n) && decide ((g m).k = key))]) ∧ (∀ t, t < m → (g t).k < key) ∧ (∀ t, m ≤ t → t < n → key ≤ (g t).k) ∧ Below w.heap.size w w' := by
  replace hs : Hid _ := hs
  go_enter Try.func81, Try.ntmps81
  go_wp2
  go_loopw [9, 10] (fun s9 s10 wr => ∃ lo hi : Nat, s9 = .int .i64 lo ∧ s10 = .int .i64 hi ∧ lo ≤ hi ∧ hi ≤ n ∧ Hid ((∀ t, t < lo → (g t).k < key) ∧ (∀ t, hi ≤ t → t < n → key ≤ (g t).k)) ∧ Below w.heap.size w wr) (fun s9 s10 _ => (intOf s10).toNat - (intOf s9).toNat)
  case atStart => exact ⟨0, n, rfl, rfl, Nat.zero_le _, Nat.le_refl _, ⟨fun t ht => absurd ht (Nat.not_lt_zero _), fun t h1 h2 => by omega⟩, Below.refl _ _⟩
  case round =>
    obtain ⟨lo, hi, rfl, rfl, hlh, hin, I, hbel⟩ := hrel
    by_cases hlt : lo < hi
    · obtain ⟨b, off, rfl, hb, h1⟩ := hp (by omega)
      obtain ⟨m, hm⟩ : ∃ m, m = (lo + hi) / 2 := ⟨_, rfl⟩
      have hmn : m < n := by omega
      obtain ⟨c1, c2, c3, c4, c5⟩ := (h1 m hmn).below hbel hb
      replace hm := toHid hm
      have hme : ((lo : Int) + (hi : Int)) / 2 = (m : Int) := by have := hm.out; omega
      have hY : Hid (∀ i, i ≤ m → (g i).k ≤ (g m).k) := fun i hi => hs.out i m hi hmn
      have hZ : Hid (∀ j, m ≤ j → j < n → (g m).k ≤ (g j).k) := fun j h1 h2 => hs.out m j h1 h2
      clear h1 hp
      generalize g m = z at c1 c2 c3 c4 c5 hY hZ
      obtain ⟨zk, zc, zu, zx, zg⟩ := z
      dsimp only at c1 c2 c3 c4 c5 hY hZ
      by_cases hk : zk < key
      · have hcm : cmpI zk key < 0 := by simp [cmpI, hk]
        have hI : Hid ((∀ t, t < m + 1 → (g t).k < key) ∧ (∀ t, hi ≤ t → t < n → key ≤ (g t).k)) := ⟨fun t ht => by have := hY.out t (by omega); omega, I.out.2⟩
        clear hk hs hY hZ I
        go_wp2_with (go_at_call 82; refine (sAgainst_any _ _ _ _ _ _ _).mono ?_; rintro e w1 ⟨rfl, hb1⟩)
        go_roundw
        case rel => exact ⟨m + 1, hi, by go_num, rfl, by have := hm.out; omega, hin, hI, hbel.on hb1⟩
        case measure => have := hm.out; simp [intOf]; omega
      · have hcm : ¬ cmpI zk key < 0 := by simp only [cmpI, if_neg hk]; split <;> omega
        have hI : Hid ((∀ t, t < lo → (g t).k < key) ∧ (∀ t, m ≤ t → t < n → key ≤ (g t).k)) := ⟨I.out.1, fun t h1 h2 => by have := hZ.out t h1 h2; omega⟩
        clear hk hs hY hZ I
        go_wp2_with (go_at_call 82; refine (sAgainst_any _ _ _ _ _ _ _).mono ?_; rintro e w1 ⟨rfl, hb1⟩)
        go_roundw
        case rel => exact ⟨lo, m, rfl, by go_num, by have := hm.out; omega, by omega, hI, hbel.on hb1⟩
        case measure => have := hm.out; simp [intOf]; omega
    · obtain rfl : hi = lo := by omega
      by_cases hn1 : hi < n
      · obtain ⟨b, off, rfl, hb, h1⟩ := hp (by omega)
        obtain ⟨c1, c2, c3, c4, c5⟩ := (h1 hi hn1).below hbel hb
        clear h1 hp hs
        generalize hz : g hi = z at c1 c2 c3 c4 c5
        obtain ⟨zk, zc, zu, zx, zg⟩ := z
        dsimp only at c1 c2 c3 c4 c5
        have hR : Hid ((decide (hi < n) && decide ((g hi).k = key)) = decide (zk = key)) := by rw [hz]; simp [Hid, hn1]
        clear hz
        have hcm : (cmpI zk key = 0) ↔ zk = key := by unfold cmpI; split <;> (try split) <;> constructor <;> intro <;> omega
        by_cases hk : zk = key
        · subst hk
          have hc0 : cmpI zk zk = 0 := by simp [cmpI]
          have hc1 : (cmpI zk zk == 0) = true := by simp [cmpI]
          clear hcm
          go_wp2_with (go_at_call 82; refine (sAgainst_any _ _ _ _ _ _ _).mono ?_; rintro e w1 ⟨rfl, hb1⟩)
          go_ret2
          exact ⟨hi, hin, by rw [hR.out]; rfl, I.out.1, I.out.2, hbel.on hb1⟩
        · have hc0 : ¬ cmpI zk key = 0 := fun e => hk (hcm.1 e)
          have hc1 : (cmpI zk key == 0) = false := by simpa using hc0
          clear hcm
          go_wp2_with (go_at_call 82; refine (sAgainst_any _ _ _ _ _ _ _).mono ?_; rintro e w1 ⟨rfl, hb1⟩)
          go_ret2
          exact ⟨hi, hin, by rw [hR.out, decide_eq_false hk]; rfl, I.out.1, I.out.2, hbel.on hb1⟩
      · have hR : Hid ((decide (hi < n) && decide ((g hi).k = key)) = false) := by simp [Hid, hn1]
        have hd : ¬ (hi : Int) < (n : Int) := by omega
        clear hp hs
        go_wp2
        go_ret2
        exact ⟨hi, hin, by rw [hR.out]; rfl, I.out.1, I.out.2, hbel⟩

/-- The keys rise. -/
theorem srt_le {xs : List It} (h : Srt xs) (i j : Nat) (hij : i ≤ j) (hj : j < xs.length) : (xs.getD i ⟨0, 0, 0, 0, false⟩).k ≤ (xs.getD j ⟨0, 0, 0, 0, false⟩).k := by
  have hi : i < xs.length := by omega
  rw [show xs.getD i ⟨0, 0, 0, 0, false⟩ = xs[i] by simp [List.getD, List.getElem?_eq_getElem hi], show xs.getD j ⟨0, 0, 0, 0, false⟩ = xs[j] by simp [List.getD, List.getElem?_eq_getElem hj]]
  rcases Nat.lt_or_ge i j with h1 | h1
  · exact Int.le_of_lt (List.pairwise_iff_getElem.1 h i j hi hj h1)
  · obtain rfl : i = j := by omega
    exact Int.le_refl _

/-- Where a key stands, or is to stand. -/
theorem sFind_any {lo hi : Nat} {w : World} {v : Value} {xs : List It} (hx : RowT lo hi w v xs) (hh : hi ≤ w.heap.size) (hl : xs.length ≤ 16) (hs : Srt xs) (key : Int) :
    Calls Try.prog 61 #[v, .int .i64 key] w fun e w' =>
      ∃ m : Nat, m ≤ xs.length ∧ e = .returned (.tuple #[.int .i64 m, .bool (decide (m < xs.length) && decide ((xs.getD m ⟨0, 0, 0, 0, false⟩).k = key))]) ∧ (∀ t, t < m → (xs.getD t ⟨0, 0, 0, 0, false⟩).k < key) ∧ (∀ t, m ≤ t → t < xs.length → key ≤ (xs.getD t ⟨0, 0, 0, 0, false⟩).k) ∧ Below w.heap.size w w' := by
  obtain ⟨p, c, rfl, hn, hp⟩ := hx.its hh
  have hb := sSearch_core p xs.length c (fun j => xs.getD j ⟨0, 0, 0, 0, false⟩) key w (by omega) (fun h0 => by obtain ⟨b, off, e, _, h2, h3⟩ := hp h0; exact ⟨b, off, e, h2, h3⟩) (srt_le hs)
  clear hp hx
  go_enter Try.func61, Try.ntmps61
  go_wp2_with (go_at_call 81; refine hb.mono ?_; rintro e w1 ⟨m, h1, rfl, h2, h3, h4⟩)
  go_ret2
  exact ⟨m, h1, rfl, h2, h3, h4⟩

theorem iMay_yes (k c u x : Int) (g : Bool) (w : World) (h : itB ⟨k, c, u, x, g⟩ = true) :
    Calls Try.prog 60 #[.agg #[.int .i64 k, .int .i64 c, .int .i64 u, .int .i64 x, .bool g]] w fun e w' => e = .returned (.bool true) ∧ Below w.heap.size w w' := h ▸ iMay_any k c u x g w
theorem iMay_no (k c u x : Int) (g : Bool) (w : World) (h : itB ⟨k, c, u, x, g⟩ = false) :
    Calls Try.prog 60 #[.agg #[.int .i64 k, .int .i64 c, .int .i64 u, .int .i64 x, .bool g]] w fun e w' => e = .returned (.bool false) ∧ Below w.heap.size w w' := h ▸ iMay_any k c u x g w

set_option maxHeartbeats 1000000 in
theorem sAll_core (p : Option Addr) (n c : Nat) (g : Nat → It) (w : World) (hn : n ≤ 9223372036854775807)
    (hp : 0 < n → ∃ b off, p = some ⟨b, off, none⟩ ∧ b < w.heap.size ∧ ∀ j, j < n → ItAt w b (off + j * 5) (g j)) (r : Bool) (hr : r = true ↔ ∀ j, j < n → itB (g j) = true) :
    Calls Try.prog 75 #[.slice p n c] w fun e w' => e = .returned (.bool r) ∧ Below w.heap.size w w' := by
  go_enter Try.func75, Try.ntmps75
  go_wp2
  go_loopw [7] (fun i wr => ∃ k : Nat, k ≤ n ∧ i = .int .i64 k ∧ Hid (∀ j, j < k → itB (g j) = true) ∧ Below w.heap.size w wr) (fun i _ => n - (intOf i).toNat)
  case atStart => exact ⟨0, Nat.zero_le _, rfl, toHid (fun j hj => absurd hj (Nat.not_lt_zero _)), Below.refl _ _⟩
  case round =>
    obtain ⟨k, hk, rfl, hj, hbel⟩ := hrel
    by_cases hlt : k < n
    · obtain ⟨b, off, rfl, hb, h1⟩ := hp (by omega)
      obtain ⟨c1, c2, c3, c4, c5⟩ := (h1 k hlt).below hbel hb
      have hlt' : (k : Int) < (n : Int) := by omega
      rcases Bool.eq_false_or_eq_true (itB (g k)) with hi | hi
      · have hj' : Hid (∀ j, j < k + 1 → itB (g j) = true) := toHid fun j hjk => by
          by_cases e : j = k
          · rw [e]; exact hi
          · exact hj.out j (by omega)
        clear hj hr h1 hp
        generalize g k = z at c1 c2 c3 c4 c5 hi
        obtain ⟨zk, zc, zu, zx, zg⟩ := z
        dsimp only at c1 c2 c3 c4 c5
        go_wp2_with (go_at_call 60; refine (iMay_yes _ _ _ _ _ _ hi).mono ?_; rintro e w1 ⟨rfl, hb1⟩)
        go_roundw
        case rel => exact ⟨k + 1, by omega, by go_num, hj', by first | exact hbel.on hb1 | exact (hbel.onA _).on hb1⟩
        case measure => simp [intOf]; omega
      · have hrf : r = false := by
          cases r with
          | false => rfl
          | true => have := hr.1 rfl k hlt; rw [hi] at this; cases this
        subst hrf
        clear hj hr h1 hp
        generalize g k = z at c1 c2 c3 c4 c5 hi
        obtain ⟨zk, zc, zu, zx, zg⟩ := z
        dsimp only at c1 c2 c3 c4 c5
        go_wp2_with (go_at_call 60; refine (iMay_no _ _ _ _ _ _ hi).mono ?_; rintro e w1 ⟨rfl, hb1⟩)
        go_ret
        exact ⟨rfl, by first | exact hbel.on hb1 | exact (hbel.onA _).on hb1⟩
    · have hrt : r = true := hr.2 fun j hjn => hj.out j (by omega)
      subst hrt
      go_wp2
      go_ret
      exact ⟨rfl, hbel⟩

set_option maxHeartbeats 1000000 in
theorem sRis_core (p : Option Addr) (n c : Nat) (g : Nat → It) (w : World) (hn : n ≤ 9223372036854775807)
    (hp : 0 < n → ∃ b off, p = some ⟨b, off, none⟩ ∧ b < w.heap.size ∧ ∀ j, j < n → ItAt w b (off + j * 5) (g j)) (r : Bool) (hr : r = true ↔ ∀ j, j + 1 < n → (g j).k < (g (j + 1)).k) :
    Calls Try.prog 76 #[.slice p n c] w fun e w' => e = .returned (.bool r) ∧ Below w.heap.size w w' := by
  go_enter Try.func76, Try.ntmps76
  go_wp2
  go_loopw [3] (fun i wr => ∃ k : Nat, (k = 0 ∨ k + 1 ≤ n) ∧ i = .int .i64 ((k : Int) + 1) ∧ Hid (∀ j, j < k → (g j).k < (g (j + 1)).k) ∧ Below w.heap.size w wr) (fun i _ => n - (intOf i).toNat)
  case atStart => exact ⟨0, .inl rfl, rfl, toHid (fun j hj => absurd hj (Nat.not_lt_zero _)), Below.refl _ _⟩
  case round =>
    obtain ⟨k, hk, rfl, hj, hbel⟩ := hrel
    by_cases hlt : k + 1 < n
    · obtain ⟨b, off, rfl, hb, h1⟩ := hp (by omega)
      have c1 := ((h1 k (by omega)).below hbel hb).1
      have c2 := ((h1 (k + 1) hlt).below hbel hb).1
      have hlt1 : (k : Int) + 1 < (n : Int) := by omega
      have hlt2 : (k : Int) < (n : Int) := by omega
      have hk1 : (0 : Int) ≤ (k : Int) + 1 := by omega
      by_cases hlk : (g k).k < (g (k + 1)).k
      · have hj' : Hid (∀ j, j < k + 1 → (g j).k < (g (j + 1)).k) := toHid fun j hjk => by
          by_cases e : j = k
          · rw [e]; exact hlk
          · exact hj.out j (by omega)
        clear hj hr h1 hp
        generalize (g k).k = y at *
        generalize (g (k + 1)).k = z at *
        go_wp2
        go_quiet (fail)
        go_wp2
        go_roundw
        case rel => exact ⟨k + 1, by omega, by go_num, hj', hbel.onD _⟩
        case measure => simp [intOf]; omega
      · have hrf : r = false := by
          cases r with
          | false => rfl
          | true => exact absurd (hr.1 rfl k hlt) hlk
        subst hrf
        clear hj hr h1 hp
        generalize (g k).k = y at *
        generalize (g (k + 1)).k = z at *
        go_wp2
        go_quiet (fail)
        go_wp2
        go_ret
        exact ⟨rfl, hbel.onD _⟩
    · have hrt : r = true := hr.2 fun j hjn => hj.out j (by omega)
      subst hrt
      have hlt' : ¬ (k : Int) + 1 < (n : Int) := by omega
      go_wp2
      go_ret
      exact ⟨rfl, hbel⟩

end Go.Proofs.Ytgakfbdaiogflaa

namespace Go.Proofs.Ytgakfbdaiogflaa
open Go.ChangeShapes Go.WideShapes Go.ChangeAt Go.RowKit

theorem sAll_any {lo hi : Nat} {w : World} {v : Value} {xs : List It} (hx : RowT lo hi w v xs) (hh : hi ≤ w.heap.size) :
    Calls Try.prog 75 #[v] w fun e w' => e = .returned (.bool (decide (Val xs))) ∧ Below w.heap.size w w' := by
  obtain ⟨p, c, rfl, hn, hp⟩ := hx.its hh
  refine sAll_core p xs.length c (fun j => xs.getD j ⟨0, 0, 0, 0, false⟩) w hn (fun h0 => ?_) _ ?_
  · obtain ⟨b, off, e, _, h2, h3⟩ := hp h0
    exact ⟨b, off, e, h2, h3⟩
  · rw [decide_eq_true_iff]
    constructor
    · intro h j hj
      rw [getD_at _ _ hj]
      exact h _ (List.getElem_mem hj)
    · intro h x hx
      obtain ⟨j, hj, rfl⟩ := List.mem_iff_getElem.1 hx
      have := h j hj
      rwa [getD_at _ _ hj] at this

theorem srt_iff (xs : List It) : Srt xs ↔ ∀ j, j + 1 < xs.length → (xs.getD j ⟨0, 0, 0, 0, false⟩).k < (xs.getD (j + 1) ⟨0, 0, 0, 0, false⟩).k := by
  constructor
  · intro h j hj
    rw [getD_at _ _ hj, getD_at _ _ (show j < xs.length by omega)]
    exact List.pairwise_iff_getElem.1 h _ _ _ _ (by omega)
  · intro h
    refine List.pairwise_iff_getElem.2 ?_
    have step : ∀ d i (hi : i + 1 + d < xs.length), (xs[i]'(by omega)).k < (xs[i + 1 + d]).k := by
      intro d
      induction d with
      | zero =>
        intro i hi
        have := h i hi
        rwa [getD_at _ _ hi, getD_at _ _ (show i < xs.length by omega)] at this
      | succ d ih =>
        intro i hi
        have a := ih i (by omega)
        have := h (i + 1 + d) hi
        rw [getD_at _ _ (show i + 1 + d + 1 < xs.length from hi), getD_at _ _ (show i + 1 + d < xs.length by omega)] at this
        exact Int.lt_trans a this
    intro i j hi hj hij
    have := step (j - i - 1) i (by omega)
    have e : i + 1 + (j - i - 1) = j := by omega
    simpa only [e] using this

theorem sRis_any {lo hi : Nat} {w : World} {v : Value} {xs : List It} (hx : RowT lo hi w v xs) (hh : hi ≤ w.heap.size) :
    Calls Try.prog 76 #[v] w fun e w' => e = .returned (.bool (decide (Srt xs))) ∧ Below w.heap.size w w' := by
  obtain ⟨p, c, rfl, hn, hp⟩ := hx.its hh
  refine sRis_core p xs.length c (fun j => xs.getD j ⟨0, 0, 0, 0, false⟩) w hn (fun h0 => ?_) _ ?_
  · obtain ⟨b, off, e, _, h2, h3⟩ := hp h0
    exact ⟨b, off, e, h2, h3⟩
  · rw [decide_eq_true_iff]
    exact srt_iff xs

theorem sMay_any {lo hi : Nat} {w : World} {v : Value} {xs : List It} (hx : RowT lo hi w v xs) (hh : hi ≤ w.heap.size) :
    Calls Try.prog 57 #[v] w fun e w' => e = .returned (.bool (stB xs)) ∧ Below w.heap.size w w' := by
  have HA := sAll_any hx hh
  have HR : Hid (∀ w', Below w.heap.size w w' → Calls Try.prog 76 #[v] w' fun e w'' => e = .returned (.bool (decide (Srt xs))) ∧ Below w'.heap.size w' w'') := fun w' hb => sRis_any (hx.below hb hh) (Nat.le_trans hh hb.size)
  obtain ⟨p, c, rfl, hn, hp⟩ := hx.its hh
  clear hp
  by_cases hl : xs.length ≤ 16
  · have hl' : (xs.length : Int) ≤ 16 := by omega
    by_cases hv : Val xs
    · have e : stB xs = decide (Srt xs) := by unfold stB; rw [decide_eq_decide]; exact ⟨fun h => h.2.1, fun h => ⟨hv, h, hl⟩⟩
      rw [decide_eq_true hv] at HA
      rw [e]
      clear e hv
      generalize decide (Srt xs) = r at *
      generalize xs.length = n at *
      clear hx
      go_enter Try.func57, Try.ntmps57
      go_wp2_with (first
        | (go_at_call 75; refine HA.mono ?_; rintro e w1 ⟨rfl, hb1⟩)
        | (go_at_call 76; refine (HR.out _ hb1).mono ?_; rintro e w2 ⟨rfl, hb2⟩))
      go_ret
      exact ⟨rfl, hb1.on hb2⟩
    · have e : stB xs = false := by simp [stB, hv]
      rw [decide_eq_false hv] at HA
      rw [e]
      clear e hv HR hx
      generalize xs.length = n at *
      go_enter Try.func57, Try.ntmps57
      go_wp2_with (first
        | (go_at_call 75; refine HA.mono ?_; rintro e w1 ⟨rfl, hb1⟩))
      go_ret
      exact ⟨rfl, hb1⟩
  · have e : stB xs = false := by simp [stB, hl]
    have hl' : ¬ (xs.length : Int) ≤ 16 := by omega
    have hd : decide ((xs.length : Int) ≤ 16) = false := by simpa using hl'
    rw [e]
    clear e HA HR hx
    generalize xs.length = n at *
    go_enter Try.func57, Try.ntmps57
    go_wp2
    go_ret
    exact ⟨rfl, Below.refl _ _⟩

theorem sMay_is {lo hi : Nat} {w : World} {v : Value} {xs : List It} (hx : RowT lo hi w v xs) (hh : hi ≤ w.heap.size) {r : Bool} (h : stB xs = r) :
    Calls Try.prog 57 #[v] w fun e w' => e = .returned (.bool r) ∧ Below w.heap.size w w' := h ▸ sMay_any hx hh

/-- How many keys are less. -/
def posN (xs : List It) (key : Int) : Nat := xs.countP fun a => decide (a.k < key)
theorem posN_at : ∀ {xs : List It} {key : Int} {m : Nat}, m ≤ xs.length → (∀ t, t < m → (xs.getD t ⟨0, 0, 0, 0, false⟩).k < key) → (∀ t, m ≤ t → t < xs.length → key ≤ (xs.getD t ⟨0, 0, 0, 0, false⟩).k) → posN xs key = m
  | [], key, m, hm, _, _ => by simp at hm; simp [posN, hm]
  | a :: r, key, 0, _, _, h2 => by
    unfold posN
    rw [List.countP_eq_zero]
    intro x hx
    obtain ⟨t, ht, rfl⟩ := List.mem_iff_getElem.1 hx
    have := h2 t (Nat.zero_le _) ht
    rw [getD_at _ _ ht] at this
    simp
    exact this
  | a :: r, key, m + 1, hm, h1, h2 => by
    have ha : a.k < key := h1 0 (Nat.succ_pos _)
    have ih := posN_at (xs := r) (key := key) (m := m) (by simpa using hm) (fun t ht => by simpa using h1 (t + 1) (by omega)) (fun t h3 h4 => by simpa using h2 (t + 1) (by omega) (by simpa using h4))
    unfold posN at *
    rw [List.countP_cons_of_pos (by simpa using ha), ih]
/-- Where a key stands in a store: it is looked up there. -/
theorem look_pos {xs : List It} {key : Int} {m : Nat} (h1 : ∀ t, t < m → (xs.getD t ⟨0, 0, 0, 0, false⟩).k < key) (h2 : ∀ t, m ≤ t → t < xs.length → key ≤ (xs.getD t ⟨0, 0, 0, 0, false⟩).k) (hs : Srt xs) :
    look xs key = if decide (m < xs.length) && decide ((xs.getD m ⟨0, 0, 0, 0, false⟩).k = key) then some (xs.getD m ⟨0, 0, 0, 0, false⟩) else none := by
  by_cases hc : m < xs.length ∧ (xs.getD m ⟨0, 0, 0, 0, false⟩).k = key
  · rw [if_pos (by simpa using hc), ← hc.2]
    refine look_of_mem hs ?_
    rw [getD_at _ _ hc.1]
    exact List.getElem_mem _
  · rw [if_neg (by simpa using hc)]
    refine look_none fun a ha e => ?_
    obtain ⟨j, hj, rfl⟩ := List.mem_iff_getElem.1 ha
    rw [← getD_at _ ⟨0, 0, 0, 0, false⟩ hj] at e
    rcases Nat.lt_trichotomy j m with h | h | h
    · have := h1 j h; omega
    · subst h; exact hc ⟨hj, e⟩
    · have h3 := h2 m (Nat.le_refl _) (by omega)
      have h4 := List.pairwise_iff_getElem.1 hs m j (by omega) hj h
      rw [← getD_at _ ⟨0, 0, 0, 0, false⟩ hj, ← getD_at _ ⟨0, 0, 0, 0, false⟩ (show m < xs.length by omega)] at h4
      omega

/-- What is known of the place of a key in a store. -/
structure PosOf (xs : List It) (key : Int) (m : Nat) : Prop where
  le : m ≤ xs.length
  lt : ∀ t, t < m → (xs.getD t ⟨0, 0, 0, 0, false⟩).k < key
  ge : ∀ t, m ≤ t → t < xs.length → key ≤ (xs.getD t ⟨0, 0, 0, 0, false⟩).k
  none : look xs key = none → ∀ t, m ≤ t → t < xs.length → key < (xs.getD t ⟨0, 0, 0, 0, false⟩).k
  some : ∀ a, look xs key = some a → m < xs.length ∧ xs.getD m ⟨0, 0, 0, 0, false⟩ = a ∧ a.k = key

theorem sFind_pos {lo hi : Nat} {w : World} {v : Value} {xs : List It} (hx : RowT lo hi w v xs) (hh : hi ≤ w.heap.size) (hl : xs.length ≤ 16) (hs : Srt xs) (key : Int) :
    Calls Try.prog 61 #[v, .int .i64 key] w fun e w' => e = .returned (.tuple #[.int .i64 (posN xs key), .bool (look xs key).isSome]) ∧ Below w.heap.size w w' := by
  refine (sFind_any hx hh hl hs key).mono ?_
  rintro e w' ⟨m, h1, rfl, h2, h3, h4⟩
  have hm := posN_at h1 h2 h3
  have hk := look_pos h2 h3 hs
  refine ⟨?_, h4⟩
  rw [hm, hk]
  generalize (decide (m < xs.length) && decide ((xs.getD m ⟨0, 0, 0, 0, false⟩).k = key)) = r
  cases r <;> rfl

theorem posOf_any {xs : List It} (key : Int) (hs : Srt xs) : PosOf xs key (posN xs key) := by
  have H : ∃ m, m ≤ xs.length ∧ (∀ t, t < m → (xs.getD t ⟨0, 0, 0, 0, false⟩).k < key) ∧ (∀ t, m ≤ t → t < xs.length → key ≤ (xs.getD t ⟨0, 0, 0, 0, false⟩).k) := by
    induction xs with
    | nil => exact ⟨0, Nat.le_refl _, fun t ht => absurd ht (Nat.not_lt_zero _), fun t _ h => absurd h (Nat.not_lt_zero _)⟩
    | cons a r ih =>
      have hs' := List.pairwise_cons.1 hs
      by_cases ha : a.k < key
      · obtain ⟨m, h1, h2, h3⟩ := ih hs'.2
        refine ⟨m + 1, by simpa using h1, fun t ht => ?_, fun t h4 h5 => ?_⟩
        · cases t with
          | zero => exact ha
          | succ t => simpa using h2 t (by omega)
        · cases t with
          | zero => omega
          | succ t => simpa using h3 t (by omega) (by simpa using h5)
      · refine ⟨0, Nat.zero_le _, fun t ht => absurd ht (Nat.not_lt_zero _), fun t _ h5 => ?_⟩
        have := srt_le hs 0 t (Nat.zero_le _) h5
        have e : ((a :: r).getD 0 ⟨0, 0, 0, 0, false⟩).k = a.k := rfl
        omega
  obtain ⟨m, h1, h2, h3⟩ := H
  have hm := posN_at h1 h2 h3
  have hk := look_pos h2 h3 hs
  rw [hm]
  refine ⟨h1, h2, h3, fun h t h4 h5 => ?_, fun a h => ?_⟩
  · rw [hk] at h
    have h6 := h3 t h4 h5
    rcases Int.lt_or_le key (xs.getD t ⟨0, 0, 0, 0, false⟩).k with h7 | h7
    · exact h7
    · exfalso
      have h8 := srt_le hs m t h4 h5
      have h9 := h3 m (Nat.le_refl _) (by omega)
      have hc : (decide (m < xs.length) && decide ((xs.getD m ⟨0, 0, 0, 0, false⟩).k = key)) = true := by
        simp only [Bool.and_eq_true, decide_eq_true_eq]
        exact ⟨by omega, by omega⟩
      rw [if_pos hc] at h
      cases h
  · rw [hk] at h
    split at h
    · rename_i hc
      simp only [Bool.and_eq_true, decide_eq_true_eq] at hc
      cases h
      exact ⟨hc.1, rfl, hc.2⟩
    · cases h

set_option maxHeartbeats 1000000 in
theorem sGet_any {lo hi : Nat} {w : World} {v : Value} {xs : List It} (hx : RowT lo hi w v xs) (hh : hi ≤ w.heap.size) (key : Int) :
    Calls Try.prog 59 #[v, .int .i64 key] w fun e w' => e = .returned (.tuple #[.agg #[.int .i64 (getI xs key).k, .int .i64 (getI xs key).c, .int .i64 (getI xs key).u, .int .i64 (getI xs key).x, .bool (getI xs key).g], .bool (getB xs key)]) ∧ Below w.heap.size w w' := by
  rcases Bool.eq_false_or_eq_true (stB xs) with hs | hs
  · obtain ⟨hv, hsr, hl⟩ := stB_iff.1 hs
    have HM : Hid (∀ w', Below w.heap.size w w' → _) := fun w' hb => sMay_is (hx.below hb hh) (Nat.le_trans hh hb.size) hs
    have HF : Hid (∀ w', Below w.heap.size w w' → _) := fun w' hb => sFind_pos (hx.below hb hh) (Nat.le_trans hh hb.size) hl hsr key
    have hP := posOf_any key hsr
    obtain ⟨p, c, rfl, hn, hp⟩ := hx.its hh
    cases hlk : look xs key with
    | none =>
      have e1 : getI xs key = ⟨0, 0, 0, 0, false⟩ := by simp [getI, hs, zeroI, hlk]
      have e2 : getB xs key = false := by simp [getB, hlk]
      rw [e1, e2]
      rw [hlk] at HF
      dsimp only [Option.isSome] at HF
      have hpl : posN xs key ≤ 16 := Nat.le_trans hP.le hl
      clear e1 e2 hp hP hlk hx hv hsr hs
      generalize posN xs key = m at *
      generalize xs.length = n at *
      go_enter Try.func59, Try.ntmps59
      go_wp2_with (first
        | (go_at_call 57; refine (HM.out _ ((Below.refl _ w).onA _)).mono ?_; rintro e w1 ⟨rfl, hb1⟩
           have bx1 := (Box.new w _ _).below hb1)
        | (go_at_call 61; refine (HF.out _ (((Below.refl _ w).onA _).on hb1)).mono ?_; rintro e w2 ⟨rfl, hb2⟩
           obtain ⟨x1, x2, x3⟩ := bx1.below hb2))
      exact bodyPost_ret (v := .tuple #[.agg #[.int .i64 0, .int .i64 0, .int .i64 0, .int .i64 0, .bool false], .bool false]) (by simp [results, Try.results59, go_sem, x2]) rfl ⟨rfl, ((((Below.refl _ w).onA _).on hb1).on hb2).set5 (Nat.le_refl _) _ _ _ _ _⟩
    | some a =>
      have e1 : getI xs key = a := by simp [getI, hs, hlk]
      have e2 : getB xs key = true := by simp [getB, hlk, hs]
      rw [e1, e2]
      rw [hlk] at HF
      dsimp only [Option.isSome] at HF
      obtain ⟨hm, ha, -⟩ := hP.some a hlk
      obtain ⟨b, off, rfl, _, hb, hc⟩ := hp (by omega)
      have HI : Hid (∀ w', Below w.heap.size w w' → ItAt w' b (off + posN xs key * 5) a) := fun w' hw => by have := (hc _ hm).below hw hb; rwa [ha] at this
      have hpl : (posN xs key : Int) < (xs.length : Int) := by omega
      clear e1 e2 hp hP hlk hx hv hsr hs hc ha
      generalize posN xs key = m at *
      generalize xs.length = n at *
      obtain ⟨ak, ac, au, ax, ag⟩ := a
      go_enter Try.func59, Try.ntmps59
      go_wp2_with (first
        | (go_at_call 57; refine (HM.out _ ((Below.refl _ w).onA _)).mono ?_; rintro e w1 ⟨rfl, hb1⟩
           have bx1 := (Box.new w _ _).below hb1)
        | (go_at_call 61; refine (HF.out _ (((Below.refl _ w).onA _).on hb1)).mono ?_; rintro e w2 ⟨rfl, hb2⟩
           obtain ⟨x1, x2, x3⟩ := bx1.below hb2
           obtain ⟨c1, c2, c3, c4, c5⟩ := HI.out _ ((((Below.refl _ w).onA _).on hb1).on hb2)
           dsimp only at c1 c2 c3 c4 c5))
      exact bodyPost_ret (v := .tuple #[.agg #[.int .i64 ak, .int .i64 ac, .int .i64 au, .int .i64 ax, .bool ag], .bool true]) (by simp [results, Try.results59, go_sem, x2]) rfl ⟨rfl, ((((Below.refl _ w).onA _).on hb1).on hb2).set5 (Nat.le_refl _) _ _ _ _ _⟩
  · have e1 : getI xs key = ⟨0, 0, 0, 0, false⟩ := by simp [getI, hs, zeroI]
    have e2 : getB xs key = false := by simp [getB, hs]
    have HM : Hid (∀ w', Below w.heap.size w w' → _) := fun w' hb => sMay_is (hx.below hb hh) (Nat.le_trans hh hb.size) hs
    rw [e1, e2]
    clear e1 e2
    obtain ⟨p, c, rfl, hn, hp⟩ := hx.its hh
    clear hp hs hx
    generalize xs.length = n at *
    go_enter Try.func59, Try.ntmps59
    go_wp2_with (first
      | (go_at_call 57; refine (HM.out _ ((Below.refl _ w).onA _)).mono ?_; rintro e w1 ⟨rfl, hb1⟩
         obtain ⟨x1, x2, x3⟩ := (Box.new w _ _).below hb1))
    exact bodyPost_ret (v := .tuple #[.agg #[.int .i64 0, .int .i64 0, .int .i64 0, .int .i64 0, .bool false], .bool false]) (by simp [results, Try.results59, go_sem, x2]) rfl ⟨rfl, (((Below.refl _ w).onA _).on hb1).set5 (Nat.le_refl _) _ _ _ _ _⟩

end Go.Proofs.Ytgakfbdaiogflaa
