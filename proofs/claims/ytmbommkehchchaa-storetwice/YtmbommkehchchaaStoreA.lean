/-
  Contracts of package store's small functions (where a key stands; may all be; do they rise), at every list of items: what they return, and that no old memory has turned.
-/
import Derived.Test.YtmbommkehchchaaItem
import Derived.Test.YtmbommkehchchaaItemRow
import Derived.Test.YtmbommkehchchaaStoreMath
import Derived.Test.YtmbommkehchchaaBox
import Derived.Test.YtmbommkehchchaaCalm
import Derived.Test.YtmbommkehchchaaCmp
import Derived.Test.YtmbommkehchchaaStoreRef
namespace Go.Proofs.Ytmbommkehchchaa
open Go.ChangeShapes Go.WideShapes Go.ChangeAt Go.RowKit

theorem sAgainst_any (k c u x : Int) (g : Bool) (key : Int) (w : World) :
    Calls Try.prog 36 #[.agg #[.int .i64 k, .int .i64 c, .int .i64 u, .int .i64 x, .bool g], .int .i64 key] w fun e w' => e = .returned (.int .i64 (cmpI k key)) ∧ Below w.heap.size w w' := by
  go_enter Try.func36, Try.ntmps36
  go_wp2_with (first | (go_at_call 42; refine (compare_any _ _ _).mono ?_; rintro e w' ⟨rfl, hw'⟩; subst w'))
  go_ret
  exact ⟨rfl, (Below.refl _ w).onA _⟩

set_option maxHeartbeats 1000000 in
theorem sSearch_core (p : Option Addr) (n c : Nat) (g : Nat → It) (key : Int) (w : World) (hn : n < 4611686018427387904)
    (hp : 0 < n → ∃ b off, p = some ⟨b, off, none⟩ ∧ b < w.heap.size ∧ ∀ j, j < n → ItAt w b (off + j * 5) (g j))
    (hs : ∀ i j, i ≤ j → j < n → (g i).k ≤ (g j).k) :
    Calls Try.prog 35 #[.slice p n c, .int .i64 key, .func (.func 36) #[] #[]] w fun e w' =>
      ∃ m : Nat, m ≤ n ∧ e = .returned (.tuple #[.int .i64 m, .bool (decide (m < n) && decide ((g m).k = key))]) ∧ (∀ t, t < m → (g t).k < key) ∧ (∀ t, m ≤ t → t < n → key ≤ (g t).k) ∧ Below w.heap.size w w' := by
  replace hs : Hid _ := hs
  go_enter Try.func35, Try.ntmps35
  go_wp2
  go_loopw [9, 10] (fun s9 s10 wr => ∃ lo hi : Nat, s9 = .int .i64 lo ∧ s10 = .int .i64 hi ∧ lo ≤ hi ∧ hi ≤ n ∧ Hid ((∀ t, t < lo → (g t).k < key) ∧ (∀ t, hi ≤ t → t < n → key ≤ (g t).k)) ∧ Below w.heap.size w wr) (fun s9 s10 _ => (intOf s10).toNat - (intOf s9).toNat)
  case atStart => exact ⟨0, n, rfl, rfl, Nat.zero_le _, Nat.le_refl _, ⟨fun t ht => absurd ht (Nat.not_lt_zero _), fun t h1 h2 => by omega⟩, Below.refl _ _⟩
  case round =>
    obtain ⟨lo, hi, rfl, rfl, hlh, hin, I, hbel⟩ := hrel
    by_cases hlt : lo < hi
    · obtain ⟨b, off, rfl, hb, h1⟩ := hp (by omega)
      obtain ⟨m, hm⟩ : ∃ m, m = (lo + hi) / 2 := ⟨_, rfl⟩
      have hmn : m < n := by omega
      obtain ⟨c1, c2, c3, c4, c5⟩ := (h1 m hmn).below hbel hb
      replace hm := toHid hm
      have hme : ((lo : Int) + (hi : Int)) / 2 = (m : Int) := by have := hm.out; omega
      have hY : Hid (∀ i, i ≤ m → (g i).k ≤ (g m).k) := fun i hi => hs.out i m hi hmn
      have hZ : Hid (∀ j, m ≤ j → j < n → (g m).k ≤ (g j).k) := fun j h1 h2 => hs.out m j h1 h2
      clear h1 hp
      generalize g m = z at c1 c2 c3 c4 c5 hY hZ
      obtain ⟨zk, zc, zu, zx, zg⟩ := z
      dsimp only at c1 c2 c3 c4 c5 hY hZ
      by_cases hk : zk < key
      · have hcm : cmpI zk key < 0 := by simp [cmpI, hk]
        have hI : Hid ((∀ t, t < m + 1 → (g t).k < key) ∧ (∀ t, hi ≤ t → t < n → key ≤ (g t).k)) := ⟨fun t ht => by have := hY.out t (by omega); omega, I.out.2⟩
        clear hk hs hY hZ I
        go_wp2_with (go_at_call 36; refine (sAgainst_any _ _ _ _ _ _ _).mono ?_; rintro e w1 ⟨rfl, hb1⟩)
        go_roundw
        case rel => exact ⟨m + 1, hi, by go_num, rfl, by have := hm.out; omega, hin, hI, hbel.on hb1⟩
        case measure => have := hm.out; simp [intOf]; omega
      · have hcm : ¬ cmpI zk key < 0 := by simp only [cmpI, if_neg hk]; split <;> omega
        have hI : Hid ((∀ t, t < lo → (g t).k < key) ∧ (∀ t, m ≤ t → t < n → key ≤ (g t).k)) := ⟨I.out.1, fun t h1 h2 => by have := hZ.out t h1 h2; omega⟩
        clear hk hs hY hZ I
        go_wp2_with (go_at_call 36; refine (sAgainst_any _ _ _ _ _ _ _).mono ?_; rintro e w1 ⟨rfl, hb1⟩)
        go_roundw
        case rel => exact ⟨lo, m, rfl, by go_num, by have := hm.out; omega, by omega, hI, hbel.on hb1⟩
        case measure => have := hm.out; simp [intOf]; omega
    · obtain rfl : hi = lo := by omega
      by_cases hn1 : hi < n
      · obtain ⟨b, off, rfl, hb, h1⟩ := hp (by omega)
        obtain ⟨c1, c2, c3, c4, c5⟩ := (h1 hi hn1).below hbel hb
        clear h1 hp hs
        generalize hz : g hi = z at c1 c2 c3 c4 c5
        obtain ⟨zk, zc, zu, zx, zg⟩ := z
        dsimp only at c1 c2 c3 c4 c5
        have hR : Hid ((decide (hi < n) && decide ((g hi).k = key)) = decide (zk = key)) := by rw [hz]; simp [Hid, hn1]
        clear hz
        have hcm : (cmpI zk key = 0) ↔ zk = key := by unfold cmpI; split <;> (try split) <;> constructor <;> intro <;> omega
        by_cases hk : zk = key
        · subst hk
          have hc0 : cmpI zk zk = 0 := by simp [cmpI]
          have hc1 : (cmpI zk zk == 0) = true := by simp [cmpI]
          clear hcm
          go_wp2_with (go_at_call 36; refine (sAgainst_any _ _ _ _ _ _ _).mono ?_; rintro e w1 ⟨rfl, hb1⟩)
          go_ret2
          exact ⟨hi, hin, by rw [hR.out]; rfl, I.out.1, I.out.2, hbel.on hb1⟩
        · have hc0 : ¬ cmpI zk key = 0 := fun e => hk (hcm.1 e)
          have hc1 : (cmpI zk key == 0) = false := by simpa using hc0
          clear hcm
          go_wp2_with (go_at_call 36; refine (sAgainst_any _ _ _ _ _ _ _).mono ?_; rintro e w1 ⟨rfl, hb1⟩)
          go_ret2
          exact ⟨hi, hin, by rw [hR.out, decide_eq_false hk]; rfl, I.out.1, I.out.2, hbel.on hb1⟩
      · have hR : Hid ((decide (hi < n) && decide ((g hi).k = key)) = false) := by simp [Hid, hn1]
        have hd : ¬ (hi : Int) < (n : Int) := by omega
        clear hp hs
        go_wp2
        go_ret2
        exact ⟨hi, hin, by rw [hR.out]; rfl, I.out.1, I.out.2, hbel⟩

/-- The keys rise. -/
theorem srt_le {xs : List It} (h : Srt xs) (i j : Nat) (hij : i ≤ j) (hj : j < xs.length) : (xs.getD i ⟨0, 0, 0, 0, false⟩).k ≤ (xs.getD j ⟨0, 0, 0, 0, false⟩).k := by
  have hi : i < xs.length := by omega
  rw [show xs.getD i ⟨0, 0, 0, 0, false⟩ = xs[i] by simp [List.getD, List.getElem?_eq_getElem hi], show xs.getD j ⟨0, 0, 0, 0, false⟩ = xs[j] by simp [List.getD, List.getElem?_eq_getElem hj]]
  rcases Nat.lt_or_ge i j with h1 | h1
  · exact Int.le_of_lt (List.pairwise_iff_getElem.1 h i j hi hj h1)
  · obtain rfl : i = j := by omega
    exact Int.le_refl _

/-- Where a key stands, or is to stand. -/
theorem sFind_any {lo hi : Nat} {w : World} {v : Value} {xs : List It} (hx : RowT lo hi w v xs) (hh : hi ≤ w.heap.size) (hl : xs.length ≤ 16) (hs : Srt xs) (key : Int) :
    Calls Try.prog 25 #[v, .int .i64 key] w fun e w' =>
      ∃ m : Nat, m ≤ xs.length ∧ e = .returned (.tuple #[.int .i64 m, .bool (decide (m < xs.length) && decide ((xs.getD m ⟨0, 0, 0, 0, false⟩).k = key))]) ∧ (∀ t, t < m → (xs.getD t ⟨0, 0, 0, 0, false⟩).k < key) ∧ (∀ t, m ≤ t → t < xs.length → key ≤ (xs.getD t ⟨0, 0, 0, 0, false⟩).k) ∧ Below w.heap.size w w' := by
  obtain ⟨p, c, rfl, hn, hp⟩ := hx.its hh
  have hb := sSearch_core p xs.length c (fun j => xs.getD j ⟨0, 0, 0, 0, false⟩) key w (by omega) (fun h0 => by obtain ⟨b, off, e, _, h2, h3⟩ := hp h0; exact ⟨b, off, e, h2, h3⟩) (srt_le hs)
  clear hp hx
  go_enter Try.func25, Try.ntmps25
  go_wp2_with (go_at_call 35; refine hb.mono ?_; rintro e w1 ⟨m, h1, rfl, h2, h3, h4⟩)
  go_ret2
  exact ⟨m, h1, rfl, h2, h3, h4⟩

theorem iMay_yes (k c u x : Int) (g : Bool) (w : World) (h : itB ⟨k, c, u, x, g⟩ = true) :
    Calls Try.prog 24 #[.agg #[.int .i64 k, .int .i64 c, .int .i64 u, .int .i64 x, .bool g]] w fun e w' => e = .returned (.bool true) ∧ Below w.heap.size w w' := h ▸ iMay_any k c u x g w
theorem iMay_no (k c u x : Int) (g : Bool) (w : World) (h : itB ⟨k, c, u, x, g⟩ = false) :
    Calls Try.prog 24 #[.agg #[.int .i64 k, .int .i64 c, .int .i64 u, .int .i64 x, .bool g]] w fun e w' => e = .returned (.bool false) ∧ Below w.heap.size w w' := h ▸ iMay_any k c u x g w

set_option maxHeartbeats 1000000 in
theorem sAll_core (p : Option Addr) (n c : Nat) (g : Nat → It) (w : World) (hn : n ≤ 9223372036854775807)
    (hp : 0 < n → ∃ b off, p = some ⟨b, off, none⟩ ∧ b < w.heap.size ∧ ∀ j, j < n → ItAt w b (off + j * 5) (g j)) (r : Bool) (hr : r = true ↔ ∀ j, j < n → itB (g j) = true) :
    Calls Try.prog 29 #[.slice p n c] w fun e w' => e = .returned (.bool r) ∧ Below w.heap.size w w' := by
  go_enter Try.func29, Try.ntmps29
  go_wp2
  go_loopw [7] (fun i wr => ∃ k : Nat, k ≤ n ∧ i = .int .i64 k ∧ Hid (∀ j, j < k → itB (g j) = true) ∧ Below w.heap.size w wr) (fun i _ => n - (intOf i).toNat)
  case atStart => exact ⟨0, Nat.zero_le _, rfl, toHid (fun j hj => absurd hj (Nat.not_lt_zero _)), Below.refl _ _⟩
  case round =>
    obtain ⟨k, hk, rfl, hj, hbel⟩ := hrel
    by_cases hlt : k < n
    · obtain ⟨b, off, rfl, hb, h1⟩ := hp (by omega)
      obtain ⟨c1, c2, c3, c4, c5⟩ := (h1 k hlt).below hbel hb
      have hlt' : (k : Int) < (n : Int) := by omega
      rcases Bool.eq_false_or_eq_true (itB (g k)) with hi | hi
      · have hj' : Hid (∀ j, j < k + 1 → itB (g j) = true) := toHid fun j hjk => by
          by_cases e : j = k
          · rw [e]; exact hi
          · exact hj.out j (by omega)
        clear hj hr h1 hp
        generalize g k = z at c1 c2 c3 c4 c5 hi
        obtain ⟨zk, zc, zu, zx, zg⟩ := z
        dsimp only at c1 c2 c3 c4 c5
        go_wp2_with (go_at_call 24; refine (iMay_yes _ _ _ _ _ _ hi).mono ?_; rintro e w1 ⟨rfl, hb1⟩)
        go_roundw
        case rel => exact ⟨k + 1, by omega, by go_num, hj', by first | exact hbel.on hb1 | exact (hbel.onA _).on hb1⟩
        case measure => simp [intOf]; omega
      · have hrf : r = false := by
          cases r with
          | false => rfl
          | true => have := hr.1 rfl k hlt; rw [hi] at this; cases this
        subst hrf
        clear hj hr h1 hp
        generalize g k = z at c1 c2 c3 c4 c5 hi
        obtain ⟨zk, zc, zu, zx, zg⟩ := z
        dsimp only at c1 c2 c3 c4 c5
        go_wp2_with (go_at_call 24; refine (iMay_no _ _ _ _ _ _ hi).mono ?_; rintro e w1 ⟨rfl, hb1⟩)
        go_ret
        exact ⟨rfl, by first | exact hbel.on hb1 | exact (hbel.onA _).on hb1⟩
    · have hrt : r = true := hr.2 fun j hjn => hj.out j (by omega)
      subst hrt
      go_wp2
      go_ret
      exact ⟨rfl, hbel⟩

set_option maxHeartbeats 1000000 in
theorem sRis_core (p : Option Addr) (n c : Nat) (g : Nat → It) (w : World) (hn : n ≤ 9223372036854775807)
    (hp : 0 < n → ∃ b off, p = some ⟨b, off, none⟩ ∧ b < w.heap.size ∧ ∀ j, j < n → ItAt w b (off + j * 5) (g j)) (r : Bool) (hr : r = true ↔ ∀ j, j + 1 < n → (g j).k < (g (j + 1)).k) :
    Calls Try.prog 30 #[.slice p n c] w fun e w' => e = .returned (.bool r) ∧ Below w.heap.size w w' := by
  go_enter Try.func30, Try.ntmps30
  go_wp2
  go_loopw [3] (fun i wr => ∃ k : Nat, (k = 0 ∨ k + 1 ≤ n) ∧ i = .int .i64 ((k : Int) + 1) ∧ Hid (∀ j, j < k → (g j).k < (g (j + 1)).k) ∧ Below w.heap.size w wr) (fun i _ => n - (intOf i).toNat)
  case atStart => exact ⟨0, .inl rfl, rfl, toHid (fun j hj => absurd hj (Nat.not_lt_zero _)), Below.refl _ _⟩
  case round =>
    obtain ⟨k, hk, rfl, hj, hbel⟩ := hrel
    by_cases hlt : k + 1 < n
    · obtain ⟨b, off, rfl, hb, h1⟩ := hp (by omega)
      have c1 := ((h1 k (by omega)).below hbel hb).1
      have c2 := ((h1 (k + 1) hlt).below hbel hb).1
      have hlt1 : (k : Int) + 1 < (n : Int) := by omega
      have hlt2 : (k : Int) < (n : Int) := by omega
      have hk1 : (0 : Int) ≤ (k : Int) + 1 := by omega
      by_cases hlk : (g k).k < (g (k + 1)).k
      · have hj' : Hid (∀ j, j < k + 1 → (g j).k < (g (j + 1)).k) := toHid fun j hjk => by
          by_cases e : j = k
          · rw [e]; exact hlk
          · exact hj.out j (by omega)
        clear hj hr h1 hp
        generalize (g k).k = y at *
        generalize (g (k + 1)).k = z at *
        go_wp2
        go_quiet (fail)
        go_wp2
        go_roundw
        case rel => exact ⟨k + 1, by omega, by go_num, hj', hbel.onD _⟩
        case measure => simp [intOf]; omega
      · have hrf : r = false := by
          cases r with
          | false => rfl
          | true => exact absurd (hr.1 rfl k hlt) hlk
        subst hrf
        clear hj hr h1 hp
        generalize (g k).k = y at *
        generalize (g (k + 1)).k = z at *
        go_wp2
        go_quiet (fail)
        go_wp2
        go_ret
        exact ⟨rfl, hbel.onD _⟩
    · have hrt : r = true := hr.2 fun j hjn => hj.out j (by omega)
      subst hrt
      have hlt' : ¬ (k : Int) + 1 < (n : Int) := by omega
      go_wp2
      go_ret
      exact ⟨rfl, hbel⟩

end Go.Proofs.Ytmbommkehchchaa
