
/-
  Contracts of package cuts' searches: where the first one is that may not be; where this one is; do they rise; which may be; where one stands, or is to stand.
-/
import Derived.Test.YtnbnnbcjlfdlpaaCutA
import Derived.Test.YtnbnnbcjlfdlpaaCalm
import Derived.Test.YtnbnnbcjlfdlpaaOld
namespace Go.Proofs.Ytnbnnbcjlfdlpaa
open Go.ChangeShapes Go.WideShapes Go.ChangeAt Go.RowKit

def notC (c : Cu) : Bool := !cuB c
def isC (d c : Cu) : Bool := decide (c = d)

set_option maxHeartbeats 2000000 in
theorem uIndexNot_core (p : Option Addr) (n c : Nat) (g : Nat → Cu) (k : Nat) (w : World) (hn : n ≤ 9223372036854775807) (hk : k ≤ n)
    (hp : 0 < n → ∃ b off, p = some ⟨b, off, none⟩ ∧ b < w.heap.size ∧ ∀ j, j < n → CuAt w b (off + j * 2) (g j))
    (hno : ∀ t, t < k → notC (g t) = false) (hyes : k < n → notC (g k) = true) :
    Calls Try.prog 37 #[.slice p n c, .func (.func 30) #[] #[]] w fun e w' =>
      e = .returned (.int .i64 (if k < n then (k : Int) else -1)) ∧ Below w.heap.size w w' := by
  replace hno := toHid hno
  go_enter Try.func37, Try.ntmps37
  go_wp2
  go_loopw [8] (fun s8 wr => ∃ i : Nat, i ≤ k ∧ s8 = .int .i64 i ∧ Below w.heap.size w wr) (fun s8 _ => n - (intOf s8).toNat)
  case atStart => exact ⟨0, Nat.zero_le _, rfl, Below.refl _ w⟩
  case round =>
    obtain ⟨i, hi, rfl, hb⟩ := hrel
    by_cases hlt : i < n
    · obtain ⟨b, off, rfl, hbw, h1⟩ := hp (by omega)
      obtain ⟨c1, c2⟩ := (h1 i hlt).below hb hbw
      have hlt' : (i : Int) < (n : Int) := by omega
      have hi0 : 0 ≤ (i : Int) := by omega
      by_cases hik : i = k
      · subst hik
        have hP := hyes hlt
        clear h1 hp hno hyes
        generalize g i = z at c1 c2 hP
        obtain ⟨za, zb⟩ := z
        dsimp only at c1 c2
        have HM := uNot_any za zb wr
        rw [show (!cuB ⟨za, zb⟩) = _ from hP] at HM
        clear hP
        go_wp2_with (go_at_call 30; refine HM.mono ?_; rintro e w5 ⟨rfl, h5⟩)
        go_ret
        exact ⟨rfl, hb.on h5⟩
      · have hP := hno.out i (by omega)
        clear h1 hp hno hyes
        generalize g i = z at c1 c2 hP
        obtain ⟨za, zb⟩ := z
        dsimp only at c1 c2
        have HM := uNot_any za zb wr
        rw [show (!cuB ⟨za, zb⟩) = _ from hP] at HM
        clear hP
        go_wp2_with (go_at_call 30; refine HM.mono ?_; rintro e w5 ⟨rfl, h5⟩)
        go_roundw
        case rel => exact ⟨i + 1, by omega, by go_num, hb.on h5⟩
        case measure => simp [intOf]; omega
    · obtain rfl : i = n := by omega
      obtain rfl : i = k := by omega
      clear hno hyes hp
      go_wp2
      go_ret
      exact ⟨rfl, hb⟩

theorem first_at {p : Cu → Bool} (g : Nat → Cu) : ∀ n : Nat, ∃ k, k ≤ n ∧ (∀ t, t < k → p (g t) = false) ∧ (k < n → p (g k) = true)
  | 0 => ⟨0, Nat.le_refl _, fun t h => absurd h (Nat.not_lt_zero _), fun h => absurd h (Nat.lt_irrefl _)⟩
  | n + 1 => by
    obtain ⟨k, hk, h1, h2⟩ := first_at (p := p) g n
    by_cases e : k < n
    · exact ⟨k, by omega, h1, fun _ => h2 e⟩
    · obtain rfl : k = n := by omega
      cases h : p (g k) with
      | true => exact ⟨k, by omega, h1, fun _ => h⟩
      | false => exact ⟨k + 1, Nat.le_refl _, fun t ht => by
          by_cases e2 : t = k
          · rw [e2]; exact h
          · exact h1 t (by omega), fun h => absurd h (Nat.lt_irrefl _)⟩

theorem uContains_any {lo hi : Nat} {w : World} {v : Value} {cs : List Cu} (hx : RowU lo hi w v cs) (hh : hi ≤ w.heap.size) :
    Calls Try.prog 29 #[v, .func (.func 30) #[] #[]] w fun e w' => e = .returned (.bool (!cs.all cuB)) ∧ Below w.heap.size w w' := by
  obtain ⟨p, c, rfl, hn, hp⟩ := hx.cus hh
  obtain ⟨k, hk, h1, h2⟩ := first_at (p := notC) (fun j => cs.getD j ⟨0, 0⟩) cs.length
  have H := uIndexNot_core p cs.length c (fun j => cs.getD j ⟨0, 0⟩) k w hn hk (fun h0 => by obtain ⟨b, off, e, _, h3, h4⟩ := hp h0; exact ⟨b, off, e, h3, h4⟩) h1 h2
  by_cases hkn : k < cs.length
  · have e : cs.all cuB = false := by
      rw [List.all_eq_false]
      have h3 := h2 hkn
      rw [getD_in _ _ hkn] at h3
      exact ⟨_, List.getElem_mem hkn, by simpa [notC] using h3⟩
    rw [e]
    rw [if_pos hkn] at H
    have hr0 : 0 ≤ (k : Int) := by omega
    have hr1 : decide (0 ≤ (k : Int)) = true := decide_eq_true hr0
    replace H := toHid H
    clear h1 h2 e hp hx
    go_enter Try.func29, Try.ntmps29
    go_wp2_with (go_at_call 37; refine H.out.mono ?_; rintro e w5 ⟨rfl, h5⟩)
    go_ret
    exact ⟨by simp, h5⟩
  · obtain rfl : k = cs.length := by omega
    have e : cs.all cuB = true := by
      rw [List.all_eq_true]
      intro x hx
      obtain ⟨j, hj, rfl⟩ := List.mem_iff_getElem.1 hx
      have h3 := h1 j hj
      rw [getD_in _ _ hj] at h3
      simpa [notC] using h3
    rw [e]
    rw [if_neg hkn] at H
    replace H := toHid H
    clear h1 h2 e hp hx
    go_enter Try.func29, Try.ntmps29
    go_wp2_with (go_at_call 37; refine H.out.mono ?_; rintro e w5 ⟨rfl, h5⟩)
    go_ret
    exact ⟨rfl, h5⟩

set_option maxHeartbeats 2000000 in
theorem uRis_core (p : Option Addr) (n c : Nat) (g : Nat → Cu) (w : World) (hn : n ≤ 9223372036854775807)
    (hp : 0 < n → ∃ b off, p = some ⟨b, off, none⟩ ∧ b < w.heap.size ∧ ∀ j, j < n → CuAt w b (off + j * 2) (g j)) (r : Bool) (hr : r = true ↔ ∀ j, j + 1 < n → cmpC (g j) (g (j + 1)) < 0) :
    Calls Try.prog 31 #[.slice p n c] w fun e w' => e = .returned (.bool r) ∧ Below w.heap.size w w' := by
  replace hr := toHid hr
  go_enter Try.func31, Try.ntmps31
  go_wp2
  go_loopw [3] (fun s3 wr => ∃ i : Nat, s3 = .int .i64 ((i : Int) + 1) ∧ (i = 0 ∨ i + 1 ≤ n) ∧ Hid (∀ j, j < i → cmpC (g j) (g (j + 1)) < 0) ∧ Below w.heap.size w wr) (fun s3 _ => n - (intOf s3).toNat)
  case atStart => exact ⟨0, rfl, .inl rfl, toHid (fun j hj => absurd hj (Nat.not_lt_zero _)), Below.refl _ _⟩
  case round =>
    obtain ⟨i, rfl, hi, hj, hbel⟩ := hrel
    by_cases hlt : i + 1 < n
    · obtain ⟨b, off, rfl, hb, h1⟩ := hp (by omega)
      obtain ⟨c1, c2⟩ := (h1 i (by omega)).below hbel hb
      obtain ⟨d1, d2⟩ := (h1 (i + 1) hlt).below hbel hb
      have hlt' : (i : Int) + 1 < (n : Int) := by omega
      have hi1 : (i : Int) < (n : Int) := by omega
      have hi0 : 0 ≤ (i : Int) := by omega
      have hi2 : 0 ≤ (i : Int) + 1 := by omega
      have hi3 : (i : Int) + 1 - 1 = (i : Int) := by omega
      have hi4 : ((i : Int) + 1).toNat = i + 1 := by omega
      have hwi : IntKind.i64.wrap (i : Int) = (i : Int) := by rw [IntKind.wrap_i64]; omega
      have hbw : b < wr.heap.size := Nat.lt_of_lt_of_le hb hbel.size
      have hS : Hid (cmpC (g i) (g (i + 1)) < 0 → ∀ j, j < i + 1 → cmpC (g j) (g (j + 1)) < 0) := toHid (fun h j hjk => by
        by_cases e : j = i
        · rw [e]; exact h
        · exact hj.out j (by omega))
      have hF : Hid (¬ cmpC (g i) (g (i + 1)) < 0 → r = false) := toHid (fun h => by
        cases r with
        | false => rfl
        | true => exact absurd (hr.out.1 rfl i hlt) h)
      clear hp h1 hj hr
      generalize g i = z at *
      generalize g (i + 1) = y at *
      obtain ⟨za, zb⟩ := z
      obtain ⟨ya, yb⟩ := y
      dsimp only at c1 c2 d1 d2
      have HC := uCompare_any za zb ya yb
      generalize cmpC ⟨za, zb⟩ ⟨ya, yb⟩ = q at *
      replace HC := toHid HC
      by_cases hq : q < 0
      · have hq1 : ¬ 0 ≤ q := by omega
        have hq2 : decide (0 ≤ q) = false := decide_eq_false hq1
        have hN := toHid (hS.out hq)
        clear hS hF
        go_wp2
        refine wp_region_below (by kernel_rfl) (by kernel_rfl) ?_
        repeat (first
          | go_big_quiet_skip
          | (go_big_quiet_want; go_big_quiet_op; go_big_quiet_on)
          | (refine wpQuiet_step (fun K hK => ?_)
             go_simp
             first
               | (refine hK _ ?_; clear hK K)
               | (refine ⟨_, fun w' hw' => rfl, hK _ ?_⟩; clear hK K)
               | (apply Exists.intro
                  refine ⟨fun w' hw' => ?_, hK _ ?_⟩
                  · (obtain ⟨hc', hf'⟩ := bcell hw'
                     first
                       | (go_simp; rfl)
                       | (go_at_call 34; refine (HC.out _).mono ?_; rintro e w3 ⟨rfl, hw3⟩; exact ⟨rfl, hw'.on hw3⟩))
                  clear hK K)))
        refine wpQuiet_nil ?_
        intro w5 h5
        go_wp2
        go_roundw
        case rel => exact ⟨i + 1, by go_num, .inr (by omega), hN, hbel.on h5⟩
        case measure => simp [intOf]; omega
      · have hq1 : 0 ≤ q := by omega
        have hq2 : decide (0 ≤ q) = true := decide_eq_true hq1
        obtain rfl := hF.out hq
        clear hS hF
        go_wp2
        refine wp_region_below (by kernel_rfl) (by kernel_rfl) ?_
        repeat (first
          | go_big_quiet_skip
          | (go_big_quiet_want; go_big_quiet_op; go_big_quiet_on)
          | (refine wpQuiet_step (fun K hK => ?_)
             go_simp
             first
               | (refine hK _ ?_; clear hK K)
               | (refine ⟨_, fun w' hw' => rfl, hK _ ?_⟩; clear hK K)
               | (apply Exists.intro
                  refine ⟨fun w' hw' => ?_, hK _ ?_⟩
                  · (obtain ⟨hc', hf'⟩ := bcell hw'
                     first
                       | (go_simp; rfl)
                       | (go_at_call 34; refine (HC.out _).mono ?_; rintro e w3 ⟨rfl, hw3⟩; exact ⟨rfl, hw'.on hw3⟩))
                  clear hK K)))
        refine wpQuiet_nil ?_
        intro w5 h5
        go_wp2
        go_ret
        exact ⟨rfl, hbel.on h5⟩
    · have hrt : r = true := hr.out.2 fun j hjn => hj.out j (by omega)
      subst hrt
      have hlt' : ¬ (i : Int) + 1 < (n : Int) := by omega
      clear hj hr hp
      go_wp2
      go_ret
      exact ⟨rfl, hbel⟩

theorem upC_next (cs : List Cu) : UpC cs ↔ ∀ j, j + 1 < cs.length → cuK (cs.getD j ⟨0, 0⟩) < cuK (cs.getD (j + 1) ⟨0, 0⟩) := by
  constructor
  · intro h j hj
    rw [getD_in _ _ (by omega), getD_in _ _ hj]
    exact List.pairwise_iff_getElem.1 h j (j + 1) (by omega) hj (by omega)
  · intro h
    refine List.pairwise_iff_getElem.2 fun i j hi hj hij => ?_
    have key : ∀ d, i + 1 + d < cs.length → cuK (cs.getD i ⟨0, 0⟩) < cuK (cs.getD (i + 1 + d) ⟨0, 0⟩) := by
      intro d
      induction d with
      | zero => intro hd; exact h i hd
      | succ d ih =>
        intro hd
        have h1 := ih (by omega)
        have h2 : cuK (cs.getD (i + 1 + d) ⟨0, 0⟩) < cuK (cs.getD (i + 1 + (d + 1)) ⟨0, 0⟩) := h (i + 1 + d) (by omega)
        omega
    have := key (j - i - 1) (by omega)
    rw [show i + 1 + (j - i - 1) = j by omega, getD_in _ _ hi, getD_in _ _ hj] at this
    exact this
theorem uRis_any {lo hi : Nat} {w : World} {v : Value} {cs : List Cu} (hx : RowU lo hi w v cs) (hh : hi ≤ w.heap.size) (hc : ∀ c ∈ cs, cuB c = true) :
    Calls Try.prog 31 #[v] w fun e w' => e = .returned (.bool (decide (UpC cs))) ∧ Below w.heap.size w w' := by
  obtain ⟨p, c, rfl, hn, hp⟩ := hx.cus hh
  refine uRis_core p cs.length c (fun j => cs.getD j ⟨0, 0⟩) w hn (fun h0 => by obtain ⟨b, off, e, _, h3, h4⟩ := hp h0; exact ⟨b, off, e, h3, h4⟩) _ ?_
  rw [decide_eq_true_iff, upC_next]
  have hin : ∀ j, j < cs.length → cuB (cs.getD j ⟨0, 0⟩) = true := fun j hj => by rw [getD_in _ _ hj]; exact hc _ (List.getElem_mem hj)
  constructor
  · intro h j hj
    exact (cmpC_lt (hin j (by omega)) (hin (j + 1) hj)).2 (h j hj)
  · intro h j hj
    exact (cmpC_lt (hin j (by omega)) (hin (j + 1) hj)).1 (h j hj)

theorem uMay_any {lo hi : Nat} {w : World} {v : Value} {cs : List Cu} (hx : RowU lo hi w v cs) (hh : hi ≤ w.heap.size) :
    Calls Try.prog 16 #[v] w fun e w' => e = .returned (.bool (csB cs)) ∧ Below w.heap.size w w' := by
  by_cases hl : cs.length ≤ 32
  · have hl1 : (cs.length : Int) ≤ 32 := by omega
    have HC := uContains_any hx hh
    cases ha : cs.all cuB with
    | true =>
      have hall : ∀ c ∈ cs, cuB c = true := List.all_eq_true.1 ha
      have HR : Hid (∀ w', Below w.heap.size w w' → _) := fun w' hb => uRis_any (hx.below hb hh) (Nat.le_trans hh hb.size) hall
      have e : csB cs = decide (UpC cs) := by
        unfold csB
        rw [Bool.eq_iff_iff, decide_eq_true_iff, decide_eq_true_iff]
        exact ⟨fun h => h.2.2, fun h => ⟨hl, hall, h⟩⟩
      rw [e]
      rw [ha] at HC
      obtain ⟨r, hr⟩ : ∃ r, decide (UpC cs) = r := ⟨_, rfl⟩
      rw [hr] at HR ⊢
      obtain ⟨p, c, rfl, hn, -⟩ := hx.cus hh
      clear e hr hall ha hx
      go_enter Try.func16, Try.ntmps16
      go_wp2_with (first
        | (go_at_call 29; refine HC.mono ?_; rintro e w1 ⟨rfl, hb1⟩)
        | (go_at_call 31; refine (HR.out _ hb1).mono ?_; rintro e w2 ⟨rfl, hb2⟩))
      go_ret
      exact ⟨rfl, hb1.on hb2⟩
    | false =>
      have e : csB cs = false := by
        rw [Bool.eq_false_iff]
        intro h
        rw [List.all_eq_true.2 (csB_iff.1 h).2.1] at ha
        cases ha
      rw [e]
      rw [ha] at HC
      obtain ⟨p, c, rfl, hn, -⟩ := hx.cus hh
      clear e ha hx
      go_enter Try.func16, Try.ntmps16
      go_wp2_with (first
        | (go_at_call 29; refine HC.mono ?_; rintro e w1 ⟨rfl, hb1⟩))
      go_ret
      exact ⟨rfl, hb1⟩
  · have e : csB cs = false := by
      rw [Bool.eq_false_iff]
      intro h
      exact hl (csB_iff.1 h).1
    have hl1 : ¬ (cs.length : Int) ≤ 32 := by omega
    have hl2 : decide ((cs.length : Int) ≤ 32) = false := decide_eq_false hl1
    rw [e]
    obtain ⟨p, c, rfl, hn, -⟩ := hx.cus hh
    clear e hx
    go_enter Try.func16, Try.ntmps16
    go_wp2
    go_ret
    exact ⟨rfl, Below.refl _ _⟩
theorem uMay_is {lo hi : Nat} {w : World} {v : Value} {cs : List Cu} {r : Bool} (hx : RowU lo hi w v cs) (hh : hi ≤ w.heap.size) (h : csB cs = r) :
    Calls Try.prog 16 #[v] w fun e w' => e = .returned (.bool r) ∧ Below w.heap.size w w' := h ▸ uMay_any hx hh

set_option maxHeartbeats 2000000 in
theorem uSearch_core (p : Option Addr) (n c : Nat) (g : Nat → Cu) (d : Cu) (w : World) (hn : n < 4611686018427387904) (hd0 : cuB d = true)
    (hp : 0 < n → ∃ b off, p = some ⟨b, off, none⟩ ∧ b < w.heap.size ∧ ∀ j, j < n → CuAt w b (off + j * 2) (g j)) (hpl : ∀ j, j < n → cuB (g j) = true)
    (hs : ∀ i j, i ≤ j → j < n → cuK (g i) ≤ cuK (g j)) :
    Calls Try.prog 33 #[.slice p n c, .agg #[.int .i64 d.a, .int .i64 d.b], .func (.func 34) #[] #[]] w fun e w' =>
      ∃ m : Nat, m ≤ n ∧ e = .returned (.tuple #[.int .i64 m, .bool (decide (m < n) && decide (g m = d))]) ∧ (∀ t, t < m → cuK (g t) < cuK d) ∧ (∀ t, m ≤ t → t < n → cuK d ≤ cuK (g t)) ∧ Below w.heap.size w w' := by
  replace hs : Hid _ := hs
  replace hpl := toHid hpl
  have hdc : Hid (∀ z, cuB z = true → (cmpC z d < 0 ↔ cuK z < cuK d)) := fun z hz => cmpC_lt hz hd0
  have hde : Hid (∀ z, (cmpC z d = 0 ↔ z = d)) := fun z => cmpC_eq
  obtain ⟨dd, hdd⟩ : ∃ dd, d = dd := ⟨_, rfl⟩
  rw [hdd] at hdc hde ⊢
  replace hdd := toHid hdd
  clear hd0
  obtain ⟨da, db⟩ := dd
  dsimp only
  go_enter Try.func33, Try.ntmps33
  go_wp2
  go_loopw [9, 10] (fun s9 s10 wr => ∃ lo hi : Nat, s9 = .int .i64 lo ∧ s10 = .int .i64 hi ∧ lo ≤ hi ∧ hi ≤ n ∧ Hid ((∀ t, t < lo → cuK (g t) < cuK ⟨da, db⟩) ∧ (∀ t, hi ≤ t → t < n → cuK ⟨da, db⟩ ≤ cuK (g t))) ∧ Box wr w.heap.size #[.int .i64 da, .int .i64 db] ∧ Below w.heap.size w wr) (fun s9 s10 _ => (intOf s10).toNat - (intOf s9).toNat)
  case atStart => exact ⟨0, n, rfl, rfl, Nat.zero_le _, Nat.le_refl _, ⟨fun t ht => absurd ht (Nat.not_lt_zero _), fun t h1 h2 => by omega⟩, Box.new _ _ _, (Below.refl _ _).onA _⟩
  case round =>
    obtain ⟨lo, hi, rfl, rfl, hlh, hin, I, hbx, hbel⟩ := hrel
    have e1 := hbx.2.1 0
    have e2 := hbx.2.1 1
    have hbz := hbx.1
    replace hbx := toHid hbx
    simp only [List.getElem?_toArray, List.getElem?_cons_zero, List.getElem?_cons_succ] at e1 e2
    by_cases hlt : lo < hi
    · obtain ⟨b, off, rfl, hb, h1⟩ := hp (by omega)
      obtain ⟨m, hm⟩ : ∃ m, m = (lo + hi) / 2 := ⟨_, rfl⟩
      have hmn : m < n := by omega
      obtain ⟨c1, c2⟩ := (h1 m hmn).below hbel hb
      have hbw : b < wr.heap.size := Nat.lt_of_lt_of_le hb hbel.size
      have hz := hpl.out m hmn
      replace hm := toHid hm
      have hme : ((lo : Int) + (hi : Int)) / 2 = (m : Int) := by have := hm.out; omega
      have hY : Hid (∀ i, i ≤ m → cuK (g i) ≤ cuK (g m)) := fun i hi => hs.out i m hi hmn
      have hZ : Hid (∀ j, m ≤ j → j < n → cuK (g m) ≤ cuK (g j)) := fun j h1 h2 => hs.out m j h1 h2
      have hcm := hdc.out _ hz
      clear h1 hp hde hz
      generalize g m = z at c1 c2 hY hZ hcm
      obtain ⟨za, zb⟩ := z
      dsimp only at c1 c2
      by_cases hk : cuK ⟨za, zb⟩ < cuK ⟨da, db⟩
      · have hcm1 : cmpC ⟨za, zb⟩ ⟨da, db⟩ < 0 := hcm.2 hk
        have hI : Hid ((∀ t, t < m + 1 → cuK (g t) < cuK ⟨da, db⟩) ∧ (∀ t, hi ≤ t → t < n → cuK ⟨da, db⟩ ≤ cuK (g t))) := ⟨fun t ht => by have := hY.out t (by omega); omega, I.out.2⟩
        clear hk hs hY hZ I hcm
        go_wp2
        refine wp_region_below (by kernel_rfl) (by kernel_rfl) ?_
        repeat (first
          | go_big_quiet_skip
          | (go_big_quiet_want; go_big_quiet_op; go_big_quiet_on)
          | (refine wpQuiet_step (fun K hK => ?_)
             go_simp
             first
               | (refine hK _ ?_; clear hK K)
               | (refine ⟨_, fun w' hw' => rfl, hK _ ?_⟩; clear hK K)
               | (apply Exists.intro
                  refine ⟨fun w' hw' => ?_, hK _ ?_⟩
                  · (obtain ⟨hc', hf'⟩ := bcell hw'
                     first
                       | (go_simp; rfl)
                       | (go_at_call 34; refine (uCompare_any _ _ _ _ _).mono ?_; rintro e w3 ⟨rfl, hw3⟩; exact ⟨rfl, hw'.on hw3⟩))
                  clear hK K)))
        refine wpQuiet_nil ?_
        intro w1 hb1
        go_wp2
        go_roundw
        case rel => exact ⟨m + 1, hi, by go_num, rfl, by have := hm.out; omega, hin, hI, hbx.out.below hb1, hbel.on hb1⟩
        case measure => have := hm.out; simp [intOf]; omega
      · have hcm1 : ¬ cmpC ⟨za, zb⟩ ⟨da, db⟩ < 0 := fun h => hk (hcm.1 h)
        have hI : Hid ((∀ t, t < lo → cuK (g t) < cuK ⟨da, db⟩) ∧ (∀ t, m ≤ t → t < n → cuK ⟨da, db⟩ ≤ cuK (g t))) := ⟨I.out.1, fun t h1 h2 => by have := hZ.out t h1 h2; omega⟩
        clear hk hs hY hZ I hcm
        go_wp2
        refine wp_region_below (by kernel_rfl) (by kernel_rfl) ?_
        repeat (first
          | go_big_quiet_skip
          | (go_big_quiet_want; go_big_quiet_op; go_big_quiet_on)
          | (refine wpQuiet_step (fun K hK => ?_)
             go_simp
             first
               | (refine hK _ ?_; clear hK K)
               | (refine ⟨_, fun w' hw' => rfl, hK _ ?_⟩; clear hK K)
               | (apply Exists.intro
                  refine ⟨fun w' hw' => ?_, hK _ ?_⟩
                  · (obtain ⟨hc', hf'⟩ := bcell hw'
                     first
                       | (go_simp; rfl)
                       | (go_at_call 34; refine (uCompare_any _ _ _ _ _).mono ?_; rintro e w3 ⟨rfl, hw3⟩; exact ⟨rfl, hw'.on hw3⟩))
                  clear hK K)))
        refine wpQuiet_nil ?_
        intro w1 hb1
        go_wp2
        go_roundw
        case rel => exact ⟨lo, m, rfl, by go_num, by have := hm.out; omega, by omega, hI, hbx.out.below hb1, hbel.on hb1⟩
        case measure => have := hm.out; simp [intOf]; omega
    · obtain rfl : hi = lo := by omega
      by_cases hn1 : hi < n
      · obtain ⟨b, off, rfl, hb, h1⟩ := hp (by omega)
        obtain ⟨c1, c2⟩ := (h1 hi hn1).below hbel hb
        have hbw : b < wr.heap.size := Nat.lt_of_lt_of_le hb hbel.size
        clear h1 hp hs hdc
        generalize hq : g hi = z at c1 c2
        have hcm := hde.out z
        obtain ⟨za, zb⟩ := z
        dsimp only at c1 c2
        have hR : Hid ((decide (hi < n) && decide (g hi = ⟨da, db⟩)) = decide ((⟨za, zb⟩ : Cu) = ⟨da, db⟩)) := by rw [hq]; simp [Hid, hn1]
        clear hq hde
        by_cases hk : (⟨za, zb⟩ : Cu) = ⟨da, db⟩
        · have hc0 : cmpC ⟨za, zb⟩ ⟨da, db⟩ = 0 := hcm.2 hk
          have hc1 : (cmpC ⟨za, zb⟩ ⟨da, db⟩ == 0) = true := by simp [hc0]
          rw [decide_eq_true hk] at hR
          clear hcm hk
          go_wp2
          refine wp_region_below (by kernel_rfl) (by kernel_rfl) ?_
          repeat (first
            | go_big_quiet_skip
            | (go_big_quiet_want; go_big_quiet_op; go_big_quiet_on)
            | (refine wpQuiet_step (fun K hK => ?_)
               go_simp
               first
                 | (refine hK _ ?_; clear hK K)
                 | (refine ⟨_, fun w' hw' => rfl, hK _ ?_⟩; clear hK K)
                 | (apply Exists.intro
                    refine ⟨fun w' hw' => ?_, hK _ ?_⟩
                    · (obtain ⟨hc', hf'⟩ := bcell hw'
                       first
                         | (go_simp; rfl)
                         | (go_at_call 34; refine (uCompare_any _ _ _ _ _).mono ?_; rintro e w3 ⟨rfl, hw3⟩; exact ⟨rfl, hw'.on hw3⟩))
                    clear hK K)))
          refine wpQuiet_nil ?_
          intro w1 hb1
          go_wp2
          go_ret2
          exact ⟨hi, hin, by rw [hR.out]; rfl, I.out.1, I.out.2, hbel.on hb1⟩
        · have hc0 : ¬ cmpC ⟨za, zb⟩ ⟨da, db⟩ = 0 := fun e => hk (hcm.1 e)
          have hc1 : (cmpC ⟨za, zb⟩ ⟨da, db⟩ == 0) = false := by simpa using hc0
          rw [decide_eq_false hk] at hR
          clear hcm hk
          go_wp2
          refine wp_region_below (by kernel_rfl) (by kernel_rfl) ?_
          repeat (first
            | go_big_quiet_skip
            | (go_big_quiet_want; go_big_quiet_op; go_big_quiet_on)
            | (refine wpQuiet_step (fun K hK => ?_)
               go_simp
               first
                 | (refine hK _ ?_; clear hK K)
                 | (refine ⟨_, fun w' hw' => rfl, hK _ ?_⟩; clear hK K)
                 | (apply Exists.intro
                    refine ⟨fun w' hw' => ?_, hK _ ?_⟩
                    · (obtain ⟨hc', hf'⟩ := bcell hw'
                       first
                         | (go_simp; rfl)
                         | (go_at_call 34; refine (uCompare_any _ _ _ _ _).mono ?_; rintro e w3 ⟨rfl, hw3⟩; exact ⟨rfl, hw'.on hw3⟩))
                    clear hK K)))
          refine wpQuiet_nil ?_
          intro w1 hb1
          go_wp2
          go_ret2
          exact ⟨hi, hin, by rw [hR.out]; rfl, I.out.1, I.out.2, hbel.on hb1⟩
      · have hR : Hid ((decide (hi < n) && decide (g hi = ⟨da, db⟩)) = false) := by simp [Hid, hn1]
        have hd : ¬ (hi : Int) < (n : Int) := by omega
        clear hp hs hde hdc
        go_wp2
        refine wp_region_below (by kernel_rfl) (by kernel_rfl) ?_
        repeat (first
          | go_big_quiet_skip
          | (go_big_quiet_want; go_big_quiet_op; go_big_quiet_on)
          | (refine wpQuiet_step (fun K hK => ?_)
             go_simp
             first
               | (refine hK _ ?_; clear hK K)
               | (refine ⟨_, fun w' hw' => rfl, hK _ ?_⟩; clear hK K)
               | (apply Exists.intro
                  refine ⟨fun w' hw' => ?_, hK _ ?_⟩
                  · (obtain ⟨hc', hf'⟩ := bcell hw'
                     first
                       | (go_simp; rfl))
                  clear hK K)))
        refine wpQuiet_nil ?_
        intro w1 hb1
        go_wp2
        go_ret2
        exact ⟨hi, hin, by rw [hR.out]; rfl, I.out.1, I.out.2, hbel.on hb1⟩

/-- Where a cut stands, or is to stand. -/
structure PosC (cs : List Cu) (d : Cu) (m : Nat) : Prop where
  le : m ≤ cs.length
  lt : ∀ t, t < m → cuK (cs.getD t ⟨0, 0⟩) < cuK d
  ge : ∀ t, m ≤ t → t < cs.length → cuK d ≤ cuK (cs.getD t ⟨0, 0⟩)
theorem PosC.there {cs : List Cu} {d : Cu} {m : Nat} (h : PosC cs d m) (hu : UpC cs) : (decide (m < cs.length) && decide (cs.getD m ⟨0, 0⟩ = d)) = decide (d ∈ cs) := by
  rw [Bool.eq_iff_iff, Bool.and_eq_true_iff, decide_eq_true_iff, decide_eq_true_iff, decide_eq_true_iff]
  constructor
  · rintro ⟨hm, he⟩
    rw [getD_in _ _ hm] at he
    rw [← he]
    exact List.getElem_mem hm
  · intro hx
    obtain ⟨j, hj, rfl⟩ := List.mem_iff_getElem.1 hx
    have h1 : m ≤ j := by
      rcases Nat.lt_or_ge j m with h0 | h0
      · have := h.lt j h0
        rw [getD_in _ _ hj] at this
        omega
      · exact h0
    have hm : m < cs.length := by omega
    refine ⟨hm, ?_⟩
    have := h.ge m (Nat.le_refl _) hm
    rw [getD_in _ _ hm] at this ⊢
    rcases Nat.lt_or_ge m j with h2 | h2
    · have := List.pairwise_iff_getElem.1 hu m j hm hj h2
      omega
    · obtain rfl : m = j := by omega
      rfl
theorem PosC.new {cs : List Cu} {d : Cu} {m : Nat} (h : PosC cs d m) (hp : ∀ c ∈ cs, cuB c = true) (hd : cuB d = true) (hn : ¬ d ∈ cs) : wcI cs d = cs.take m ++ (d :: cs.drop m) := by
  unfold wcI
  rw [filter_cut (m := m) (p := loC d), filter_tail (m := m) (p := hiC d)]
  · intro x hx
    obtain ⟨j, hj, hjm, rfl⟩ := mem_take_at hx
    have := h.lt j hjm
    rw [getD_in _ _ hj] at this
    simp only [hiC, decide_eq_false_iff_not]; omega
  · intro x hx
    obtain ⟨j, hj, hjm, rfl⟩ := mem_drop_at hx
    have := h.ge j hjm hj
    rw [getD_in _ _ hj] at this
    have h2 : cuK d ≠ cuK cs[j] := fun e => hn (cu_key hd (hp _ (List.getElem_mem hj)) e ▸ List.getElem_mem hj)
    simp only [hiC, decide_eq_true_iff]; omega
  · intro x hx
    obtain ⟨j, hj, hjm, rfl⟩ := mem_take_at hx
    have := h.lt j hjm
    rw [getD_in _ _ hj] at this
    simpa [loC] using this
  · intro x hx
    obtain ⟨j, hj, hjm, rfl⟩ := mem_drop_at hx
    have := h.ge j hjm hj
    rw [getD_in _ _ hj] at this
    simp only [loC, decide_eq_false_iff_not]; omega
theorem upC_le {cs : List Cu} (h : UpC cs) (i j : Nat) (hij : i ≤ j) (hj : j < cs.length) : cuK (cs.getD i ⟨0, 0⟩) ≤ cuK (cs.getD j ⟨0, 0⟩) := by
  have hi : i < cs.length := by omega
  rw [getD_in _ _ hi, getD_in _ _ hj]
  rcases Nat.lt_or_ge i j with h1 | h1
  · exact Int.le_of_lt (List.pairwise_iff_getElem.1 h i j hi hj h1)
  · obtain rfl : i = j := by omega
    exact Int.le_refl _

def posC (cs : List Cu) (d : Cu) : Nat := (cs.filter (loC d)).length
theorem PosC.eq {cs : List Cu} {d : Cu} {m : Nat} (h : PosC cs d m) : m = posC cs d := by
  unfold posC
  rw [filter_cut (m := m) (p := loC d)]
  · rw [List.length_take]; have := h.le; omega
  · intro x hx
    obtain ⟨j, hj, hjm, rfl⟩ := mem_take_at hx
    have := h.lt j hjm
    rw [getD_in _ _ hj] at this
    simpa [loC] using this
  · intro x hx
    obtain ⟨j, hj, hjm, rfl⟩ := mem_drop_at hx
    have := h.ge j hjm hj
    rw [getD_in _ _ hj] at this
    simp only [loC, decide_eq_false_iff_not]; omega

/-- Where a cut stands, or is to stand. -/
theorem uFind_any {lo hi : Nat} {w : World} {v : Value} {cs : List Cu} (hx : RowU lo hi w v cs) (hh : hi ≤ w.heap.size) (hs : csB cs = true) (d : Cu) (hd : cuB d = true) :
    Calls Try.prog 24 #[v, .agg #[.int .i64 d.a, .int .i64 d.b]] w fun e w' =>
      e = .returned (.tuple #[.int .i64 (posC cs d), .bool (decide (d ∈ cs))]) ∧ PosC cs d (posC cs d) ∧ Below w.heap.size w w' := by
  obtain ⟨hl, hv, hu⟩ := csB_iff.1 hs
  have HT := fun (m : Nat) (h : PosC cs d m) => h.there hu
  replace HT := toHid HT
  have hB : Hid (∀ o : Obj, Calls Try.prog 33 #[v, .agg #[.int .i64 d.a, .int .i64 d.b], .func (.func 34) #[] #[]] (w.alloc o) fun e w' =>
      e = .returned (.tuple #[.int .i64 (posC cs d), .bool (decide (d ∈ cs))]) ∧ PosC cs d (posC cs d) ∧ Below w.heap.size w w') := toHid (fun o => by
    have hx2 := hx.alloc o CuV_len
    obtain ⟨p, c, rfl, hn, hp⟩ := hx2.cus (Nat.le_trans hh (by simp))
    have hb := uSearch_core p cs.length c (fun j => cs.getD j ⟨0, 0⟩) d (w.alloc o) (by omega) hd (fun h0 => by obtain ⟨b, off, e, _, h2, h3⟩ := hp h0; exact ⟨b, off, e, h2, h3⟩) (fun j hj => by show cuB (cs.getD j ⟨0, 0⟩) = true; rw [getD_in _ _ hj]; exact hv _ (List.getElem_mem hj)) (upC_le hu)
    exact hb.mono fun e w' ⟨m, h1, he, h2, h3, h4⟩ => by
      have hP : PosC cs d m := ⟨h1, h2, h3⟩
      have hm := hP.eq
      subst hm
      exact ⟨by rw [← HT.out _ hP]; exact he, hP, ((Below.refl _ w).onA o).on h4⟩)
  obtain ⟨p, c, rfl, hn, -⟩ := hx.cus hh
  clear hx hv hu hl hs HT
  generalize posC cs d = m at *
  generalize decide (d ∈ cs) = r at *
  generalize PosC cs d m = PP at *
  obtain ⟨da, db⟩ := d
  go_enter Try.func24, Try.ntmps24
  go_wp2_with (go_at_call 33; refine (hB.out _).mono ?_; rintro e w1 ⟨rfl, h1, h2⟩)
  go_ret2
  exact ⟨rfl, h1, h2⟩
set_option maxHeartbeats 2000000 in
theorem uIndexIs_core (p : Option Addr) (n c : Nat) (g : Nat → Cu) (k : Nat) (w : World) (d : Cu) (B : Nat) (hB : B < w.heap.size) (hd : CuAt w B 0 d) (hn : n ≤ 9223372036854775807) (hk : k ≤ n)
    (hp : 0 < n → ∃ b off, p = some ⟨b, off, none⟩ ∧ b < w.heap.size ∧ ∀ j, j < n → CuAt w b (off + j * 2) (g j))
    (hno : ∀ t, t < k → isC d (g t) = false) (hyes : k < n → isC d (g k) = true) :
    Calls Try.prog 37 #[.slice p n c, .func (.func 36) #[] #[.pointer (some ⟨B, 0, none⟩)]] w fun e w' =>
      e = .returned (.int .i64 (if k < n then (k : Int) else -1)) ∧ Below w.heap.size w w' := by
  replace hno := toHid hno
  go_enter Try.func37, Try.ntmps37
  go_wp2
  go_loopw [8] (fun s8 wr => ∃ i : Nat, i ≤ k ∧ s8 = .int .i64 i ∧ Below w.heap.size w wr) (fun s8 _ => n - (intOf s8).toNat)
  case atStart => exact ⟨0, Nat.zero_le _, rfl, Below.refl _ w⟩
  case round =>
    obtain ⟨i, hi, rfl, hb⟩ := hrel
    by_cases hlt : i < n
    · obtain ⟨b, off, rfl, hbw, h1⟩ := hp (by omega)
      obtain ⟨c1, c2⟩ := (h1 i hlt).below hb hbw
      have hlt' : (i : Int) < (n : Int) := by omega
      have hi0 : 0 ≤ (i : Int) := by omega
      have hd2 := hd.below hb hB
      have hB2 : B < wr.heap.size := Nat.lt_of_lt_of_le hB hb.size
      by_cases hik : i = k
      · subst hik
        have hP := hyes hlt
        clear h1 hp hno hyes
        generalize g i = z at c1 c2 hP
        obtain ⟨za, zb⟩ := z
        dsimp only at c1 c2
        have HM := uIs_any d za zb B wr hd2 hB2
        rw [show decide ((⟨za, zb⟩ : Cu) = d) = _ from hP] at HM
        clear hd2 hB2
        clear hP
        go_wp2_with (go_at_call 36; refine HM.mono ?_; rintro e w5 ⟨rfl, h5⟩)
        go_ret
        exact ⟨rfl, hb.on h5⟩
      · have hP := hno.out i (by omega)
        clear h1 hp hno hyes
        generalize g i = z at c1 c2 hP
        obtain ⟨za, zb⟩ := z
        dsimp only at c1 c2
        have HM := uIs_any d za zb B wr hd2 hB2
        rw [show decide ((⟨za, zb⟩ : Cu) = d) = _ from hP] at HM
        clear hd2 hB2
        clear hP
        go_wp2_with (go_at_call 36; refine HM.mono ?_; rintro e w5 ⟨rfl, h5⟩)
        go_roundw
        case rel => exact ⟨i + 1, by omega, by go_num, hb.on h5⟩
        case measure => simp [intOf]; omega
    · obtain rfl : i = n := by omega
      obtain rfl : i = k := by omega
      clear hno hyes hp
      go_wp2
      go_ret
      exact ⟨rfl, hb⟩

end Go.Proofs.Ytnbnnbcjlfdlpaa
