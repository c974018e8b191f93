
/-
  The document's own answers on writing: an item of a key is written or dropped.
-/
import Derived.Test.YtghamcomjfholaaNodeMay
import Derived.Test.YtghamcomjfholaaNodeCopy
import Derived.Test.YtghamcomjfholaaStoreRef
namespace Go.Proofs.Ytghamcomjfholaa
open Go.ChangeShapes Go.WideShapes Go.ChangeAt Go.RowKit

/-- A value that reads as a node, its lists' cells in blocks from lo on and below hi. -/
structure NdV (lo hi : Nat) (w : World) (v : Value) (x : Nd) : Prop where
  out : ∃ p q r s, v = .agg #[.bool x.up, .int .i64 x.i, p, q, r, s] ∧ NdAt lo hi w p q r s x.ps x.is x.ts x.ls
def zeroN : Nd := ⟨false, 0, [], [], [], []⟩
theorem NdV.zero {lo hi : Nat} {w : World} : NdV lo hi w (.agg #[.bool false, .int .i64 0, .slice none 0 0, .slice none 0 0, .slice none 0 0, .slice none 0 0]) zeroN := ⟨_, _, _, _, rfl, NdAt.nil0⟩

theorem nd_st {n : Nd} (hu : n.up = true) (h : ndB n = true) : stB n.ts = true := by
  rw [ndB, if_pos hu] at h
  simp only [Bool.and_eq_true] at h
  exact h.2.2.1

section
variable {lo hi : Nat} {w : World} {p q r s : Value} {ps : List Pe} {is : List Int} {ts : List It} {ls : List Te}

end

end Go.Proofs.Ytghamcomjfholaa

namespace Go.Proofs.Ytghamcomjfholaa
open Go.ChangeShapes Go.WideShapes Go.ChangeAt Go.RowKit

theorem nIsByte_any (a : Int) (w : World) :
    Calls Try.prog 76 #[.int .i64 a] w fun e w' => e = .returned (.bool (plB a)) ∧ w' = w := by
  by_cases h0 : 0 ≤ a
  · have e : plB a = decide (a ≤ 255) := by simp [plB, h0]; omega
    rw [e]
    clear e
    go_enter Try.func76, Try.ntmps76
    go_wp2
    go_ret
    exact ⟨rfl, rfl⟩
  · have e : plB a = false := by simp [plB, h0]
    have hd : decide (0 ≤ a) = false := by simpa using h0
    rw [e]
    clear e
    go_enter Try.func76, Try.ntmps76
    go_wp2
    go_ret
    exact ⟨rfl, rfl⟩

theorem nNotTold_any (k : Int) (h : Bool) (x : Int) (w : World) :
    Calls Try.prog 58 #[.agg #[.int .i64 k, .bool h, .int .i64 x]] w fun e w' => e = .returned (.bool (!teB ⟨k, h, x⟩)) ∧ Below w.heap.size w w' := by
  by_cases hg : h = false ∧ ¬ x = 0
  · obtain ⟨rfl, hx⟩ := hg
    have e : teB ⟨k, false, x⟩ = false := by simp [teB, hx]
    rw [e]
    clear e
    go_enter Try.func58, Try.ntmps58
    go_wp2_with fail
    go_ret
    exact ⟨rfl, (Below.refl _ w).onA _⟩
  · have e : teB ⟨k, h, x⟩ = (plB k && plB x) := by
      cases h <;> simp_all [teB]
    rw [e]
    clear e
    have HB := nIsByte_any
    cases hk : plB k with
    | false =>
      cases h with
      | true =>
        clear hg
        go_enter Try.func58, Try.ntmps58
        go_wp2_with (go_at_call 76; refine (hk ▸ HB k _).mono ?_; rintro e w' ⟨rfl, hw'⟩; subst w')
        go_ret
        exact ⟨rfl, (Below.refl _ w).onA _⟩
      | false =>
        obtain rfl : x = 0 := by simpa using hg
        clear hg
        go_enter Try.func58, Try.ntmps58
        go_wp2_with (go_at_call 76; refine (hk ▸ HB k _).mono ?_; rintro e w' ⟨rfl, hw'⟩; subst w')
        go_ret
        exact ⟨rfl, (Below.refl _ w).onA _⟩
    | true =>
      have t1 := trivial
      cases h with
      | true =>
        clear hg
        go_enter Try.func58, Try.ntmps58
        go_wp2_with (first
          | (go_at_call 76; clear t1; refine (hk ▸ HB k _).mono ?_; rintro e w' ⟨rfl, hw'⟩; subst w')
          | (go_at_call 76; refine (HB x _).mono ?_; rintro e w' ⟨rfl, hw'⟩; subst w'))
        go_ret
        exact ⟨by simp, (Below.refl _ w).onA _⟩
      | false =>
        obtain rfl : x = 0 := by simpa using hg
        clear hg
        go_enter Try.func58, Try.ntmps58
        go_wp2_with (first
          | (go_at_call 76; clear t1; refine (hk ▸ HB k _).mono ?_; rintro e w' ⟨rfl, hw'⟩; subst w')
          | (go_at_call 76; refine (HB 0 _).mono ?_; rintro e w' ⟨rfl, hw'⟩; subst w'))
        go_ret
        exact ⟨by simp, (Below.refl _ w).onA _⟩

def notT (t : Te) : Bool := !teB t

set_option maxHeartbeats 2000000 in
theorem nIndexNot_core (p : Option Addr) (n c : Nat) (g : Nat → Te) (k : Nat) (w : World) (hn : n ≤ 9223372036854775807) (hk : k ≤ n)
    (hp : 0 < n → ∃ b off, p = some ⟨b, off, none⟩ ∧ b < w.heap.size ∧ ∀ j, j < n → TeAt w b (off + j * 3) (g j))
    (hno : ∀ t, t < k → notT (g t) = false) (hyes : k < n → notT (g k) = true) :
    Calls Try.prog 75 #[.slice p n c, .func (.func 58) #[] #[]] w fun e w' =>
      e = .returned (.int .i64 (if k < n then (k : Int) else -1)) ∧ Below w.heap.size w w' := by
  replace hno := toHid hno
  go_enter Try.func75, Try.ntmps75
  go_wp2
  go_loopw [8] (fun s8 wr => ∃ i : Nat, i ≤ k ∧ s8 = .int .i64 i ∧ Below w.heap.size w wr) (fun s8 _ => n - (intOf s8).toNat)
  case atStart => exact ⟨0, Nat.zero_le _, rfl, Below.refl _ w⟩
  case round =>
    obtain ⟨i, hi, rfl, hb⟩ := hrel
    by_cases hlt : i < n
    · obtain ⟨b, off, rfl, hbw, h1⟩ := hp (by omega)
      obtain ⟨c1, c2, c3⟩ := (h1 i hlt).below hb hbw
      have hlt' : (i : Int) < (n : Int) := by omega
      have hi0 : 0 ≤ (i : Int) := by omega
      by_cases hik : i = k
      · subst hik
        have hP := hyes hlt
        clear h1 hp hno hyes
        generalize g i = z at c1 c2 c3 hP
        obtain ⟨zk, zh, zx⟩ := z
        dsimp only at c1 c2 c3
        have HM := nNotTold_any zk zh zx wr
        rw [show (!teB ⟨zk, zh, zx⟩) = _ from hP] at HM
        clear hP
        go_wp2_with (go_at_call 58; refine HM.mono ?_; rintro e w5 ⟨rfl, h5⟩)
        go_ret
        exact ⟨rfl, hb.on h5⟩
      · have hP := hno.out i (by omega)
        clear h1 hp hno hyes
        generalize g i = z at c1 c2 c3 hP
        obtain ⟨zk, zh, zx⟩ := z
        dsimp only at c1 c2 c3
        have HM := nNotTold_any zk zh zx wr
        rw [show (!teB ⟨zk, zh, zx⟩) = _ from hP] at HM
        clear hP
        go_wp2_with (go_at_call 58; refine HM.mono ?_; rintro e w5 ⟨rfl, h5⟩)
        go_roundw
        case rel => exact ⟨i + 1, by omega, by go_num, hb.on h5⟩
        case measure => simp [intOf]; omega
    · obtain rfl : i = n := by omega
      obtain rfl : i = k := by omega
      clear hno hyes hp
      go_wp2
      go_ret
      exact ⟨rfl, hb⟩

theorem firstT_at {p : Te → Bool} (g : Nat → Te) : ∀ n : Nat, ∃ k, k ≤ n ∧ (∀ t, t < k → p (g t) = false) ∧ (k < n → p (g k) = true)
  | 0 => ⟨0, Nat.le_refl _, fun t h => absurd h (Nat.not_lt_zero _), fun h => absurd h (Nat.lt_irrefl _)⟩
  | n + 1 => by
    obtain ⟨k, hk, h1, h2⟩ := firstT_at (p := p) g n
    by_cases e : k < n
    · exact ⟨k, by omega, h1, fun _ => h2 e⟩
    · obtain rfl : k = n := by omega
      cases h : p (g k) with
      | true => exact ⟨k, by omega, h1, fun _ => h⟩
      | false => exact ⟨k + 1, Nat.le_refl _, fun t ht => by
          by_cases e2 : t = k
          · rw [e2]; exact h
          · exact h1 t (by omega), fun h => absurd h (Nat.lt_irrefl _)⟩

theorem nContains_any {lo hi : Nat} {w : World} {v : Value} {cs : List Te} (hx : RowE lo hi w v cs) (hh : hi ≤ w.heap.size) :
    Calls Try.prog 57 #[v, .func (.func 58) #[] #[]] w fun e w' => e = .returned (.bool (!cs.all teB)) ∧ Below w.heap.size w w' := by
  obtain ⟨p, c, rfl, hn, hp⟩ := hx.tes hh
  obtain ⟨k, hk, h1, h2⟩ := firstT_at (p := notT) (fun j => cs.getD j ⟨0, false, 0⟩) cs.length
  have H := nIndexNot_core p cs.length c (fun j => cs.getD j ⟨0, false, 0⟩) k w hn hk (fun h0 => by obtain ⟨b, off, e, _, h3, h4⟩ := hp h0; exact ⟨b, off, e, h3, h4⟩) h1 h2
  by_cases hkn : k < cs.length
  · have e : cs.all teB = false := by
      rw [List.all_eq_false]
      have h3 := h2 hkn
      rw [getD_in _ _ hkn] at h3
      exact ⟨_, List.getElem_mem hkn, by simpa [notT] using h3⟩
    rw [e]
    rw [if_pos hkn] at H
    have hr0 : 0 ≤ (k : Int) := by omega
    have hr1 : decide (0 ≤ (k : Int)) = true := decide_eq_true hr0
    replace H := toHid H
    clear h1 h2 e hp hx
    go_enter Try.func57, Try.ntmps57
    go_wp2_with (go_at_call 75; refine H.out.mono ?_; rintro e w5 ⟨rfl, h5⟩)
    go_ret
    exact ⟨by simp, h5⟩
  · obtain rfl : k = cs.length := by omega
    have e : cs.all teB = true := by
      rw [List.all_eq_true]
      intro x hx
      obtain ⟨j, hj, rfl⟩ := List.mem_iff_getElem.1 hx
      have h3 := h1 j hj
      rw [getD_in _ _ hj] at h3
      simpa [notT] using h3
    rw [e]
    rw [if_neg hkn] at H
    replace H := toHid H
    clear h1 h2 e hp hx
    go_enter Try.func57, Try.ntmps57
    go_wp2_with (go_at_call 75; refine H.out.mono ?_; rintro e w5 ⟨rfl, h5⟩)
    go_ret
    exact ⟨rfl, h5⟩

def lgB (ls : List Te) : Bool := decide (ls.length ≤ 64) && ls.all teB
theorem nLog_any {lo hi : Nat} {w : World} {v : Value} {ls : List Te} (hx : RowE lo hi w v ls) (hh : hi ≤ w.heap.size) :
    Calls Try.prog 34 #[v] w fun e w' => e = .returned (.bool (lgB ls)) ∧ Below w.heap.size w w' := by
  have HC := nContains_any hx hh
  obtain ⟨p, c, rfl, hn, -⟩ := hx.tes hh
  unfold lgB
  generalize ls.all teB = r at *
  by_cases hl : ls.length ≤ 64
  · have hl1 : (ls.length : Int) ≤ 64 := by omega
    rw [decide_eq_true hl]
    clear hx
    go_enter Try.func34, Try.ntmps34
    go_wp2_with (go_at_call 57; refine HC.mono ?_; rintro e w1 ⟨rfl, hb1⟩)
    go_ret
    exact ⟨by simp, hb1⟩
  · have hl1 : ¬ (ls.length : Int) ≤ 64 := by omega
    have hl2 : decide ((ls.length : Int) ≤ 64) = false := decide_eq_false hl1
    rw [decide_eq_false hl]
    clear hx HC
    go_enter Try.func34, Try.ntmps34
    go_wp2
    go_ret
    exact ⟨rfl, Below.refl _ _⟩

/-- Is nothing known: four lists' lengths. -/
def barB (a b c d : Nat) : Bool := decide (a = 0) && (decide (b = 0) && (decide (c = 0) && decide (d = 0)))
set_option maxHeartbeats 1000000 in
theorem nKnows_any (up : Bool) (i : Int) (p q r s : Option Addr) (a b c d a' b' c' d' : Nat) (w : World) :
    Calls Try.prog 32 #[.agg #[.bool up, .int .i64 i, .slice p a a', .slice q b b', .slice r c c', .slice s d d']] w fun e w' => e = .returned (.bool (barB a b c d)) ∧ Below w.heap.size w w' := by
  unfold barB
  by_cases h1 : a = 0
  · subst h1
    by_cases h2 : b = 0
    · subst h2
      by_cases h3 : c = 0
      · subst h3
        by_cases h4 : d = 0
        · subst h4
          go_enter Try.func32, Try.ntmps32
          go_wp2
          go_ret
          exact ⟨rfl, (Below.refl _ w).onA _⟩
        · have e : ((d : Int) == 0) = false := by simp; omega
          rw [decide_eq_false h4]
          go_enter Try.func32, Try.ntmps32
          go_wp2
          go_ret
          exact ⟨rfl, (Below.refl _ w).onA _⟩
      · have e : ((c : Int) == 0) = false := by simp; omega
        rw [decide_eq_false h3]
        go_enter Try.func32, Try.ntmps32
        go_wp2
        go_ret
        exact ⟨rfl, (Below.refl _ w).onA _⟩
    · have e : ((b : Int) == 0) = false := by simp; omega
      rw [decide_eq_false h2]
      go_enter Try.func32, Try.ntmps32
      go_wp2
      go_ret
      exact ⟨rfl, (Below.refl _ w).onA _⟩
  · have e : ((a : Int) == 0) = false := by simp; omega
    rw [decide_eq_false h1]
    go_enter Try.func32, Try.ntmps32
    go_wp2
    go_ret
    exact ⟨rfl, (Below.refl _ w).onA _⟩

end Go.Proofs.Ytghamcomjfholaa
