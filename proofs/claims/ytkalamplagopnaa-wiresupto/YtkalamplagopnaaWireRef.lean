
/-
  Contracts of the document's own answers on messages as bytes: what they return, and that no old memory has turned.
-/
import Derived.Test.YtkalamplagopnaaWireMath
import Derived.Test.YtkalamplagopnaaMsgRef
import Derived.Test.YtkalamplagopnaaIntRow
import Derived.Laws.BytesArg
import Derived.Test.YtkalamplagopnaaCalm
import Derived.Test.YtkalamplagopnaaOld
import Derived.Test.YtkalamplagopnaaNum
import Derived.BigRegion
import Derived.Deep.DeepCutAuto
namespace Go.Proofs.Ytkalamplagopnaa
open Go.ChangeShapes Go.WideShapes Go.ChangeAt Go.RowKit

theorem rFlag_any (g : Bool) (w : World) :
    Calls Try.prog 22 #[.bool g] w fun e w' => e = .returned (.int .i64 (fl g)) ∧ w' = w := by
  cases g
  all_goals
    go_enter Try.func22, Try.ntmps22
    go_wp2
    go_ret
    exact ⟨rfl, rfl⟩

theorem sb_nums (xs : List Int) : strOfNums (xs.map by8) = sb xs := by
  simp [strOfNums, sb, by8, Function.comp_def]
/-- A row of bytes as a string. -/
theorem conv_bytes (w : World) (b off len cap : Nat) (xs : List Int) (hlen : xs.length = len) (hcell : ∀ i, i < len → w.cell? ⟨b, off + i, none⟩ = some (.int .u8 (by8 (xs.getD i 0)))) :
    (convert 46 9 (.slice (some ⟨b, off, none⟩) len cap)).run Try.prog w = .ok (.string (sb xs)) w := by
  have h := run_convert_bytes_arg (P := Try.prog) w 46 5 Try.underlying46 Try.underlying5 b off len cap (xs.map by8) (by simpa using hlen) (fun i hi => by
    rw [hcell i hi]
    have : i < xs.length := by omega
    simp [List.getD, this]) 9 Try.underlying9
  rw [sb_nums] at h
  exact h

theorem rLetter_any (x : Int) (w : World) :
    Calls Try.prog 20 #[.int .i64 x] w fun e w' => e = .returned (.string (sb [x])) ∧ Below w.heap.size w w' := by
  have cv := conv_bytes (w.alloc (.cells #[.int .u8 (x % 256)] 5)) w.heap.size 0 1 1 [x] rfl (fun i hi => by
    obtain rfl : i = 0 := by omega
    simp [by8])
  go_enter Try.func20, Try.ntmps20
  go_wp2
  go_ret
  exact ⟨rfl, (Below.refl _ w).onA _⟩

theorem sb_get {xs : List Int} {i : Nat} (h : i < (sb xs).size) : ((sb xs)[i].toNat : Int) = by8 (xs.getD i 0) := by
  have h1 : i < xs.length := by rw [sb_len] at h; exact h
  show (((List.toArray (xs.map fun x => UInt8.ofNat (x % 256).toNat))[i]'(by simpa using h1)).toNat : Int) = _
  simp only [List.getElem_toArray, List.getElem_map, UInt8.toNat_ofNat', List.getD, List.getElem?_eq_getElem h1, Option.getD_some, by8]
  omega
/-- The sum of the first bytes. -/
def sumN (xs : List Int) (i : Nat) : Int := sumL ((xs.take i).map by8)

theorem sumL_snoc (xs : List Int) (x : Int) : sumL (xs ++ [x]) = sumL xs + x := by simp [sumL]
theorem sumN_succ (xs : List Int) {i : Nat} (h : i < xs.length) : sumN xs (i + 1) = sumN xs i + by8 (xs.getD i 0) := by
  rw [sumN, List.take_add_one, List.getElem?_eq_getElem h]
  simp only [Option.toList_some, List.map_append, List.map_cons, List.map_nil]
  rw [sumL_snoc, sumN]
  simp [List.getD, h]
theorem sumN_range (xs : List Int) (i : Nat) : 0 ≤ sumN xs i ∧ sumN xs i ≤ 255 * (i : Int) := by
  induction i with
  | zero => exact ⟨Int.le_refl _, Int.le_refl _⟩
  | succ i ih =>
    by_cases h : i < xs.length
    · rw [sumN_succ xs h]
      have := by8_range (xs.getD i 0)
      omega
    · have e : sumN xs (i + 1) = sumN xs i := by
        unfold sumN
        rw [List.take_of_length_le (by omega), List.take_of_length_le (by omega)]
      rw [e]
      omega

set_option maxHeartbeats 2000000 in
theorem rPutItem_any (k c u x : Int) (g : Bool) (w : World) :
    Calls Try.prog 21 #[.agg #[.int .i64 k, .int .i64 c, .int .i64 u, .int .i64 x, .bool g]] w fun e w' => e = .returned (.string (sb (encI ⟨k, c, u, x, g⟩))) ∧ Below w.heap.size w w' := by
  have sA := fun xs ys : List Int => (sb_append xs ys).symm
  have sZ := sb_len
  have BM := toHid (Box.new w #[.int .i64 k, .int .i64 c, .int .i64 u, .int .i64 x, .bool g] 26)
  have hB := toHid ((Below.refl _ w).onA (.cells #[.int .i64 k, .int .i64 c, .int .i64 u, .int .i64 x, .bool g] 26))
  go_enter Try.func21, Try.ntmps21
  go_wp2
  generalize w.alloc (.cells #[.int .i64 k, .int .i64 c, .int .i64 u, .int .i64 x, .bool g] 26) = wA at BM hB ⊢
  obtain ⟨b1, b2, b3⟩ := BM.out
  refine wp_region_below (by kernel_rfl) (by kernel_rfl) ?_
  repeat (first
    | go_big_quiet_skip
    | (go_big_quiet_want; go_big_quiet_op; go_big_quiet_on)
    | (refine wpQuiet_step (fun K hK => ?_)
       go_simp
       first
         | (refine hK _ ?_; clear hK K)
         | (refine ⟨_, fun w' hw' => rfl, hK _ ?_⟩; clear hK K)
         | (apply Exists.intro
            refine ⟨fun w' hw' => ?_, hK _ ?_⟩
            · (obtain ⟨hc', hf'⟩ := bcell hw'
               first
                 | (go_simp; rfl)
                 | (go_at_call 20; refine (rLetter_any _ _).mono ?_; rintro e w9 ⟨rfl, h9⟩; exact ⟨rfl, hw'.on h9⟩)
                 | (go_at_call 22; refine (rFlag_any _ _).mono ?_; rintro e w9 ⟨rfl, hw9⟩; subst w9; exact ⟨rfl, hw'⟩))
            clear hK K)))
  refine wpQuiet_nil ?_
  intro wc hc0
  go_wp2
  obtain ⟨L, hL⟩ : ∃ L, L = [k, c, c / 256, u, x, fl g] := ⟨_, rfl⟩
  have hE : Hid (sb (encI ⟨k, c, u, x, g⟩) = sb (L ++ [sumN L 6])) := toHid (by
    have e : encI ⟨k, c, u, x, g⟩ = (L ++ [sumN L 6]).map by8 := by subst hL; cases g <;> rfl
    rw [e, sb_by8])
  have hl : L.length = 6 := by rw [hL]; rfl
  rw [← hL]
  clear hL b1 b2 b3
  go_loop [4, 5] (fun s4 s5 => ∃ i : Nat, i ≤ 6 ∧ s5 = .int .i64 i ∧ s4 = .int .i64 (sumN L i)) (fun _ s5 => 6 - (intOf s5).toNat)
  case atStart => exact ⟨0, Nat.zero_le _, rfl, rfl⟩
  case round =>
    obtain ⟨i, hi, rfl, rfl⟩ := hrel
    by_cases hlt : i < 6
    · have hlt' : (i : Int) < 6 := by omega
      obtain ⟨z, hz⟩ : ∃ z, by8 (L.getD i 0) = z := ⟨_, rfl⟩
      have hg : ∀ h : i < (sb L).size, ((sb L)[i].toNat : Int) = z := fun h => (sb_get h).trans hz
      have hS : Hid (sumN L (i + 1) = sumN L i + z) := toHid (hz ▸ sumN_succ L (by omega))
      have hb1 := sumN_range L i
      have hb2 := by8_range (L.getD i 0)
      rw [hz] at hb2
      have y1 : Hid (wrap64 z = z) := toHid (w64_in _ ⟨by omega, by omega⟩)
      have y2 : Hid (wrap64 (sumN L i + z) = sumN L i + z) := toHid (w64_in _ ⟨by omega, by omega⟩)
      clear hz
      clear hb1 hb2
      go_wp2
      go_round
      case rel => exact ⟨i + 1, by omega, by go_num, by rw [y1.out, y2.out, hS.out]⟩
      case measure => simp [intOf]; omega
    · obtain rfl : i = 6 := by omega
      generalize sumN L 6 = S at *
      go_wp2_with (go_at_call 20; refine (rLetter_any _ _).mono ?_; rintro e w9 ⟨rfl, h9⟩)
      go_ret
      exact ⟨by rw [hE.out]; rfl, (hB.out.on hc0).on h9⟩

theorem sb_at {L : List Int} (hB : Byts L) {i : Nat} (h : i < L.length) : ∃ z : Int, L.getD i 0 = z ∧ 0 ≤ z ∧ z < 256 ∧ ∀ h : i < (sb L).size, ((sb L)[i].toNat : Int) = z := by
  have hm : L.getD i 0 ∈ L := by simp [List.getD, h]
  have hr := hB _ hm
  exact ⟨_, rfl, hr.1, hr.2, fun h' => (sb_get h').trans (by8_in hr.1 hr.2)⟩

set_option maxHeartbeats 2000000 in
theorem rGetItem_any {L : List Int} (hB : Byts L) (h6 : 6 ≤ L.length) (w : World) :
    Calls Try.prog 24 #[.string (sb L)] w fun e w' => e = .returned (.agg #[.int .i64 (decI L).k, .int .i64 (decI L).c, .int .i64 (decI L).u, .int .i64 (decI L).x, .bool (decI L).g]) ∧ Below w.heap.size w w' := by
  obtain ⟨z0, e0, l0, u0, g0⟩ := sb_at hB (i := 0) (by omega)
  obtain ⟨z1, e1, l1, u1, g1⟩ := sb_at hB (i := 1) (by omega)
  obtain ⟨z2, e2, l2, u2, g2⟩ := sb_at hB (i := 2) (by omega)
  obtain ⟨z3, e3, l3, u3, g3⟩ := sb_at hB (i := 3) (by omega)
  obtain ⟨z4, e4, l4, u4, g4⟩ := sb_at hB (i := 4) (by omega)
  obtain ⟨z5, e5, l5, u5, g5⟩ := sb_at hB (i := 5) (by omega)
  have hI : decI L = ⟨z0, z1 + 256 * z2, z3, z4, decide (z5 = 1)⟩ := by simp only [decI, e0, e1, e2, e3, e4, e5]
  rw [hI]
  have sZ := sb_len L
  have h6' : 6 ≤ (L.length : Int) := by omega
  clear hI e0 e1 e2 e3 e4 e5
  go_enter Try.func24, Try.ntmps24
  go_wp2
  go_region
  go_wp2
  exact bodyPost_ret (v := .agg #[.int .i64 z0, .int .i64 (z1 + 256 * z2), .int .i64 z3, .int .i64 z4, .bool (decide (z5 = 1))]) (by simp [results, Try.results24, go_sem]; rfl) rfl ⟨rfl, ((Below.refl _ w).onA _).onD 1⟩

theorem may_few {m : Mg} (h : mayB m = true) (h0 : m.n = 0) : m.is.length ≤ 16 := by
  have := (may_ends h).2.2
  simp only [knB, h0, if_true, grtB, nmdB, Bool.and_eq_true, decide_eq_true_eq] at this
  exact this.1.1
/-- A message's bytes, before each is cut to its lowest eight bits. -/
def rawM (m : Mg) : List Int := [m.n, m.a, m.b] ++
  (if m.n = 0 then (m.is.length : Int) :: m.is else if m.n = 1 then encI m.t else if m.n = 2 then [m.k] else [m.k, fl m.h] ++ (if m.h = true then encI m.t else []))
theorem map8_byts {xs : List Int} (h : Byts xs) : xs.map by8 = xs := by
  have e : ∀ x ∈ xs, by8 x = id x := fun x hx => by8_in (h x hx).1 (h x hx).2
  rw [List.map_congr_left e, List.map_id]
theorem by8_fl (g : Bool) : by8 (fl g) = fl g := by cases g <;> rfl
theorem sb_raw (m : Mg) : sb (encM m) = sb (rawM m) := by
  rw [← sb_by8 (rawM m)]
  congr 1
  unfold encM restM rawM
  split
  · simp
  · split
    · simp [map8_byts (encI_byts m.t)]
    · split
      · simp
      · split <;> simp [map8_byts (encI_byts m.t), by8_fl]

set_option maxHeartbeats 4000000 in
theorem rPutMsg_any {lo hi : Nat} {w : World} {v : Value} {is : List Int} (hv : RowI lo hi w v is) (hh : hi ≤ w.heap.size) (n a b k tk tc tu tx : Int) (tg h : Bool) :
    Calls Try.prog 10 #[.agg #[.int .i64 n, .int .i64 a, .int .i64 b, v, .int .i64 k, .int .i64 tk, .int .i64 tc, .int .i64 tu, .int .i64 tx, .bool tg, .bool h]] w fun e w' =>
      e = .returned (.tuple #[.string (sb (putL ⟨n, a, b, is, k, ⟨tk, tc, tu, tx, tg⟩, h⟩)), .int .i64 (putE ⟨n, a, b, is, k, ⟨tk, tc, tu, tx, tg⟩, h⟩)]) ∧ Below w.heap.size w w' := by
  have sA := fun xs ys : List Int => (sb_append xs ys).symm
  have sZ := sb_len
  have H0 := toHid (fun o => rMsgMay_any (hv.alloc o) n a b k tk tc tu tx tg h)
  have RV := toHid (fun (o : Obj) (w1 : World) (hb : Below (w.alloc o).heap.size (w.alloc o) w1) => (hv.alloc o).below hb (Nat.le_trans hh (by simp)))
  obtain ⟨p, c, rfl, -⟩ := hv
  have BM := toHid (Box.new w #[.int .i64 n, .int .i64 a, .int .i64 b, .slice p is.length c, .int .i64 k, .int .i64 tk, .int .i64 tc, .int .i64 tu, .int .i64 tx, .bool tg, .bool h] 28)
  have hB := toHid ((Below.refl _ w).onA (.cells #[.int .i64 n, .int .i64 a, .int .i64 b, .slice p is.length c, .int .i64 k, .int .i64 tk, .int .i64 tc, .int .i64 tu, .int .i64 tx, .bool tg, .bool h] 28))
  cases hm : mayB ⟨n, a, b, is, k, ⟨tk, tc, tu, tx, tg⟩, h⟩ with
  | false =>
    have e1 : putL ⟨n, a, b, is, k, ⟨tk, tc, tu, tx, tg⟩, h⟩ = [] := by simp [putL, hm]
    have e2 : putE ⟨n, a, b, is, k, ⟨tk, tc, tu, tx, tg⟩, h⟩ = 1300 := by simp [putE, hm]
    rw [e1, e2]
    have hm' : mgB n a b is k ⟨tk, tc, tu, tx, tg⟩ h = false := hm
    rw [hm'] at H0
    clear e1 e2 hm hm' sA sZ
    go_enter Try.func10, Try.ntmps10
    go_wp2_with (go_at_call 17; refine (H0.out _).mono ?_; rintro e w1 ⟨rfl, h1⟩)
    go_ret2
    exact ⟨rfl, ((Below.refl _ w).onA _).on h1⟩
  | true =>
    have e1 : putL ⟨n, a, b, is, k, ⟨tk, tc, tu, tx, tg⟩, h⟩ = encM ⟨n, a, b, is, k, ⟨tk, tc, tu, tx, tg⟩, h⟩ := by simp [putL, hm]
    have e2 : putE ⟨n, a, b, is, k, ⟨tk, tc, tu, tx, tg⟩, h⟩ = 0 := by simp [putE, hm]
    rw [e1, e2, sb_raw]
    have hm' : mgB n a b is k ⟨tk, tc, tu, tx, tg⟩ h = true := hm
    rw [hm'] at H0
    have hn := may_kind hm
    have h16 : Hid (n = 0 → is.length ≤ 16) := toHid (may_few hm)
    dsimp only at hn
    clear e1 e2 hm hm'
    go_enter Try.func10, Try.ntmps10
    go_upto_region 3 with (first
      | (go_at_call 17; refine (H0.out _).mono ?_; rintro e w1 ⟨rfl, h1⟩))
    replace RV := toHid (fun (w2 : World) (hb : Below w1.heap.size w1 w2) => RV.out _ w2 (h1.on hb))
    replace BM := toHid (BM.out.below h1)
    replace hB := toHid (hB.out.on h1)
    clear H0 h1
    obtain ⟨b1, b2, b3⟩ := BM.out
    refine wp_region_below (by kernel_rfl) (by kernel_rfl) ?_
    repeat (first
      | go_big_quiet_skip
      | (go_big_quiet_want; go_big_quiet_op; go_big_quiet_on)
      | (refine wpQuiet_step (fun K hK => ?_)
         go_simp
         first
           | (refine hK _ ?_; clear hK K)
           | (refine ⟨_, fun w' hw' => rfl, hK _ ?_⟩; clear hK K)
           | (apply Exists.intro
              refine ⟨fun w' hw' => ?_, hK _ ?_⟩
              · (obtain ⟨hc', hf'⟩ := bcell hw'
                 first
                   | (go_simp; rfl)
                   | (go_at_call 20; refine (rLetter_any _ _).mono ?_; rintro e w9 ⟨rfl, h9⟩; exact ⟨rfl, hw'.on h9⟩))
              clear hK K)))
    refine wpQuiet_nil ?_
    intro wc hc0
    clear b1 b2 b3
    obtain ⟨b1, b2, b3⟩ := BM.out.below hc0
    rcases hn with rfl | rfl | rfl | rfl
    · go_wp2_with (go_at_call 20; refine (rLetter_any _ _).mono ?_; rintro e w2 ⟨rfl, h2⟩; replace hc0 := hc0.on h2; clear h2 b1 b2 b3; obtain ⟨b1, b2, b3⟩ := BM.out.below hc0)
      have hl16 := h16.out (by trivial)
      have hraw : Hid (rawM ⟨0, a, b, is, k, ⟨tk, tc, tu, tx, tg⟩, h⟩ = [0, a, b, (is.length : Int)] ++ is.take is.length) := toHid (by simp [rawM])
      clear b1 b2 b3
      go_loopw [4, 5] (fun s4 s5 wr => ∃ i : Nat, i ≤ is.length ∧ s5 = .int .i64 i ∧ s4 = .string (sb ([0, a, b, (is.length : Int)] ++ is.take i)) ∧ Below w1.heap.size w1 wr) (fun _ s5 _ => is.length - (intOf s5).toNat)
      case atStart => exact ⟨0, Nat.zero_le _, rfl, rfl, hc0⟩
      case round =>
        obtain ⟨i, hi, rfl, rfl, hk⟩ := hrel
        obtain ⟨b1, b2, b3⟩ := BM.out.below hk
        by_cases hlt : i < is.length
        · obtain ⟨p', c', e, hl, hc, hx⟩ := (RV.out _ hk).out
          cases e
          obtain ⟨bb, off, rfl, -, -, h3⟩ := hx (by intro e; simp [e] at hlt)
          have c1 := (h3 i hlt).1
          obtain ⟨z, hz⟩ : ∃ z, is.getD i 0 = z := ⟨_, rfl⟩
          rw [hz] at c1
          obtain ⟨X, hX⟩ : ∃ X, X = [0, a, b, (is.length : Int)] ++ is.take i := ⟨_, rfl⟩
          have hXl : X.length = 4 + i := by rw [hX]; simp; omega
          have hXn : Hid (X ++ [z] = [0, a, b, (is.length : Int)] ++ is.take (i + 1)) := toHid (by
            rw [hX, List.take_add_one, List.getElem?_eq_getElem hlt, ← hz]
            simp [List.getD, hlt])
          rw [← hX]
          have hlt' : (i : Int) < (is.length : Int) := by omega
          have hi16 : i < 16 := by omega
          clear hX hz h3 hx hl hc
          go_wp2_with (go_at_call 20; refine (rLetter_any _ _).mono ?_; rintro e w3 ⟨rfl, h3⟩)
          go_roundw
          case rel => exact ⟨i + 1, by omega, by go_num, by rw [hXn.out], hk.on h3⟩
          case measure => simp [intOf]; omega
        · obtain rfl : i = is.length := by omega
          obtain ⟨X, hX⟩ : ∃ X, X = [0, a, b, (is.length : Int)] ++ is.take is.length := ⟨_, rfl⟩
          rw [← hX] at hraw ⊢
          clear hX
          go_wp2
          go_ret2
          exact ⟨by rw [hraw.out]; rfl, hB.out.on hk⟩
    · go_wp2_with (go_at_call 21; refine (rPutItem_any _ _ _ _ _ _).mono ?_; rintro e w2 ⟨rfl, h2⟩)
      go_ret2
      exact ⟨rfl, (hB.out.on hc0).on h2⟩
    · go_wp2_with (go_at_call 20; refine (rLetter_any _ _).mono ?_; rintro e w2 ⟨rfl, h2⟩)
      go_ret2
      exact ⟨rfl, (hB.out.on hc0).on h2⟩
    · go_wp2
      clear b1 b2 b3
      obtain ⟨b1, b2, b3⟩ := BM.out.below hc0
      refine wp_region_below (by kernel_rfl) (by kernel_rfl) ?_
      repeat (first
        | go_big_quiet_skip
        | (go_big_quiet_want; go_big_quiet_op; go_big_quiet_on)
        | (refine wpQuiet_step (fun K hK => ?_)
           go_simp
           first
             | (refine hK _ ?_; clear hK K)
             | (refine ⟨_, fun w' hw' => rfl, hK _ ?_⟩; clear hK K)
             | (apply Exists.intro
                refine ⟨fun w' hw' => ?_, hK _ ?_⟩
                · (obtain ⟨hc', hf'⟩ := bcell hw'
                   first
                     | (go_simp; rfl)
                     | (go_at_call 20; refine (rLetter_any _ _).mono ?_; rintro e w9 ⟨rfl, h9⟩; exact ⟨rfl, hw'.on h9⟩)
                     | (go_at_call 22; refine (rFlag_any _ _).mono ?_; rintro e w9 ⟨rfl, hw9⟩; subst w9; exact ⟨rfl, hw'⟩))
                clear hK K)))
      refine wpQuiet_nil ?_
      intro wd hc1
      replace hc1 := hc0.on hc1
      clear b1 b2 b3
      obtain ⟨b1, b2, b3⟩ := BM.out.below hc1
      cases h with
      | false =>
        go_wp2
        go_ret2
        exact ⟨rfl, hB.out.on hc1⟩
      | true =>
        go_wp2_with (go_at_call 21; refine (rPutItem_any _ _ _ _ _ _).mono ?_; rintro e w2 ⟨rfl, h2⟩)
        go_ret2
        exact ⟨rfl, (hB.out.on hc1).on h2⟩

end Go.Proofs.Ytkalamplagopnaa
