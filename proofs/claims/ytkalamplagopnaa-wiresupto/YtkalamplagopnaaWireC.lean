
/-
  Contracts of the program's own reader, further: the reader made, a row of places read, an item read.
-/
import Derived.Test.YtkalamplagopnaaWireB
namespace Go.Proofs.Ytkalamplagopnaa
open Go.ChangeShapes Go.WideShapes Go.ChangeAt Go.RowKit

theorem gb_on {w a c : World} {b : Nat} (h : w.grownBy a (some b)) (k : Below w.heap.size a c) : w.grownBy c (some b) :=
  ⟨k.os.trans h.os, k.tape.trans h.tape, k.output.trans h.output, Nat.le_trans h.size k.size, fun x hx hn => (k.block x hx).trans (h.block x hx hn)⟩
theorem own_grown {w w' : World} {base n b : Nat} {e : TypeId} {v : Value} {xs : List Value} (h : w.ownsRow base e 1 v n xs) (hg : w.grownBy w' (some b)) (hb : b < base) : w'.ownsRow base e 1 v n xs := by
  refine h.kept hg ?_
  cases hv : v.ownBlock with
  | none => exact .inl rfl
  | some g =>
    right
    intro e2
    have := (h.lt g hv).1
    simp only [Option.some.injEq] at e2
    omega

theorem wReading_any {L : List Int} (w : World) :
    Calls Try.prog 41 #[.string (sb L)] w fun e w' => ∃ bA bS, e = .returned (.func (.func 50) #[] #[.pointer (some ⟨bA, 0, none⟩), .pointer (some ⟨bS, 0, none⟩)]) ∧ Rd w' bA bS L 0 ∧ w.heap.size ≤ bA ∧ w.heap.size ≤ bS ∧ Below w.heap.size w w' := by
  have BS := toHid (fun o => (Box.new w #[.string (sb L)] 9).alloc o)
  have BA := toHid (Box.new1 w (.cells #[.string (sb L)] 9) #[.int .i64 0] 3)
  go_enter Try.func41, Try.ntmps41
  go_wp2
  go_ret
  exact ⟨_, _, rfl, ⟨by simpa using BA.out, BS.out _, by omega⟩, by omega, Nat.le_refl _, ((Below.refl _ w).onA _).onA _⟩

set_option maxHeartbeats 2000000 in
theorem wReadIds_any {w : World} {bA bS : Nat} {L : List Int} {i : Nat} (hL : Byts L) (hm : L.length ≤ 140737488355328) (h : Rd w bA bS L i) :
    Calls Try.prog 42 #[.func (.func 50) #[] #[.pointer (some ⟨bA, 0, none⟩), .pointer (some ⟨bS, 0, none⟩)]] w fun e w' =>
      ∃ p c, e = .returned (.slice p (rdIds L i).length c) ∧ RowI w.heap.size w'.heap.size w' (.slice p (rdIds L i).length c) (rdIds L i) ∧ w.grownBy w' (some bA) := by
  obtain ⟨hf, -, -⟩ := rdIds_few hL i
  have hA := h.pos.1
  have hS := h.txt.1
  have HN := fun (W : World) (j : Nat) (k : Rd W bA bS L j) => wNext_any hL hm k
  obtain ⟨N, hN⟩ : ∃ N, (L.getD i 0).toNat = N := ⟨_, rfl⟩
  have eN : L.getD i 0 = (N : Int) := by
    have := (rdIds_few hL i).2.1
    omega
  have hI : Hid (rdIds L i = (List.range N).map fun j => L.getD (i + 1 + j) 0) := toHid (by unfold rdIds; rw [hN])
  have H0 := HN w i h
  rw [eN] at H0
  rw [hN] at hf
  replace H0 := toHid H0
  replace HN := toHid HN
  clear h hN eN
  go_enter Try.func42, Try.ntmps42
  go_wp2_with (go_at_call 50; refine H0.out.mono ?_; rintro e w1 ⟨rfl, R1, g1⟩
               have z1 := g1.size
               replace R1 := toHid R1
               replace g1 := toHid g1)
  go_loopw [3, 6] (fun s3 s6 wr => ∃ j : Nat, j ≤ N ∧ s6 = .int .i64 j ∧ wr.ownsRow w.heap.size 3 1 s3 j (((List.range j).map fun j => L.getD (i + 1 + j) 0).map (Value.int .i64)) ∧ Rd wr bA bS L (i + 1 + j) ∧ w.grownBy wr (some bA)) (fun _ s6 _ => N - (intOf s6).toNat)
  case atStart => exact ⟨0, Nat.zero_le _, rfl, ⟨rfl, .inl ⟨rfl, rfl⟩⟩, R1.out, g1.out⟩
  case round =>
    obtain ⟨j, hj, rfl, own, RD, gr⟩ := hrel
    by_cases hlt : j < N
    · have hlt' : (j : Int) < (N : Int) := by omega
      obtain ⟨X, hX⟩ : ∃ X, X = (List.range j).map fun j => L.getD (i + 1 + j) 0 := ⟨_, rfl⟩
      have hXn : Hid ((List.range (j + 1)).map (fun j => L.getD (i + 1 + j) 0) = X ++ [L.getD (i + 1 + j) 0]) := toHid (by rw [rdIds_succ, hX])
      obtain ⟨z, hz⟩ : ∃ z, L.getD (i + 1 + j) 0 = z := ⟨_, rfl⟩
      have H2 := HN.out _ _ RD
      rw [hz] at hXn H2
      rw [← hX] at own
      clear hX hz
      replace own := toHid own
      replace H2 := toHid H2
      replace gr := toHid gr
      clear RD
      go_wp2_with (first
        | (go_at_call 50; refine H2.out.mono ?_; rintro e w5 ⟨rfl, R5, g5⟩
           have OW := toHid (own_grown own.out g5 hA)
           have z5 : w.heap.size ≤ w5.heap.size := Nat.le_trans gr.out.size g5.size
           have g6 := toHid (gb_trans gr.out g5)
           replace R5 := toHid R5
           clear g5)
        | (at_builtin; refine app_ints rfl (.tmp 8) (.tmp 11) rfl w.heap.size _ j X rfl (OW.out.alloc _) ⟨w5.heap.size, 0, none⟩ 1 1 [z] rfl rfl (fun q hq => ?_) (by omega) (by simp; omega) ?_; · (rw [add_plain, Nat.zero_add]; refine ((Box.newAt _ _ (by simp)).2.1 q).trans ?_; (obtain rfl : q = 0 := by omega); rfl)))
      intro v' w7 hown7 hgr7 hbel7
      replace hown7 : Hid (w7.ownsRow w.heap.size 3 1 v' (j + 1) (((List.range (j + 1)).map fun j => L.getD (i + 1 + j) 0).map (Value.int .i64))) := toHid (by rw [hXn.out]; simpa using hown7)
      have R7 := toHid ((R5.out.alloc _).belowAt hbel7 hA hS)
      have g7 := toHid (gb_on (gb_alloc g6.out _) hbel7)
      clear hgr7 hbel7
      go_wp2
      go_roundw
      case rel => exact ⟨j + 1, by omega, by go_num, hown7.out, R7.out, g7.out⟩
      case measure => simp [intOf]; omega
    · obtain rfl : j = N := by omega
      have hl : (rdIds L i).length = j := by rw [hI.out]; simp
      rw [← hI.out] at own
      have RR := RowI.of_owns own
      obtain ⟨p5, c5, e5, -⟩ := RR.cap
      subst e5
      replace RR := toHid RR
      replace gr := toHid gr
      clear own RD
      go_wp2
      go_ret
      exact ⟨_, _, rfl, RR.out, gr.out⟩

end Go.Proofs.Ytkalamplagopnaa
