
/-
  The only message of which bytes may tell, plain: read one by one, zeros behind the end.
-/
import Derived.Test.YtkalamplagopnaaWireMath
namespace Go.Proofs.Ytkalamplagopnaa
open Go.RowKit

def rdIds (L : List Int) (i : Nat) : List Int := (List.range (L.getD i 0).toNat).map fun j => L.getD (i + 1 + j) 0
def rdI (L : List Int) (i : Nat) : It := ⟨L.getD i 0, L.getD (i + 1) 0 + L.getD (i + 2) 0 * 256, L.getD (i + 3) 0, L.getD (i + 4) 0, decide (L.getD (i + 5) 0 = 1)⟩
def rdM (L : List Int) : Mg :=
  if L.getD 0 0 = 0 then ⟨L.getD 0 0, L.getD 1 0, L.getD 2 0, rdIds L 3, 0, zeroI, false⟩
  else if L.getD 0 0 = 1 then ⟨L.getD 0 0, L.getD 1 0, L.getD 2 0, [], 0, rdI L 3, false⟩
  else if L.getD 0 0 = 2 then ⟨L.getD 0 0, L.getD 1 0, L.getD 2 0, [], L.getD 3 0, zeroI, false⟩
  else if L.getD 0 0 = 3 then ⟨L.getD 0 0, L.getD 1 0, L.getD 2 0, [], L.getD 3 0, if L.getD 4 0 = 1 then rdI L 5 else zeroI, decide (L.getD 4 0 = 1)⟩
  else ⟨L.getD 0 0, L.getD 1 0, L.getD 2 0, [], 0, zeroI, false⟩

theorem rdI_encI {t : It} (h : itB t = true) (x y z : Int) (r : List Int) (i : Nat) (hi : (x :: y :: z :: r).drop i = encI t) : rdI (x :: y :: z :: r) i = t := by
  have e : ∀ j, (x :: y :: z :: r).getD (i + j) 0 = (encI t).getD j 0 := fun j => by rw [← hi]; simp [List.getD]
  have d := decI_encI h
  unfold rdI
  unfold decI at d
  have e0 := e 0
  rw [Nat.add_zero] at e0
  rw [e0, e 1, e 2, e 3, e 4, e 5, Int.mul_comm]
  exact d
theorem rdIds_at (n : Int) (is : List Int) (x y z : Int) (hn : n = (is.length : Int)) : rdIds (x :: y :: z :: n :: is) 3 = is := by
  subst hn
  show (List.range ((is.length : Int)).toNat).map (fun j => (x :: y :: z :: (is.length : Int) :: is).getD (3 + 1 + j) 0) = is
  rw [Int.toNat_natCast]
  apply List.ext_getElem
  · simp
  · intro i h1 h2
    have e : 3 + 1 + i = i + 4 := by omega
    simp only [List.getElem_map, List.getElem_range, e, List.getD_cons_succ]
    simp [List.getD, h2]
theorem rd_enc {m : Mg} (h : mayB m = true) : rdM (encM m) = m := by
  obtain ⟨ha, hb, hk⟩ := may_ends h
  have hn := may_kind h
  obtain ⟨n, a, b, is, k, t, g⟩ := m
  dsimp only at ha hb hk hn
  show rdM (by8 n :: by8 a :: by8 b :: restM _) = _
  rw [by8_pl ha, by8_pl hb]
  clear h
  rcases hn with rfl | rfl | rfl | rfl
  · obtain ⟨⟨h16, h2⟩, rfl, h3, rfl⟩ := (by simpa [knB, grtB, nmdB] using hk : (is.length ≤ 16 ∧ plsB is = true) ∧ k = 0 ∧ zeB t = true ∧ g = false)
    obtain rfl := ze_yes h3
    have e : by8 (is.length : Int) = (is.length : Int) := by8_in (by omega) (by omega)
    have e8 : by8 0 = 0 := rfl
    simp only [restM, if_true, map_pl h2, e, e8, rdM, List.getD_cons_zero, List.getD_cons_succ]
    rw [rdIds_at _ _ _ _ _ rfl]
    rfl
  · obtain ⟨rfl, rfl, h3, rfl⟩ := (by simpa [knB, brgB] using hk : is = [] ∧ k = 0 ∧ itB t = true ∧ g = false)
    have e8 : by8 1 = 1 := rfl
    have e1 := rdI_encI h3 1 a b (encI t) 3 rfl
    simp [restM, rdM, e8, e1]
  · obtain ⟨rfl, h2, h3, rfl⟩ := (by simpa [knB, askB] using hk : is = [] ∧ plB k = true ∧ zeB t = true ∧ g = false)
    obtain rfl := ze_yes h3
    have e8 : by8 2 = 2 := rfl
    simp [restM, rdM, by8_pl h2, zeroI, e8]
  · have e8 : by8 3 = 3 := rfl
    cases g with
    | false =>
      obtain ⟨rfl, h2, h3⟩ := (by simpa [knB, telB] using hk : is = [] ∧ plB k = true ∧ zeB t = true)
      obtain rfl := ze_yes h3
      simp [restM, rdM, by8_pl h2, zeroI, e8, fl]
    | true =>
      obtain ⟨rfl, h2, h3, -⟩ := (by simpa [knB, telB] using hk : is = [] ∧ plB k = true ∧ itB t = true ∧ t.k = k)
      have e1 := rdI_encI h3 3 a b (by8 k :: 1 :: encI t) 5 rfl
      rw [by8_pl h2] at e1
      simp [restM, rdM, by8_pl h2, e8, fl, e1]
/-- So what is read, if Put tells the same bytes of it, is what Get tells. -/
theorem get_read (L : List Int) : getB L = (mayB (rdM L) && decide (encM (rdM L) = L)) ∧ (getB L = true → getM L = rdM L) := by
  cases hg : getB L with
  | true =>
    obtain ⟨h1, h2⟩ := put_get hg
    have e : rdM L = getM L := by
      have := rd_enc h1
      rw [h2] at this
      exact this
    rw [e]
    exact ⟨by simp [h1, h2], fun _ => rfl⟩
  | false =>
    refine ⟨?_, fun h => by cases h⟩
    cases h1 : mayB (rdM L) with
    | false => rfl
    | true =>
      by_cases h2 : encM (rdM L) = L
      · rw [(get_of h1 h2).1] at hg
        cases hg
      · simp [h2]
theorem rdIds_few {L : List Int} (hL : Byts L) (i : Nat) : (L.getD i 0).toNat ≤ 255 ∧ 0 ≤ L.getD i 0 ∧ L.getD i 0 < 256 := by
  by_cases h : i < L.length
  · have := hL (L.getD i 0) (by simp [List.getD, h])
    omega
  · rw [show L.getD i 0 = 0 by simp [List.getD, show L.length ≤ i by omega]]
    decide
theorem rdIds_succ (L : List Int) (i n : Nat) : (List.range (n + 1)).map (fun j => L.getD (i + 1 + j) 0) = (List.range n).map (fun j => L.getD (i + 1 + j) 0) ++ [L.getD (i + 1 + n) 0] := by
  rw [List.range_succ, List.map_append]
  rfl

end Go.Proofs.Ytkalamplagopnaa
