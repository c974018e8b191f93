
/-
  Messages as bytes, plain: what a message's bytes are, which message bytes tell of, that they come back, and how many there are.
-/
import Derived.Test.YtnnhnidefjhakaaMsgMath
import Derived.Test.YtnnhnidefjhakaaListMath
namespace Go.Proofs.Ytnnhnidefjhakaa
open Go.RowKit

/-- A message, all of it. -/
structure Mg where
  n : Int
  a : Int
  b : Int
  is : List Int
  k : Int
  t : It
  h : Bool
deriving DecidableEq, Inhabited

def mayB (m : Mg) : Bool := mgB m.n m.a m.b m.is m.k m.t m.h
def zeroI : It := ⟨0, 0, 0, 0, false⟩
def zeroM : Mg := ⟨0, 0, 0, [], 0, zeroI, false⟩
/-- A number's lowest byte; a mark's. -/
def by8 (x : Int) : Int := x % 256
def fl (g : Bool) : Int := if g = true then 1 else 0
def sumL (xs : List Int) : Int := xs.foldl (· + ·) 0
/-- An item's six bytes, and with their sum. -/
def encJ (t : It) : List Int := [by8 t.k, by8 t.c, by8 (t.c / 256), by8 t.u, by8 t.x, fl t.g]
def encI (t : It) : List Int := encJ t ++ [by8 (sumL (encJ t))]
def restM (m : Mg) : List Int :=
  if m.n = 0 then by8 (m.is.length : Int) :: m.is.map by8 else if m.n = 1 then encI m.t else if m.n = 2 then [by8 m.k] else [by8 m.k, fl m.h] ++ (if m.h = true then encI m.t else [])
def encM (m : Mg) : List Int := [by8 m.n, by8 m.a, by8 m.b] ++ restM m
def decI (s : List Int) : It := ⟨s.getD 0 0, s.getD 1 0 + 256 * s.getD 2 0, s.getD 3 0, s.getD 4 0, decide (s.getD 5 0 = 1)⟩
def decM (s : List Int) : Mg :=
  if s.getD 0 0 = 0 then ⟨s.getD 0 0, s.getD 1 0, s.getD 2 0, s.drop 4, 0, zeroI, false⟩
  else if s.getD 0 0 = 1 then ⟨s.getD 0 0, s.getD 1 0, s.getD 2 0, [], 0, if s.length = 10 then decI (s.drop 3) else zeroI, false⟩
  else if s.getD 0 0 = 2 then ⟨s.getD 0 0, s.getD 1 0, s.getD 2 0, [], s.getD 3 0, zeroI, false⟩
  else ⟨s.getD 0 0, s.getD 1 0, s.getD 2 0, [], s.getD 3 0, if s.length = 12 then decI (s.drop 5) else zeroI, decide (s.length = 12)⟩
def putL (m : Mg) : List Int := if mayB m = true then encM m else []
def putE (m : Mg) : Int := if mayB m = true then 0 else 1300
def getB (s : List Int) : Bool := decide (4 ≤ s.length) && (mayB (decM s) && decide (encM (decM s) = s))
def getM (s : List Int) : Mg := if getB s = true then decM s else zeroM
def getE (s : List Int) : Int := if getB s = true then 0 else 1300

theorem by8_in {x : Int} (h0 : 0 ≤ x) (h1 : x < 256) : by8 x = x := by unfold by8; omega
theorem by8_range (x : Int) : 0 ≤ by8 x ∧ by8 x < 256 := by unfold by8; omega
theorem by8_pl {x : Int} (h : plB x = true) : by8 x = x := by8_in (plB_yes h).1 (plB_yes h).2
theorem map_pl {xs : List Int} (h : plsB xs = true) : xs.map by8 = xs := by
  have : ∀ x ∈ xs, by8 x = x := fun x hx => by8_pl (plsB_mem h x hx)
  rw [List.map_congr_left (g := id) this, List.map_id]

/-! ### What a message that may be has -/
theorem may_ends {m : Mg} (h : mayB m = true) : plB m.a = true ∧ plB m.b = true ∧ knB m.n m.is m.k m.t m.h = true := by
  simp only [mayB, mgB, endB, Bool.and_eq_true] at h
  exact ⟨h.1.1, h.1.2.1, h.2⟩
theorem may_kind {m : Mg} (h : mayB m = true) : m.n = 0 ∨ m.n = 1 ∨ m.n = 2 ∨ m.n = 3 := by
  have := (may_ends h).2.2
  unfold knB at this
  by_cases h0 : m.n = 0
  · exact .inl h0
  · by_cases h1 : m.n = 1
    · exact .inr (.inl h1)
    · by_cases h2 : m.n = 2
      · exact .inr (.inr (.inl h2))
      · by_cases h3 : m.n = 3
        · exact .inr (.inr (.inr h3))
        · simp [h0, h1, h2, h3] at this
theorem item_in {t : It} (h : itB t = true) : (0 ≤ t.k ∧ t.k < 256) ∧ (0 ≤ t.x ∧ t.x < 256) ∧ (1 ≤ t.c ∧ t.c < 65536) ∧ (0 ≤ t.u ∧ t.u < 256) := by
  simp only [itB, byB, verB, cntB, plB, Bool.and_eq_true, decide_eq_true_eq] at h
  omega
theorem decI_encI {t : It} (h : itB t = true) : decI (encI t) = t := by
  obtain ⟨h1, h2, h3, h4⟩ := item_in h
  obtain ⟨k, c, u, x, g⟩ := t
  simp only [encI, encJ, decI, List.cons_append, List.nil_append, List.getD_cons_zero, List.getD_cons_succ] at *
  rw [by8_in h1.1 h1.2, by8_in h2.1 h2.2, by8_in h4.1 h4.2]
  have hc : by8 c + 256 * by8 (c / 256) = c := by unfold by8; omega
  rw [hc]
  cases g <;> simp [fl]
theorem encI_len (t : It) : (encI t).length = 7 := rfl

/-! ### There and back -/
theorem decM_cons (x y z : Int) (r : List Int) : decM (x :: y :: z :: r) =
    if x = 0 then ⟨x, y, z, r.drop 1, 0, zeroI, false⟩ else if x = 1 then ⟨x, y, z, [], 0, if r.length = 7 then decI r else zeroI, false⟩
    else if x = 2 then ⟨x, y, z, [], r.getD 0 0, zeroI, false⟩ else ⟨x, y, z, [], r.getD 0 0, if r.length = 9 then decI (r.drop 2) else zeroI, decide (r.length = 9)⟩ := by
  have e1 : ((x :: y :: z :: r).length = 10) = (r.length = 7) := by simp
  have e2 : ((x :: y :: z :: r).length = 12) = (r.length = 9) := by simp
  unfold decM
  simp only [e1, e2]
  rfl
theorem dec_enc {m : Mg} (h : mayB m = true) : decM (encM m) = m := by
  obtain ⟨ha, hb, hk⟩ := may_ends h
  have hn := may_kind h
  obtain ⟨n, a, b, is, k, t, g⟩ := m
  dsimp only at ha hb hk hn
  show decM (by8 n :: by8 a :: by8 b :: restM _) = _
  rw [decM_cons, by8_pl ha, by8_pl hb]
  clear h
  rcases hn with rfl | rfl | rfl | rfl
  · obtain ⟨⟨-, h2⟩, rfl, h3, rfl⟩ := (by simpa [knB, grtB, nmdB] using hk : (is.length ≤ 16 ∧ plsB is = true) ∧ k = 0 ∧ zeB t = true ∧ g = false)
    obtain rfl := ze_yes h3
    simp [restM, map_pl h2, zeroI, show by8 0 = 0 from rfl]
  · obtain ⟨rfl, rfl, h3, rfl⟩ := (by simpa [knB, brgB] using hk : is = [] ∧ k = 0 ∧ itB t = true ∧ g = false)
    simp [restM, decI_encI h3, encI_len, show by8 1 = 1 from rfl]
  · obtain ⟨rfl, h2, h3, rfl⟩ := (by simpa [knB, askB] using hk : is = [] ∧ plB k = true ∧ zeB t = true ∧ g = false)
    obtain rfl := ze_yes h3
    simp [restM, by8_pl h2, zeroI, show by8 2 = 2 from rfl]
  · cases g with
    | false =>
      obtain ⟨rfl, h2, h3⟩ := (by simpa [knB, telB] using hk : is = [] ∧ plB k = true ∧ zeB t = true)
      obtain rfl := ze_yes h3
      simp [restM, by8_pl h2, zeroI, show by8 3 = 3 from rfl]
    | true =>
      obtain ⟨rfl, h2, h3, -⟩ := (by simpa [knB, telB] using hk : is = [] ∧ plB k = true ∧ itB t = true ∧ t.k = k)
      simp [restM, by8_pl h2, decI_encI h3, encI_len, show by8 3 = 3 from rfl]
      rfl

theorem rest_len (m : Mg) : (restM m).length = if m.n = 0 then 1 + m.is.length else if m.n = 1 then 7 else if m.n = 2 then 1 else if m.h = true then 9 else 2 := by
  unfold restM
  split
  · simp [Nat.add_comm]
  · split
    · rfl
    · split
      · rfl
      · cases m.h <;> rfl
theorem enc_len (m : Mg) : (encM m).length = 3 + (restM m).length := by
  simp [encM]
  omega
theorem enc_four (m : Mg) : 4 ≤ (encM m).length := by
  rw [enc_len, rest_len]
  split
  · omega
  · split
    · omega
    · split
      · omega
      · split <;> omega
/-- Put tells these bytes of it: so Get tells it of them. -/
theorem get_put {m : Mg} (h : mayB m = true) : getB (encM m) = true ∧ getM (encM m) = m := by
  have e : getB (encM m) = true := by simp [getB, dec_enc h, h, enc_four m]
  exact ⟨e, by rw [getM, if_pos e, dec_enc h]⟩
theorem get_of {m : Mg} {s : List Int} (h : mayB m = true) (e : encM m = s) : getB s = true ∧ getM s = m := e ▸ get_put h
/-- What Get tells may be, and Put tells the same bytes of it. -/
theorem put_get {s : List Int} (h : getB s = true) : mayB (getM s) = true ∧ encM (getM s) = s := by
  have e : getM s = decM s := by rw [getM, if_pos h]
  rw [e]
  simp only [getB, Bool.and_eq_true, decide_eq_true_eq] at h
  exact ⟨h.2.1, h.2.2⟩
theorem get_no {s : List Int} (h : ∀ m, mayB m = true → encM m ≠ s) : getB s = false := by
  cases hg : getB s with
  | false => rfl
  | true => exact absurd (put_get hg).2 (h _ (put_get hg).1)
theorem enc_inj {m m' : Mg} (h : mayB m = true) (h' : mayB m' = true) (e : encM m = encM m') : m = m' := by
  rw [← dec_enc h, ← dec_enc h', e]

/-! ### Lists of bytes, and strings -/
def Byts (xs : List Int) : Prop := ∀ x ∈ xs, 0 ≤ x ∧ x < 256
/-- A string's bytes; a string of bytes. -/
def bl (s : ByteArray) : List Int := s.data.toList.map fun x => (x.toNat : Int)
def sb (xs : List Int) : ByteArray := ⟨(xs.map fun x => UInt8.ofNat (x % 256).toNat).toArray⟩

theorem bl_byts (s : ByteArray) : Byts (bl s) := by
  intro x hx
  obtain ⟨y, -, rfl⟩ := List.mem_map.1 hx
  have := y.toNat_lt
  omega
theorem sb_bl (s : ByteArray) : sb (bl s) = s := by
  obtain ⟨⟨l⟩⟩ := s
  simp only [sb, bl, List.map_map]
  congr 2
  rw [List.map_congr_left (g := id) (fun x _ => ?_), List.map_id]
  have := x.toNat_lt
  have e : ((x.toNat : Int) % 256).toNat = x.toNat := by omega
  simp [Function.comp, e]
theorem bl_sb {xs : List Int} (h : Byts xs) : bl (sb xs) = xs := by
  simp only [sb, bl, List.map_map]
  rw [List.map_congr_left (g := id) (fun x hx => ?_), List.map_id]
  have := h x hx
  have e : ((x % 256).toNat : Int) % 256 = x := by omega
  simp only [Function.comp, UInt8.toNat_ofNat', id]
  omega
theorem bl_len (s : ByteArray) : (bl s).length = s.size := by
  unfold bl
  rw [List.length_map, Array.length_toList]
  rfl
theorem sb_len (xs : List Int) : (sb xs).size = xs.length := by
  show (List.toArray _).size = _
  rw [List.size_toArray, List.length_map]
theorem bl_inj {s t : ByteArray} (h : bl s = bl t) : s = t := by rw [← sb_bl s, ← sb_bl t, h]
theorem sb_append (xs ys : List Int) : sb (xs ++ ys) = sb xs ++ sb ys := by
  apply ByteArray.ext
  simp [sb]
theorem bl_append (s t : ByteArray) : bl (s ++ t) = bl s ++ bl t := by simp [bl]
theorem sb_by8 (xs : List Int) : sb (xs.map by8) = sb xs := by
  simp only [sb, List.map_map]
  congr 2
  refine List.map_congr_left fun x _ => ?_
  simp [Function.comp, by8]
theorem encI_byts (t : It) : Byts (encI t) := by
  intro x hx
  have hf : 0 ≤ fl t.g ∧ fl t.g < 256 := by unfold fl; split <;> omega
  simp only [encI, encJ, List.mem_append, List.mem_cons, List.not_mem_nil, or_false] at hx
  rcases hx with (rfl | rfl | rfl | rfl | rfl | rfl) | rfl
  all_goals first | exact by8_range _ | exact hf
theorem encM_byts (m : Mg) : Byts (encM m) := by
  intro x hx
  have hf : 0 ≤ fl m.h ∧ fl m.h < 256 := by unfold fl; split <;> omega
  simp only [encM, List.mem_append, List.mem_cons, List.not_mem_nil, or_false] at hx
  rcases hx with (rfl | rfl | rfl) | hx
  · exact by8_range _
  · exact by8_range _
  · exact by8_range _
  · unfold restM at hx
    split at hx
    · rcases List.mem_cons.1 hx with rfl | hx
      · exact by8_range _
      · obtain ⟨y, -, rfl⟩ := List.mem_map.1 hx
        exact by8_range _
    · split at hx
      · exact encI_byts _ x hx
      · split at hx
        · rcases List.mem_singleton.1 hx with rfl
          exact by8_range _
        · simp only [List.mem_append, List.mem_cons, List.not_mem_nil, or_false] at hx
          rcases hx with (rfl | rfl) | hx
          · exact by8_range _
          · exact hf
          · split at hx
            · exact encI_byts _ x hx
            · cases hx

end Go.Proofs.Ytnnhnidefjhakaa
