/-
  What the statements about stores ask first: that the program answers at some stores at all; the statements' own items.
-/
import Derived.Test.YtmbommkehchchaaStore
import Derived.Test.YtmbommkehchchaaStorePut
import Derived.Deep.RegionHeld3
namespace Go.Proofs.Ytmbommkehchchaa
open Go.ChangeShapes Go.WideShapes Go.ChangeAt Go.RowKit

/-- A block that holds whole items reads as a row of them. -/
theorem Box.rowT {w : World} {b n : Nat} {cs : Array Value} (xs : List It) (h : Box w b cs) (hc : cs.toList = xs.flatMap ItV) (hn : n = xs.length) (hm : n ≤ maxLen) : RowT b (b + 1) w (.slice (some ⟨b, 0, none⟩) n n) xs := by
  subst hn
  refine ⟨_, _, rfl, ⟨Nat.le_refl _, fun h => by cases h⟩, hm, fun _ => ⟨b, 0, rfl, Nat.le_refl _, Nat.lt_succ_self _, fun j _ => ⟨?_, ?_⟩⟩⟩
  · rw [Nat.zero_add, h.2.1 j, ← hc]
    simp
  · rw [Nat.zero_add]
    exact h.2.2 j

theorem sPut_at {lo hi : Nat} {w : World} {v : Value} {xs ys : List It} {err : Int} (hx : RowT lo hi w v xs) (hh : hi ≤ w.heap.size) (_hl : xs.length * 40 ≤ 140737488351232) (k c u y : Int) (g : Bool) (hL : putL xs ⟨k, c, u, y, g⟩ = ys) (hE : putE xs ⟨k, c, u, y, g⟩ = err) :
    Calls Try.prog 10 #[v, .agg #[.int .i64 k, .int .i64 c, .int .i64 u, .int .i64 y, .bool g]] w fun e w' => ∃ o, e = .returned (.tuple #[o, .int .i64 err]) ∧ RowT w.heap.size w'.heap.size w' o ys ∧ Below w.heap.size w w' := by
  subst hL hE
  exact sPut_any hx hh k c u y g
theorem sGet_at {lo hi : Nat} {w : World} {v : Value} {xs : List It} (hx : RowT lo hi w v xs) (hh : hi ≤ w.heap.size) (_hl : xs.length * 40 ≤ 140737488351232) (key : Int) {zk zc zu zx : Int} {zg b : Bool} (hI : getI xs key = ⟨zk, zc, zu, zx, zg⟩) (hB : getB xs key = b) :
    Calls Try.prog 12 #[v, .int .i64 key] w fun e w' => e = .returned (.tuple #[.agg #[.int .i64 zk, .int .i64 zc, .int .i64 zu, .int .i64 zx, .bool zg], .bool b]) ∧ Below w.heap.size w w' := by
  have := sGet_any hx hh key
  rwa [hI, hB] at this
theorem sMay_at {lo hi : Nat} {w : World} {v : Value} {xs : List It} (hx : RowT lo hi w v xs) (hh : hi ≤ w.heap.size) (_hl : xs.length * 40 ≤ 140737488351232) {b : Bool} (hB : stB xs = b) :
    Calls Try.prog 16 #[v] w fun e w' => e = .returned (.bool b) ∧ Below w.heap.size w w' := hB ▸ sMay_any hx hh
theorem rMay_at {lo hi : Nat} {w : World} {v : Value} {xs : List It} (hx : RowT lo hi w v xs) (hh : hi ≤ w.heap.size) {b : Bool} (hB : stB xs = b) :
    Calls Try.prog 17 #[v] w fun e w' => e = .returned (.bool b) ∧ Below w.heap.size w w' := hB ▸ rStoreMay_any hx hh
theorem same_at {lo hi lo' hi' : Nat} {w : World} {v u : Value} {xs ys : List It} (hx : RowT lo hi w v xs) (hy : RowT lo' hi' w u ys) {b : Bool} (hB : decide (xs = ys) = b) :
    Calls Try.prog 14 #[v, u] w fun e w' => e = .returned (.bool b) ∧ Below w.heap.size w w' :=
  hB ▸ (sameItems_any hx hy).mono fun _ _ ⟨he, q, hq⟩ => ⟨he, hq ▸ (Below.refl _ w).onD q⟩

/-- One put more. -/
theorem fold_put {xs l : List It} (hv : Val xs) (hs : Srt xs) (hl : Val l) {m : Nat} (hm : m < l.length) (hfit : xs.length + l.length ≤ 16) :
    putL (fold xs (l.take m)) l[m] = fold xs (l.take (m + 1)) ∧ putE (fold xs (l.take m)) l[m] = 0 := by
  have hvt : Val (l.take m) := fun x hx => hl x (List.mem_of_mem_take hx)
  have hn := take_next hm
  have e : fold xs (l.take (m + 1)) = ins (fold xs (l.take m)) l[m] := by rw [hn, fold_snoc]
  have h1 := fold_len (l.take m) xs
  have h2 := fold_len (l.take (m + 1)) xs
  simp only [List.length_take] at h1 h2
  have := put_ok (stB_iff.2 ⟨fold_val hv hvt, fold_srt hs, by omega⟩) (hl _ (List.getElem_mem hm)) (by rw [← e]; omega)
  rw [e]
  exact ⟨this.1, this.2.1⟩

theorem rot_at {l : List It} {r m : Nat} (hr : r < l.length) (hm : m < l.length) (h1 : m < (l.drop r ++ l.take r).length) (h2 : (m + r) % l.length < l.length) : (l.drop r ++ l.take r)[m] = l[(m + r) % l.length] := by
  by_cases h : m < l.length - r
  · rw [List.getElem_append_left (by simp; omega)]
    have e : (m + r) % l.length = r + m := by rw [Nat.mod_eq_of_lt (by omega), Nat.add_comm]
    simp [e]
  · rw [List.getElem_append_right (by simp; omega)]
    have e : (m + r) % l.length = m - (l.length - r) := by
      rw [Nat.mod_eq_sub_mod (by omega), Nat.mod_eq_of_lt (by omega)]
      omega
    simp [e]
theorem rem_u64 (a : Int) (N r : Nat) (h : r = (a % 18446744073709551616).toNat % N) : (IntKind.u64.wrap a).tmod (N : Int) = (r : Int) := by
  have e : IntKind.u64.wrap a = a % 18446744073709551616 := by simp [IntKind.wrap, IntKind.bits, IntKind.signed]
  obtain ⟨X, hX⟩ : ∃ X : Nat, a % 18446744073709551616 = (X : Int) := ⟨(a % 18446744073709551616).toNat, by omega⟩
  rw [e, h, hX, Int.tmod_eq_emod_of_nonneg (by omega)]
  simp
theorem u64_nonneg (a : Int) : 0 ≤ IntKind.u64.wrap a := by
  have e : IntKind.u64.wrap a = a % 18446744073709551616 := by simp [IntKind.wrap, IntKind.bits, IntKind.signed]
  rw [e]
  omega
theorem rem_add (m r N : Nat) : ((m : Int) + (r : Int)).tmod (N : Int) = (((m + r) % N : Nat) : Int) := by
  rw [Int.tmod_eq_emod_of_nonneg (by omega)]
  simp
theorem w64_in (n : Int) (h : 0 ≤ n ∧ n ≤ 9223372036854775807) : wrap64 n = n := by unfold wrap64; omega
theorem best_e1 {xs l : List It} {N m : Nat} (d : It) (hl : l = xs.take N) (h : m < l.length) : xs.getD m d = l[m] := by
  subst hl
  have h' : m < xs.length := by simp at h; omega
  rw [getD_at _ _ h', List.getElem_take]
theorem best_e2 {xs l q : List It} {N m r t : Nat} (d : It) (hl : l = xs.take N) (hn : l.length = N) (hq : q = l.drop r ++ l.take r) (hr : r < N) (hm : m < N) (ht : t = (m + r) % N) (h : m < q.length) : xs.getD t d = q[m] := by
  subst hq
  have h2 : (m + r) % l.length < l.length := Nat.mod_lt _ (by omega)
  rw [rot_at (by omega) (by omega) h h2]
  have h3 := best_e1 d hl h2
  rw [← h3, ht, hn]
/-- One put more into what was empty. -/
theorem put_next {l : List It} {m : Nat} (hv : Val (l.take m)) (hm : m < l.length) (h16 : l.length ≤ 16) :
    (itB l[m] = true → putL (fold [] (l.take m)) l[m] = fold [] (l.take (m + 1)) ∧ putE (fold [] (l.take m)) l[m] = 0 ∧ Val (l.take (m + 1))) ∧
    (itB l[m] = false → putL (fold [] (l.take m)) l[m] = [] ∧ putE (fold [] (l.take m)) l[m] = 500) := by
  have hn := take_next hm
  have e : fold [] (l.take (m + 1)) = ins (fold [] (l.take m)) l[m] := by rw [hn, fold_snoc]
  have h1 := fold_len (l.take m) []
  have h2 := fold_len (l.take (m + 1)) []
  simp only [List.length_take, List.length_nil] at h1 h2
  refine ⟨fun hi => ?_, fun hi => put_form (Or.inr hi)⟩
  have hs : stB (fold [] (l.take m)) = true := stB_iff.2 ⟨fold_val (fun x hx => by cases hx) hv, fold_srt List.Pairwise.nil, by omega⟩
  have := put_ok hs hi (by rw [← e]; omega)
  rw [e]
  refine ⟨this.1, this.2.1, fun x hx => ?_⟩
  rw [hn] at hx
  rcases List.mem_append.1 hx with hx | hx
  · exact hv x hx
  · rw [List.mem_singleton.1 hx]; exact hi
theorem fold_rot {l : List It} (r : Nat) (hv : Val l) : fold [] l = fold [] (l.drop r ++ l.take r) := by
  have h0 : Srt ([] : List It) := List.Pairwise.nil
  have v0 : Val ([] : List It) := fun x hx => by cases hx
  have e := List.take_append_drop r l
  have vt : Val (l.take r) := fun x hx => hv x (List.mem_of_mem_take hx)
  have vd : Val (l.drop r) := fun x hx => hv x (List.mem_of_mem_drop hx)
  have := fold_comm (l := l.take r) (m := l.drop r) h0 v0 vt vd
  rw [← fold_app, ← fold_app, e] at this
  exact this

theorem and15 (n : Int) : bits .and .i64 n 15 = n % 16 := by
  have h1 : (BitVec.ofInt 64 15).toNat = 2 ^ 4 - 1 := by decide
  have key : (BitVec.ofInt 64 n &&& BitVec.ofInt 64 15).toNat = (n % ((2 ^ 64 : Nat) : Int)).toNat % 2 ^ 4 := by
    rw [BitVec.toNat_and, BitVec.toNat_ofInt, h1, Nat.and_two_pow_sub_one_eq_mod]
  show IntKind.i64.wrap ((BitVec.ofInt 64 n &&& BitVec.ofInt 64 15).toNat : Nat) = n % 16
  rw [key, IntKind.wrap_i64]
  omega
/-- A full store: sixteen items, each third key. -/
def fullI (i : Nat) : It := ⟨3 * (i : Int), 1, 1, 1, false⟩
def fullL (m : Nat) : List It := (List.range m).map fullI
theorem fullL_next (m : Nat) : fullL (m + 1) = fullL m ++ ([⟨3 * (m : Int), 1, 1, 1, false⟩] : List It) := by simp [fullL, fullI, List.range_succ]
theorem fullL_len (m : Nat) : (fullL m).length = m := by simp [fullL]
theorem full_1 : ∀ q : Nat, q < 16 → putL (fullL 16) ⟨1 + 3 * (q : Int), 1, 1, 1, false⟩ = [] ∧ putE (fullL 16) ⟨1 + 3 * (q : Int), 1, 1, 1, false⟩ = 501 := by decide +kernel
theorem full_2 : ∀ q : Nat, q < 16 → (putL (fullL 16) ⟨3 * (q : Int), 9, 1, 9, false⟩).length = 16 ∧ putE (fullL 16) ⟨3 * (q : Int), 9, 1, 9, false⟩ = 0 := by decide +kernel
theorem more_no : putL (fullL 16 ++ ([⟨200, 1, 1, 1, false⟩] : List It)) ⟨0, 2, 1, 2, false⟩ = [] ∧ putE (fullL 16 ++ ([⟨200, 1, 1, 1, false⟩] : List It)) ⟨0, 2, 1, 2, false⟩ = 500 := by decide +kernel
theorem full_no : putL (fullL 16) ⟨0, 0, 1, 0, false⟩ = [] ∧ putE (fullL 16) ⟨0, 0, 1, 0, false⟩ = 500 := by decide +kernel
theorem bad_key (x : Int) (h : 0 ≤ x) : stB [⟨255 + (1 + x), 1, 0, 0, false⟩] = false := by
  have : itB ⟨255 + (1 + x), 1, 0, 0, false⟩ = false := by simp [itB, byB]; omega
  simp [stB, this]

def itOf (k c : Int) : It := ⟨k, c, 1, c % 256, false⟩
theorem it_any (k c : Int) (w : World) :
    Calls Try.prog 21 #[.int .i64 k, .int .i64 c] w fun e w' => e = .returned (.agg #[.int .i64 k, .int .i64 c, .int .i64 1, .int .i64 (c % 256), .bool false]) ∧ Below w.heap.size w w' := by
  have e := and255 c
  go_enter Try.func21, Try.ntmps21
  go_wp2
  exact bodyPost_ret (v := .agg #[.int .i64 k, .int .i64 c, .int .i64 1, .int .i64 (c % 256), .bool false]) (by simp [results, Try.results21, go_sem]) rfl ⟨rfl, (Below.refl _ w).onA _⟩

set_option maxHeartbeats 4000000 in
theorem awake5_any (w : World) :
    Calls Try.prog 20 #[] w fun e w' => e = .returned (.bool true) ∧ Below w.heap.size w w' := by
  have i1 := trivial
  have i2 := trivial
  have i3 := trivial
  have i4 := trivial
  have i5 := trivial
  have i6 := trivial
  have i7 := trivial
  have p1 := trivial
  have p2 := trivial
  have g1 := trivial
  go_enter Try.func20, Try.ntmps20
  go_wp2_with (first
    | (go_at_call 21; clear i1; refine (it_any _ _ _).mono ?_; rintro e wa ⟨rfl, ha⟩)
    | (go_at_call 21; clear i2; refine (it_any _ _ _).mono ?_; rintro e wb ⟨rfl, hb⟩)
    | (go_at_call 21; clear i3; refine (it_any _ _ _).mono ?_; rintro e wc ⟨rfl, hc⟩; have bS := (Box.new wb _ _).below hc)
    | (go_at_call 10; clear p1; refine (sPut_at (xs := [⟨3, 2, 1, 2, false⟩, ⟨9, 1, 1, 1, false⟩]) (ys := [⟨3, 2, 1, 2, false⟩, ⟨5, 1, 1, 1, false⟩, ⟨9, 1, 1, 1, false⟩]) (err := 0) (bS.rowT _ rfl rfl (by decide)) bS.1 (by decide) _ _ _ _ _ (by decide +kernel) (by decide +kernel)).mono ?_; rintro e w1 ⟨o1, rfl, r1, h1⟩)
    | (go_at_call 21; clear i4; refine (it_any _ _ _).mono ?_; rintro e wd ⟨rfl, hd⟩; have r1d := r1.below hd (Nat.le_refl _))
    | (go_at_call 10; clear p2; refine (sPut_at (ys := [⟨3, 2, 1, 2, false⟩, ⟨5, 1, 1, 1, false⟩, ⟨9, 1, 1, 1, false⟩]) (err := 0) r1d hd.size (by decide) _ _ _ _ _ (by decide +kernel) (by decide +kernel)).mono ?_; rintro e w2 ⟨o2, rfl, r2, h2⟩; have r12 := r1d.below h2 hd.size)
    | (go_at_call 12; clear g1; refine (sGet_at r12 (Nat.le_trans hd.size h2.size) (by decide) _ (zk := 9) (zc := 1) (zu := 1) (zx := 1) (zg := false) (b := true) (by decide +kernel) (by decide +kernel)).mono ?_; rintro e w3 ⟨rfl, h3⟩
       have r13 := (r12.below h3 (Nat.le_trans hd.size h2.size)).alloc (.cells #[.int .i64 9, .int .i64 1, .int .i64 1, .int .i64 1, .bool false] 26) ItV_len
       have r23 := (r2.below h3 (Nat.le_refl _)).alloc (.cells #[.int .i64 9, .int .i64 1, .int .i64 1, .int .i64 1, .bool false] 26) ItV_len
       have z1 : w1.heap.size ≤ (w3.alloc (.cells #[.int .i64 9, .int .i64 1, .int .i64 1, .int .i64 1, .bool false] 26)).heap.size := by have := hd.size; have := h2.size; have := h3.size; simp; omega
       have z2 : w2.heap.size ≤ (w3.alloc (.cells #[.int .i64 9, .int .i64 1, .int .i64 1, .int .i64 1, .bool false] 26)).heap.size := by have := h3.size; simp; omega)
    | (go_at_call 12; refine (sGet_at r13 z1 (by decide) _ (zk := 0) (zc := 0) (zu := 0) (zx := 0) (zg := false) (b := false) (by decide +kernel) (by decide +kernel)).mono ?_; rintro e w4 ⟨rfl, h4⟩
       have r14 := r13.below h4 z1
       have r24 := r23.below h4 z2
       have bx4 := (Box.new w3 _ _).below h4
       have hch := (Below.refl w4.heap.size w4).onA (.cells #[.int .i64 0, .int .i64 0, .int .i64 0, .int .i64 0, .bool false] 26))
    | (go_at_call 21; clear i5; refine (it_any _ _ _).mono ?_; rintro e we ⟨rfl, he⟩; replace hch := hch.on he)
    | (go_at_call 21; clear i6; refine (it_any _ _ _).mono ?_; rintro e wf ⟨rfl, hf⟩; replace hch := hch.on hf)
    | (go_at_call 21; clear i7; refine (it_any _ _ _).mono ?_; rintro e wg ⟨rfl, hg⟩; have bS := (Box.new wf _ _).below hg; replace hch := (hch.onA _).on hg)
    | (go_at_call 10; refine (sPut_at (xs := [⟨9, 1, 1, 1, false⟩, ⟨3, 2, 1, 2, false⟩]) (ys := []) (err := 500) (bS.rowT _ rfl rfl (by decide)) bS.1 (by decide) _ _ _ _ _ (by decide +kernel) (by decide +kernel)).mono ?_; rintro e w5 ⟨o5, rfl, r5, h5⟩; replace hch := hch.on h5))
  have y1 := Nat.le_trans z1 h4.size
  have y2 := Nat.le_trans z2 h4.size
  have R1 := r14.below hch y1
  have R2 := r24.below hch y2
  have bx := bx4.below hch
  have u1 := Nat.le_trans y1 hch.size
  have u2 := Nat.le_trans y2 hch.size
  have hB : Below w.heap.size w w5 := (((((((((ha.on hb).onA _).on hc).on h1).on hd).on h2).on h3).onA _).on h4).on hch
  clear ha hb hc h1 hd h2 h3 h4 he hf hg h5 hch r14 r24 r13 r23 r12 r1d r1 r2 r5 bx4 y1 y2 z1 z2
  have hk := Below.refl w5.heap.size w5
  have q1 := trivial
  have s0 := bx.2.1 0
  have s1 := bx.2.1 1
  have s2 := bx.2.1 2
  have s3 := bx.2.1 3
  have s4 := bx.2.1 4
  simp at s0 s1 s2 s3 s4
  go_region_held3 (fun w' => w'.cell? ⟨w3.heap.size, 0, none⟩ = some (.int .i64 9) ∧ w'.cell? ⟨w3.heap.size, 1, none⟩ = some (.int .i64 1) ∧ w'.cell? ⟨w3.heap.size, 2, none⟩ = some (.int .i64 1) ∧ w'.cell? ⟨w3.heap.size, 3, none⟩ = some (.int .i64 1) ∧ w'.cell? ⟨w3.heap.size, 4, none⟩ = some (.bool false)) (go_keep) (first
    | (go_at_call 21; refine (it_any _ _ _).mono ?_; rintro e wn ⟨rfl, hbn⟩
       replace hk : Below w5.heap.size w5 wn := (by first | exact hk.on hbn | exact (hk.onD _).on hbn)
       clear s0 s1 s2 s3 s4
       have bn := bx.below hk
       have s0 := bn.2.1 0
       have s1 := bn.2.1 1
       have s2 := bn.2.1 2
       have s3 := bn.2.1 3
       have s4 := bn.2.1 4
       clear bn
       simp at s0 s1 s2 s3 s4)
    | (go_at_call 14; clear q1; refine (same_at (R1.below (hk.onA _) u1) (Box.rowT [⟨3, 2, 1, 2, false⟩, ⟨5, 1, 1, 1, false⟩, ⟨9, 1, 1, 1, false⟩] (Box.new wn _ _) rfl rfl (by decide)) (b := true) (by decide +kernel)).mono ?_; rintro e wm ⟨rfl, hbm⟩
       replace hk : Below w5.heap.size w5 wm := (hk.onA _).on hbm
       clear s0 s1 s2 s3 s4
       have bn := bx.below hk
       have s0 := bn.2.1 0
       have s1 := bn.2.1 1
       have s2 := bn.2.1 2
       have s3 := bn.2.1 3
       have s4 := bn.2.1 4
       clear bn
       simp at s0 s1 s2 s3 s4)
    | (go_at_call 14; refine (same_at (R2.below hk u2) (R1.below hk u1) (b := true) (by decide +kernel)).mono ?_; rintro e wm ⟨rfl, hbm⟩
       replace hk : Below w5.heap.size w5 wm := hk.on hbm
       clear s0 s1 s2 s3 s4
       have bn := bx.below hk
       have s0 := bn.2.1 0
       have s1 := bn.2.1 1
       have s2 := bn.2.1 2
       have s3 := bn.2.1 3
       have s4 := bn.2.1 4
       clear bn
       simp at s0 s1 s2 s3 s4)
    | (go_at_call 15; refine (num_any _ _).mono ?_; rintro e w' ⟨rfl, rfl⟩)
    | (go_at_call 16; refine (sMay_at (R1.below hk u1) (Nat.le_trans u1 hk.size) (by decide) (b := true) (by decide +kernel)).mono ?_; rintro e wm ⟨rfl, hbm⟩
       replace hk : Below w5.heap.size w5 wm := hk.on hbm
       clear s0 s1 s2 s3 s4
       have bn := bx.below hk
       have s0 := bn.2.1 0
       have s1 := bn.2.1 1
       have s2 := bn.2.1 2
       have s3 := bn.2.1 3
       have s4 := bn.2.1 4
       clear bn
       simp at s0 s1 s2 s3 s4))
  all_goals go_wp2
  go_ret
  exact ⟨rfl, hB.on hk⟩

end Go.Proofs.Ytmbommkehchchaa
