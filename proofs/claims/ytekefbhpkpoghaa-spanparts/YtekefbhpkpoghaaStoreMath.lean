
/-
  Stores as plain lists: items rising by key; putting, looking up; what does not hang on the row in which items are put.
-/
import Derived.Test.YtekefbhpkpoghaaItemMath
namespace Go.Proofs.Ytekefbhpkpoghaa

abbrev Srt (xs : List It) : Prop := xs.Pairwise (fun a b => a.k < b.k)
abbrev Val (xs : List It) : Prop := ∀ x ∈ xs, itB x = true
def stB (xs : List It) : Bool := decide (Val xs ∧ Srt xs ∧ xs.length ≤ 16)

def look : List It → Int → Option It
  | [], _ => none
  | a :: r, k => if a.k = k then some a else look r k
def ins : List It → It → List It
  | [], x => [x]
  | a :: r, x => if x.k < a.k then x :: a :: r else if a.k = x.k then mx a x :: r else a :: ins r x
def fold (xs : List It) (l : List It) : List It := l.foldl ins xs

def zeroI : It := ⟨0, 0, 0, 0, false⟩
def putOk (xs : List It) (x : It) : Bool := stB xs && itB x
def putL (xs : List It) (x : It) : List It := if putOk xs x = true then (if (ins xs x).length ≤ 16 then ins xs x else []) else []
def putE (xs : List It) (x : It) : Int := if putOk xs x = true then (if (ins xs x).length ≤ 16 then 0 else 501) else 500
def getB (xs : List It) (k : Int) : Bool := stB xs && (look xs k).isSome
def getI (xs : List It) (k : Int) : It := if stB xs = true then (look xs k).getD zeroI else zeroI

/-! ### Looking up -/
theorem look_mem : ∀ {xs : List It} {k : Int} {a : It}, look xs k = some a → a ∈ xs ∧ a.k = k
  | b :: r, k, a, h => by
    simp only [look] at h
    split at h
    · cases h; exact ⟨List.mem_cons_self, by assumption⟩
    · have := look_mem h
      exact ⟨List.mem_cons_of_mem _ this.1, this.2⟩
theorem look_none : ∀ {xs : List It} {k : Int}, (∀ a ∈ xs, a.k ≠ k) → look xs k = none
  | [], _, _ => rfl
  | b :: r, k, h => by
    simp only [look]
    rw [if_neg (h b List.mem_cons_self)]
    exact look_none fun a ha => h a (List.mem_cons_of_mem _ ha)
theorem look_of_mem : ∀ {xs : List It} {a : It}, Srt xs → a ∈ xs → look xs a.k = some a
  | b :: r, a, hs, h => by
    have hs := List.pairwise_cons.1 hs
    simp only [look]
    rcases List.mem_cons.1 h with rfl | h
    · rw [if_pos rfl]
    · have := hs.1 a h
      rw [if_neg (by omega)]
      exact look_of_mem hs.2 h

theorem store_ext : ∀ {xs ys : List It}, Srt xs → Srt ys → (∀ k, look xs k = look ys k) → xs = ys
  | [], [], _, _, _ => rfl
  | [], b :: s, _, _, h => by have := h b.k; simp [look] at this
  | a :: r, [], _, _, h => by have := h a.k; simp [look] at this
  | a :: r, b :: s, hx, hy, h => by
    have hx' := List.pairwise_cons.1 hx
    have hy' := List.pairwise_cons.1 hy
    have ha := h a.k
    have hb := h b.k
    simp only [look, if_true] at ha hb
    have hk : a.k = b.k := by
      by_cases h1 : b.k = a.k
      · exact h1.symm
      · rw [if_neg h1] at ha
        rw [if_neg (fun e => h1 e.symm)] at hb
        have m1 := look_mem ha.symm
        have m2 := look_mem hb
        have := hy'.1 a m1.1
        have := hx'.1 b m2.1
        omega
    rw [if_pos hk.symm] at ha
    cases ha
    congr 1
    refine store_ext hx'.2 hy'.2 fun k => ?_
    by_cases hka : a.k = k
    · rw [look_none (fun c hc => by have := hx'.1 c hc; omega), look_none (fun c hc => by have := hy'.1 c hc; omega)]
    · have := h k
      simpa only [look, if_neg hka] using this

/-! ### Putting -/
theorem mx_key {a x : It} (h : a.k = x.k) : (mx a x).k = x.k := mx_k h
theorem ins_key : ∀ {xs : List It} {x y : It}, y ∈ ins xs x → y.k = x.k ∨ ∃ a ∈ xs, a.k = y.k
  | [], x, y, h => by simp [ins] at h; exact .inl (by rw [h])
  | a :: r, x, y, h => by
    simp only [ins] at h
    split at h
    · rcases List.mem_cons.1 h with rfl | h
      · exact .inl rfl
      · exact .inr ⟨y, h, rfl⟩
    · split at h
      · rcases List.mem_cons.1 h with rfl | h
        · exact .inl (mx_key (by assumption))
        · exact .inr ⟨y, List.mem_cons_of_mem _ h, rfl⟩
      · rcases List.mem_cons.1 h with rfl | h
        · exact .inr ⟨y, List.mem_cons_self, rfl⟩
        · rcases ins_key h with h | ⟨b, hb, e⟩
          · exact .inl h
          · exact .inr ⟨b, List.mem_cons_of_mem _ hb, e⟩
theorem ins_srt : ∀ {xs : List It} {x : It}, Srt xs → Srt (ins xs x)
  | [], x, _ => by simp [ins, Srt]
  | a :: r, x, h => by
    have h' := List.pairwise_cons.1 h
    simp only [ins]
    split
    · refine List.pairwise_cons.2 ⟨fun b hb => ?_, h⟩
      rcases List.mem_cons.1 hb with rfl | hb
      · assumption
      · have := h'.1 b hb; omega
    · split
      · rename_i h1 h2
        exact List.pairwise_cons.2 ⟨fun b hb => by rw [mx_key h2, ← h2]; exact h'.1 b hb, h'.2⟩
      · rename_i h1 h2
        refine List.pairwise_cons.2 ⟨fun b hb => ?_, ins_srt h'.2⟩
        rcases ins_key hb with e | ⟨c, hc, e⟩
        · omega
        · have := h'.1 c hc; omega
theorem ins_val : ∀ {xs : List It} {x : It}, Val xs → itB x = true → Val (ins xs x)
  | [], x, _, hx => by intro y hy; simp [ins] at hy; rw [hy]; exact hx
  | a :: r, x, h, hx => by
    have ha := h a List.mem_cons_self
    have hr : Val r := fun y hy => h y (List.mem_cons_of_mem _ hy)
    simp only [ins]
    intro y hy
    split at hy
    · rcases List.mem_cons.1 hy with rfl | hy
      · exact hx
      · exact h y hy
    · split at hy
      · rcases List.mem_cons.1 hy with rfl | hy
        · exact mx_itB ha hx
        · exact hr y hy
      · rcases List.mem_cons.1 hy with rfl | hy
        · exact ha
        · exact ins_val hr hx y hy
theorem ins_len : ∀ (xs : List It) (x : It), (ins xs x).length ≤ xs.length + 1
  | [], x => by simp [ins]
  | a :: r, x => by
    simp only [ins]
    split
    · simp
    · split
      · simp
      · have := ins_len r x
        simp
        omega
theorem ins_len_ge : ∀ (xs : List It) (x : It), xs.length ≤ (ins xs x).length
  | [], x => by simp
  | a :: r, x => by
    simp only [ins]
    split
    · simp
    · split
      · simp
      · have := ins_len_ge r x
        simpa using this
/-- What a store holds of a key once an item was put. -/
def put1 (o : Option It) (x : It) : It := match o with
  | none => x
  | some a => mx a x
theorem look_ins : ∀ {xs : List It} {x : It} (k : Int), Srt xs → look (ins xs x) k = if x.k = k then some (put1 (look xs k) x) else look xs k
  | [], x, k, _ => by simp only [ins, look]; rfl
  | a :: r, x, k, h => by
    have h' := List.pairwise_cons.1 h
    simp only [ins]
    split
    · rename_i h1
      simp only [look]
      by_cases e : x.k = k
      · rw [if_pos e, if_pos e, if_neg (by omega), look_none (fun b hb => by have := h'.1 b hb; omega)]
        rfl
      · rw [if_neg e, if_neg e]
    · split
      · rename_i h1 h2
        simp only [look]
        rw [mx_key h2]
        by_cases e : x.k = k
        · rw [if_pos e, if_pos e, if_pos (h2.trans e)]
          rfl
        · rw [if_neg e, if_neg e, if_neg (fun e' => e (h2.symm.trans e'))]
      · rename_i h1 h2
        simp only [look]
        by_cases e : a.k = k
        · rw [if_pos e, if_neg (by omega), if_pos e]
        · rw [if_neg e, look_ins k h'.2, if_neg e]

theorem ins_len_in : ∀ {xs : List It} {x : It}, Srt xs → (look xs x.k).isSome = true → (ins xs x).length = xs.length
  | a :: r, x, h, hl => by
    have h' := List.pairwise_cons.1 h
    simp only [ins]
    split
    · rename_i h1
      rw [look_none (fun b hb => by rcases List.mem_cons.1 hb with rfl | hb; omega; have := h'.1 b hb; omega)] at hl
      cases hl
    · split
      · simp
      · rename_i h1 h2
        simp only [look, if_neg h2] at hl
        simpa using ins_len_in h'.2 hl
  | [], x, _, hl => by simp [look] at hl
theorem look_val {xs : List It} {k : Int} {a : It} (h : Val xs) (hl : look xs k = some a) : itB a = true ∧ a.k = k :=
  ⟨h a (look_mem hl).1, (look_mem hl).2⟩

/-- Two puts, in whatever row. -/
theorem ins_comm {xs : List It} {x y : It} (hs : Srt xs) (hv : Val xs) (hx : itB x = true) (hy : itB y = true) : ins (ins xs x) y = ins (ins xs y) x := by
  refine store_ext (ins_srt (ins_srt hs)) (ins_srt (ins_srt hs)) fun k => ?_
  rw [look_ins k (ins_srt hs), look_ins k hs, look_ins k (ins_srt hs), look_ins k hs]
  by_cases e1 : x.k = k
  · by_cases e2 : y.k = k
    · simp only [e1, e2, if_true]
      congr 1
      cases hl : look xs k with
      | none => exact mx_comm hx hy (e1.trans e2.symm)
      | some a =>
        obtain ⟨ha, hk⟩ := look_val hv hl
        show mx (mx a x) y = mx (mx a y) x
        rw [mx_assoc ha hx hy, mx_assoc ha hy hx, mx_comm hx hy (e1.trans e2.symm)]
    · simp only [if_pos e1, if_neg e2]
  · by_cases e2 : y.k = k
    · simp only [if_neg e1, if_pos e2]
    · simp only [if_neg e1, if_neg e2]

/-- An item that a store holds, or a worse one, is put in vain. -/
theorem ins_same {xs : List It} {x : It} (hs : Srt xs) (h : ∃ a, look xs x.k = some a ∧ mx a x = a) : ins xs x = xs := by
  obtain ⟨a, ha, hm⟩ := h
  refine store_ext (ins_srt hs) hs fun k => ?_
  rw [look_ins k hs]
  by_cases e : x.k = k
  · subst e
    rw [if_pos rfl, ha]
    show some (mx a x) = some a
    rw [hm]
  · rw [if_neg e]
theorem mx_left {a x : It} (ha : itB a = true) (hx : itB x = true) : mx (mx a x) x = mx a x := by
  rw [mx_assoc ha hx hx, mx_self]
theorem ins_twice {xs : List It} {x : It} (hs : Srt xs) (hv : Val xs) (hx : itB x = true) : ins (ins xs x) x = ins xs x := by
  refine ins_same (ins_srt hs) ?_
  rw [look_ins _ hs, if_pos rfl]
  refine ⟨_, rfl, ?_⟩
  cases hl : look xs x.k with
  | none => exact mx_self
  | some a => exact mx_left (look_val hv hl).1 hx
/-- What a store held is put into the greater one in vain. -/
theorem ins_held {xs : List It} {x y : It} (hs : Srt xs) (hv : Val xs) (hx : itB x = true) (hy : y ∈ xs) : ins (ins xs x) y = ins xs x := by
  refine ins_same (ins_srt hs) ?_
  rw [look_ins _ hs]
  have hl := look_of_mem hs hy
  have hyv := hv y hy
  by_cases e : x.k = y.k
  · rw [if_pos e, hl]
    refine ⟨_, rfl, ?_⟩
    show mx (mx y x) y = mx y x
    rw [mx_comm hyv hx e.symm, mx_assoc hx hyv hyv, mx_self]
  · rw [if_neg e, hl]
    exact ⟨_, rfl, mx_self⟩

/-! ### Many puts -/
theorem fold_srt : ∀ {l xs : List It}, Srt xs → Srt (fold xs l)
  | [], _, h => h
  | _ :: l, _, h => fold_srt (l := l) (ins_srt h)
theorem fold_val : ∀ {l xs : List It}, Val xs → Val l → Val (fold xs l)
  | [], _, h, _ => h
  | a :: l, _, h, hl => fold_val (l := l) (ins_val h (hl a List.mem_cons_self)) (fun x hx => hl x (List.mem_cons_of_mem _ hx))
theorem fold_len : ∀ (l xs : List It), (fold xs l).length ≤ xs.length + l.length
  | [], _ => by simp [fold]
  | a :: l, xs => by
    have h1 := fold_len l (ins xs a)
    have h2 := ins_len xs a
    simp only [fold, List.foldl_cons, List.length_cons] at h1 ⊢
    omega
theorem fold_snoc (xs l : List It) (a : It) : fold xs (l ++ [a]) = ins (fold xs l) a := by simp [fold]
theorem fold_app (xs l m : List It) : fold xs (l ++ m) = fold (fold xs l) m := by simp [fold]
theorem fold_ins : ∀ {l xs : List It} {a : It}, Srt xs → Val xs → Val l → itB a = true → fold (ins xs a) l = ins (fold xs l) a
  | [], _, _, _, _, _, _ => rfl
  | b :: l, xs, a, hs, hv, hl, ha => by
    have hb := hl b List.mem_cons_self
    have hl' : Val l := fun x hx => hl x (List.mem_cons_of_mem _ hx)
    show fold (ins (ins xs a) b) l = ins (fold (ins xs b) l) a
    rw [ins_comm hs hv ha hb]
    exact fold_ins (ins_srt hs) (ins_val hv hb) hl' ha
/-- Two rows of puts, in whatever row. -/
theorem fold_comm : ∀ {l m xs : List It}, Srt xs → Val xs → Val l → Val m → fold (fold xs l) m = fold (fold xs m) l
  | [], _, _, _, _, _, _ => rfl
  | a :: l, m, xs, hs, hv, hl, hm => by
    have ha := hl a List.mem_cons_self
    have hl' : Val l := fun x hx => hl x (List.mem_cons_of_mem _ hx)
    show fold (fold (ins xs a) l) m = fold (ins (fold xs m) a) l
    rw [fold_comm (ins_srt hs) (ins_val hv ha) hl' hm, fold_ins hs hv hm ha]
/-- A store put into the empty one is it. -/
theorem fold_self : ∀ {l xs : List It}, Srt (xs ++ l) → fold xs l = xs ++ l
  | [], xs, _ => by simp [fold]
  | a :: l, xs, h => by
    have h1 : ins xs a = xs ++ [a] := by
      have h2 := (List.pairwise_append.1 h).2.2
      clear h
      induction xs with
      | nil => rfl
      | cons b r ih =>
        have hb := h2 b List.mem_cons_self a List.mem_cons_self
        show (if a.k < b.k then _ else if b.k = a.k then _ else _) = _
        rw [if_neg (by omega), if_neg (by omega), ih (fun x hx => h2 x (List.mem_cons_of_mem _ hx))]
        rfl
    show fold (ins xs a) l = _
    rw [h1, fold_self (by simpa using h)]
    simp
/-- Two stores put into each other are the same. -/
theorem fold_merge {xs ys : List It} (hx : Srt xs) (hy : Srt ys) (vx : Val xs) (vy : Val ys) : fold xs ys = fold ys xs := by
  have h1 : fold [] xs = xs := by simpa using fold_self (xs := []) (l := xs) (by simpa using hx)
  have h2 : fold [] ys = ys := by simpa using fold_self (xs := []) (l := ys) (by simpa using hy)
  have h3 := fold_comm (xs := []) (l := xs) (m := ys) List.Pairwise.nil (fun x hx => by cases hx) vx vy
  rwa [h1, h2] at h3

theorem stB_iff {xs : List It} : stB xs = true ↔ Val xs ∧ Srt xs ∧ xs.length ≤ 16 := by simp [stB]
theorem put_ok {xs : List It} {x : It} (h1 : stB xs = true) (h2 : itB x = true) (h3 : (ins xs x).length ≤ 16) : putL xs x = ins xs x ∧ putE xs x = 0 ∧ stB (ins xs x) = true := by
  obtain ⟨a, b, c⟩ := stB_iff.1 h1
  exact ⟨by simp [putL, putOk, h1, h2, h3], by simp [putE, putOk, h1, h2, h3], stB_iff.2 ⟨ins_val a h2, ins_srt b, h3⟩⟩
theorem put_full {xs : List It} {x : It} (h1 : stB xs = true) (h2 : itB x = true) (h3 : ¬ (ins xs x).length ≤ 16) : putL xs x = [] ∧ putE xs x = 501 := by
  exact ⟨by simp [putL, putOk, h1, h2, h3], by simp [putE, putOk, h1, h2, h3]⟩
theorem put_form {xs : List It} {x : It} (h : stB xs = false ∨ itB x = false) : putL xs x = [] ∧ putE xs x = 500 := by
  rcases h with h | h <;> exact ⟨by simp [putL, putOk, h], by simp [putE, putOk, h]⟩
theorem putE_zero {xs : List It} {x : It} (h : putE xs x = 0) : stB xs = true ∧ itB x = true ∧ (ins xs x).length ≤ 16 := by
  unfold putE putOk at h
  split at h
  · rename_i h1
    rw [Bool.and_eq_true] at h1
    split at h
    · exact ⟨h1.1, h1.2, by assumption⟩
    · omega
  · omega
theorem putE_nz {xs : List It} {x : It} (h : ¬ putE xs x = 0) : putL xs x = [] := by
  unfold putE at h
  unfold putL
  split at h
  · rename_i h1
    rw [if_pos h1]
    split at h
    · exact absurd rfl h
    · rename_i h2
      rw [if_neg h2]
  · rename_i h1
    rw [if_neg h1]

/-! ### Putting, from the left -/
theorem ins_app : ∀ {l m : List It} {x : It}, (∀ a ∈ l, a.k < x.k) → ins (l ++ m) x = l ++ ins m x
  | [], _, _, _ => rfl
  | a :: l, m, x, h => by
    have ha := h a List.mem_cons_self
    show (if x.k < a.k then _ else if a.k = x.k then _ else a :: ins (l ++ m) x) = _
    rw [if_neg (by omega), if_neg (by omega), ins_app (fun b hb => h b (List.mem_cons_of_mem _ hb))]
    rfl
theorem ins_app_in : ∀ {l m : List It} {x : It}, (∃ b ∈ l, x.k ≤ b.k) → ins (l ++ m) x = ins l x ++ m
  | [], _, _, h => by obtain ⟨b, hb, _⟩ := h; cases hb
  | a :: l, m, x, h => by
    show (if x.k < a.k then _ else if a.k = x.k then _ else a :: ins (l ++ m) x) = (if x.k < a.k then _ else if a.k = x.k then _ else a :: ins l x) ++ m
    by_cases h1 : x.k < a.k
    · rw [if_pos h1, if_pos h1]; rfl
    · rw [if_neg h1, if_neg h1]
      by_cases h2 : a.k = x.k
      · rw [if_pos h2, if_pos h2]; rfl
      · rw [if_neg h2, if_neg h2]
        obtain ⟨b, hb, hk⟩ := h
        rw [ins_app_in ⟨b, (List.mem_cons.1 hb).resolve_left (by rintro rfl; omega), hk⟩]
        rfl
/-- What stands in the new row once the first k were looked at. -/
def PutRel (xs : List It) (x : It) (k : Nat) (out : List It) (inb : Bool) : Prop :=
  (inb = false ∧ out = xs.take k ∧ ∀ a ∈ xs.take k, a.k < x.k) ∨ (inb = true ∧ out = ins (xs.take k) x ∧ ∃ b ∈ xs.take k, x.k ≤ b.k)
theorem take_next {xs : List It} {k : Nat} (hk : k < xs.length) : xs.take (k + 1) = xs.take k ++ [xs[k]] := List.take_succ_eq_append_getElem hk
theorem PutRel.zero (xs : List It) (x : It) : PutRel xs x 0 [] false := .inl ⟨rfl, by simp, by simp⟩
theorem PutRel.gt {xs : List It} {x : It} {k : Nat} {out : List It} (h : PutRel xs x k out false) (hk : k < xs.length) (hg : x.k < xs[k].k) : PutRel xs x (k + 1) (out ++ [x] ++ [xs[k]]) true := by
  rcases h with ⟨_, rfl, h⟩ | ⟨h, _⟩
  · refine .inr ⟨rfl, ?_, xs[k], ?_, by omega⟩
    · rw [take_next hk, ins_app h]
      show _ = _ ++ (if x.k < xs[k].k then x :: [xs[k]] else _)
      rw [if_pos hg]
      simp
    · rw [take_next hk]; exact List.mem_append_right _ (List.mem_singleton.2 rfl)
  · cases h
theorem PutRel.eq {xs : List It} {x : It} {k : Nat} {out : List It} (h : PutRel xs x k out false) (hk : k < xs.length) (hg : xs[k].k = x.k) : PutRel xs x (k + 1) (out ++ [mx xs[k] x]) true := by
  rcases h with ⟨_, rfl, h⟩ | ⟨h, _⟩
  · refine .inr ⟨rfl, ?_, xs[k], ?_, by omega⟩
    · rw [take_next hk, ins_app h]
      show _ = _ ++ (if x.k < xs[k].k then _ else if xs[k].k = x.k then [mx xs[k] x] else _)
      rw [if_neg (by omega), if_pos hg]
    · rw [take_next hk]; exact List.mem_append_right _ (List.mem_singleton.2 rfl)
  · cases h
theorem PutRel.lt {xs : List It} {x : It} {k : Nat} {out : List It} (h : PutRel xs x k out false) (hk : k < xs.length) (hg : xs[k].k < x.k) : PutRel xs x (k + 1) (out ++ [xs[k]]) false := by
  rcases h with ⟨_, rfl, h⟩ | ⟨h, _⟩
  · refine .inl ⟨rfl, (take_next hk).symm, fun a ha => ?_⟩
    rw [take_next hk] at ha
    rcases List.mem_append.1 ha with ha | ha
    · exact h a ha
    · rw [List.mem_singleton.1 ha]; exact hg
  · cases h
theorem PutRel.in {xs : List It} {x : It} {k : Nat} {out : List It} (h : PutRel xs x k out true) (hs : Srt xs) (hk : k < xs.length) : PutRel xs x (k + 1) (out ++ [xs[k]]) true ∧ x.k < xs[k].k := by
  rcases h with ⟨h, _⟩ | ⟨_, rfl, b, hb, hbk⟩
  · cases h
  · have hlt : b.k < xs[k].k := by
      obtain ⟨j, hj, rfl⟩ := List.mem_iff_getElem.1 hb
      rw [List.getElem_take]
      have hjk : j < k := by simp at hj; omega
      exact List.pairwise_iff_getElem.1 hs _ _ _ _ hjk
    refine ⟨.inr ⟨rfl, ?_, b, ?_, hbk⟩, by omega⟩
    · rw [take_next hk, ins_app_in ⟨b, hb, hbk⟩]
    · rw [take_next hk]; exact List.mem_append_left _ hb
theorem PutRel.end {xs : List It} {x : It} {out : List It} {inb : Bool} (h : PutRel xs x xs.length out inb) : ins xs x = if inb = true then out else out ++ [x] := by
  rcases h with ⟨rfl, rfl, h⟩ | ⟨rfl, rfl, _⟩
  · rw [List.take_length] at h ⊢
    have := ins_app (m := []) h
    simpa [ins] using this
  · simp

end Go.Proofs.Ytekefbhpkpoghaa
