
/-
  A region that draws its order, whatever its operations do: what holds of every part of it that has come up (an invariant over what has come up, the frame and the world) holds behind it.
-/
import Derived.Test.YtgakfbdaiogflaaBase
import Derived.Orders
namespace Go.Proofs.Ytgakfbdaiogflaa
open Go.RowKit

/-- Q, but K where nothing has gone wrong. -/
def onN (K : Act → World → Prop) (Q : Exit → Act → World → Prop) : Exit → Act → World → Prop
  | .normal, a, w => K a w
  | e, a, w => Q e a w

theorem wp_onN {P : Program} {o : Oper} {K : Act → World → Prop} {Q : Exit → Act → World → Prop} {a : Act} {w : World} (h : o.wp P a w K (onN K Q)) : o.wp P a w K Q := by
  unfold Oper.wp at *
  generalize (execOp a.eval o).run P w = r at *
  cases r with
  | ok n w' =>
    cases n <;> simp only [Oper.upon] at h ⊢ <;>
      first
        | exact h
        | exact Calls.mono h (fun e w'' he => by cases e <;> exact he)
  | halt x w' => cases x <;> simp only [Oper.upon] at h ⊢ <;> exact h

theorem wpOp_onN {P : Program} {ops : Array Oper} {i : Nat} {o : Oper} {K : Act → World → Prop} {Q : Exit → Act → World → Prop} {a : Act} {w : World} (ho : ops[i]? = some o)
    (h : wpList P ops (onN K Q) [o] a w) : wpOp P ops Q i K a w := by
  unfold wpOp
  simp only [ho]
  simp only [wpList] at h
  split
  · rename_i hw
    rw [if_pos hw] at h
    exact h.imp wp_onN id
  · rename_i hw
    rw [if_neg hw] at h
    exact h

/-- Each operation waits for earlier ones alone (as far as it waits at all). -/
def backB (ops : Array Oper) : Bool := (List.range ops.size).all fun i => ((ops[i]?).map (·.after.all fun e => !Region.binds .any e || decide (e.on < i))).getD true
theorem back_at {ops : Array Oper} (h : backB ops = true) {i : Nat} {o : Oper} (ho : ops[i]? = some o) : ∀ e ∈ o.after, Region.binds .any e = true → e.on < i := by
  have hi := (Array.getElem?_eq_some_iff.1 ho).1
  have := List.all_eq_true.1 h i (List.mem_range.2 hi)
  simp only [ho, Option.map_some, Option.getD_some, Array.all_eq_true_iff_forall_mem, Bool.or_eq_true, Bool.not_eq_true', decide_eq_true_eq] at this
  intro e he hb
  rcases this e he with h1 | h1
  · rw [hb] at h1
    cases h1
  · exact h1

theorem all_listed {ops : Array Oper} (hb : backB ops = true) {listed : Array Bool} (hl : listed.size = ops.size) (h : Region.ready .any ops listed = []) : ∀ i, i < ops.size → listed.getD i false = true := by
  intro i
  induction i using Nat.strongRecOn with
  | ind i ih =>
    intro hi
    cases hv : listed.getD i true with
    | true =>
      have hi' : i < listed.size := by omega
      simp only [Array.getD_eq_getD_getElem?, Array.getElem?_eq_getElem hi', Option.getD_some] at hv ⊢
      exact hv
    | false =>
      have : i ∈ Region.ready .any ops listed := mem_ready.2 ⟨hv, ops[i], Array.getElem?_eq_getElem hi, fun e he hbd => ih e.on (back_at hb (Array.getElem?_eq_getElem hi) e he hbd) (by have := back_at hb (Array.getElem?_eq_getElem hi) e he hbd; omega)⟩
      rw [h] at this
      cases this

theorem wpAny_inv {P : Program} {ops : Array Oper} {Q : Exit → Act → World → Prop} (hb : backB ops = true) (I : (Nat → Bool) → Act → World → Prop)
    (hs : ∀ (f : Nat → Bool) (i : Nat) (o : Oper), ops[i]? = some o → f i = false → (∀ e ∈ o.after, Region.binds .any e = true → f e.on = true) → ∀ a w, I f a w → wpList P ops (onN (I fun j => if j = i then true else f j) Q) [o] a w)
    (he : ∀ f a w, (∀ i, i < ops.size → f i = true) → I f a w → Q .normal a w) :
    ∀ (fuel : Nat) (listed : Array Bool) (a : Act) (w : World), listed.size = ops.size → listed.toList.count false = fuel → I (fun i => listed.getD i false) a w → wpAny P .any ops Q fuel listed a w := by
  intro fuel
  induction fuel with
  | zero =>
    intro listed a w hl hc hI
    have hr : Region.ready .any ops listed = [] := by
      cases hr : Region.ready .any ops listed with
      | nil => rfl
      | cons j js =>
        have hj : j ∈ Region.ready .any ops listed := by rw [hr]; exact List.mem_cons_self
        obtain ⟨h0, o, ho, -⟩ := mem_ready.1 hj
        have hlt : j < listed.size := by have := (Array.getElem?_eq_some_iff.1 ho).1; omega
        simp only [Array.getD_eq_getD_getElem?, Array.getElem?_eq_getElem hlt, Option.getD_some] at h0
        have : false ∈ listed.toList := by rw [← h0]; simp
        exact absurd hc (Nat.pos_iff_ne_zero.1 (List.count_pos_iff.2 this))
    exact ⟨hr, he _ a w (all_listed hb hl hr) hI⟩
  | succ fuel ih =>
    intro listed a w hl hc hI
    refine ⟨fun hr => he _ a w (all_listed hb hl hr) hI, fun i hi => ?_⟩
    obtain ⟨h0, o, ho, hd⟩ := mem_ready.1 hi
    have hlt : i < listed.size := by have := (Array.getElem?_eq_some_iff.1 ho).1; omega
    have h1 : listed[i] = false := by simpa only [Array.getD_eq_getD_getElem?, Array.getElem?_eq_getElem hlt, Option.getD_some] using h0
    have h2 : listed.getD i false = false := by simp [hlt, h1]
    refine wpOp_mono (fun a' w' hI' => ih _ a' w' (by simpa using hl) ?_ ?_) (wpOp_onN ho (hs _ i o ho h2 hd a w hI))
    · have h3 : (listed.setIfInBounds i true).toList = listed.toList.set i true := by simp
      rw [h3, List.count_set (by simpa using hlt)]
      have h4 : listed.toList[i]'(by simpa using hlt) = false := by simpa using h1
      rw [h4, hc]
      simp
    · have e : (fun j => (listed.setIfInBounds i true).getD j false) = fun j => if j = i then true else listed.getD j false := by
        funext j
        by_cases hj : j = i
        · subst hj
          simp [hlt]
        · simp [hj, Array.getElem?_setIfInBounds_ne (Ne.symm hj)]
      rw [e]
      exact hI'

theorem wp_region_inv {P : Program} {id : Nat} {ops : Array Oper} {Q : Exit → Act → World → Prop} {a : Act} {w : World} (hm : P.follows .mixedOrders = true) (hb : backB ops = true) (I : (Nat → Bool) → Act → World → Prop)
    (h0 : I (fun _ => false) a (w.drewN 1))
    (hs : ∀ (f : Nat → Bool) (i : Nat) (o : Oper), ops[i]? = some o → f i = false → (∀ e ∈ o.after, Region.binds .any e = true → f e.on = true) → ∀ a w, I f a w →
      ∀ K : Act → World → Prop, (∀ a w, I (fun j => if j = i then true else f j) a w → K a w) → wpList P ops (onN K Q) [o] a w)
    (he : ∀ f a w, (∀ i, i < ops.size → f i = true) → I f a w → Q .normal a w) : (Code.region id ops true).wp P Q a w := by
  refine wp_region_any hm (wpAny_inv hb I (fun f i o h1 h2 h3 a w h4 => hs f i o h1 h2 h3 a w h4 _ (fun _ _ h => h)) he _ _ _ _ (by simp) (by simp) ?_)
  have e : (fun i => (Array.replicate ops.size false).getD i false) = fun _ => false := by
    funext i
    by_cases hi : i < ops.size <;> simp [hi]
  rw [e]
  exact h0

end Go.Proofs.Ytgakfbdaiogflaa
