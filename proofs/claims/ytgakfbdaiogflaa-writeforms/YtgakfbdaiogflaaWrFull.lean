
/-
  A store filled item by item: the lists that it reads as; an append of items as one step of a region that draws its order.
-/
import Derived.Test.YtgakfbdaiogflaaWriteLaw
import Derived.Test.YtgakfbdaiogflaaWrMath
import Derived.Test.YtgakfbdaiogflaaSteps
namespace Go.Proofs.Ytgakfbdaiogflaa
open Go.ChangeShapes Go.WideShapes Go.ChangeAt Go.RowKit

theorem step_its {ops : Array Oper} {o : Oper} {a : Act} {w : World} {K : Act → World → Prop} {Q : Exit → Act → World → Prop} {E : Prop} (hg : o.guard = none) (s x : Operand)
    (hop : o.op = .call { callee := .builtin .append, args := #[s, x], argTypes := #[26, 26] }) (base : Nat) (v : Value) (n : Nat) (zs : List It) (hs : a.eval s = v)
    (hown : w.ownsRow base 47 5 v n (zs.flatMap ItV)) (ad : Addr) (m c : Nat) (news : List It) (hx : a.eval x = .slice (some ad) m c) (hl : news.length = m)
    (hnews : ∀ j, j < m * 5 → w.cell? (ad.add j) = (news.flatMap ItV)[j]?) (hb : (n + m) * 40 ≤ 140737488355328) (hbase : base ≤ w.heap.size)
    (hK : ∀ v' w', w'.ownsRow base 47 5 v' (n + m) ((zs ++ news).flatMap ItV) → w.grownBy w' v.ownBlock → Below base w w' → K (a.put o.dst v') w') :
    if Region.wanted o (yielded ops a.tmps) = true then Oper.wp Try.prog o a w K Q else E := by
  have hw : Region.wanted o (yielded ops a.tmps) = true := by simp [Region.wanted, hg]
  rw [if_pos hw]
  obtain ⟨i0, hi, hz0, hz1, hz2⟩ := info_parts Try.infoIt
  have hln : (news.flatMap ItV).length = m * 5 := by rw [flat_len ItV_len, hl]
  obtain ⟨v', w', hrun, r1, r2, _⟩ := run_append_own (P := Try.prog) w base 26 o.type 47 i0 _ 5 40 Try.underlying26 hi hz0 hz1 hz2 rfl (by decide) v n _ hown ad m c (news.flatMap ItV) hln (fun j u hj => by
      have hjl : j < (news.flatMap ItV).length := (List.getElem?_eq_some_iff.1 hj).1
      rw [hnews j (by omega), hj]) (fun u hu => by
      obtain ⟨y, _, hy⟩ := List.mem_flatMap.1 hu
      exact ItV_one y u hy) (by unfold maxLen; omega) hb hbase
  unfold Oper.wp
  simp [execOp, hop, resolve, invoke, builtin, hs, hx, hrun, Result.andThen]
  exact hK v' w' (by simpa using r1) r2 ((Below.refl base w).grown r2 hbase (fun j hj => (hown.lt j hj).1))

def fullW (m : Nat) : List It := (List.range m).map fun (j : Nat) => (⟨2 * (j : Int), 1, 1, 1, false⟩ : It)
theorem fullW_next (m : Nat) : fullW (m + 1) = fullW m ++ ([⟨2 * (m : Int), 1, 1, 1, false⟩] : List It) := by simp [fullW, List.range_succ]
theorem fullW_len (m : Nat) : (fullW m).length = m := by simp [fullW]
theorem full_new : ∀ q : Nat, q < 16 → wrE ⟨true, 100, gnP, [7], fullW 16, []⟩ (1 + 2 * (q : Int)) 0 true = 1701 := by decide +kernel
theorem full_old : ∀ q : Nat, q < 16 → wrE ⟨true, 100, gnP, [7], fullW 16, []⟩ (2 * (q : Int)) 0 true = 0 := by decide +kernel
theorem full_may : ndB ⟨true, 100, gnP, [7], fullW 16, []⟩ = true := by decide +kernel
theorem top_count : wrE ⟨true, 100, gnP, [7], [⟨9, 65535, 1, 255, false⟩], []⟩ 9 5 false = 1701 := by decide +kernel

end Go.Proofs.Ytgakfbdaiogflaa
