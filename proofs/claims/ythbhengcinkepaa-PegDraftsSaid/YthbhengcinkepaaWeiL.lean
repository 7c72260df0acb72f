/- Weights as plain mathematics. No program is spoken of. -/
import Derived.Test.YthbhengcinkepaaPg6
namespace Go.Proofs.Ythbhengcinkepaa
open Lamp

/-- The sum of the weights of the first k holes, where p has pegs. -/
def sumW (zs : List Int) (p : Nat) : Nat → Int
  | 0 => 0
  | k + 1 => sumW zs p k + (if p.testBit k = true then zs.getD k 0 else 0)
theorem badW_in {zs : List Int} (h : zs.any badW = false) (k : Nat) : -1000000 ≤ zs.getD k 0 ∧ zs.getD k 0 ≤ 1000000 := by
  rcases Nat.lt_or_ge k zs.length with hk | hk
  · have h1 := List.any_eq_false.1 h (zs.getD k 0) (by simp [List.getD_eq_getElem?_getD, hk])
    unfold badW at h1
    simp only [Bool.or_eq_true, decide_eq_true_eq, not_or] at h1
    omega
  · rw [List.getD_eq_getElem?_getD, List.getElem?_eq_none hk]
    simp
theorem sumW_in {zs : List Int} (h : zs.any badW = false) (p : Nat) : ∀ k : Nat, -(1000000 * (k : Int)) ≤ sumW zs p k ∧ sumW zs p k ≤ 1000000 * (k : Int)
  | 0 => by simp [sumW]
  | k + 1 => by
    have ih := sumW_in h p k
    have hk := badW_in h k
    rw [sumW]
    split <;> omega
def refutesB (l : List Tri) (zs : List Int) (p q : Nat) : Bool := pagodaB l zs && decide (sumW zs p zs.length < sumW zs q zs.length)
theorem pagodaB_next {l : List Tri} {zs : List Int} {k : Nat} {e : Tri} (h : l[k]? = some e) : pagodaB (l.take (k + 1)) zs = (pagodaB (l.take k) zs && lightB zs e) := by
  have h3 := List.getElem?_eq_some_iff.1 h
  unfold pagodaB
  rw [List.take_succ_eq_append_getElem h3.1, h3.2, List.all_append]
  simp
theorem pagodaB_not {l : List Tri} {zs : List Int} {k : Nat} {e : Tri} (h : l[k]? = some e) (hl : lightB zs e = false) : pagodaB l zs = false := by
  unfold pagodaB
  rw [List.all_eq_false]
  exact ⟨e, List.mem_of_getElem? h, by simp [hl]⟩
theorem any_next {zs : List Int} {k : Nat} {z : Int} (h : zs[k]? = some z) : (zs.take (k + 1)).any badW = ((zs.take k).any badW || badW z) := by
  have h3 := List.getElem?_eq_some_iff.1 h
  rw [List.take_succ_eq_append_getElem h3.1, h3.2, List.any_append]
  simp
theorem any_yes {zs : List Int} {k : Nat} {z : Int} (h : zs[k]? = some z) (hb : badW z = true) : zs.any badW = true :=
  List.any_eq_true.2 ⟨z, List.mem_of_getElem? h, hb⟩
end Go.Proofs.Ythbhengcinkepaa
