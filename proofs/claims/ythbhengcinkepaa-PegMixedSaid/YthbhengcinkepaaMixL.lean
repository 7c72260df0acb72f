/- The mathematics of rules mixed and of jumps that keep positions alike. No program is spoken of. -/
import Derived.Test.YthbhengcinkepaaPg5
import Derived.Test.YthbhengcinkepaaPg10
import Derived.Test.YthbhengcinkepaaRulL
namespace Go.Proofs.Ythbhengcinkepaa
open Lamp

theorem isRule_xor {E : List Nat} {x y : Nat} (hx : isRule E x = true) (hy : isRule E y = true) : isRule E (x ^^^ y) = true :=
  isRule_iff.2 fun i => by
    rw [ip_comm, ip_xor, ip_comm _ x, ip_comm _ y, isRule_iff.1 hx i, isRule_iff.1 hy i]; rfl
theorem isRule_0 (E : List Nat) : isRule E 0 = true := isRule_iff.2 fun i => by rw [ip_comm, ip_zero]
theorem rulesL_up {n : Nat} {E : List Nat} (hE : ∀ i, E.getD i 0 < 2 ^ n) : (rulesL n E).Pairwise (· < ·) := ((Ech.all_ hE n).rises).imp lt_of_logP
theorem rulesL_less {n : Nat} {E : List Nat} (hE : ∀ i, E.getD i 0 < 2 ^ n) {i : Nat} {x y : Nat} (h1 : (rulesL n E)[i]? = some x) (h2 : (rulesL n E)[i + 1]? = some y) : x < y := by
  have a := List.getElem?_eq_some_iff.1 h1
  have b := List.getElem?_eq_some_iff.1 h2
  have h := List.pairwise_iff_getElem.1 (rulesL_up hE) i (i + 1) a.1 b.1 (Nat.lt_succ_self i)
  rwa [a.2, b.2] at h
theorem holesM_turn (x y z : Int) : holesM (z, y, x) = holesM (x, y, z) := by
  unfold holesM takenM
  simp only
  rw [Nat.or_comm (bitN z) (bitN y), Nat.or_assoc, Nat.or_comm (bitN z) (bitN x), ← Nat.or_assoc, Nat.or_comm (bitN y) (bitN x)]
/-- A jump leads to a position that is alike. -/
theorem jump_alike {n : Nat} {l : List Tri} (hn : n ≤ 16) (ho : LinesOk n l) {j : Tri} (hj : j ∈ jumpsL l) (p : Nat) : alikeB n l (p ^^^ fromJ j p) = true := by
  have e : p ^^^ fromJ j p = holesM j := by
    unfold fromJ
    rw [← Nat.xor_assoc, Nat.xor_self, Nat.zero_xor]
  rw [e, alikeB_ip]
  intro r hr
  obtain ⟨_, _, h3⟩ := rulesL_in hn (eqsL_lt ho) hr
  rw [jumpsL_mem, bothL_mem] at hj
  obtain ⟨t, ht, hj⟩ := hj
  have hh : holesM j = holesM t := by
    rcases hj with rfl | rfl
    · rfl
    · exact holesM_turn _ _ _
  rw [hh]
  obtain ⟨i, hi, hit⟩ := List.getElem_of_mem ht
  have := isRule_iff.1 h3 i
  unfold eqsL at this
  rw [List.getD_eq_getElem?_getD, List.getElem?_map, List.getElem?_eq_getElem hi, hit] at this
  exact this
/-- Whether the first k rules say that positions are alike. -/
def sameK (R : List Nat) (d : Nat) (k : Nat) : Bool := (R.take k).all fun r => !ip r d
theorem sameK_succ {R : List Nat} {d k x : Nat} (h : R[k]? = some x) : sameK R d (k + 1) = (sameK R d k && !ip x d) := by
  have h3 := List.getElem?_eq_some_iff.1 h
  unfold sameK
  rw [List.take_succ_eq_append_getElem h3.1, h3.2, List.all_append]
  simp
theorem sameK_all {n : Nat} {l : List Tri} {d : Nat} : sameK (rulesL n (eqsL l)) d (rulesL n (eqsL l)).length = alikeB n l d := by
  rw [Bool.eq_iff_iff, alikeB_ip]
  unfold sameK
  rw [List.take_length, List.all_eq_true]
  refine forall_congr' fun r => forall_congr' fun _ => ?_
  simp
end Go.Proofs.Ythbhengcinkepaa
