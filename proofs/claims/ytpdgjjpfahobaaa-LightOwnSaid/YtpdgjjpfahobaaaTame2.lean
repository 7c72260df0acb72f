/- What the law's tame makes is a graph. -/
import Derived.Test.YtpdgjjpfahobaaaTame
namespace Go.Proofs.Ytpdgjjpfahobaaa
open Go.RowKit Lamp

theorem pos16_parts {a b : Nat} (ha : a < 16) (hb : b < 16) : pos16 a b / 16 = min a b ∧ pos16 a b % 16 = max a b := by
  unfold pos16; omega
theorem inK_edge {m : Nat} (h1 : 1 ≤ m) (hm : m ≤ 16) (l : List (Int × Int)) : ∀ k i, inK m l k i = true → i / 16 < i % 16 ∧ i % 16 < m
  | 0, i, h => by simp [inK] at h
  | k + 1, i, h => by
    unfold inK at h
    split at h
    · rename_i hi
      have ha := remN_lt (l.getD k (0, 0)).1 h1
      have hb := remN_lt (l.getD k (0, 0)).2 h1
      have hne := of_decide_eq_true h
      obtain ⟨e1, e2⟩ := pos16_parts (a := remN (l.getD k (0, 0)).1 m) (b := remN (l.getD k (0, 0)).2 m) (by omega) (by omega)
      rw [hi, e1, e2]
      omega
    · exact inK_edge h1 hm l k i h
theorem goodK_of {n : Int} {l : List (Int × Int)} (h1 : ∀ e ∈ l, edgeB n e = true) (h2 : l.Pairwise fun a b => ltP a b = true) : ∀ k, k ≤ l.length → goodK n l k = true
  | 0, _ => rfl
  | k + 1, h => by
    have hk : k < l.length := by omega
    have e : ∀ i, (hi : i < l.length) → l.getD i (0, 0) = l[i] := fun i hi => by simp [List.getD_eq_getElem?_getD, hi]
    unfold goodK
    rw [goodK_of h1 h2 k (by omega), e k hk, h1 _ (List.getElem_mem hk)]
    by_cases h0 : k = 0
    · simp [h0]
    · rw [e (k - 1) (by omega), List.pairwise_iff_getElem.1 h2 (k - 1) k (by omega) hk (by omega)]
      simp
theorem outK_edge {f : Nat → Bool} {m : Nat} (hf : ∀ i, f i = true → i / 16 < i % 16 ∧ i % 16 < m) (k : Nat) : ∀ e ∈ outK f k, edgeB (m : Int) e = true := by
  intro e he
  obtain ⟨i, hi, rfl⟩ := List.mem_map.1 he
  have h := hf i (List.mem_filter.1 hi).2
  simp only [edgeB, Bool.and_eq_true, decide_eq_true_eq]
  omega
theorem outK_rise (f : Nat → Bool) (k : Nat) : (outK f k).Pairwise fun a b => ltP a b = true := by
  unfold outK
  rw [List.pairwise_map]
  refine (List.pairwise_lt_range.filter f).imp fun {a b} h => ?_
  simp only [ltP, Bool.or_eq_true, Bool.and_eq_true, decide_eq_true_eq]
  omega
theorem tame_good {m : Nat} (h1 : 1 ≤ m) (hm : m ≤ 16) (l : List (Int × Int)) : goodK (m : Int) (tameL m l) (tameL m l).length = true :=
  goodK_of (outK_edge (inK_edge h1 hm l _) 256) (outK_rise _ _) _ (Nat.le_refl _)
theorem tame_len (m : Nat) (l : List (Int × Int)) : (tameL m l).length ≤ 256 := outK_len _ _
/-- What tame makes, as a graph in memory. -/
theorem tame_gr {w : World} {A : Option Addr} {m : Nat} {l : List (Int × Int)} (h1 : 1 ≤ m) (hm : m ≤ 16) (h : REdges w w.heap.size A (tameL m l)) : Gr w A m (tameL m l) :=
  ⟨h, by have := tame_len m l; omega, tame_good h1 hm l, h1, hm⟩
end Go.Proofs.Ytpdgjjpfahobaaa
