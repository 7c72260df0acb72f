/- The bits of a graph's sets: which lamps each lamp switches. -/
import Derived.Test.YtpdgjjpfahobaaaLig6
import Derived.Test.YtpdgjjpfahobaaaLampS
namespace Go.Proofs.Ytpdgjjpfahobaaa
open Go.RowKit Lamp

theorem getD_set {l : List Nat} {i j v : Nat} (hi : i < l.length) : (l.set i v).getD j 0 = if i = j then v else l.getD j 0 := by
  simp only [List.getD_eq_getElem?_getD, List.getElem?_set]
  by_cases h : i = j
  · subst h; simp [hi]
  · simp [h]
theorem pow_bit (a b : Nat) : (2 ^ a).testBit b = decide (a = b) := by
  rw [Nat.testBit_two_pow]
theorem swStep_bit {sw : List Nat} {a b : Nat} (ha : a < sw.length) (hb : b < sw.length) (hab : a ≠ b) (i j : Nat) :
    ((swStep sw a b).getD i 0).testBit j = ((sw.getD i 0).testBit j || (decide (a = i) && decide (b = j)) || (decide (b = i) && decide (a = j))) := by
  unfold swStep
  rw [getD_set (by simpa using hb), getD_set ha, getD_set ha]
  by_cases h1 : b = i
  · subst h1
    rw [if_pos rfl, if_neg hab, Nat.testBit_or, pow_bit]
    simp [hab]
  · rw [if_neg h1]
    by_cases h2 : a = i
    · subst h2
      rw [if_pos rfl, Nat.testBit_or, pow_bit]
      simp [h1]
    · rw [if_neg h2]
      simp [h1, h2]
/-- Whether an edge of the first k joins these lamps. -/
def joined (l : List (Int × Int)) : Nat → Nat → Nat → Bool
  | 0, _, _ => false
  | k + 1, i, j => joined l k i j || (decide ((l.getD k (0, 0)).1.toNat = i) && decide ((l.getD k (0, 0)).2.toNat = j)) || (decide ((l.getD k (0, 0)).2.toNat = i) && decide ((l.getD k (0, 0)).1.toNat = j))
theorem joined_sym (l : List (Int × Int)) (k i j : Nat) : joined l k i j = joined l k j i := by
  induction k with
  | zero => rfl
  | succ k ih =>
    unfold joined
    rw [ih]
    generalize joined l k j i = x
    generalize (l.getD k (0, 0)).1.toNat = a
    generalize (l.getD k (0, 0)).2.toNat = b
    cases x <;> cases decide (a = i) <;> cases decide (b = j) <;> cases decide (b = i) <;> cases decide (a = j) <;> rfl
theorem goodK_edge {n : Int} {l : List (Int × Int)} : ∀ {m k : Nat}, goodK n l m = true → k < m → edgeB n (l.getD k (0, 0)) = true
  | m + 1, k, h, hk => by
    unfold goodK at h
    simp only [Bool.and_eq_true] at h
    by_cases e : k = m
    · subst e; exact h.2.1
    · exact goodK_edge h.1 (by omega)
theorem edge_toNat {n : Nat} {e : Int × Int} (h : edgeB (n : Int) e = true) : e.1.toNat < e.2.toNat ∧ e.2.toNat < n := by
  simp only [edgeB, Bool.and_eq_true, decide_eq_true_eq] at h
  omega
theorem swK_bit {n : Nat} (hn : n ≤ 16) {l : List (Int × Int)} {m : Nat} (hg : goodK (n : Int) l m = true) (i j : Nat) : ∀ k, k ≤ m → ((swK l k).getD i 0).testBit j = joined l k i j
  | 0, _ => by
    have h : (List.replicate 16 0).getD i 0 = 0 := by
      simp only [List.getD_eq_getElem?_getD, List.getElem?_replicate]
      split <;> rfl
    unfold swK joined
    rw [h, Nat.zero_testBit]
  | k + 1, h => by
    have he := edge_toNat (goodK_edge hg (k := k) (by omega))
    unfold swK joined
    rw [swStep_bit (by rw [swK_len]; omega) (by rw [swK_len]; omega) (by omega), swK_bit hn hg i j k (by omega)]
theorem joined_lt {n : Nat} {l : List (Int × Int)} {m : Nat} (hg : goodK (n : Int) l m = true) {i j : Nat} : ∀ {k}, k ≤ m → joined l k i j = true → i < n ∧ j < n ∧ i ≠ j
  | 0, _, h => by simp [joined] at h
  | k + 1, hk, h => by
    have he := edge_toNat (goodK_edge hg (k := k) (by omega))
    unfold joined at h
    simp only [Bool.or_eq_true, Bool.and_eq_true, decide_eq_true_eq] at h
    rcases h with (h | h) | h
    · exact joined_lt hg (by omega) h
    · omega
    · omega
theorem ownK_bit {sw : List Nat} (hl : sw.length = 16) (i j : Nat) : ∀ k, k ≤ 16 → ((ownK sw k).getD i 0).testBit j = ((sw.getD i 0).testBit j || (decide (i < k) && decide (i = j)))
  | 0, _ => by simp [ownK]
  | k + 1, h => by
    unfold ownK
    rw [getD_set (by rw [ownK_len, hl]; omega)]
    by_cases e : k = i
    · subst e
      rw [if_pos rfl, Nat.testBit_or, ownK_bit hl k j k (by omega), pow_bit]
      simp
    · rw [if_neg e, ownK_bit hl i j k (by omega)]
      congr 2
      exact decide_eq_decide.2 (by omega)
theorem graphL_bit {n : Nat} (hn : n ≤ 16) {l : List (Int × Int)} (hg : goodK (n : Int) l l.length = true) (own : Bool) (i j : Nat) :
    ((graphL n l own).getD i 0).testBit j = (joined l l.length i j || (own && (decide (i < n) && decide (i = j)))) := by
  unfold graphL
  cases own
  · rw [if_neg (by decide), swK_bit hn hg i j _ (Nat.le_refl _)]; simp
  · rw [if_pos rfl, ownK_bit (swK_len _ _) i j n hn, swK_bit hn hg i j _ (Nat.le_refl _)]; simp
theorem grL_bit {n : Nat} (hn : n ≤ 16) {l : List (Int × Int)} (hg : goodK (n : Int) l l.length = true) (own : Bool) (i j : Nat) :
    ((grL n l own).getD i 0).testBit j = (joined l l.length i j || (own && (decide (i < n) && decide (i = j)))) := by
  unfold grL
  by_cases hi : i < n
  · rw [show ((graphL n l own).take n).getD i 0 = (graphL n l own).getD i 0 by simp only [List.getD_eq_getElem?_getD, List.getElem?_take, if_pos hi]]
    exact graphL_bit hn hg own i j
  · rw [show ((graphL n l own).take n).getD i 0 = 0 by simp only [List.getD_eq_getElem?_getD, List.getElem?_take, if_neg hi, Option.getD_none], Nat.zero_testBit]
    have h1 : joined l l.length i j = false := by
      cases e : joined l l.length i j with
      | false => rfl
      | true => exact absurd (joined_lt hg (Nat.le_refl _) e).1 hi
    rw [h1]
    simp [hi]
/-- Whom a lamp switches also switches it. -/
theorem grL_sym {n : Nat} (hn : n ≤ 16) {l : List (Int × Int)} (hg : goodK (n : Int) l l.length = true) (own : Bool) : Sym (grL n l own) := by
  refine ⟨by rw [grL_len hn]; exact hn, fun i j _ _ => ?_⟩
  rw [grL_bit hn hg, grL_bit hn hg, joined_sym]
  congr 2
  by_cases e : i = j
  · subst e; rfl
  · simp [e, Ne.symm e]
theorem grL_own {n : Nat} (hn : n ≤ 16) {l : List (Int × Int)} (hg : goodK (n : Int) l l.length = true) (i : Nat) (hi : i < n) : ((grL n l true).getD i 0).testBit i = true := by
  rw [grL_bit hn hg]
  simp [hi]
theorem grL_lt {n : Nat} (hn : n ≤ 16) {l : List (Int × Int)} (hg : goodK (n : Int) l l.length = true) (own : Bool) (i : Nat) : (grL n l own).getD i 0 < 2 ^ n := by
  refine Nat.lt_pow_two_of_testBit _ fun j hj => ?_
  rw [grL_bit hn hg]
  have h1 : joined l l.length i j = false := by
    cases e : joined l l.length i j with
    | false => rfl
    | true => exact absurd (joined_lt hg (Nat.le_refl _) e).2.1 (by omega)
  rw [h1]
  by_cases e : i = j
  · subst e; simp [show ¬ i < n by omega]
  · simp [e]
end Go.Proofs.Ytpdgjjpfahobaaa
