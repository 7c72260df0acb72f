/- The counts of a game's jumps are a plan: mathematics. · One line more is looked at: what becomes of the block of counts. · What the walk of a plan's law keeps from round to round. -/
import Derived.Test.YthbhengcinkepaaPlanL
import Derived.Test.YthbhengcinkepaaPg10
import Derived.Test.YthbhengcinkepaaEdgP
import Derived.Test.YthbhengcinkepaaEqT
namespace Go.Proofs.Ythbhengcinkepaa
open Lamp

/-- A jump the other way. -/
def revT (t : Tri) : Tri := (t.2.2, t.2.1, t.1)
/-- What a jump adds to the counts of one line. -/
def hitP (e t : Tri) (x : Int × Int) : Int × Int := (x.1 + (if e = t then 1 else 0), x.2 + (if e = revT t then 1 else 0))
/-- The counts once the first k lines have been looked at. -/
def hitK (l : List Tri) (t : Tri) (js : List (Int × Int)) : Nat → List (Int × Int)
  | 0 => js
  | k + 1 => (hitK l t js k).set k (hitP (l.getD k (0, 0, 0)) t (js.getD k (0, 0)))
theorem hitK_len (l : List Tri) (t : Tri) (js : List (Int × Int)) : ∀ k, (hitK l t js k).length = js.length
  | 0 => rfl
  | k + 1 => by rw [hitK, List.length_set, hitK_len l t js k]
theorem hitK_at (l : List Tri) (t : Tri) (js : List (Int × Int)) (i : Nat) : ∀ k, i < js.length → (hitK l t js k).getD i (0, 0) = if i < k then hitP (l.getD i (0, 0, 0)) t (js.getD i (0, 0)) else js.getD i (0, 0)
  | 0, _ => by simp [hitK]
  | k + 1, hi => by
    have ih := hitK_at l t js i k hi
    rw [hitK, List.getD_eq_getElem?_getD, List.getElem?_set]
    by_cases e : k = i
    · subst e
      rw [if_pos rfl, if_pos (by rw [hitK_len]; exact hi), if_pos (Nat.lt_succ_self _)]
      rfl
    · rw [if_neg e, ← List.getD_eq_getElem?_getD, ih]
      by_cases h2 : i < k
      · rw [if_pos h2, if_pos (by omega)]
      · rw [if_neg h2, if_neg (by omega)]
theorem hitK_out (l : List Tri) (t : Tri) (js : List (Int × Int)) (i k : Nat) (hi : js.length ≤ i) : (hitK l t js k).getD i (0, 0) = js.getD i (0, 0) := by
  rw [List.getD_eq_getElem?_getD, List.getD_eq_getElem?_getD, List.getElem?_eq_none (by rw [hitK_len]; exact hi), List.getElem?_eq_none hi]

theorem goodT_down {n : Int} {l : List Tri} : ∀ {m k : Nat}, goodT n l m = true → k ≤ m → goodT n l k = true
  | 0, k, h, hk => by
    obtain rfl : k = 0 := by omega
    exact h
  | m + 1, k, h, hk => by
    rcases Nat.lt_or_ge k (m + 1) with h1 | h1
    · rw [goodT, Bool.and_eq_true] at h
      exact goodT_down h.1 (by omega)
    · obtain rfl : k = m + 1 := by omega
      exact h
theorem ltT_go {a b c : Tri} (h1 : ltT a b = true) (h2 : ltT b c = true) : ltT a c = true := by
  obtain ⟨a1, a2, a3⟩ := a
  obtain ⟨b1, b2, b3⟩ := b
  obtain ⟨c1, c2, c3⟩ := c
  simp only [ltT, Bool.or_eq_true, Bool.and_eq_true, decide_eq_true_eq] at *
  omega
theorem ltT_self (a : Tri) : ltT a a = false := by
  obtain ⟨a1, a2, a3⟩ := a
  simp [ltT]
/-- The lines of a board rise. -/
theorem goodT_up {n : Int} {l : List Tri} : ∀ {k : Nat}, goodT n l k = true → ∀ i j, i < j → j < k → ltT (l.getD i (0, 0, 0)) (l.getD j (0, 0, 0)) = true
  | 0, _, _, _, _, h => by omega
  | k + 1, hg, i, j, hij, hj => by
    have h0 := goodT_down hg (Nat.le_succ k)
    rcases Nat.lt_or_ge j k with h1 | h1
    · exact goodT_up h0 i j hij h1
    · obtain rfl : j = k := by omega
      rw [goodT, Bool.and_eq_true, Bool.and_eq_true, Bool.or_eq_true] at hg
      have h2 : ltT (l.getD (j - 1) (0, 0, 0)) (l.getD j (0, 0, 0)) = true := by
        rcases hg.2.2 with h3 | h3
        · have := of_decide_eq_true h3; omega
        · exact h3
      rcases Nat.lt_or_ge i (j - 1) with h3 | h3
      · exact ltT_go (goodT_up h0 i (j - 1) h3 (by omega)) h2
      · obtain rfl : i = j - 1 := by omega
        exact h2
theorem goodT_once {n : Int} {l : List Tri} (hg : goodT n l l.length = true) {i j : Nat} (hi : i < l.length) (hj : j < l.length) (he : l.getD i (0, 0, 0) = l.getD j (0, 0, 0)) : i = j := by
  rcases Nat.lt_trichotomy i j with h | h | h
  · have h1 := goodT_up hg i j h hj
    rw [he, ltT_self] at h1
    cases h1
  · exact h
  · have h1 := goodT_up hg j i h hi
    rw [he, ltT_self] at h1
    cases h1
theorem goodT_first {n : Int} {l : List Tri} (hg : goodT n l l.length = true) {i : Nat} (hi : i < l.length) : (l.getD i (0, 0, 0)).1 < (l.getD i (0, 0, 0)).2.2 := by
  have h := goodT_at hg hi
  simp only [lineB, Bool.and_eq_true, decide_eq_true_eq] at h
  exact h.2.1
/-- The counts after one jump more. -/
theorem hit_lost {n : Nat} {l : List Tri} {t : Tri} {js : List (Int × Int)} {p : Nat} (hn : n ≤ 16) (hg : goodT n l l.length = true) (hlen : js.length = l.length) (ht : t ∈ jumpsL l) (hc : canJ t p = true) (h : Nat) :
    lostK l (hitK l t js l.length) h l.length = lostK l js h l.length + (dirN p h - dirN (fromJ t p) h) := by
  have hok := goodT_ok hg
  have htr := jumpsL_ok hok t ht
  obtain ⟨a, b, c, rfl, _, _, _⟩ := htr.nat hn
  obtain ⟨_, _, _, _, _, _, n1, n2, n3⟩ := htr
  have hab : a ≠ b := by simp only at n1; omega
  have hac : a ≠ c := by simp only at n2; omega
  have hbc : b ≠ c := by simp only at n3; omega
  have hj := lost_jump hab hac hbc hc h
  rw [jumpsL_mem, bothL_mem] at ht
  obtain ⟨e, he, hte⟩ := ht
  obtain ⟨k, hk, rfl⟩ := List.getElem_of_mem he
  have hgk : l.getD k (0, 0, 0) = l[k] := by rw [List.getD_eq_getElem?_getD, List.getElem?_eq_getElem hk]; rfl
  have hf := goodT_first hg hk
  rw [hgk] at hf
  have hat : ∀ i, i < l.length → (hitK l ((a : Int), (b : Int), (c : Int)) js l.length).getD i (0, 0) = hitP (l.getD i (0, 0, 0)) ((a : Int), (b : Int), (c : Int)) (js.getD i (0, 0)) := fun i hi => by
    rw [hitK_at l _ js i _ (by omega), if_pos hi]
  rcases hte with hte | hte
  · have ho : ∀ i, i ≠ k → (hitK l ((a : Int), (b : Int), (c : Int)) js l.length).getD i (0, 0) = js.getD i (0, 0) := fun i hne => by
      rcases Nat.lt_or_ge i l.length with hi | hi
      · rw [hat i hi]
        have h1 : l.getD i (0, 0, 0) ≠ ((a : Int), (b : Int), (c : Int)) := fun e => hne (goodT_once hg hi hk (by rw [e, hte, hgk]))
        have h2 : l.getD i (0, 0, 0) ≠ revT ((a : Int), (b : Int), (c : Int)) := fun e => by
          have h3 := goodT_first hg hi
          rw [e] at h3
          rw [← hte] at hf
          simp only [revT] at h3 hf
          omega
        simp only [hitP, if_neg h1, if_neg h2, Int.add_zero]
      · exact hitK_out l _ js i _ (by omega)
    have h0 : (hitK l ((a : Int), (b : Int), (c : Int)) js l.length).getD k (0, 0) = ((js.getD k (0, 0)).1 + 1, (js.getD k (0, 0)).2 + 0) := by
      rw [hat k hk, hgk, ← hte]
      have h2 : ((a : Int), (b : Int), (c : Int)) ≠ revT ((a : Int), (b : Int), (c : Int)) := fun e => by
        have h3 := congrArg (fun x : Tri => x.1) e
        simp only [revT] at h3
        omega
      simp only [hitP, if_neg h2, if_pos]
    rw [lostK_one h h0 ho, if_pos hk, hgk, ← hte, hj]
  · have ho : ∀ i, i ≠ k → (hitK l ((a : Int), (b : Int), (c : Int)) js l.length).getD i (0, 0) = js.getD i (0, 0) := fun i hne => by
      rcases Nat.lt_or_ge i l.length with hi | hi
      · rw [hat i hi]
        have e1 : l[k] = revT ((a : Int), (b : Int), (c : Int)) := by rw [hte]; rfl
        have h1 : l.getD i (0, 0, 0) ≠ revT ((a : Int), (b : Int), (c : Int)) := fun e => hne (goodT_once hg hi hk (by rw [e, hgk, e1]))
        have h2 : l.getD i (0, 0, 0) ≠ ((a : Int), (b : Int), (c : Int)) := fun e => by
          have h3 := goodT_first hg hi
          rw [e] at h3
          rw [e1] at hf
          simp only [revT] at h3 hf
          omega
        simp only [hitP, if_neg h1, if_neg h2, Int.add_zero]
      · exact hitK_out l _ js i _ (by omega)
    have e1 : l[k] = revT ((a : Int), (b : Int), (c : Int)) := by rw [hte]; rfl
    have h0 : (hitK l ((a : Int), (b : Int), (c : Int)) js l.length).getD k (0, 0) = ((js.getD k (0, 0)).1 + 0, (js.getD k (0, 0)).2 + 1) := by
      rw [hat k hk, hgk, e1]
      have h2 : revT ((a : Int), (b : Int), (c : Int)) ≠ ((a : Int), (b : Int), (c : Int)) := fun e => by
        have h3 := congrArg (fun x : Tri => x.1) e
        simp only [revT] at h3
        omega
      simp only [hitP, if_neg h2, if_pos]
    rw [lostK_one h h0 ho, if_pos hk, hgk, e1]
    have h4 := lostE_turn (a : Int) (b : Int) (c : Int) 0 1 h
    simp only [revT]
    rw [h4, hj]

/-- Counts from 0 to k. -/
def Upto0 (k : Int) (js : List (Int × Int)) : Prop := ∀ i, 0 ≤ (js.getD i (0, 0)).1 ∧ (js.getD i (0, 0)).1 ≤ k ∧ 0 ≤ (js.getD i (0, 0)).2 ∧ (js.getD i (0, 0)).2 ≤ k
theorem hit_upto {l : List Tri} {t : Tri} {js : List (Int × Int)} {k : Int} (h : Upto0 k js) (j : Nat) : Upto0 (k + 1) (hitK l t js j) := fun i => by
  have h0 := h i
  rcases Nat.lt_or_ge i js.length with h1 | h1
  · rw [hitK_at l t js i j h1]
    split
    · unfold hitP
      simp only
      repeat' split
      all_goals omega
    · omega
  · rw [hitK_out l t js i j h1]
    omega
theorem upto_ok {js : List (Int × Int)} {k : Int} (h : Upto0 k js) (hk : k ≤ 1000000) : js.all okT = true := by
  rw [List.all_eq_true]
  intro x hx
  obtain ⟨i, hi, rfl⟩ := List.getElem_of_mem hx
  have h1 := h i
  rw [List.getD_eq_getElem?_getD, List.getElem?_eq_getElem hi, Option.getD_some] at h1
  unfold okT
  simp only [Bool.and_eq_true, decide_eq_true_eq]
  omega
/-- The counts of none. -/
theorem upto_none (n : Nat) : Upto0 0 (List.replicate n ((0 : Int), (0 : Int))) := fun i => by
  rcases Nat.lt_or_ge i n with h | h
  · simp [List.getD_eq_getElem?_getD, h]
  · simp [List.getD_eq_getElem?_getD, h]
theorem lost_none (l : List Tri) (n h : Nat) : ∀ k, lostK l (List.replicate n ((0 : Int), (0 : Int))) h k = 0
  | 0 => rfl
  | k + 1 => by
    rw [lostK, lost_none l n h k]
    have e : (List.replicate n ((0 : Int), (0 : Int))).getD k (0, 0) = (0, 0) := by
      rcases Nat.lt_or_ge k n with h | h
      · simp [List.getD_eq_getElem?_getD, h]
      · simp [List.getD_eq_getElem?_getD, h]
    rw [e]
    unfold lostE
    repeat' split
    all_goals rfl
theorem plan_times {n : Nat} {l : List Tri} {js js' : List (Int × Int)} {p q : Nat} {m : Int} (hl' : js'.length = l.length) (hm : 1 ≤ m ∧ m ≤ 1000000) (hok : js'.all okT = true) (hh : ∀ h, lostK l js h l.length = dirN p h - dirN q h)
    (ht : ∀ i, i < l.length → js'.getD i (0, 0) = (m * (js.getD i (0, 0)).1, m * (js.getD i (0, 0)).2)) : planB n l p q m js' = true := by
  unfold planB
  have ha : (List.range n).all (holeB l js' p q m) = true := by
    rw [List.all_eq_true]
    intro h _
    unfold holeB
    rw [lostK_times h l.length ht, hh h, Int.mul_sub]
    exact decide_eq_true rfl
  rw [decide_eq_true hm.1, decide_eq_true hm.2, decide_eq_true hl', hok, ha]
  rfl
theorem plan_one {n : Nat} {l : List Tri} {js : List (Int × Int)} {p q : Nat} (hl' : js.length = l.length) (hok : js.all okT = true) (hh : ∀ h, lostK l js h l.length = dirN p h - dirN q h) : planB n l p q 1 js = true :=
  plan_times (js := js) hl' (by omega) hok hh fun i _ => by rw [Int.one_mul, Int.one_mul]
theorem plan_zero (n : Nat) (l : List Tri) (js : List (Int × Int)) (p q : Nat) : planB n l p q 0 js = false := rfl
theorem dir_other {n p q : Nat} (hp : p < 2 ^ n) (hq : q < 2 ^ n) (hne : p ≠ q) : ∃ h, h < n ∧ dirN p h ≠ dirN q h := by
  obtain ⟨h, hh⟩ := Nat.exists_testBit_ne_of_ne hne
  have hlt : h < n := by
    rcases Nat.lt_or_ge h n with h1 | h1
    · exact h1
    · have h2 := Nat.pow_le_pow_right (n := 2) (by decide) h1
      rw [Nat.testBit_lt_two_pow (by omega), Nat.testBit_lt_two_pow (by omega)] at hh
      exact absurd rfl hh
  refine ⟨h, hlt, ?_⟩
  unfold dirN
  cases h1 : p.testBit h <;> cases h2 : q.testBit h <;> rw [h1, h2] at hh <;> simp at hh ⊢
/-- A plan fits one number of times alone, unless nothing changes. -/
theorem plan_more {n : Nat} {l : List Tri} {js js' : List (Int × Int)} {p q : Nat} {m : Int} (hp : p < 2 ^ n) (hq : q < 2 ^ n) (hne : q ≠ p) (hh : ∀ h, lostK l js h l.length = dirN p h - dirN q h)
    (ht : ∀ i, i < l.length → js'.getD i (0, 0) = (m * (js.getD i (0, 0)).1, m * (js.getD i (0, 0)).2)) : planB n l p q (m + 1) js' = false := by
  obtain ⟨h, hlt, hd⟩ := dir_other hp hq (Ne.symm hne)
  have hf : (List.range n).all (holeB l js' p q (m + 1)) = false := by
    refine List.all_eq_false.2 ⟨h, List.mem_range.2 hlt, ?_⟩
    unfold holeB
    rw [lostK_times h l.length ht, hh h]
    simp only [decide_eq_true_eq]
    intro e
    rw [Int.mul_sub, Int.add_mul, Int.add_mul, Int.one_mul, Int.one_mul] at e
    omega
  unfold planB
  rw [hf]
  simp
end Go.Proofs.Ythbhengcinkepaa

namespace Go.Proofs.Ythbhengcinkepaa
open Lamp

theorem hitK_own {l : List Tri} {t : Tri} {js : List (Int × Int)} {k : Nat} (hk : k < js.length) : (hitK l t js k).getD k (0, 0) = js.getD k (0, 0) := by
  rw [hitK_at l t js k k hk, if_neg (Nat.lt_irrefl k)]
theorem getD_set_same {l : List (Int × Int)} {k : Nat} (hk : k < l.length) : l.set k (l.getD k (0, 0)) = l := by
  refine set_same ?_
  rw [List.getD_eq_getElem?_getD, List.getElem?_eq_getElem hk]
  rfl
theorem hit_none {l : List Tri} {t : Tri} {js : List (Int × Int)} {k : Nat} (hk : k < js.length) (h1 : l.getD k (0, 0, 0) ≠ t) (h2 : l.getD k (0, 0, 0) ≠ revT t) : pairC (hitK l t js k) = pairC (hitK l t js (k + 1)) := by
  have h : hitP (l.getD k (0, 0, 0)) t (js.getD k (0, 0)) = (hitK l t js k).getD k (0, 0) := by
    rw [hitK_own hk]
    unfold hitP
    rw [if_neg h1, if_neg h2, Int.add_zero, Int.add_zero]
  rw [hitK, h, getD_set_same (by rw [hitK_len]; exact hk)]
theorem hit_first {l : List Tri} {t : Tri} {js : List (Int × Int)} {k : Nat} {v1 v2 : Int} (hk : k < js.length) (hv : js.getD k (0, 0) = (v1, v2)) (h1 : l.getD k (0, 0, 0) = t) (h2 : l.getD k (0, 0, 0) ≠ revT t) :
    (pairC (hitK l t js k)).setIfInBounds (k * 2) (.int .i64 (v1 + 1)) = pairC (hitK l t js (k + 1)) := by
  rw [pairC_put0 _ (by rw [hitK_len]; exact hk), hitK_own hk, hitK, hv]
  unfold hitP
  rw [if_pos h1, if_neg h2, Int.add_zero]
theorem hit_second {l : List Tri} {t : Tri} {js : List (Int × Int)} {k : Nat} {v1 v2 : Int} (hk : k < js.length) (hv : js.getD k (0, 0) = (v1, v2)) (h1 : l.getD k (0, 0, 0) ≠ t) (h2 : l.getD k (0, 0, 0) = revT t) :
    (pairC (hitK l t js k)).setIfInBounds (k * 2 + 1) (.int .i64 (v2 + 1)) = pairC (hitK l t js (k + 1)) := by
  rw [pairC_put1 _ (by rw [hitK_len]; exact hk), hitK_own hk, hitK, hv]
  unfold hitP
  rw [if_neg h1, if_pos h2, Int.add_zero]
/-- The counts, every one times M, as far as the first k lines. -/
def mulK (M : Int) (js : List (Int × Int)) : Nat → List (Int × Int)
  | 0 => js
  | k + 1 => (mulK M js k).set k (M * (js.getD k (0, 0)).1, M * (js.getD k (0, 0)).2)
theorem mulK_len (M : Int) (js : List (Int × Int)) : ∀ k, (mulK M js k).length = js.length
  | 0 => rfl
  | k + 1 => by rw [mulK, List.length_set, mulK_len M js k]
theorem mulK_at (M : Int) (js : List (Int × Int)) (i : Nat) : ∀ k, i < js.length → (mulK M js k).getD i (0, 0) = if i < k then (M * (js.getD i (0, 0)).1, M * (js.getD i (0, 0)).2) else js.getD i (0, 0)
  | 0, _ => by simp [mulK]
  | k + 1, hi => by
    have ih := mulK_at M js i k hi
    rw [mulK, List.getD_eq_getElem?_getD, List.getElem?_set]
    by_cases e : k = i
    · subst e
      rw [if_pos rfl, if_pos (by rw [mulK_len]; exact hi), if_pos (Nat.lt_succ_self _)]
      rfl
    · rw [if_neg e, ← List.getD_eq_getElem?_getD, ih]
      by_cases h2 : i < k
      · rw [if_pos h2, if_pos (by omega)]
      · rw [if_neg h2, if_neg (by omega)]
theorem mulK_own {M : Int} {js : List (Int × Int)} {k : Nat} (hk : k < js.length) : (mulK M js k).getD k (0, 0) = js.getD k (0, 0) := by
  rw [mulK_at M js k k hk, if_neg (Nat.lt_irrefl k)]
theorem mul_next {M : Int} {js : List (Int × Int)} {k : Nat} {v1 v2 : Int} (hk : k < js.length) (hv : js.getD k (0, 0) = (v1, v2)) :
    ((pairC (mulK M js k)).setIfInBounds (k * 2) (.int .i64 (M * v1))).setIfInBounds (k * 2 + 1) (.int .i64 (M * v2)) = pairC (mulK M js (k + 1)) := by
  have hl : k < (mulK M js k).length := by rw [mulK_len]; exact hk
  rw [pairC_put0 _ hl, pairC_put1 _ (by rw [List.length_set]; exact hl), List.set_set, mulK, hv]
  congr 2
  rw [List.getD_eq_getElem?_getD, List.getElem?_set, if_pos rfl, if_pos hl]
  rfl
theorem mul_ok {js : List (Int × Int)} {m : Nat} (h : Upto0 16 js) (hm : m ≤ 100) : (mulK (m : Int) js js.length).all okT = true := by
  refine upto_ok (k := 1600) (fun i => ?_) (by decide)
  have h1 := h i
  rcases Nat.lt_or_ge i js.length with hi | hi
  · rw [mulK_at _ js i _ hi, if_pos hi]
    obtain ⟨a1, a2, a3, a4⟩ := h1
    have b1 := Int.mul_nonneg (Int.natCast_nonneg m) a1
    have b3 := Int.mul_nonneg (Int.natCast_nonneg m) a3
    have b2 := Int.mul_le_mul (show (m : Int) ≤ 100 by omega) a2 a1 (by decide)
    have b4 := Int.mul_le_mul (show (m : Int) ≤ 100 by omega) a4 a3 (by decide)
    exact ⟨b1, by omega, b3, by omega⟩
  · rw [List.getD_eq_getElem?_getD, List.getElem?_eq_none (by rw [mulK_len]; exact hi)]
    decide
end Go.Proofs.Ythbhengcinkepaa

namespace Go.Proofs.Ythbhengcinkepaa
open Go.RowKit Lamp

theorem RTri.cut {w w' : World} {B B' : Nat} {A : Option Addr} {l : List Tri} (h : RTri w B A l) (h2 : RTri w' B' A l) : RTri w B' A l := fun j u hu => by
  obtain ⟨b, o, e, _, hc⟩ := h j u hu
  obtain ⟨b', o', e', hb', _⟩ := h2 j u hu
  rw [e] at e'
  cases e'
  exact ⟨b, o, e, hb', hc⟩
/-- The counts in block g1, a jump in block g2, the number m0, the lines: all as they should be. -/
def DraW (w : World) (g1 g2 : Nat) (m0 : Int) (A1 : Option Addr) (L : List Tri) (a b c : Int) (pc : Array Value) (ws : World) : Prop :=
  Box ws g1 41 pc ∧ Box ws g2 30 #[.int .i64 a, .int .i64 b, .int .i64 c] ∧ ws.cell? ⟨w.heap.size, 2, none⟩ = some (.int .i64 m0) ∧ RTri ws g1 A1 L ∧ Below w.heap.size w ws
theorem DraW.drewN {w : World} {g1 g2 : Nat} {m0 : Int} {A1 : Option Addr} {L : List Tri} {a b c : Int} {pc : Array Value} {ws : World} (h : DraW w g1 g2 m0 A1 L a b c pc ws) (n : Nat) : DraW w g1 g2 m0 A1 L a b c pc (ws.drewN n) :=
  ⟨h.1.drewN n, h.2.1.drewN n, h.2.2.1, h.2.2.2.1.drewN n, below_drewN h.2.2.2.2 n⟩
theorem DraW.put {w : World} {g1 g2 : Nat} {m0 : Int} {A1 : Option Addr} {L : List Tri} {a b c : Int} {pc : Array Value} {ws : World} (h : DraW w g1 g2 m0 A1 L a b c pc ws) (hne : g1 ≠ g2) (hw : w.heap.size < g1) (i : Nat) (v : Value) :
    DraW w g1 g2 m0 A1 L a b c (pc.setIfInBounds i v) (ws.setCell ⟨g1, i, none⟩ v) := by
  have hb := (Below.refl g1 ws).setCell (p := ⟨g1, i, none⟩) (Nat.le_refl _) v
  exact ⟨h.1.put i v, h.2.1.far (p := ⟨g1, i, none⟩) (Ne.symm hne) v, (hb.cell hw).trans h.2.2.1, h.2.2.2.1.below hb, h.2.2.2.2.trans (hb.mono (Nat.le_of_lt hw))⟩
theorem DraW.cells {w : World} {g1 g2 : Nat} {m0 : Int} {bl ol : Nat} {L : List Tri} {a b c : Int} {pc : Array Value} {ws : World} (h : DraW w g1 g2 m0 (some ⟨bl, ol, none⟩) L a b c pc ws) {k : Nat} {e0 e1 e2 : Int} (hk : k < L.length) (hg : L.getD k (0, 0, 0) = (e0, e1, e2)) :
    ws.cell? ⟨bl, ol + k * 3, none⟩ = some (.int .i64 e0) ∧ ws.cell? ⟨bl, ol + k * 3 + 1, none⟩ = some (.int .i64 e1) ∧ ws.cell? ⟨bl, ol + k * 3 + 2, none⟩ = some (.int .i64 e2) := by
  obtain ⟨b', o', x, y, z, hA, _, hx, p0, p1, p2⟩ := h.2.2.2.1.at_ hk
  cases hA
  rw [List.getD_eq_getElem?_getD, hx] at hg
  cases hg
  exact ⟨p0, p1, p2⟩
theorem DraW.jump {w : World} {g1 g2 : Nat} {m0 : Int} {A1 : Option Addr} {L : List Tri} {a b c : Int} {pc : Array Value} {ws : World} (h : DraW w g1 g2 m0 A1 L a b c pc ws) :
    ws.cell? ⟨g2, 0, none⟩ = some (.int .i64 a) ∧ ws.cell? ⟨g2, 1, none⟩ = some (.int .i64 b) ∧ ws.cell? ⟨g2, 2, none⟩ = some (.int .i64 c) :=
  ⟨h.2.1.cell 0, h.2.1.cell 1, h.2.1.cell 2⟩
theorem DraW.two {w : World} {g1 g2 : Nat} {m0 : Int} {A1 : Option Addr} {L : List Tri} {a b c : Int} {js : List (Int × Int)} {ws : World} (h : DraW w g1 g2 m0 A1 L a b c (pairC js) ws) {k : Nat} (hk : k < js.length) {v1 v2 : Int} (hv : js.getD k (0, 0) = (v1, v2)) :
    ws.cell? ⟨g1, k * 2, none⟩ = some (.int .i64 v1) ∧ ws.cell? ⟨g1, k * 2 + 1, none⟩ = some (.int .i64 v2) ∧ ws.frozen? ⟨g1, k * 2, none⟩ = false ∧ ws.frozen? ⟨g1, k * 2 + 1, none⟩ = false := by
  have hp := pairC_at js hk
  rw [hv] at hp
  exact ⟨(h.1.cell (k * 2)).trans hp.1, (h.1.cell (k * 2 + 1)).trans hp.2, h.1.free _, h.1.free _⟩
/-- The same without the jump. -/
def DraV (w : World) (g1 : Nat) (A1 : Option Addr) (L : List Tri) (pc : Array Value) (ws : World) : Prop := Box ws g1 41 pc ∧ RTri ws g1 A1 L ∧ Below w.heap.size w ws
theorem DraV.drewN {w : World} {g1 : Nat} {A1 : Option Addr} {L : List Tri} {pc : Array Value} {ws : World} (h : DraV w g1 A1 L pc ws) (n : Nat) : DraV w g1 A1 L pc (ws.drewN n) := ⟨h.1.drewN n, h.2.1.drewN n, below_drewN h.2.2 n⟩
theorem DraV.put {w : World} {g1 : Nat} {A1 : Option Addr} {L : List Tri} {pc : Array Value} {ws : World} (h : DraV w g1 A1 L pc ws) (hw : w.heap.size < g1) (i : Nat) (v : Value) : DraV w g1 A1 L (pc.setIfInBounds i v) (ws.setCell ⟨g1, i, none⟩ v) := by
  have hb := (Below.refl g1 ws).setCell (p := ⟨g1, i, none⟩) (Nat.le_refl _) v
  exact ⟨h.1.put i v, h.2.1.below hb, h.2.2.trans (hb.mono (Nat.le_of_lt hw))⟩
theorem DraV.two {w : World} {g1 : Nat} {A1 : Option Addr} {L : List Tri} {js : List (Int × Int)} {ws : World} (h : DraV w g1 A1 L (pairC js) ws) {k : Nat} (hk : k < js.length) {v1 v2 : Int} (hv : js.getD k (0, 0) = (v1, v2)) :
    ws.cell? ⟨g1, k * 2, none⟩ = some (.int .i64 v1) ∧ ws.cell? ⟨g1, k * 2 + 1, none⟩ = some (.int .i64 v2) ∧ ws.frozen? ⟨g1, k * 2, none⟩ = false ∧ ws.frozen? ⟨g1, k * 2 + 1, none⟩ = false := by
  have hp := pairC_at js hk
  rw [hv] at hp
  exact ⟨(h.1.cell (k * 2)).trans hp.1, (h.1.cell (k * 2 + 1)).trans hp.2, h.1.free _, h.1.free _⟩
end Go.Proofs.Ythbhengcinkepaa
