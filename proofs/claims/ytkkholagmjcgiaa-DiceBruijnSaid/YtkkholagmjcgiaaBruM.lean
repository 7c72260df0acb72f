/- What the closed facts on even dice say: every sum comes up in one way, and there are no others. -/
import Derived.Test.YtkkholagmjcgiaaBruD
import Derived.Test.YtkkholagmjcgiaaSums
namespace Go.Proofs.Ytkkholagmjcgiaa
open Go.RowKit

theorem sum_nonneg : ∀ (f : Int → Int) (l : List Int), (∀ x ∈ l, 0 ≤ f x) → 0 ≤ sumF f l
  | f, [], _ => by simp [sumF]
  | f, x :: l, h => by
    have h1 := sum_nonneg f l (fun y hy => h y (by simp [hy]))
    have h2 := h x (by simp)
    unfold sumF at *
    simp only [List.map_cons, List.sum_cons]
    omega
theorem sum_pos : ∀ (f : Int → Int) (l : List Int) (x : Int), (∀ x ∈ l, 0 ≤ f x) → x ∈ l → 1 ≤ f x → 1 ≤ sumF f l
  | f, [], x, _, hx, _ => by cases hx
  | f, y :: l, x, h, hx, h1 => by
    have h2 := sum_nonneg f l (fun z hz => h z (by simp [hz]))
    have h3 := h y (by simp)
    rcases List.mem_cons.1 hx with rfl | hx
    · unfold sumF at *
      simp only [List.map_cons, List.sum_cons]
      omega
    · have h4 := sum_pos f l x (fun z hz => h z (by simp [hz])) hx h1
      unfold sumF at *
      simp only [List.map_cons, List.sum_cons]
      omega
theorem sum_ones (f : Int → Int) : ∀ k : Nat, (∀ j : Nat, j < k → f j = 1) → sumF f (evK k) = k
  | 0, _ => by simp [sumF, evK]
  | k + 1, h => by
    have h1 := sum_ones f k (fun j hj => h j (by omega))
    rw [evK_succ, sumF_append, h1]
    have h2 := h k (by omega)
    simp [sumF, h2]

theorem keys_one {x y : List Int} (hx : IsDie x) (hy : IsDie y) (h : oneEach x y (x.length * y.length) = true) : keysW [x, y] = evK (x.length * y.length) := by
  have hin := twinIn hx hy
  have hone : ∀ j : Nat, j < x.length * y.length → waysF [x, y] (j : Int) = 1 := fun j hj => by
    have := List.all_eq_true.1 h j (List.mem_range.2 hj)
    simpa using this
  have hp : x.length * y.length ≤ 64 := Nat.mul_le_mul hx.ok.1 hy.ok.1
  have htot := hin.sum
  have hno : ∀ z, waysF [x, y] z ≠ 0 → 0 ≤ z ∧ z < (x.length * y.length : Nat) := fun z hz => by
    have hk := hin.key z hz
    have hz0 := (mem_evK.1 (List.mem_filter.1 hk).1)
    refine ⟨hz0.1, ?_⟩
    rcases Int.lt_or_le z ((x.length * y.length : Nat) : Int) with h1 | h1
    · exact h1
    · exfalso
      have hge : 1 ≤ waysF [x, y] z := by have := (hin.rng z).1; omega
      obtain ⟨d, hd⟩ : ∃ d, 121 = x.length * y.length + d := ⟨121 - x.length * y.length, by omega⟩
      have hks : sumF (waysF [x, y]) (keys2 (waysF [x, y])) = sumF (waysF [x, y]) (evK 121) := sumF_filter _ _
      have hspl : evK 121 = evK (x.length * y.length) ++ (List.range' (x.length * y.length) d).map (fun (i : Nat) => (i : Int)) := by
        rw [hd]
        unfold evK
        rw [← List.map_append]
        congr 1
        have h9 := (List.range'_append_1 (s := 0) (m := x.length * y.length) (n := d)).symm
        rw [Nat.zero_add] at h9
        rw [List.range_eq_range', List.range_eq_range']
        exact h9
      rw [hks, hspl, sumF_append, sum_ones _ _ hone] at htot
      have hmem : z ∈ (List.range' (x.length * y.length) d).map (fun (i : Nat) => (i : Int)) := by
        rw [List.mem_map]
        exact ⟨z.toNat, by rw [List.mem_range'_1]; omega, by omega⟩
      have := sum_pos (waysF [x, y]) _ z (fun w _ => (hin.rng w).1) hmem hge
      push_cast at htot
      omega
  refine rising_unique ((evK_rising 361).filter _) (evK_rising _) fun z => ?_
  unfold keysW
  rw [List.mem_filter, mem_evK, mem_evK, nz_iff]
  constructor
  · rintro ⟨_, h2⟩
    exact hno z h2
  · rintro ⟨h1, h2⟩
    refine ⟨by omega, ?_⟩
    obtain ⟨j, rfl⟩ := Int.eq_ofNat_of_zero_le h1
    rw [hone j (by omega)]
    decide
theorem sums_one {x y : List Int} (hx : IsDie x) (hy : IsDie y) (h : oneEach x y (x.length * y.length) = true) : sumsL [x, y] = (List.range (x.length * y.length)).map fun k : Nat => ((k : Int), 1) := by
  unfold sumsL
  rw [keys_one hx hy h]
  unfold evK
  rw [List.map_map]
  refine List.map_congr_left fun j hj => ?_
  have := List.all_eq_true.1 h j hj
  have e : waysF [x, y] (j : Int) = 1 := by simpa using this
  simp [e]

/-- All that the statement asks of a pair. -/
theorem pair_facts {n m : Nat} {u : List (List Int × List Int)} {p : List Int × List Int} (h : pairOk n m u p = true) :
    p.1.length = n ∧ p.2.length = m ∧ p.1.getD 0 0 = 0 ∧ p.2.getD 0 0 = 0 ∧ p.1.getD (n - 1) 0 + p.2.getD (m - 1) 0 = (n : Int) * m - 1 ∧ (∃ q ∈ u, q.1 = p.2 ∧ q.2 = p.1) ∧ AreDice [p.1, p.2] ∧
    sumsL [p.1, p.2] = (List.range (n * m)).map fun k : Nat => ((k : Int), 1) := by
  simp only [pairOk, Bool.and_eq_true, beq_iff_eq] at h
  obtain ⟨⟨⟨⟨⟨⟨⟨h1, h2⟩, h3⟩, h4⟩, h5⟩, h6⟩, h7⟩, h8⟩ := h
  have hd := areDice_of h8
  refine ⟨h1, h2, h4, h5, h6, ?_, hd, ?_⟩
  · obtain ⟨q, hq, h9⟩ := List.any_eq_true.1 h7
    simp only [Bool.and_eq_true, beq_iff_eq] at h9
    exact ⟨q, hq, h9⟩
  · have h9 := sums_one (hd.die p.1 (by simp)) (hd.die p.2 (by simp)) (by rw [h1, h2]; exact h3)
    rw [h1, h2] at h9
    exact h9

end Go.Proofs.Ytkkholagmjcgiaa
