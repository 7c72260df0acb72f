/- Distances of discs on three pegs: mathematics. -/
import Derived.Test.YthbhengcinkepaaMem
namespace Go.Proofs.Ythbhengcinkepaa

/-- The least number of moves that bring the first discs to a peg. -/
def gathK (s : Nat → Nat) : Nat → Nat → Nat
  | 0, _ => 0
  | d + 1, p => if s d = p then gathK s d p else 2 ^ d + gathK s d (3 - s d - p)
theorem gathK_lt (s : Nat → Nat) : ∀ d p, gathK s d p < 2 ^ d
  | 0, _ => by simp [gathK]
  | d + 1, p => by
    unfold gathK
    have h1 := gathK_lt s d p
    have h2 := gathK_lt s d (3 - s d - p)
    rw [Nat.pow_succ]
    split <;> omega
theorem gathK_same {s t : Nat → Nat} : ∀ {d : Nat} (p : Nat), (∀ i, i < d → s i = t i) → gathK s d p = gathK t d p
  | 0, _, _ => rfl
  | d + 1, p, h => by
    unfold gathK
    rw [h d (Nat.lt_succ_self d), gathK_same p (fun i hi => h i (by omega)), gathK_same (3 - t d - p) (fun i hi => h i (by omega))]
/-- One more than the greatest of the first discs whose pegs differ, or 0. -/
def grtK (s t : Nat → Nat) : Nat → Nat
  | 0 => 0
  | d + 1 => if s d = t d then grtK s t d else d + 1
theorem grtK_le (s t : Nat → Nat) : ∀ d, grtK s t d ≤ d
  | 0 => Nat.le_refl _
  | d + 1 => by
    unfold grtK
    have := grtK_le s t d
    split <;> omega
theorem grtK_ne {s t : Nat → Nat} : ∀ {d e : Nat}, grtK s t d = e + 1 → s e ≠ t e
  | 0, _, h => by simp [grtK] at h
  | d + 1, e, h => by
    unfold grtK at h
    split at h
    · exact grtK_ne h
    · next h1 =>
      obtain rfl : d = e := by omega
      exact h1
theorem grtK_above {s t : Nat → Nat} : ∀ {d : Nat} {i : Nat}, grtK s t d ≤ i → i < d → s i = t i
  | 0, _, _, h => by omega
  | d + 1, i, h, hi => by
    unfold grtK at h
    split at h
    · next h1 =>
      rcases Nat.lt_or_ge i d with h2 | h2
      · exact grtK_above h h2
      · obtain rfl : i = d := by omega
        exact h1
    · omega
theorem grtK_more {s t : Nat → Nat} {n : Nat} (h : ∀ i, n ≤ i → s i = t i) : ∀ k, grtK s t (n + k) = grtK s t n
  | 0 => rfl
  | k + 1 => by
    rw [show n + (k + 1) = (n + k) + 1 by omega, grtK, if_pos (h (n + k) (by omega)), grtK_more h k]
theorem grtK_zero {s t : Nat → Nat} {d : Nat} : grtK s t d = 0 ↔ ∀ i, i < d → s i = t i := by
  constructor
  · intro h i hi
    exact grtK_above (by omega) hi
  · intro h
    cases h0 : grtK s t d with
    | zero => rfl
    | succ e =>
      have h1 := grtK_ne h0
      have h2 := grtK_le s t d
      exact absurd (h e (by omega)) h1
/-- The moves of a way with one great move, and with two. -/
def oneK (s t : Nat → Nat) (d : Nat) : Nat := gathK s d (3 - s d - t d) + 1 + gathK t d (3 - s d - t d)
def twoK (s t : Nat → Nat) (d : Nat) : Nat := gathK s d (t d) + 2 ^ d + 1 + gathK t d (s d)
/-- The distance of n discs. -/
def distK (s t : Nat → Nat) (n : Nat) : Nat :=
  match grtK s t n with
  | 0 => 0
  | d + 1 => min (oneK s t d) (twoK s t d)
theorem oneK_le (s t : Nat → Nat) (d : Nat) : oneK s t d < 2 ^ (d + 1) := by
  have h1 := gathK_lt s d (3 - s d - t d)
  have h2 := gathK_lt t d (3 - s d - t d)
  unfold oneK
  rw [Nat.pow_succ]
  omega
theorem twoK_le (s t : Nat → Nat) (d : Nat) : twoK s t d < 2 ^ (d + 2) := by
  have h1 := gathK_lt s d (t d)
  have h2 := gathK_lt t d (s d)
  unfold twoK
  rw [show d + 2 = d + 1 + 1 from rfl, Nat.pow_succ, Nat.pow_succ]
  omega
theorem distK_lt (s t : Nat → Nat) (n : Nat) : distK s t n < 2 ^ n := by
  unfold distK
  cases h : grtK s t n with
  | zero => exact Nat.pow_pos (by decide)
  | succ d =>
    have h1 := oneK_le s t d
    have h2 := grtK_le s t n
    have h3 := Nat.pow_le_pow_right (n := 2) (by decide) (show d + 1 ≤ n by omega)
    have h4 := Nat.min_le_left (oneK s t d) (twoK s t d)
    exact Nat.lt_of_lt_of_le (Nat.lt_of_le_of_lt h4 h1) h3
/-- Discs as a function: beyond the list all are on peg 0. -/
def atL (l : List Int) (i : Nat) : Nat := (l.getD i 0).toNat
end Go.Proofs.Ythbhengcinkepaa
