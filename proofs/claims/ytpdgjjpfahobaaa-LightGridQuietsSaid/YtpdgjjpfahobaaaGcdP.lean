/- The program's polynomials as numbers: what GridQuiet returns is the degree of a greatest common divisor, and it is the same with rows and columns exchanged. -/
import Derived.Test.YtpdgjjpfahobaaaGcdL
import Derived.Test.YtpdgjjpfahobaaaRPoly
import Derived.Test.YtpdgjjpfahobaaaPoly4
namespace Go.Proofs.Ytpdgjjpfahobaaa
open Go.RowKit Lamp

theorem bit_xor {a b : Nat} (ha : a < 2) (hb : b < 2) : decide (a ^^^ b = 1) = (decide (a = 1)).xor (decide (b = 1)) := by
  have h1 : a = 0 ∨ a = 1 := by omega
  have h2 : b = 0 ∨ b = 1 := by omega
  rcases h1 with rfl | rfl <;> rcases h2 with rfl | rfl <;> rfl
theorem val_plus {f g : List Nat} {s : Nat} (hf : ∀ x ∈ f, x < 2) (hg : ∀ x ∈ g, x < 2) : valN (plusL f s g) = valN f ^^^ valN g * 2 ^ s := by
  apply Nat.eq_of_testBit_eq
  intro i
  rw [valN_bit, plusL_getD, Nat.testBit_xor, valN_bit, mul_bit, valN_bit]
  by_cases h : s ≤ i
  · rw [if_pos h, bit_xor (getD_lt (M := 2) hf (by decide) i) (getD_lt (M := 2) hg (by decide) _)]
    simp [h]
  · rw [if_neg h]
    simp [h]
theorem val_lt (l : List Nat) : valN l < 2 ^ l.length := by
  refine Nat.lt_pow_two_of_testBit _ fun i hi => ?_
  rw [valN_bit, getD_out hi]
  rfl
theorem val_norm {l : List Nat} (hl : NormP l) (h1 : 1 ≤ l.length) : valN l ≠ 0 ∧ (valN l).log2 = l.length - 1 := by
  have hb : (valN l).testBit (l.length - 1) = true := by rw [valN_bit, hl.2 h1]; rfl
  have h0 : valN l ≠ 0 := fun e => by rw [e] at hb; simp at hb
  refine ⟨h0, log2_eq (Nat.ge_two_pow_of_testBit hb) ?_⟩
  rw [Nat.sub_add_cancel h1]
  exact val_lt l
theorem val_nil {l : List Nat} (h : l.length = 0) : valN l = 0 := by
  rw [List.length_eq_zero_iff.1 h]; rfl

theorem rem_deg {g : List Nat} (hg : NormP g) (n : Nat) : ∀ (k : Nat) (f : List Nat), NormP f → IsDeg (valN (remL k f g)) (valN g) n → IsDeg (valN f) (valN g) n
  | 0, f, _, h => h
  | k + 1, f, hf, h => by
    rw [remL] at h
    split at h
    · have h1 := rem_deg hg n k _ (plusL_norm hf.1 hg.1) h
      rw [val_plus hf.1 hg.1] at h1
      exact h1.step _
    · exact h
theorem div_deg : ∀ (k : Nat) (f g : List Nat), NormP f → NormP g → g.length < k → 1 ≤ f.length ∨ 1 ≤ g.length → 1 ≤ (divL k f g).length ∧ IsDeg (valN f) (valN g) ((divL k f g).length - 1)
  | 0, f, g, _, _, h, _ => by omega
  | k + 1, f, g, hf, hg, h, h1 => by
    rw [divL]
    split
    · rename_i h0
      obtain ⟨e1, e2⟩ := val_norm hf (by omega)
      refine ⟨by omega, ?_⟩
      rw [val_nil h0, ← e2]
      exact IsDeg.last e1
    · rename_i h0
      have hr := remL_ok hg (by omega) f.length f hf (Nat.le_refl _)
      obtain ⟨i1, i2⟩ := div_deg k g (remF f g) hg hr.1 (by have : (remF f g).length < g.length := hr.2; omega) (.inl (by omega))
      exact ⟨i1, rem_deg hg _ _ f hf i2.swap⟩
theorem divF_deg {f g : List Nat} (hf : NormP f) (hg : NormP g) (h1 : 1 ≤ f.length) : 1 ≤ (divF f g).length ∧ IsDeg (valN f) (valN g) ((divF f g).length - 1) :=
  div_deg _ f g hf hg (by omega) (.inl h1)

/-- The polynomials f(k) as numbers, and with x + 1 in the place of x. -/
def polyV (k : Nat) : Nat := valN (memberL k false)
theorem memK_val (k : Nat) : valN (memK true k).1 = sig (valN (memK false k).1) ∧ valN (memK true k).2 = sig (valN (memK false k).2) := by
  induction k with
  | zero => exact ⟨by decide, by decide⟩
  | succ k ih =>
    have h1 := memK_ok true k
    have h2 := memK_ok false k
    refine ⟨ih.2, ?_⟩
    show valN (plusL (plusL (memK true k).1 1 (memK true k).2) 0 (memK true k).2) = sig (valN (plusL (memK false k).1 1 (memK false k).2))
    rw [val_plus (plusL_bits h1.2.1 h1.2.2) h1.2.2, val_plus h1.2.1 h1.2.2, val_plus h2.2.1 h2.2.2, ih.1, ih.2, sig_xor]
    simp only [Nat.pow_zero, Nat.mul_one, Nat.pow_one]
    rw [sig_two, Nat.xor_assoc]
theorem polyV_shift (k : Nat) : valN (memberL k true) = sig (polyV k) := (memK_val k).2
theorem polyV_next (k : Nat) : polyV (k + 2) = polyV k ^^^ polyV (k + 1) * 2 := by
  have h1 := memK_ok false (k + 1)
  show valN (plusL (memK false (k + 1)).1 1 (memK false (k + 1)).2) = _
  rw [val_plus h1.2.1 h1.2.2, Nat.pow_one]
  rfl
theorem polyV_top (k : Nat) : polyV k < 2 ^ k ∧ 2 ^ k ≤ polyV (k + 1) := by
  induction k with
  | zero => exact ⟨by decide, by decide⟩
  | succ k ih =>
    have h1 : polyV (k + 1) < 2 ^ (k + 1) := Nat.lt_of_lt_of_le (val_lt _) (Nat.pow_le_pow_right (by decide) (memK_ok false (k + 1)).1.2)
    refine ⟨h1, ?_⟩
    rw [polyV_next]
    exact (xor_top (t := k + 1) (Nat.lt_of_lt_of_le ih.1 (Nat.pow_le_pow_right (by decide) (by omega))) (by rw [Nat.pow_succ]; omega) (by rw [Nat.pow_succ 2 (k + 1)]; omega)).1
theorem member_pos (k : Nat) (sh : Bool) : 1 ≤ (memberL (k + 1) sh).length := by
  apply Decidable.byContradiction
  intro hc
  have h := polyV_top k
  have hp := Nat.two_pow_pos k
  have h0 : valN (memberL (k + 1) sh) = 0 := val_nil (by omega)
  cases sh
  · have : polyV (k + 1) = 0 := h0
    omega
  · rw [polyV_shift] at h0
    have := (sig_top (z := polyV (k + 1)) (by omega)).1
    exact this h0
/-- What GridQuiet answers. -/
theorem gridQ_deg (r c : Nat) (own : Bool) : ∃ n : Nat, gridQ r c own = (n : Int) ∧ gridQ c r own = (n : Int) ∧ IsDeg (polyV (c + 1)) (if own then sig (polyV (r + 1)) else polyV (r + 1)) n := by
  have hd : ∀ r c, 1 ≤ (divF (memberL (c + 1) false) (memberL (r + 1) own)).length ∧ IsDeg (polyV (c + 1)) (if own then sig (polyV (r + 1)) else polyV (r + 1)) ((divF (memberL (c + 1) false) (memberL (r + 1) own)).length - 1) := fun r c => by
    have h := divF_deg (memK_norm false (c + 1)).2 (memK_norm own (r + 1)).2 (member_pos c false)
    refine ⟨h.1, ?_⟩
    have e : valN (memberL (r + 1) own) = if own then sig (polyV (r + 1)) else polyV (r + 1) := by
      cases own
      · rfl
      · rw [polyV_shift]; rfl
    rw [← e]
    exact h.2
  obtain ⟨a1, a2⟩ := hd r c
  obtain ⟨b1, b2⟩ := hd c r
  refine ⟨_, by unfold gridQ; omega, ?_, a2⟩
  have h : (divF (memberL (r + 1) false) (memberL (c + 1) own)).length - 1 = (divF (memberL (c + 1) false) (memberL (r + 1) own)).length - 1 := by
    refine IsDeg.one ?_ a2
    cases own
    · exact b2.swap
    · have h1 := b2.sig
      simp only [if_true] at h1 ⊢
      rw [sig_sig] at h1
      exact h1.swap
  unfold gridQ
  omega
end Go.Proofs.Ytpdgjjpfahobaaa
