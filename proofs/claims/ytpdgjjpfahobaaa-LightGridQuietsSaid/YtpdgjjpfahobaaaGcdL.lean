/- Polynomials modulo 2 as numbers, whose bits are the coefficients: the degree of the greatest common divisor, and x + 1 in the place of x. No program is spoken of. -/
import Derived.Test.YtpdgjjpfahobaaaLampL
namespace Go.Proofs.Ytpdgjjpfahobaaa.Lamp

/-- What the S i at the places of c make together, of the first k. -/
def cF (S : Nat → Nat) (c : Nat) : Nat → Nat
  | 0 => 0
  | k + 1 => if c.testBit k then cF S c k ^^^ S k else cF S c k
theorem cF_xor (S : Nat → Nat) (a b k : Nat) : cF S (a ^^^ b) k = cF S a k ^^^ cF S b k := by
  induction k with
  | zero => simp [cF]
  | succ k ih =>
    simp only [cF, Nat.testBit_xor, ih]
    cases a.testBit k <;> cases b.testBit k <;> simp
    · rw [Nat.xor_assoc]
    · rw [Nat.xor_assoc, Nat.xor_assoc, Nat.xor_comm (cF S b k)]
    · rw [Nat.xor_assoc, ← Nat.xor_assoc (S k), Nat.xor_comm (S k), Nat.xor_assoc, Nat.xor_self, Nat.xor_zero]
theorem cF_zero (S : Nat → Nat) (k : Nat) : cF S 0 k = 0 := by
  induction k with
  | zero => rfl
  | succ k ih => simp [cF, ih]
theorem cF_more (S : Nat → Nat) (c k n : Nat) (hk : k ≤ n) (hc : c < 2 ^ k) : cF S c n = cF S c k := by
  induction n with
  | zero => obtain rfl : k = 0 := by omega
            rfl
  | succ n ih =>
    by_cases e : k = n + 1
    · rw [e]
    · rw [cF, Nat.testBit_lt_two_pow (Nat.lt_of_lt_of_le hc (Nat.pow_le_pow_right (by decide) (by omega))), ih (by omega)]
      rfl
/-- All of it. -/
def cA (S : Nat → Nat) (c : Nat) : Nat := cF S c c
theorem cA_at (S : Nat → Nat) {c k : Nat} (hc : c < 2 ^ k) : cA S c = cF S c k := by
  unfold cA
  rcases Nat.le_total c k with h | h
  · exact (cF_more S c c k h Nat.lt_two_pow_self).symm
  · exact cF_more S c k c h hc
theorem big_both (a b : Nat) : ∃ k, a < 2 ^ k ∧ b < 2 ^ k :=
  ⟨a + b, Nat.lt_of_lt_of_le Nat.lt_two_pow_self (Nat.pow_le_pow_right (by decide) (by omega)), Nat.lt_of_lt_of_le Nat.lt_two_pow_self (Nat.pow_le_pow_right (by decide) (by omega))⟩
theorem cA_xor (S : Nat → Nat) (a b : Nat) : cA S (a ^^^ b) = cA S a ^^^ cA S b := by
  obtain ⟨k, ha, hb⟩ := big_both a b
  rw [cA_at S ha, cA_at S hb, cA_at S (Nat.xor_lt_two_pow ha hb), cF_xor]
theorem cA_zero (S : Nat → Nat) : cA S 0 = 0 := rfl
theorem cF_pow (S : Nat → Nat) (i k : Nat) : cF S (2 ^ i) k = if i < k then S i else 0 := by
  induction k with
  | zero => simp [cF]
  | succ k ih =>
    simp only [cF, ih, Nat.testBit_two_pow]
    by_cases h : i = k
    · subst h; simp
    · by_cases h2 : i < k
      · simp [h, h2, Nat.lt_succ_of_lt h2]
      · simp [h, h2]; omega
theorem cA_pow (S : Nat → Nat) (i : Nat) : cA S (2 ^ i) = S i := by
  rw [cA_at S (k := i + 1) (Nat.pow_lt_pow_right (by decide) (by omega)), cF_pow, if_pos (by omega)]
/-- Twice. -/
theorem xor_two (a b : Nat) : (a ^^^ b) * 2 = a * 2 ^^^ b * 2 := by
  apply Nat.eq_of_testBit_eq
  intro i
  have h : ∀ x : Nat, (x * 2).testBit i = (decide (1 ≤ i) && x.testBit (i - 1)) := fun x => by
    cases i with
    | zero => simp [Nat.testBit_zero]
    | succ i => rw [Nat.testBit_succ]; simp
  rw [Nat.testBit_xor, h, h, h, Nat.testBit_xor]
  cases decide (1 ≤ i) <;> simp
theorem testBit_two (c k : Nat) : (c * 2).testBit (k + 1) = c.testBit k := by rw [Nat.testBit_succ]; simp
theorem cF_two (S : Nat → Nat) (c k : Nat) : cF S (c * 2) (k + 1) = cF (fun i => S (i + 1)) c k := by
  induction k with
  | zero => simp [cF, Nat.testBit_zero]
  | succ k ih => rw [cF, ih, testBit_two]; rfl
theorem cF_lin (S T : Nat → Nat) (h : ∀ i, T i = S i * 2) (c k : Nat) : cF T c k = cF S c k * 2 := by
  induction k with
  | zero => rfl
  | succ k ih =>
    rw [cF, cF, ih, h]
    split
    · rw [xor_two]
    · rfl
theorem cF_sum (S T U : Nat → Nat) (h : ∀ i, U i = S i ^^^ T i) (c k : Nat) : cF U c k = cF S c k ^^^ cF T c k := by
  induction k with
  | zero => simp [cF]
  | succ k ih =>
    rw [cF, cF, cF, ih, h]
    split
    · rw [Nat.xor_assoc, Nat.xor_assoc, ← Nat.xor_assoc (cF T c k), Nat.xor_comm (cF T c k) (S k), Nat.xor_assoc]
    · rfl
theorem cF_lt (S : Nat → Nat) (c e k : Nat) (h : ∀ i, i < k → S i < 2 ^ (e + i + 1)) : cF S c k < 2 ^ (e + k) := by
  induction k with
  | zero => simp [cF, Nat.two_pow_pos]
  | succ k ih =>
    have h1 := ih (fun i hi => h i (by omega))
    have h2 : (2:Nat) ^ (e + k) ≤ 2 ^ (e + (k + 1)) := Nat.pow_le_pow_right (by decide) (by omega)
    unfold cF
    split
    · exact Nat.xor_lt_two_pow (by omega) (h k (by omega))
    · omega
/-- If each S i has the degree e + i, what c makes has e more than c. -/
theorem cA_top (S : Nat → Nat) (e c : Nat) (hc : c ≠ 0) (h : ∀ i, 2 ^ (e + i) ≤ S i ∧ S i < 2 ^ (e + i + 1)) : 2 ^ (e + c.log2) ≤ cA S c ∧ cA S c < 2 ^ (e + c.log2 + 1) := by
  rw [cA_at S (k := c.log2 + 1) (lt_log2 c), cF, testBit_log2 hc, if_pos rfl]
  exact xor_top (cF_lt S c e c.log2 fun i _ => (h i).2) (h c.log2).1 (h c.log2).2

/-- What two polynomials make: their sums, times x, and so on. -/
inductive Idl (f g : Nat) : Nat → Prop
  | zero : Idl f g 0
  | fst : Idl f g f
  | snd : Idl f g g
  | add {a b : Nat} : Idl f g a → Idl f g b → Idl f g (a ^^^ b)
  | mulx {a : Nat} : Idl f g a → Idl f g (a * 2)
theorem Idl.shift {f g z : Nat} (h : Idl f g z) (k : Nat) : Idl f g (z * 2 ^ k) := by
  induction k with
  | zero => simpa using h
  | succ k ih => rw [Nat.pow_succ, ← Nat.mul_assoc]; exact ih.mulx
theorem Idl.mono {f g f' g' z : Nat} (hf : Idl f g f') (hg : Idl f g g') (h : Idl f' g' z) : Idl f g z := by
  induction h with
  | zero => exact .zero
  | fst => exact hf
  | snd => exact hg
  | add _ _ h1 h2 => exact h1.add h2
  | mulx _ h1 => exact h1.mulx
/-- The degree of the greatest common divisor: the least one of what they make. -/
def IsDeg (f g n : Nat) : Prop := (∃ z, Idl f g z ∧ z ≠ 0 ∧ z.log2 = n) ∧ ∀ z, Idl f g z → z ≠ 0 → n ≤ z.log2
theorem IsDeg.one {f g m n : Nat} (h : IsDeg f g m) (k : IsDeg f g n) : m = n := by
  obtain ⟨⟨z, h1, h2, h3⟩, h4⟩ := h
  obtain ⟨⟨y, k1, k2, k3⟩, k4⟩ := k
  have := h4 y k1 k2
  have := k4 z h1 h2
  omega
theorem IsDeg.turn {f g f' g' n : Nat} (h1 : Idl f g f') (h2 : Idl f g g') (h3 : Idl f' g' f) (h4 : Idl f' g' g) (h : IsDeg f' g' n) : IsDeg f g n := by
  obtain ⟨⟨z, a, b, c⟩, d⟩ := h
  exact ⟨⟨z, Idl.mono h1 h2 a, b, c⟩, fun y hy h0 => d y (Idl.mono h3 h4 hy) h0⟩
theorem IsDeg.swap {f g n : Nat} (h : IsDeg g f n) : IsDeg f g n := h.turn .snd .fst .snd .fst
theorem IsDeg.step {f g n : Nat} (k : Nat) (h : IsDeg (f ^^^ g * 2 ^ k) g n) : IsDeg f g n := by
  refine h.turn (Idl.add .fst (Idl.shift .snd k)) .snd ?_ .snd
  have := Idl.add (f := f ^^^ g * 2 ^ k) (g := g) .fst (Idl.shift .snd k)
  rwa [xor_cancel] at this
theorem Idl_one {d z : Nat} (h : Idl d 0 z) : ∃ c, z = cA (fun i => d * 2 ^ i) c := by
  induction h with
  | zero => exact ⟨0, rfl⟩
  | fst => exact ⟨2 ^ 0, by rw [cA_pow]; simp⟩
  | snd => exact ⟨0, rfl⟩
  | add _ _ h1 h2 =>
    obtain ⟨a, rfl⟩ := h1
    obtain ⟨b, rfl⟩ := h2
    exact ⟨a ^^^ b, (cA_xor _ _ _).symm⟩
  | mulx _ h1 =>
    obtain ⟨a, rfl⟩ := h1
    refine ⟨a * 2, ?_⟩
    have ha : a < 2 ^ a := Nat.lt_two_pow_self
    rw [cA_at _ (c := a * 2) (k := a + 1) (by rw [Nat.pow_succ]; omega), cF_two, cA_at _ ha]
    exact (cF_lin _ _ (fun i => by rw [Nat.pow_succ, Nat.mul_assoc]) a a).symm
/-- At the end of the division. -/
theorem IsDeg.last {d : Nat} (hd : d ≠ 0) : IsDeg d 0 d.log2 := by
  refine ⟨⟨d, .fst, hd, rfl⟩, fun z hz h0 => ?_⟩
  obtain ⟨c, rfl⟩ := Idl_one hz
  by_cases hc : c = 0
  · subst hc; exact absurd rfl h0
  have h1 := cA_top (fun i => d * 2 ^ i) d.log2 c hc (fun i => by
    have h2 := log2_le hd
    have h3 := lt_log2 d
    have hp := Nat.two_pow_pos i
    constructor
    · show 2 ^ (d.log2 + i) ≤ d * 2 ^ i
      rw [Nat.pow_add]; exact Nat.mul_le_mul_right _ h2
    · show d * 2 ^ i < 2 ^ (d.log2 + i + 1)
      rw [show d.log2 + i + 1 = d.log2 + 1 + i by omega, Nat.pow_add]
      exact Nat.mul_lt_mul_of_pos_right h3 hp)
  rw [log2_eq h1.1 h1.2]
  omega

/-- The powers of x + 1. -/
def pw : Nat → Nat
  | 0 => 1
  | i + 1 => pw i * 2 ^^^ pw i
theorem pw_top (i : Nat) : 2 ^ i ≤ pw i ∧ pw i < 2 ^ (i + 1) := by
  induction i with
  | zero => exact ⟨Nat.le_refl _, by decide⟩
  | succ i ih =>
    rw [pw, Nat.xor_comm]
    refine xor_top (t := i + 1) (by omega) ?_ ?_
    · rw [Nat.pow_succ]; omega
    · rw [Nat.pow_succ 2 (i + 1)]; omega
/-- x + 1 in the place of x. -/
def sig (z : Nat) : Nat := cA pw z
theorem sig_xor (a b : Nat) : sig (a ^^^ b) = sig a ^^^ sig b := cA_xor _ _ _
theorem sig_two (a : Nat) : sig (a * 2) = sig a * 2 ^^^ sig a := by
  have ha : a < 2 ^ a := Nat.lt_two_pow_self
  unfold sig
  rw [cA_at _ (c := a * 2) (k := a + 1) (by rw [Nat.pow_succ]; omega), cF_two, cA_at _ ha]
  rw [cF_sum (fun i => pw i * 2) pw (fun i => pw (i + 1)) (fun i => rfl), cF_lin pw (fun i => pw i * 2) (fun i => rfl)]
theorem sig_top {z : Nat} (hz : z ≠ 0) : sig z ≠ 0 ∧ (sig z).log2 = z.log2 := by
  have h := cA_top pw 0 z hz (fun i => by simpa using pw_top i)
  rw [Nat.zero_add] at h
  have hp := Nat.two_pow_pos z.log2
  exact ⟨by unfold sig; omega, log2_eq h.1 h.2⟩
theorem sig_pw (i : Nat) : sig (pw i) = 2 ^ i := by
  induction i with
  | zero => exact cA_pow pw 0
  | succ i ih =>
    rw [pw, sig_xor, sig_two, ih, xor_cancel, Nat.pow_succ]
theorem sig_sig (z : Nat) : sig (sig z) = z := by
  have h : ∀ k, sig (cF pw z k) = cF (fun i => 2 ^ i) z k := fun k => by
    induction k with
    | zero => rfl
    | succ k ih =>
      rw [cF, cF]
      split
      · rw [sig_xor, ih, sig_pw]
      · exact ih
  have h2 : ∀ k i, (cF (fun i => 2 ^ i) z k).testBit i = (decide (i < k) && z.testBit i) := fun k => by
    induction k with
    | zero => intro i; simp [cF]
    | succ k ih =>
      intro i
      rw [cF]
      by_cases e : k = i
      · subst e
        cases hb : z.testBit k
        · simp [ih]
        · simp [ih, Nat.testBit_xor]
      · have hd : decide (i < k + 1) = decide (i < k) := decide_eq_decide.2 (by omega)
        split
        · rw [Nat.testBit_xor, ih, Nat.testBit_two_pow, hd]; simp [e]
        · rw [ih, hd]
  unfold sig at h ⊢
  conv => lhs; arg 2; unfold cA
  rw [h]
  apply Nat.eq_of_testBit_eq
  intro i
  rw [h2]
  by_cases hi : i < z
  · simp [hi]
  · rw [Nat.testBit_lt_two_pow (Nat.lt_of_lt_of_le (Nat.lt_two_pow_self (n := z)) (Nat.pow_le_pow_right (by decide) (by omega)))]; simp
theorem Idl.sig {f g z : Nat} (h : Idl f g z) : Idl (sig f) (sig g) (sig z) := by
  induction h with
  | zero => exact .zero
  | fst => exact .fst
  | snd => exact .snd
  | add _ _ h1 h2 => rw [sig_xor]; exact h1.add h2
  | mulx _ h1 => rw [sig_two]; exact h1.mulx.add h1
theorem IsDeg.sig {f g n : Nat} (h : IsDeg f g n) : IsDeg (sig f) (sig g) n := by
  obtain ⟨⟨z, a, b, c⟩, d⟩ := h
  obtain ⟨e1, e2⟩ := sig_top b
  refine ⟨⟨_, a.sig, e1, by rw [e2]; exact c⟩, fun y hy h0 => ?_⟩
  have h1 := hy.sig
  rw [sig_sig, sig_sig] at h1
  obtain ⟨e3, e4⟩ := sig_top h0
  have := d _ h1 e3
  omega

/-- A list of coefficients as a number. -/
def valK (l : List Nat) : Nat → Nat
  | 0 => 0
  | k + 1 => if l.getD k 0 = 1 then valK l k ^^^ 2 ^ k else valK l k
def valN (l : List Nat) : Nat := valK l l.length
theorem valK_bit (l : List Nat) : ∀ k i, (valK l k).testBit i = (decide (i < k) && decide (l.getD i 0 = 1))
  | 0, i => by simp [valK]
  | k + 1, i => by
    rw [valK]
    by_cases e : k = i
    · subst e
      by_cases hb : l.getD k 0 = 1
      · rw [if_pos hb, Nat.testBit_xor, valK_bit, Nat.testBit_two_pow, hb]; simp
      · rw [if_neg hb, valK_bit]
        simp at hb
        simp [hb]
    · have hd : decide (i < k + 1) = decide (i < k) := decide_eq_decide.2 (by omega)
      split
      · rw [Nat.testBit_xor, valK_bit, Nat.testBit_two_pow, hd]; simp [e]
      · rw [valK_bit, hd]
theorem valN_bit (l : List Nat) (i : Nat) : (valN l).testBit i = decide (l.getD i 0 = 1) := by
  unfold valN
  rw [valK_bit]
  by_cases h : i < l.length
  · simp [h]
  · rw [show l.getD i 0 = 0 by simp [List.getD_eq_getElem?_getD, List.getElem?_eq_none (Nat.le_of_not_lt h)]]; simp
theorem mul_bit (a k i : Nat) : (a * 2 ^ k).testBit i = (decide (k ≤ i) && a.testBit (i - k)) := by
  rw [Nat.mul_comm, Nat.testBit_two_pow_mul]
end Go.Proofs.Ytpdgjjpfahobaaa.Lamp
