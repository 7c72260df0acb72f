/- Elimination: how many rows it keeps, of what the rows of a grid lead to. No program is spoken of. -/
import Derived.Test.YtpdgjjpfahobaaaRankL
namespace Go.Proofs.Ytpdgjjpfahobaaa
open Go.RowKit Lamp

/-- What some words make. -/
inductive Span (L : List Nat) : Nat → Prop
  | zero : Span L 0
  | mem {z : Nat} : z ∈ L → Span L z
  | add {a b : Nat} : Span L a → Span L b → Span L (a ^^^ b)
theorem Span.mono {L M : List Nat} (h : ∀ x ∈ M, Span L x) {z : Nat} (hz : Span M z) : Span L z := by
  induction hz with
  | zero => exact .zero
  | mem hm => exact h _ hm
  | add _ _ h1 h2 => exact h1.add h2
theorem span_at {L : List Nat} {i : Nat} (h : i < L.length) : Span L (L.getD i 0) := .mem (getD_mem h)

/-- The first row from k on that has the bit, of c rows. -/
def pivK (L : List Nat) (b k : Nat) : Nat → Nat
  | 0 => k
  | f + 1 => if (L.getD k 0).testBit b then k else pivK L b (k + 1) f
/-- The rows after one bit. -/
def swapL (L : List Nat) (k ρ : Nat) : List Nat := (L.set k (L.getD ρ 0)).set ρ (L.getD k 0)
def clearL (L : List Nat) (b ρ w m : Nat) : List Nat := (List.range L.length).map fun j => if j < m ∧ j ≠ ρ ∧ (L.getD j 0).testBit b = true then L.getD j 0 ^^^ w else L.getD j 0
theorem swapL_len (L : List Nat) (k ρ : Nat) : (swapL L k ρ).length = L.length := by simp [swapL]
theorem clearL_len (L : List Nat) (b ρ w m : Nat) : (clearL L b ρ w m).length = L.length := by simp [clearL]
theorem swapL_at {L : List Nat} {k ρ : Nat} (hk : k < L.length) (hρ : ρ < L.length) (i : Nat) : (swapL L k ρ).getD i 0 = if i = ρ then L.getD k 0 else if i = k then L.getD ρ 0 else L.getD i 0 := by
  unfold swapL
  simp only [List.getD_eq_getElem?_getD, List.getElem?_set, List.length_set]
  by_cases h1 : ρ = i
  · subst h1; simp [hρ]
  · by_cases h2 : k = i
    · subst h2; simp [h1, hk, Ne.symm h1]
    · simp [h1, h2, Ne.symm h1, Ne.symm h2]
theorem clearL_at {L : List Nat} {b ρ w m i : Nat} (hi : i < L.length) : (clearL L b ρ w m).getD i 0 = if i < m ∧ i ≠ ρ ∧ (L.getD i 0).testBit b = true then L.getD i 0 ^^^ w else L.getD i 0 := by
  simp [clearL, List.getD_eq_getElem?_getD, hi]
theorem mem_at {L : List Nat} {x : Nat} (h : x ∈ L) : ∃ i, i < L.length ∧ L.getD i 0 = x := by
  obtain ⟨i, hi, e⟩ := List.getElem_of_mem h
  exact ⟨i, hi, by simp [List.getD_eq_getElem?_getD, hi, e]⟩
theorem swap_span {L : List Nat} {k ρ : Nat} (hk : k < L.length) (hρ : ρ < L.length) (z : Nat) : Span (swapL L k ρ) z ↔ Span L z := by
  constructor
  · refine Span.mono fun x hx => ?_
    obtain ⟨i, hi, rfl⟩ := mem_at hx
    rw [swapL_len] at hi
    rw [swapL_at hk hρ]
    split
    · exact span_at hk
    · split
      · exact span_at hρ
      · exact span_at hi
  · refine Span.mono fun x hx => ?_
    obtain ⟨i, hi, rfl⟩ := mem_at hx
    have h := fun j (hj : j < L.length) => span_at (L := swapL L k ρ) (i := j) (by rw [swapL_len]; exact hj)
    by_cases h1 : i = k
    · have := h ρ hρ
      rw [swapL_at hk hρ, if_pos rfl] at this
      rw [h1]; exact this
    · by_cases h2 : i = ρ
      · have := h k hk
        rw [swapL_at hk hρ] at this
        rw [h2]
        by_cases h3 : k = ρ
        · rw [if_pos h3] at this
          subst h3
          exact this
        · rw [if_neg h3, if_pos rfl] at this
          exact this
      · have := h i hi
        rw [swapL_at hk hρ, if_neg h2, if_neg h1] at this
        exact this
theorem clear_span {L : List Nat} {b ρ m : Nat} (hρ : ρ < L.length) (z : Nat) : Span (clearL L b ρ (L.getD ρ 0) m) z ↔ Span L z := by
  constructor
  · refine Span.mono fun x hx => ?_
    obtain ⟨i, hi, rfl⟩ := mem_at hx
    rw [clearL_len] at hi
    rw [clearL_at hi]
    split
    · exact (span_at hi).add (span_at hρ)
    · exact span_at hi
  · refine Span.mono fun x hx => ?_
    obtain ⟨i, hi, rfl⟩ := mem_at hx
    have h := fun j (hj : j < L.length) => span_at (L := clearL L b ρ (L.getD ρ 0) m) (i := j) (by rw [clearL_len]; exact hj)
    have hr := h ρ hρ
    rw [clearL_at hρ, if_neg (by omega)] at hr
    have hi2 := h i hi
    rw [clearL_at hi] at hi2
    split at hi2
    · have := hi2.add hr
      rwa [xor_cancel] at this
    · exact hi2

/-- The state after the bits below b. -/
structure Elim (L0 L : List Nat) (c ρ b : Nat) : Prop where
  len : L.length = c
  small : ∀ i, L.getD i 0 < 2 ^ c
  span : ∀ z, Span L z ↔ Span L0 z
  le : ρ ≤ c
  piv : ∃ p : Nat → Nat, ∀ i, i < ρ → p i < b ∧ (L.getD i 0).testBit (p i) = true ∧ ∀ j, j < c → j ≠ i → (L.getD j 0).testBit (p i) = false
  rest : ∀ j, ρ ≤ j → j < c → ∀ q, q < b → (L.getD j 0).testBit q = false
theorem Elim.start {L : List Nat} {c : Nat} (hl : L.length = c) (hs : ∀ x ∈ L, x < 2 ^ c) : Elim L L c 0 0 :=
  ⟨hl, fun i => getD_lt hs (Nat.two_pow_pos c) i, fun _ => Iff.rfl, by omega, ⟨fun _ => 0, fun i hi => by omega⟩, fun j _ _ q hq => by omega⟩
theorem Elim.none {L0 L : List Nat} {c ρ b : Nat} (h : Elim L0 L c ρ b) (hn : ∀ j, ρ ≤ j → j < c → (L.getD j 0).testBit b = false) : Elim L0 L c ρ (b + 1) := by
  obtain ⟨p, hp⟩ := h.piv
  refine ⟨h.len, h.small, h.span, h.le, ⟨p, fun i hi => ⟨by have := (hp i hi).1; omega, (hp i hi).2⟩⟩, fun j h1 h2 q hq => ?_⟩
  by_cases e : q = b
  · rw [e]; exact hn j h1 h2
  · exact h.rest j h1 h2 q (by omega)
theorem Elim.some {L0 L : List Nat} {c ρ b k : Nat} (h : Elim L0 L c ρ b) (hk1 : ρ ≤ k) (hk2 : k < c) (hb : (L.getD k 0).testBit b = true) :
    Elim L0 (clearL (swapL L k ρ) b ρ (L.getD k 0) c) c (ρ + 1) (b + 1) := by
  have hk : k < L.length := by rw [h.len]; exact hk2
  have hρ : ρ < L.length := by rw [h.len]; omega
  have hρs : ρ < (swapL L k ρ).length := by rw [swapL_len]; exact hρ
  have hw : (swapL L k ρ).getD ρ 0 = L.getD k 0 := by rw [swapL_at hk hρ, if_pos rfl]
  have hat : ∀ j, j < c → (clearL (swapL L k ρ) b ρ (L.getD k 0) c).getD j 0 = if j ≠ ρ ∧ ((swapL L k ρ).getD j 0).testBit b = true then (swapL L k ρ).getD j 0 ^^^ L.getD k 0 else (swapL L k ρ).getD j 0 := fun j hj => by
    rw [clearL_at (by rw [swapL_len, h.len]; exact hj)]
    simp only [hj, true_and]
  obtain ⟨p, hp⟩ := h.piv
  have hsw : ∀ j q, j < c → ρ ≤ j → q < b → ((swapL L k ρ).getD j 0).testBit q = false := fun j q hj hj2 hq => by
    rw [swapL_at hk hρ]
    split
    · exact h.rest k hk1 hk2 q hq
    · split
      · exact h.rest ρ (Nat.le_refl _) (by omega) q hq
      · exact h.rest j hj2 hj q hq
  have hsl : ∀ j, j < ρ → (swapL L k ρ).getD j 0 = L.getD j 0 := fun j hj => by
    rw [swapL_at hk hρ, if_neg (by omega), if_neg (by omega)]
  have hwp : ∀ i, i < ρ → (L.getD k 0).testBit (p i) = false := fun i hi => (hp i hi).2.2 k hk2 (by omega)
  refine ⟨by rw [clearL_len, swapL_len]; exact h.len, fun i => ?_, fun z => ?_, by omega, ⟨fun i => if i = ρ then b else p i, fun i hi => ?_⟩, fun j h1 h2 q hq => ?_⟩
  · have hss : ∀ i, (swapL L k ρ).getD i 0 < 2 ^ c := fun i => by
      rw [swapL_at hk hρ]
      split
      · exact h.small k
      · split
        · exact h.small ρ
        · exact h.small i
    by_cases hi : i < c
    · rw [hat i hi]
      split
      · exact Nat.xor_lt_two_pow (hss i) (h.small k)
      · exact hss i
    · rw [getD_out (by rw [clearL_len, swapL_len, h.len]; omega)]
      exact Nat.two_pow_pos c
  · have h1 := clear_span (L := swapL L k ρ) (b := b) (m := c) hρs z
    rw [hw] at h1
    rw [h1, swap_span hk hρ, h.span]
  · by_cases e : i = ρ
    · subst e
      simp only [if_true]
      refine ⟨by omega, ?_, fun j hj hne => ?_⟩
      · rw [hat i (by omega), if_neg (by simp), hw]; exact hb
      · rw [hat j hj]
        by_cases hbj : ((swapL L k i).getD j 0).testBit b = true
        · rw [if_pos ⟨hne, hbj⟩, Nat.testBit_xor, hbj, hb]; rfl
        · rw [if_neg (fun h => hbj h.2)]; simpa using hbj
    · have hi2 : i < ρ := by omega
      obtain ⟨p1, p2, p3⟩ := hp i hi2
      simp only [if_neg e]
      refine ⟨by omega, ?_, fun j hj hne => ?_⟩
      · rw [hat i (by omega), hsl i hi2]
        split
        · rw [Nat.testBit_xor, p2, hwp i hi2]; rfl
        · exact p2
      · have hsj : ((swapL L k ρ).getD j 0).testBit (p i) = false := by
          by_cases hjρ : j < ρ
          · rw [hsl j hjρ]; exact p3 j hj hne
          · exact hsw j (p i) hj (by omega) p1
        rw [hat j hj]
        split
        · rw [Nat.testBit_xor, hsj, hwp i hi2]; rfl
        · exact hsj
  · rw [hat j h2]
    by_cases e : q = b
    · subst e
      by_cases hbj : ((swapL L k ρ).getD j 0).testBit q = true
      · rw [if_pos ⟨by omega, hbj⟩, Nat.testBit_xor, hbj, hb]; rfl
      · rw [if_neg (fun h => hbj h.2)]; simpa using hbj
    · have h3 := hsw j q h2 (by omega) (by omega)
      have h4 := h.rest k hk1 hk2 q (by omega)
      split
      · rw [Nat.testBit_xor, h3, h4]; rfl
      · exact h3
/-- At the end the kept rows tell all words apart. -/
theorem Elim.count {L0 L : List Nat} {c ρ : Nat} (h : Elim L0 L c ρ c) : ∃ A : List Nat, A.Nodup ∧ A.length = 2 ^ ρ ∧ ∀ z, z ∈ A ↔ Span L0 z := by
  obtain ⟨p, hp⟩ := h.piv
  have hrest : ∀ j, ρ ≤ j → j < c → L.getD j 0 = 0 := fun j h1 h2 => by
    apply Nat.eq_of_testBit_eq
    intro q
    rw [Nat.zero_testBit]
    by_cases hq : q < c
    · exact h.rest j h1 h2 q hq
    · exact Nat.testBit_lt_two_pow (Nat.lt_of_lt_of_le (h.small j) (Nat.pow_le_pow_right (by decide) (by omega)))
  have hbit : ∀ a i, i < ρ → ∀ k, k ≤ ρ → (combK a L k).testBit (p i) = (decide (i < k) && a.testBit i) := fun a i hi k => by
    induction k with
    | zero => intro _; simp [combK]
    | succ k ih =>
      intro hk
      have hle := h.le
      rw [combK]
      by_cases e : k = i
      · subst e
        cases hb : a.testBit k
        · simp [ih (by omega)]
        · rw [if_pos rfl, Nat.testBit_xor, ih (by omega), (hp k hi).2.1]; simp
      · have hd : decide (i < k + 1) = decide (i < k) := decide_eq_decide.2 (by omega)
        have := (hp i hi).2.2 k (by omega) e
        split
        · rw [Nat.testBit_xor, ih (by omega), this, hd]; simp
        · rw [ih (by omega), hd]
  refine ⟨(List.range (2 ^ ρ)).map fun a => combK a L ρ, ?_, by simp, fun z => ?_⟩
  · unfold List.Nodup
    rw [List.pairwise_map]
    refine (List.nodup_range (n := 2 ^ ρ)).imp_of_mem fun {a b} ha hb hne e => hne ?_
    apply Nat.eq_of_testBit_eq
    intro i
    have ha := List.mem_range.1 ha
    have hb := List.mem_range.1 hb
    by_cases hi : i < ρ
    · have h1 := hbit a i hi ρ (Nat.le_refl _)
      have h2 := hbit b i hi ρ (Nat.le_refl _)
      rw [e, h2] at h1
      simpa [hi] using h1.symm
    · rw [Nat.testBit_lt_two_pow (Nat.lt_of_lt_of_le ha (Nat.pow_le_pow_right (by decide) (by omega))), Nat.testBit_lt_two_pow (Nat.lt_of_lt_of_le hb (Nat.pow_le_pow_right (by decide) (by omega)))]
  · rw [← h.span, List.mem_map]
    have hle := h.le
    constructor
    · rintro ⟨a, _, rfl⟩
      have : ∀ k, k ≤ ρ → Span L (combK a L k) := fun k => by
        induction k with
        | zero => intro _; exact .zero
        | succ k ih =>
          intro hk
          rw [combK]
          split
          · exact (ih (by omega)).add (span_at (by rw [h.len]; omega))
          · exact ih (by omega)
      exact this ρ (Nat.le_refl _)
    · intro hz
      induction hz with
      | zero => exact ⟨0, List.mem_range.2 (Nat.two_pow_pos ρ), combK_zero L ρ⟩
      | mem hm =>
        obtain ⟨i, hi, rfl⟩ := mem_at hm
        rw [h.len] at hi
        by_cases hiρ : i < ρ
        · exact ⟨2 ^ i, List.mem_range.2 (Nat.pow_lt_pow_right (by decide) hiρ), by rw [combK_pow, if_pos hiρ]⟩
        · exact ⟨0, List.mem_range.2 (Nat.two_pow_pos ρ), by rw [combK_zero, hrest i (by omega) hi]⟩
      | add _ _ h1 h2 =>
        obtain ⟨a, ha, rfl⟩ := h1
        obtain ⟨b, hb, rfl⟩ := h2
        exact ⟨a ^^^ b, List.mem_range.2 (Nat.xor_lt_two_pow (List.mem_range.1 ha) (List.mem_range.1 hb)), combK_xor a b L ρ⟩
end Go.Proofs.Ytpdgjjpfahobaaa
