/- Equations modulo 2 as plain mathematics: unknowns taken out one after the other, the rules that are left, and that all rules are made of these. No program is spoken of. -/
import Derived.Test.YthbhengcinkepaaLampS
namespace Go.Proofs.Ythbhengcinkepaa.Lamp

/-- The unknown u is taken out of the first k equations, but of that at place i. -/
def isoK (E : List Nat) (i u : Nat) : Nat → List Nat
  | 0 => E
  | k + 1 => if k ≠ i ∧ (E.getD k 0).testBit u = true then (isoK E i u k).set k (E.getD k 0 ^^^ E.getD i 0) else isoK E i u k
def isoL (E : List Nat) (i u : Nat) : List Nat := isoK E i u E.length

theorem set_getD {α : Type} (l : List α) (i j : Nat) (a d : α) : (l.set i a).getD j d = if i = j ∧ i < l.length then a else l.getD j d := by
  simp only [List.getD_eq_getElem?_getD, List.getElem?_set]
  by_cases h : i = j
  · subst h
    by_cases h2 : i < l.length
    · simp [h2]
    · simp [h2]
  · simp [h]
theorem isoK_len (E : List Nat) (i u k : Nat) : (isoK E i u k).length = E.length := by
  induction k with
  | zero => rfl
  | succ k ih => unfold isoK; split <;> simp [ih]
theorem isoK_at (E : List Nat) (i u : Nat) : ∀ k, k ≤ E.length → ∀ j, (isoK E i u k).getD j 0 = if j < k ∧ j ≠ i ∧ (E.getD j 0).testBit u = true then E.getD j 0 ^^^ E.getD i 0 else E.getD j 0
  | 0, _, j => by simp [isoK]
  | k + 1, hk, j => by
    have ih := isoK_at E i u k (by omega) j
    unfold isoK
    by_cases h : k ≠ i ∧ (E.getD k 0).testBit u = true
    · rw [if_pos h, set_getD, isoK_len, ih]
      by_cases e : k = j
      · subst e
        rw [if_pos ⟨rfl, by omega⟩, if_pos ⟨by omega, h⟩]
      · rw [if_neg (fun h2 => e h2.1)]
        have : (j < k + 1 ∧ j ≠ i ∧ (E.getD j 0).testBit u = true) ↔ (j < k ∧ j ≠ i ∧ (E.getD j 0).testBit u = true) := by
          constructor
          · rintro ⟨a, b⟩; exact ⟨by omega, b⟩
          · rintro ⟨a, b⟩; exact ⟨by omega, b⟩
        simp only [this]
    · rw [if_neg h, ih]
      by_cases e : k = j
      · subst e
        rw [if_neg (fun h2 => by omega), if_neg (fun h2 => h h2.2)]
      · have : (j < k + 1 ∧ j ≠ i ∧ (E.getD j 0).testBit u = true) ↔ (j < k ∧ j ≠ i ∧ (E.getD j 0).testBit u = true) := by
          constructor
          · rintro ⟨a, b⟩; exact ⟨by omega, b⟩
          · rintro ⟨a, b⟩; exact ⟨by omega, b⟩
        simp only [this]
theorem getD_off {E : List Nat} {j : Nat} (h : E.length ≤ j) : E.getD j 0 = 0 := by
  rw [List.getD_eq_getElem?_getD, List.getElem?_eq_none h]; rfl
theorem isoL_at (E : List Nat) (i u j : Nat) : (isoL E i u).getD j 0 = if j ≠ i ∧ (E.getD j 0).testBit u = true then E.getD j 0 ^^^ E.getD i 0 else E.getD j 0 := by
  unfold isoL
  rw [isoK_at E i u E.length (Nat.le_refl _) j]
  by_cases h : j < E.length
  · simp only [h, true_and]
  · have h0 := getD_off (E := E) (j := j) (by omega)
    rw [h0]; simp
theorem isoL_len (E : List Nat) (i u : Nat) : (isoL E i u).length = E.length := isoK_len E i u _

/-- May equation i get the unknown u as its own? -/
def candP (E : List Nat) (O : List Int) (u i : Nat) : Bool := decide (O.getD i 0 < 0) && (E.getD i 0).testBit u
/-- The unknown u is given to the first equation that may get it. -/
def stepP (u : Nat) (s : List Nat × List Int) : List Nat × List Int :=
  match (List.range s.1.length).find? (candP s.1 s.2 u) with
  | some i => (isoL s.1 i u, s.2.set i (u : Int))
  | none => s
/-- The first n unknowns are given. -/
def redP (E : List Nat) : Nat → List Nat × List Int
  | 0 => (E, List.replicate E.length (-1))
  | u + 1 => stepP u (redP E u)

theorem stepP_hit {E : List Nat} {O : List Int} {u i : Nat} (hi : i < E.length) (h : candP E O u i = true) (hb : ∀ j, j < i → candP E O u j = false) : stepP u (E, O) = (isoL E i u, O.set i (u : Int)) := by
  have : (List.range E.length).find? (candP E O u) = some i := by
    rw [List.find?_range_eq_some]
    exact ⟨h, by simpa using hi, fun j hj => by rw [hb j hj]; rfl⟩
  unfold stepP
  simp only [this]
theorem stepP_miss {E : List Nat} {O : List Int} {u : Nat} (hb : ∀ j, j < E.length → candP E O u j = false) : stepP u (E, O) = (E, O) := by
  have : (List.range E.length).find? (candP E O u) = none := by
    rw [List.find?_range_eq_none]
    exact fun j hj => by rw [hb j hj]; rfl
  unfold stepP
  simp only [this]

/-- What holds when the first u unknowns are given. -/
structure Ech (n : Nat) (E0 : List Nat) (u : Nat) (E : List Nat) (O : List Int) : Prop where
  lenE : E.length = E0.length
  lenO : O.length = E0.length
  free : ∀ i, i < E0.length → O.getD i 0 = -1 → ∀ v, v < u → (E.getD i 0).testBit v = false
  own : ∀ i, i < E0.length → O.getD i 0 ≠ -1 → ∃ v : Nat, v < u ∧ O.getD i 0 = v ∧ (E.getD i 0).testBit v = true ∧ (∀ k, k ≠ i → (E.getD k 0).testBit v = false) ∧ ∀ v', v' < v → (E.getD i 0).testBit v' = false
  lt : ∀ i, E.getD i 0 < 2 ^ n
  ker : ∀ x, (∀ i, ip x (E.getD i 0) = false) ↔ ∀ i, ip x (E0.getD i 0) = false

theorem isoL_ker (E : List Nat) (i u x : Nat) : (∀ j, ip x ((isoL E i u).getD j 0) = false) ↔ ∀ j, ip x (E.getD j 0) = false := by
  constructor
  · intro h j
    have hi : ip x (E.getD i 0) = false := by
      have := h i
      rw [isoL_at, if_neg (fun h2 => h2.1 rfl)] at this
      exact this
    have hj := h j
    rw [isoL_at] at hj
    split at hj
    · rw [ip_xor, hi] at hj
      simpa using hj
    · exact hj
  · intro h j
    rw [isoL_at]
    split
    · rw [ip_xor, h i, h j]; rfl
    · exact h j

theorem Ech.zero {n : Nat} {E : List Nat} (h : ∀ i, E.getD i 0 < 2 ^ n) : Ech n E 0 E (List.replicate E.length (-1)) where
  lenE := rfl
  lenO := by simp
  free := fun _ _ _ _ hv => absurd hv (Nat.not_lt_zero _)
  own := fun i hi hne => by
    exfalso; apply hne
    simp [List.getD_eq_getElem?_getD, hi]
  lt := h
  ker := fun _ => Iff.rfl

theorem Ech.step {n u : Nat} {E0 E : List Nat} {O : List Int} (h : Ech n E0 u E O) : Ech n E0 (u + 1) (stepP u (E, O)).1 (stepP u (E, O)).2 := by
  cases hf : (List.range E.length).find? (candP E O u) with
  | none =>
    have hs : stepP u (E, O) = (E, O) := by unfold stepP; simp only [hf]
    rw [hs]
    rw [List.find?_range_eq_none] at hf
    refine ⟨h.lenE, h.lenO, fun i hi he v hv => ?_, fun i hi hne => ?_, h.lt, h.ker⟩
    · rcases Nat.lt_or_ge v u with h1 | h1
      · exact h.free i hi he v h1
      · obtain rfl : v = u := by omega
        have := hf i (by rw [h.lenE]; exact hi)
        unfold candP at this
        rw [he] at this
        simpa using this
    · obtain ⟨v, hv, h1⟩ := h.own i hi hne
      exact ⟨v, by omega, h1⟩
  | some i =>
    have hs : stepP u (E, O) = (isoL E i u, O.set i (u : Int)) := by unfold stepP; simp only [hf]
    rw [hs]
    rw [List.find?_range_eq_some] at hf
    obtain ⟨hc, hir, _⟩ := hf
    have hi : i < E0.length := by rw [← h.lenE]; simpa using hir
    unfold candP at hc
    rw [Bool.and_eq_true, decide_eq_true_eq] at hc
    obtain ⟨hneg, hbit⟩ := hc
    have hOi : O.getD i 0 = -1 := by
      apply Decidable.byContradiction
      intro hne
      obtain ⟨v, _, h1, _⟩ := h.own i hi hne
      omega
    have hlow := h.free i hi hOi
    refine ⟨by rw [isoL_len]; exact h.lenE, by rw [List.length_set]; exact h.lenO, fun j hj he v hv => ?_, fun j hj hne => ?_, fun j => ?_, fun x => (isoL_ker E i u x).trans (h.ker x)⟩
    · rw [set_getD] at he
      have hji : j ≠ i := by
        rintro rfl
        rw [if_pos ⟨rfl, by rw [h.lenO]; exact hj⟩] at he
        omega
      rw [if_neg (fun h2 => hji h2.1.symm)] at he
      rw [isoL_at]
      rcases Nat.lt_or_ge v u with h1 | h1
      · split
        · rw [Nat.testBit_xor, h.free j hj he v h1, hlow v h1]; rfl
        · exact h.free j hj he v h1
      · obtain rfl : v = u := by omega
        split
        · rename_i h2
          rw [Nat.testBit_xor, h2.2, hbit]; rfl
        · rename_i h2
          cases hb : (E.getD j 0).testBit v
          · rfl
          · exact absurd ⟨hji, hb⟩ h2
    · by_cases hji : j = i
      · subst hji
        refine ⟨u, Nat.lt_succ_self u, ?_, ?_, fun k hk => ?_, fun v' hv' => ?_⟩
        · rw [set_getD, if_pos ⟨rfl, by rw [h.lenO]; exact hj⟩]
        · rw [isoL_at, if_neg (fun h2 => h2.1 rfl)]; exact hbit
        · rw [isoL_at]
          split
          · rename_i h2
            rw [Nat.testBit_xor, h2.2, hbit]; rfl
          · rename_i h2
            cases hb : (E.getD k 0).testBit u
            · rfl
            · exact absurd ⟨hk, hb⟩ h2
        · rw [isoL_at, if_neg (fun h2 => h2.1 rfl)]; exact hlow v' hv'
      · rw [set_getD, if_neg (fun h2 => hji h2.1.symm)] at hne ⊢
        obtain ⟨v, hv, h1, h2, h3, h4⟩ := h.own j hj hne
        have hiv : (E.getD i 0).testBit v = false := h3 i (fun e => hji e.symm)
        refine ⟨v, by omega, h1, ?_, fun k hk => ?_, fun v' hv' => ?_⟩
        · rw [isoL_at]
          split
          · rw [Nat.testBit_xor, h2, hiv]; rfl
          · exact h2
        · rw [isoL_at]
          split
          · rw [Nat.testBit_xor, h3 k hk, hiv]; rfl
          · exact h3 k hk
        · rw [isoL_at]
          split
          · rw [Nat.testBit_xor, h4 v' hv', hlow v' (by omega)]; rfl
          · exact h4 v' hv'
    · rw [isoL_at]
      split
      · exact Nat.xor_lt_two_pow (h.lt j) (h.lt i)
      · exact h.lt j

theorem Ech.all_ {n : Nat} {E : List Nat} (h : ∀ i, E.getD i 0 < 2 ^ n) : ∀ u, Ech n E u (redP E u).1 (redP E u).2
  | 0 => Ech.zero h
  | u + 1 => Ech.step (Ech.all_ h u)

/-- The unknowns that the first k equations own. -/
def ownK (O : List Int) : Nat → Nat
  | 0 => 0
  | k + 1 => if 0 ≤ O.getD k 0 then ownK O k ||| 2 ^ (O.getD k 0).toNat else ownK O k
/-- The rule of a hole that nobody owns, as far as the first k equations tell. -/
def ruleK (E : List Nat) (O : List Int) (h : Nat) : Nat → Nat
  | 0 => 2 ^ h
  | k + 1 => if (E.getD k 0).testBit h = true then ruleK E O h k ||| 2 ^ (O.getD k 0).toNat else ruleK E O h k
/-- The rules of the first holes. -/
def basisK (E : List Nat) (O : List Int) : Nat → List Nat
  | 0 => []
  | h + 1 => if (ownK O E.length).testBit h = true then basisK E O h else basisK E O h ++ [ruleK E O h E.length]
/-- The rules' basis of equations with n unknowns. -/
def rulesL (n : Nat) (E : List Nat) : List Nat := basisK (redP E n).1 (redP E n).2 n

theorem ownK_bit (O : List Int) (v : Nat) : ∀ k, (ownK O k).testBit v = true ↔ ∃ i, i < k ∧ O.getD i 0 = (v : Int)
  | 0 => by simp [ownK]
  | k + 1 => by
    have ih := ownK_bit O v k
    unfold ownK
    split
    · rename_i h0
      rw [Nat.testBit_or, Bool.or_eq_true, ih, Nat.testBit_two_pow, decide_eq_true_eq]
      constructor
      · rintro (⟨i, h1, h2⟩ | h)
        · exact ⟨i, by omega, h2⟩
        · exact ⟨k, by omega, by omega⟩
      · rintro ⟨i, h1, h2⟩
        by_cases e : i = k
        · subst e; right; omega
        · exact .inl ⟨i, by omega, h2⟩
    · rename_i h0
      rw [ih]
      constructor
      · rintro ⟨i, h1, h2⟩; exact ⟨i, by omega, h2⟩
      · rintro ⟨i, h1, h2⟩
        by_cases e : i = k
        · subst e; omega
        · exact ⟨i, by omega, h2⟩
theorem ruleK_bit (E : List Nat) (O : List Int) (h v : Nat) : ∀ k, (ruleK E O h k).testBit v = true ↔ v = h ∨ ∃ i, i < k ∧ (E.getD i 0).testBit h = true ∧ (O.getD i 0).toNat = v
  | 0 => by
    simp only [ruleK, Nat.testBit_two_pow, decide_eq_true_eq]
    constructor
    · exact fun e => .inl e.symm
    · rintro (e | ⟨i, h1, _⟩)
      · exact e.symm
      · omega
  | k + 1 => by
    have ih := ruleK_bit E O h v k
    unfold ruleK
    split
    · rename_i hb
      rw [Nat.testBit_or, Bool.or_eq_true, ih, Nat.testBit_two_pow, decide_eq_true_eq]
      constructor
      · rintro ((e | ⟨i, h1, h2⟩) | e)
        · exact .inl e
        · exact .inr ⟨i, by omega, h2⟩
        · exact .inr ⟨k, by omega, hb, e⟩
      · rintro (e | ⟨i, h1, h2, h3⟩)
        · exact .inl (.inl e)
        · by_cases e : i = k
          · subst e; exact .inr h3
          · exact .inl (.inr ⟨i, by omega, h2, h3⟩)
    · rename_i hb
      rw [ih]
      constructor
      · rintro (e | ⟨i, h1, h2⟩)
        · exact .inl e
        · exact .inr ⟨i, by omega, h2⟩
      · rintro (e | ⟨i, h1, h2, h3⟩)
        · exact .inl e
        · by_cases e : i = k
          · subst e; exact absurd h2 hb
          · exact .inr ⟨i, by omega, h2, h3⟩

section
variable {n : Nat} {E0 E : List Nat} {O : List Int} (H : Ech n E0 n E O) (hn : n ≤ 16)
include H

/-- An equation that a hole is in, which nobody owns, owns a lesser one. -/
theorem Ech.owns {i h : Nat} (hh : h < n) (hb : (E.getD i 0).testBit h = true) (ho : (ownK O E.length).testBit h = false) : i < E0.length ∧ ∃ v : Nat, v < h ∧ O.getD i 0 = v ∧ (E.getD i 0).testBit v = true ∧ (∀ k, k ≠ i → (E.getD k 0).testBit v = false) ∧ ∀ v', v' < v → (E.getD i 0).testBit v' = false := by
  have hi : i < E0.length := by
    apply Decidable.byContradiction
    intro hc
    rw [getD_off (by rw [H.lenE]; omega), Nat.zero_testBit] at hb
    cases hb
  refine ⟨hi, ?_⟩
  by_cases hne : O.getD i 0 = -1
  · rw [H.free i hi hne h hh] at hb
    cases hb
  · obtain ⟨v, hv, h1, h2, h3, h4⟩ := H.own i hi hne
    refine ⟨v, ?_, h1, h2, h3, h4⟩
    have h5 : ¬ h < v := fun h6 => by rw [h4 h h6] at hb; cases hb
    have h6 : h ≠ v := by
      rintro rfl
      have := (ownK_bit O h E.length).2 ⟨i, by rw [H.lenE]; exact hi, h1⟩
      rw [ho] at this; cases this
    omega
theorem Ech.rule_bit {h v : Nat} (hh : h < n) (ho : (ownK O E.length).testBit h = false) : (ruleK E O h E.length).testBit v = true ↔ v = h ∨ ∃ i, (E.getD i 0).testBit h = true ∧ O.getD i 0 = (v : Int) := by
  rw [ruleK_bit]
  constructor
  · rintro (e | ⟨i, h1, h2, h3⟩)
    · exact .inl e
    · obtain ⟨_, w, _, h5, _⟩ := H.owns hh h2 ho
      exact .inr ⟨i, h2, by omega⟩
  · rintro (e | ⟨i, h2, h3⟩)
    · exact .inl e
    · obtain ⟨h4, _⟩ := H.owns hh h2 ho
      exact .inr ⟨i, by rw [H.lenE]; exact h4, h2, by omega⟩
theorem Ech.rule_top {h : Nat} (hh : h < n) (ho : (ownK O E.length).testBit h = false) : 2 ^ h ≤ ruleK E O h E.length ∧ ruleK E O h E.length < 2 ^ (h + 1) := by
  have hb := fun v => H.rule_bit (v := v) hh ho
  constructor
  · exact Nat.ge_two_pow_of_testBit ((hb h).2 (.inl rfl))
  · apply lt_of_bits
    intro v hv
    cases e : (ruleK E O h E.length).testBit v
    · rfl
    · exfalso
      rcases (hb v).1 e with h1 | ⟨i, h1, h2⟩
      · omega
      · obtain ⟨_, w, h3, h4, _⟩ := H.owns hh h1 ho
        omega
theorem Ech.rule_log {h : Nat} (hh : h < n) (ho : (ownK O E.length).testBit h = false) : (ruleK E O h E.length).log2 = h := by
  obtain ⟨h1, h2⟩ := H.rule_top hh ho
  exact log2_eq h1 h2
/-- Of the holes that nobody owns a rule has but its own. -/
theorem Ech.rule_only {h v : Nat} (hh : h < n) (ho : (ownK O E.length).testBit h = false) (hv : (ownK O E.length).testBit v = false) (hne : v ≠ h) : (ruleK E O h E.length).testBit v = false := by
  cases e : (ruleK E O h E.length).testBit v
  · rfl
  · exfalso
    rcases (H.rule_bit hh ho).1 e with h1 | ⟨i, h1, h2⟩
    · exact hne h1
    · obtain ⟨h3, _⟩ := H.owns hh h1 ho
      rw [(ownK_bit O v E.length).2 ⟨i, by rw [H.lenE]; exact h3, h2⟩] at hv
      cases hv
include hn
theorem Ech.rule_ker {h : Nat} (hh : h < n) (ho : (ownK O E.length).testBit h = false) (i : Nat) : ip (ruleK E O h E.length) (E.getD i 0) = false := by
  cases hb : (E.getD i 0).testBit h
  · unfold ip
    rw [sumB_congr (g := fun _ => false), sumB_false]
    intro j _
    cases e : (ruleK E O h E.length).testBit j
    · rfl
    · rcases (H.rule_bit hh ho).1 e with h1 | ⟨k, h1, h2⟩
      · subst h1; rw [hb]; rfl
      · obtain ⟨_, v, _, h4, h5, h6, _⟩ := H.owns hh h1 ho
        have : j = v := by omega
        subst this
        rw [h6 i (by rintro rfl; rw [hb] at h1; cases h1)]; rfl
  · obtain ⟨_, v, hv, h4, h5, h6, _⟩ := H.owns hh hb ho
    unfold ip
    rw [sumB_congr (g := fun j => (decide (j = h)).xor (decide (j = v))), sumB_xor, sumB_one _ h 16 (by omega) (fun j _ hj => by simpa using hj), sumB_one _ v 16 (by omega) (fun j _ hj => by simpa using hj)]
    · simp
    · intro j _
      by_cases e1 : j = h
      · subst e1
        rw [hb, (H.rule_bit hh ho).2 (.inl rfl)]
        simp [show j ≠ v by omega]
      · by_cases e2 : j = v
        · subst e2
          rw [h5, (H.rule_bit hh ho).2 (.inr ⟨i, hb, h4⟩)]
          simp [e1]
        · cases e : (ruleK E O h E.length).testBit j
          · simp [e1, e2]
          · rcases (H.rule_bit hh ho).1 e with h7 | ⟨k, h7, h8⟩
            · exact absurd h7 e1
            · obtain ⟨_, w, _, h10, _, h12, _⟩ := H.owns hh h7 ho
              have hki : i ≠ k := by rintro rfl; omega
              obtain rfl : w = j := by omega
              rw [h12 i hki]
              simp [e1, e2]
/-- What is in the kernel and has none of the holes that nobody owns is nothing. -/
theorem Ech.none_left {x : Nat} (hx : x < 2 ^ n) (hk : ∀ i, ip x (E.getD i 0) = false) (hf : ∀ h, h < n → (ownK O E.length).testBit h = false → x.testBit h = false) : x = 0 := by
  apply Nat.eq_of_testBit_eq
  intro v
  rw [Nat.zero_testBit]
  rcases Nat.lt_or_ge v n with hv | hv
  · cases ho : (ownK O E.length).testBit v
    · exact hf v hv ho
    · obtain ⟨i, hi, h1⟩ := (ownK_bit O v E.length).1 ho
      rw [H.lenE] at hi
      obtain ⟨w, hw, h2, h3, _⟩ := H.own i hi (by omega)
      obtain rfl : w = v := by omega
      have h5 := hk i
      unfold ip at h5
      rw [sumB_one _ w 16 (by omega), h3, Bool.and_true] at h5
      · exact h5
      · intro j hj hne
        cases h6 : (E.getD i 0).testBit j
        · simp
        · rw [Bool.and_true]
          rcases Nat.lt_or_ge j n with hjn | hjn
          · cases h7 : (ownK O E.length).testBit j
            · exact hf j hjn h7
            · obtain ⟨k, hkk, h8⟩ := (ownK_bit O j E.length).1 h7
              rw [H.lenE] at hkk
              obtain ⟨u, _, h9, _, h10, _⟩ := H.own k hkk (by omega)
              have huj : u = j := by omega
              by_cases e : i = k
              · subst e; omega
              · rw [← huj, h10 i e] at h6; cases h6
          · exact Nat.testBit_lt_two_pow (Nat.lt_of_lt_of_le hx (Nat.pow_le_pow_right (by decide) hjn))
  · exact Nat.testBit_lt_two_pow (Nat.lt_of_lt_of_le hx (Nat.pow_le_pow_right (by decide) hv))
end

/-- The rule of each hole, or nothing where it is owned. -/
def tabP (E : List Nat) (O : List Int) (n : Nat) : List Nat := (List.range n).map fun h => if (ownK O E.length).testBit h = true then 0 else ruleK E O h E.length
theorem tabP_at (E : List Nat) (O : List Int) {n h : Nat} (hh : h < n) : (tabP E O n).getD h 0 = if (ownK O E.length).testBit h = true then 0 else ruleK E O h E.length := by
  simp [tabP, List.getD_eq_getElem?_getD, hh]
theorem basis_comb (E : List Nat) (O : List Int) (n x : Nat) : ∀ h, h ≤ n → ∃ c, c < 2 ^ (basisK E O h).length ∧ combK x (tabP E O n) h = comb c (basisK E O h)
  | 0, _ => ⟨0, Nat.two_pow_pos _, rfl⟩
  | h + 1, hh => by
    obtain ⟨c, hc, e⟩ := basis_comb E O n x h (by omega)
    rw [combK, tabP_at E O (by omega), basisK]
    by_cases ho : (ownK O E.length).testBit h = true
    · rw [if_pos ho, if_pos ho, Nat.xor_zero, ite_self]
      exact ⟨c, hc, e⟩
    · rw [if_neg ho, if_neg ho]
      have e3 : ∀ d, comb d (basisK E O h ++ [ruleK E O h E.length]) = if d.testBit (basisK E O h).length = true then comb d (basisK E O h) ^^^ ruleK E O h E.length else comb d (basisK E O h) := fun d => by
        have h1 := comb_append d (basisK E O h) [ruleK E O h E.length]
        unfold comb at h1 ⊢
        rw [List.length_append, List.length_singleton, combK, h1]
        simp [List.getD_eq_getElem?_getD]
      have hb : c.testBit (basisK E O h).length = false := Nat.testBit_lt_two_pow hc
      have hp : (2:Nat) ^ ((basisK E O h).length + 1) = 2 * 2 ^ (basisK E O h).length := by rw [Nat.pow_succ, Nat.mul_comm]
      rw [List.length_append, List.length_singleton]
      by_cases hx : x.testBit h = true
      · rw [if_pos hx, e]
        refine ⟨c ^^^ 2 ^ (basisK E O h).length, Nat.xor_lt_two_pow (by omega) (by have := Nat.two_pow_pos (basisK E O h).length; omega), ?_⟩
        rw [e3, Nat.testBit_xor, hb, Nat.testBit_two_pow]
        simp only [decide_true, Bool.false_xor, if_true]
        congr 1
        have h9 : ∀ i, i < (basisK E O h).length → c.testBit i = (c ^^^ 2 ^ (basisK E O h).length).testBit i := fun i hi => by
          rw [Nat.testBit_xor, Nat.testBit_two_pow, decide_eq_false (by omega), Bool.xor_false]
        exact combK_low _ _ _ _ h9
      · rw [if_neg hx, e]
        exact ⟨c, by omega, by rw [e3, hb]; simp⟩

section
variable {n : Nat} {E0 E : List Nat} {O : List Int} (H : Ech n E0 n E O) (hn : n ≤ 16)
include H hn

/-- Each set in the kernel is made of the basis. -/
theorem Ech.made {x : Nat} (hx : x < 2 ^ n) (hk : ∀ i, ip x (E.getD i 0) = false) : ∃ c, c < 2 ^ (basisK E O n).length ∧ x = comb c (basisK E O n) := by
  obtain ⟨c, hc, e⟩ := basis_comb E O n x n (Nat.le_refl _)
  refine ⟨c, hc, ?_⟩
  rw [← e]
  have hker : ∀ h, h ≤ n → ∀ i, ip (combK x (tabP E O n) h) (E.getD i 0) = false := by
    intro h
    induction h with
    | zero => intro _ i; rw [combK, ip_comm, ip_zero]
    | succ h ih =>
      intro hh i
      rw [combK, tabP_at E O (by omega)]
      split
      · split
        · rw [Nat.xor_zero]; exact ih (by omega) i
        · rename_i ho
          rw [ip_comm, ip_xor, ip_comm, ih (by omega) i, ip_comm, H.rule_ker hn (by omega) (by simpa using ho)]; rfl
      · exact ih (by omega) i
  have hbit : ∀ h, h ≤ n → ∀ v, v < n → (ownK O E.length).testBit v = false → (combK x (tabP E O n) h).testBit v = (decide (v < h) && x.testBit v) := by
    intro h
    induction h with
    | zero => intro _ v _ _; simp [combK]
    | succ h ih =>
      intro hh v hv hvo
      rw [combK, tabP_at E O (by omega)]
      have ih := ih (by omega) v hv hvo
      by_cases hvh : v = h
      · subst hvh
        split
        · rename_i hb
          rw [hvo, if_neg (by simp), Nat.testBit_xor, ih, (H.rule_bit (by omega) hvo).2 (.inl rfl), hb]; simp
        · rename_i hb
          rw [ih]; simp [hb]
      · have e2 : decide (v < h + 1) = decide (v < h) := decide_eq_decide.2 (by omega)
        rw [e2, ← ih]
        split
        · split
          · rw [Nat.xor_zero]
          · rename_i ho
            rw [Nat.testBit_xor, H.rule_only (by omega) (by simpa using ho) hvo hvh]; simp
        · rfl
  have h0 : x ^^^ combK x (tabP E O n) n = 0 := by
    refine H.none_left hn ?_ (fun i => ?_) fun h hh ho => ?_
    · refine Nat.xor_lt_two_pow hx (combK_lt _ _ (fun y hy => ?_) _)
      simp only [tabP, List.mem_map, List.mem_range] at hy
      obtain ⟨h, hh, rfl⟩ := hy
      split
      · exact Nat.two_pow_pos n
      · rename_i ho
        exact Nat.lt_of_lt_of_le (H.rule_top hh (by simpa using ho)).2 (Nat.pow_le_pow_right (by decide) (by omega))
    · rw [ip_comm, ip_xor, ip_comm, hk i, ip_comm, hker n (Nat.le_refl _) i]; rfl
    · rw [Nat.testBit_xor, hbit n (Nat.le_refl _) h hh ho]; simp [hh]
  have := congrArg (· ^^^ combK x (tabP E O n) n) h0
  simpa [Nat.xor_assoc] using this

omit H hn in
theorem basis_member {x : Nat} (hx : x ∈ basisK E O n) : ∃ h, h < n ∧ (ownK O E.length).testBit h = false ∧ x = ruleK E O h E.length := by
  have hm : ∀ k, k ≤ n → x ∈ basisK E O k → ∃ h, h < k ∧ (ownK O E.length).testBit h = false ∧ x = ruleK E O h E.length := by
    intro k
    induction k with
    | zero => intro _ h; simp [basisK] at h
    | succ k ih =>
      intro hk h
      unfold basisK at h
      split at h
      · obtain ⟨a, b, c⟩ := ih (by omega) h; exact ⟨a, by omega, c⟩
      · rename_i ho
        rw [List.mem_append, List.mem_singleton] at h
        rcases h with h | h
        · obtain ⟨a, b, c⟩ := ih (by omega) h; exact ⟨a, by omega, c⟩
        · exact ⟨k, by omega, by simpa using ho, h⟩
  exact hm n (Nat.le_refl _) hx
omit hn in
theorem Ech.rises : (basisK E O n).Pairwise fun a b => a.log2 < b.log2 := by
  have hm : ∀ k, k ≤ n → (basisK E O k).Pairwise (fun a b => a.log2 < b.log2) ∧ ∀ x ∈ basisK E O k, x.log2 < k := by
    intro k
    induction k with
    | zero => intro _; exact ⟨List.Pairwise.nil, fun x h => by simp [basisK] at h⟩
    | succ k ih =>
      intro hk
      obtain ⟨h1, h2⟩ := ih (by omega)
      unfold basisK
      split
      · exact ⟨h1, fun x hx => Nat.lt_succ_of_lt (h2 x hx)⟩
      · rename_i ho
        have hl := H.rule_log (h := k) (by omega) (by simpa using ho)
        refine ⟨List.pairwise_append.2 ⟨h1, List.pairwise_singleton _ _, fun a ha b hb => ?_⟩, fun x hx => ?_⟩
        · rw [List.mem_singleton] at hb; subst hb; rw [hl]; exact h2 a ha
        · rw [List.mem_append, List.mem_singleton] at hx
          rcases hx with hx | hx
          · exact Nat.lt_succ_of_lt (h2 x hx)
          · subst hx; rw [hl]; exact Nat.lt_succ_self k
  exact (hm n (Nat.le_refl _)).1
omit hn in
theorem Ech.only {a b : Nat} (ha : a ∈ basisK E O n) (hb : b ∈ basisK E O n) (hne : a ≠ b) : a.testBit b.log2 = false := by
  obtain ⟨h, h1, h2, rfl⟩ := basis_member ha
  obtain ⟨k, k1, k2, rfl⟩ := basis_member hb
  rw [H.rule_log k1 k2]
  exact H.rule_only h1 h2 k2 (by rintro rfl; exact hne rfl)
theorem Ech.inker {x : Nat} (hx : x ∈ basisK E O n) : x ≠ 0 ∧ x < 2 ^ n ∧ ∀ i, ip x (E.getD i 0) = false := by
  obtain ⟨h, h1, h2, rfl⟩ := basis_member hx
  obtain ⟨h3, h4⟩ := H.rule_top h1 h2
  exact ⟨by have := Nat.two_pow_pos h; omega, Nat.lt_of_lt_of_le h4 (Nat.pow_le_pow_right (by decide) (by omega)), H.rule_ker hn h1 h2⟩
end
end Go.Proofs.Ythbhengcinkepaa.Lamp
