/- Lamps as plain mathematics: what sets of lamps make together, rows of lamps and what they switch, the table of rows. No program is spoken of. -/
namespace Go.Proofs.Ythbhengcinkepaa.Lamp

/-- What the sets at the places of c make together, of the first k. -/
def combK (c : Nat) (s : List Nat) : Nat → Nat
  | 0 => 0
  | k + 1 => if c.testBit k then combK c s k ^^^ s.getD k 0 else combK c s k
def comb (c : Nat) (s : List Nat) : Nat := combK c s s.length

theorem combK_xor (a b : Nat) (s : List Nat) (k : Nat) : combK (a ^^^ b) s k = combK a s k ^^^ combK b s k := by
  induction k with
  | zero => simp [combK]
  | succ k ih =>
    simp only [combK, Nat.testBit_xor, ih]
    cases a.testBit k <;> cases b.testBit k <;> simp
    · rw [Nat.xor_assoc]
    · rw [Nat.xor_assoc, Nat.xor_assoc, Nat.xor_comm (combK b s k)]
    · rw [Nat.xor_assoc, ← Nat.xor_assoc (s[k]?.getD 0), Nat.xor_comm (s[k]?.getD 0), Nat.xor_assoc, Nat.xor_self, Nat.xor_zero]

theorem comb_xor (a b : Nat) (s : List Nat) : comb (a ^^^ b) s = comb a s ^^^ comb b s := combK_xor a b s _
theorem combK_zero (s : List Nat) (k : Nat) : combK 0 s k = 0 := by
  induction k with
  | zero => rfl
  | succ k ih => simp [combK, ih]
theorem comb_zero (s : List Nat) : comb 0 s = 0 := combK_zero s _
theorem combK_pow (s : List Nat) (i k : Nat) : combK (2 ^ i) s k = if i < k then s.getD i 0 else 0 := by
  induction k with
  | zero => simp [combK]
  | succ k ih =>
    simp only [combK, ih, Nat.testBit_two_pow]
    by_cases h : i = k
    · subst h; simp
    · by_cases h2 : i < k
      · simp [h, h2, Nat.lt_succ_of_lt h2]
      · simp [h, h2]; omega
theorem comb_pow (s : List Nat) (i : Nat) (h : i < s.length) : comb (2 ^ i) s = s.getD i 0 := by
  unfold comb; rw [combK_pow, if_pos h]
theorem combK_lt {m : Nat} (c : Nat) (s : List Nat) (hs : ∀ x ∈ s, x < 2 ^ m) (k : Nat) : combK c s k < 2 ^ m := by
  induction k with
  | zero => exact Nat.two_pow_pos m
  | succ k ih =>
    unfold combK
    split
    · refine Nat.xor_lt_two_pow ih ?_
      cases h : s[k]? with
      | none => simp [h, Nat.two_pow_pos m]
      | some x => simp [h]; exact hs x (List.mem_of_getElem? h)
    · exact ih
theorem comb_lt {m : Nat} (c : Nat) (s : List Nat) (hs : ∀ x ∈ s, x < 2 ^ m) : comb c s < 2 ^ m := combK_lt c s hs _

/-- Only the places below k are asked. -/
theorem combK_low (c d : Nat) (s : List Nat) (k : Nat) (h : ∀ i, i < k → c.testBit i = d.testBit i) : combK c s k = combK d s k := by
  induction k with
  | zero => rfl
  | succ k ih =>
    simp only [combK, h k (Nat.lt_succ_self k), ih (fun i hi => h i (by omega))]
/-- Sets that differ beyond the places asked. -/
theorem combK_sets (c : Nat) (s t : List Nat) (k : Nat) (h : ∀ i, i < k → c.testBit i = true → s.getD i 0 = t.getD i 0) : combK c s k = combK c t k := by
  induction k with
  | zero => rfl
  | succ k ih =>
    simp only [combK]
    rw [ih (fun i hi => h i (by omega))]
    split
    · rename_i hb; rw [h k (Nat.lt_succ_self k) hb]
    · rfl
theorem combK_more (c : Nat) (s : List Nat) (k : Nat) (n : Nat) (hk : k ≤ n) (h : ∀ i, k ≤ i → i < n → c.testBit i = true → s.getD i 0 = 0) : combK c s n = combK c s k := by
  induction n with
  | zero => obtain rfl : k = 0 := by omega
            rfl
  | succ n ih =>
    by_cases e : k = n + 1
    · rw [e]
    · simp only [combK]
      rw [ih (by omega) (fun i h1 h2 => h i h1 (by omega))]
      split
      · rename_i hb; rw [h n (by omega) (by omega) hb, Nat.xor_zero]
      · rfl
theorem comb_append (c : Nat) (s t : List Nat) : combK c (s ++ t) s.length = comb c s := by
  unfold comb
  exact combK_sets c _ _ _ fun i hi _ => by simp [List.getElem?_append_left hi]

/-- Halves of a row: what is switched, above; what is pressed, below. -/
theorem xor_div (a b : Nat) (k : Nat) : (a ^^^ b) / 2 ^ k = a / 2 ^ k ^^^ b / 2 ^ k := by
  apply Nat.eq_of_testBit_eq; intro i; simp [Nat.testBit_div_two_pow]
theorem xor_mod (a b : Nat) (k : Nat) : (a ^^^ b) % 2 ^ k = a % 2 ^ k ^^^ b % 2 ^ k := by
  apply Nat.eq_of_testBit_eq; intro i; simp only [Nat.testBit_mod_two_pow, Nat.testBit_xor]
  by_cases h : i < k <;> simp [h]
theorem combK_div (c : Nat) (s : List Nat) (m k : Nat) : combK c s k / 2 ^ m = combK c (s.map (· / 2 ^ m)) k := by
  induction k with
  | zero => simp [combK]
  | succ k ih =>
    simp only [combK]
    split
    · rw [xor_div, ih]; congr 1
      simp only [List.getD_eq_getElem?_getD, List.getElem?_map]
      cases s[k]? <;> simp
    · exact ih

theorem log2_le {n : Nat} (h : n ≠ 0) : 2 ^ n.log2 ≤ n := Nat.log2_self_le h
theorem lt_log2 (n : Nat) : n < 2 ^ (n.log2 + 1) := Nat.lt_log2_self
theorem log2_eq {n t : Nat} (h1 : 2 ^ t ≤ n) (h2 : n < 2 ^ (t + 1)) : n.log2 = t := by
  have h0 : n ≠ 0 := by have := Nat.two_pow_pos t; omega
  have h3 := log2_le h0
  have h4 := lt_log2 n
  have h5 : t < n.log2 + 1 := (Nat.pow_lt_pow_iff_right (by decide)).1 (Nat.lt_of_le_of_lt h1 h4)
  have h6 : n.log2 < t + 1 := (Nat.pow_lt_pow_iff_right (by decide)).1 (Nat.lt_of_le_of_lt h3 h2)
  omega
theorem log2_lt' {n k : Nat} (h0 : n ≠ 0) (h : n < 2 ^ k) : n.log2 < k :=
  (Nat.pow_lt_pow_iff_right (by decide)).1 (Nat.lt_of_le_of_lt (log2_le h0) h)
theorem testBit_top {n t : Nat} (h1 : 2 ^ t ≤ n) (h2 : n < 2 ^ (t + 1)) : n.testBit t = true := by
  rw [Nat.testBit_eq_decide_div_mod_eq]
  have h3 : n / 2 ^ t = 1 := by
    rw [Nat.pow_succ] at h2
    rw [Nat.div_eq_iff (Nat.two_pow_pos t)]
    omega
  rw [h3]; rfl
theorem testBit_log2 {n : Nat} (h : n ≠ 0) : n.testBit n.log2 = true := testBit_top (log2_le h) (lt_log2 n)
theorem testBit_above {n i : Nat} (h : n.log2 < i) : n.testBit i = false := by
  rw [Nat.testBit_lt_two_pow]
  exact Nat.lt_of_lt_of_le (lt_log2 n) (Nat.pow_le_pow_right (by decide) h)
theorem le_of_testBit {n i : Nat} (h : n.testBit i = true) : i ≤ n.log2 := by
  apply Decidable.byContradiction
  intro hc
  rw [testBit_above (by omega)] at h
  cases h
/-- A number that has only bits below. -/
theorem lt_of_bits {n t : Nat} (h : ∀ i, t ≤ i → n.testBit i = false) : n < 2 ^ t := by
  apply Nat.lt_pow_two_of_testBit
  intro i hi
  exact h i hi
theorem xor_top {a b t : Nat} (ha : a < 2 ^ t) (h1 : 2 ^ t ≤ b) (h2 : b < 2 ^ (t + 1)) : 2 ^ t ≤ a ^^^ b ∧ a ^^^ b < 2 ^ (t + 1) := by
  constructor
  · apply Nat.ge_two_pow_of_testBit (i := t)
    rw [Nat.testBit_xor, Nat.testBit_lt_two_pow ha, testBit_top h1 h2]; rfl
  · exact Nat.xor_lt_two_pow (Nat.lt_of_lt_of_le ha (Nat.pow_le_pow_right (by decide) (by omega))) h2
theorem xor_tops {a b t : Nat} (h1 : 2 ^ t ≤ a) (h2 : a < 2 ^ (t + 1)) (h3 : 2 ^ t ≤ b) (h4 : b < 2 ^ (t + 1)) : a ^^^ b < 2 ^ t := by
  apply lt_of_bits
  intro i hi
  rw [Nat.testBit_xor]
  by_cases e : i = t
  · subst e; rw [testBit_top h1 h2, testBit_top h3 h4]; rfl
  · rw [Nat.testBit_lt_two_pow (Nat.lt_of_lt_of_le h2 (Nat.pow_le_pow_right (by decide) (by omega))), Nat.testBit_lt_two_pow (Nat.lt_of_lt_of_le h4 (Nat.pow_le_pow_right (by decide) (by omega)))]; rfl

/-- Sets of which the one at place i has i as its greatest element: what some of them make together has the greatest place as its greatest element. -/
theorem combK_ech_lt (c : Nat) (s : List Nat) (k : Nat) (h : ∀ i, i < k → c.testBit i = true → s.getD i 0 < 2 ^ (i + 1)) : combK c s k < 2 ^ k := by
  induction k with
  | zero => simp [combK]
  | succ k ih =>
    have h1 := ih (fun i hi => h i (by omega))
    have h2 : (2:Nat) ^ k ≤ 2 ^ (k + 1) := Nat.pow_le_pow_right (by decide) (by omega)
    unfold combK
    split
    · rename_i hb
      exact Nat.xor_lt_two_pow (by omega) (h k (by omega) hb)
    · omega
theorem combK_ech (c : Nat) (s : List Nat) (n : Nat) (hc : c ≠ 0) (hn : c < 2 ^ n) (h : ∀ i, c.testBit i = true → 2 ^ i ≤ s.getD i 0 ∧ s.getD i 0 < 2 ^ (i + 1)) : 2 ^ c.log2 ≤ combK c s n ∧ combK c s n < 2 ^ (c.log2 + 1) := by
  have ht := testBit_log2 hc
  have hl := log2_lt' hc hn
  rw [combK_more c s (c.log2 + 1) n (by omega) (fun i h1 _ hb => by rw [testBit_above (by omega)] at hb; cases hb)]
  have h1 := combK_ech_lt c s c.log2 (fun i _ hb => (h i hb).2)
  have h2 := h _ ht
  simp only [combK, ht, if_true]
  exact xor_top h1 h2.1 h2.2

/-- A table of rows: each one that is not 0 lies at its greatest switched lamp. -/
def TabOk (R : List Nat) : Prop := R.length = 16 ∧ ∀ g, R.getD g 0 ≠ 0 → 2 ^ g ≤ R.getD g 0 / 65536 ∧ R.getD g 0 / 65536 < 2 ^ (g + 1)
/-- What rows of the table make together. -/
def InSpan (R : List Nat) (z : Nat) : Prop := ∃ c, (∀ g, c.testBit g = true → R.getD g 0 ≠ 0) ∧ z = comb c R

theorem InSpan.zero (R : List Nat) : InSpan R 0 := ⟨0, fun g h => by simp at h, (comb_zero R).symm⟩
theorem InSpan.xor {R : List Nat} {a b : Nat} (ha : InSpan R a) (hb : InSpan R b) : InSpan R (a ^^^ b) := by
  obtain ⟨c, hc, rfl⟩ := ha
  obtain ⟨d, hd, rfl⟩ := hb
  refine ⟨c ^^^ d, fun g h => ?_, (comb_xor _ _ _).symm⟩
  rw [Nat.testBit_xor] at h
  cases h1 : c.testBit g
  · rw [h1] at h; exact hd g (by simpa using h)
  · exact hc g h1
theorem InSpan.row {R : List Nat} {g : Nat} (h : R.getD g 0 ≠ 0) : InSpan R (R.getD g 0) := by
  have hg : g < R.length := by
    apply Decidable.byContradiction
    intro hn
    rw [List.getD_eq_getElem?_getD, List.getElem?_eq_none (by omega)] at h
    exact h rfl
  refine ⟨2 ^ g, fun i hi => ?_, (comb_pow R g hg).symm⟩
  rw [Nat.testBit_two_pow] at hi
  have : g = i := by simpa using hi
  rwa [← this]
theorem bits_len {R : List Nat} {c : Nat} (hc : ∀ g, c.testBit g = true → R.getD g 0 ≠ 0) : c < 2 ^ R.length := by
  apply lt_of_bits
  intro i hi
  cases h : c.testBit i
  · rfl
  · exact absurd (by rw [List.getD_eq_getElem?_getD, List.getElem?_eq_none hi]; rfl) (hc i h)
theorem InSpan.top {R : List Nat} (hR : TabOk R) {z : Nat} (h : InSpan R z) : z = 0 ∨ z / 65536 ≠ 0 ∧ R.getD (z / 65536).log2 0 ≠ 0 := by
  obtain ⟨c, hc, rfl⟩ := h
  by_cases h0 : c = 0
  · left; rw [h0, comb_zero]
  right
  have h1 : comb c R / 65536 = combK c (R.map (· / 65536)) R.length := combK_div c R 16 R.length
  have h2 := combK_ech c (R.map (· / 65536)) R.length h0 (bits_len hc) (fun i hi => by
    have h3 := hR.2 i (hc i hi)
    have h4 : (R.map (· / 65536)).getD i 0 = R.getD i 0 / 65536 := by
      simp only [List.getD_eq_getElem?_getD, List.getElem?_map]
      cases R[i]? <;> simp
    rw [h4]; exact h3)
  rw [← h1] at h2
  have h5 := log2_eq h2.1 h2.2
  refine ⟨by have := Nat.two_pow_pos c.log2; omega, ?_⟩
  rw [h5]
  exact hc _ (testBit_log2 h0)
theorem InSpan.small {R : List Nat} (hR : TabOk R) {z : Nat} (h : InSpan R z) (hz : z / 65536 = 0) : z = 0 := by
  rcases h.top hR with e | e
  · exact e
  · exact absurd hz e.1
theorem xor_cancel (a b : Nat) : a ^^^ b ^^^ b = a := by rw [Nat.xor_assoc, Nat.xor_self, Nat.xor_zero]

/-- Reducing a row by the table. -/
def red (R : List Nat) : Nat → Nat → Nat
  | 0, r => r
  | f + 1, r => if r / 65536 = 0 ∨ R.getD (r / 65536).log2 0 = 0 then r else red R f (r ^^^ R.getD (r / 65536).log2 0)

theorem red_step {R : List Nat} (hR : TabOk R) {f r : Nat} (h1 : r / 65536 ≠ 0) (h2 : R.getD (r / 65536).log2 0 ≠ 0) (hf : r / 65536 < 2 ^ f) : 1 ≤ f ∧ (r ^^^ R.getD (r / 65536).log2 0) / 65536 < 2 ^ (f - 1) := by
  have h3 := hR.2 _ h2
  have h4 := log2_lt' h1 hf
  have h5 := xor_tops (log2_le h1) (lt_log2 _) h3.1 h3.2
  refine ⟨by omega, ?_⟩
  have h6 : (r ^^^ R.getD (r / 65536).log2 0) / 65536 = r / 65536 ^^^ R.getD (r / 65536).log2 0 / 65536 := xor_div _ _ 16
  rw [h6]
  exact Nat.lt_of_lt_of_le h5 (Nat.pow_le_pow_right (by decide) (by omega))
/-- What is left of a row that has been reduced. -/
theorem red_out {R : List Nat} (hR : TabOk R) (f : Nat) : ∀ r, r / 65536 < 2 ^ f → InSpan R (r ^^^ red R (f + 1) r) ∧ (red R (f + 1) r / 65536 = 0 ∨ R.getD (red R (f + 1) r / 65536).log2 0 = 0) := by
  induction f with
  | zero =>
    intro r hr
    have h0 : r / 65536 = 0 := by simpa using hr
    simp only [red, h0, true_or, if_true, Nat.xor_self]
    exact ⟨InSpan.zero R, by simp⟩
  | succ f ih =>
    intro r hr
    rw [red]
    split
    · rename_i h
      rw [Nat.xor_self]
      exact ⟨InSpan.zero R, h⟩
    · rename_i h
      have h1 : r / 65536 ≠ 0 := fun e => h (.inl e)
      have h2 : R.getD (r / 65536).log2 0 ≠ 0 := fun e => h (.inr e)
      obtain ⟨_, h4⟩ := red_step hR h1 h2 hr
      obtain ⟨h5, h6⟩ := ih _ h4
      refine ⟨?_, h6⟩
      have h7 := h5.xor (InSpan.row h2)
      have h8 : r ^^^ R.getD (r / 65536).log2 0 ^^^ red R (f + 1) (r ^^^ R.getD (r / 65536).log2 0) ^^^ R.getD (r / 65536).log2 0 = r ^^^ red R (f + 1) (r ^^^ R.getD (r / 65536).log2 0) := by
        rw [Nat.xor_assoc r, Nat.xor_comm (R.getD (r / 65536).log2 0), ← Nat.xor_assoc, xor_cancel]
      rwa [h8] at h7

/-- What holds of all rows and is kept by joining holds of what rows make. -/
theorem InSpan.ind {R : List Nat} {P : Nat → Prop} (h0 : P 0) (hx : ∀ a b, P a → P b → P (a ^^^ b)) (hr : ∀ g, P (R.getD g 0)) {z : Nat} (h : InSpan R z) : P z := by
  obtain ⟨c, _, rfl⟩ := h
  unfold comb
  generalize R.length = k
  induction k with
  | zero => exact h0
  | succ k ih =>
    unfold combK
    split
    · exact hx _ _ ih (hr k)
    · exact ih

def redF (R : List Nat) (r : Nat) : Nat := red R 17 r
/-- The row of lamps and what they switch. -/
def rowV (p s : Nat) : Nat := s * 65536 + p
/-- One lamp more: its row, reduced, is quiet or goes to the table. -/
def redStep (sw : List Nat) (k : Nat) (st : List Nat × List Nat) : List Nat × List Nat :=
  let r := redF st.1 (rowV (2 ^ k) (sw.getD k 0))
  if r / 65536 = 0 then (st.1, st.2 ++ [r % 65536]) else (st.1.set (r / 65536).log2 r, st.2)
def redAll (sw : List Nat) : Nat → List Nat × List Nat
  | 0 => (List.replicate 16 0, [])
  | k + 1 => redStep sw k (redAll sw k)

structure Inv (sw : List Nat) (k : Nat) (R Q : List Nat) : Prop where
  tab : TabOk R
  big : ∀ g, R.getD g 0 < 4294967296
  valid : ∀ g, comb (R.getD g 0 % 65536) sw = R.getD g 0 / 65536
  low : ∀ g, R.getD g 0 % 65536 < 2 ^ k
  quiet : ∀ q ∈ Q, q ≠ 0 ∧ q < 2 ^ k ∧ comb q sw = 0
  apart : ∀ g, ∀ q ∈ Q, (R.getD g 0 % 65536).testBit q.log2 = false
  rises : Q.Pairwise fun a b => a.log2 < b.log2
  only : ∀ a ∈ Q, ∀ b ∈ Q, a ≠ b → a.testBit b.log2 = false
  all : ∀ x, x < 2 ^ k → ∃ c z, c < 2 ^ Q.length ∧ InSpan R z ∧ z / 65536 = comb x sw ∧ z % 65536 = x ^^^ comb c Q

theorem rep_zero (g : Nat) : (List.replicate 16 0).getD g 0 = 0 := by
  rw [List.getD_eq_getElem?_getD, List.getElem?_replicate]; split <;> rfl
theorem xor_div16 (a b : Nat) : (a ^^^ b) / 65536 = a / 65536 ^^^ b / 65536 := xor_div a b 16
theorem xor_mod16 (a b : Nat) : (a ^^^ b) % 65536 = a % 65536 ^^^ b % 65536 := xor_mod a b 16
theorem Inv.zero (sw : List Nat) : Inv sw 0 (List.replicate 16 0) [] where
  tab := ⟨by simp, fun g h => absurd (rep_zero g) h⟩
  big g := by rw [rep_zero]; decide
  valid g := by rw [rep_zero, Nat.zero_mod, comb_zero]
  low g := by rw [rep_zero]; decide
  quiet q h := by simp at h
  apart g q h := by simp at h
  rises := List.Pairwise.nil
  only a h := by simp at h
  all x hx := by
    obtain rfl : x = 0 := by simpa using hx
    exact ⟨0, 0, by decide, InSpan.zero _, by rw [comb_zero], by rw [comb_zero]; rfl⟩

theorem pow_split {n : Nat} (h : n ≤ 16) : (2:Nat) ^ n ≤ 65536 := Nat.pow_le_pow_right (n := 2) (by decide) h
theorem rowV_div {p s : Nat} (h : p < 65536) : rowV p s / 65536 = s := by unfold rowV; omega
theorem rowV_mod {p s : Nat} (h : p < 65536) : rowV p s % 65536 = p := by unfold rowV; omega
theorem rowV_eta (r : Nat) : rowV (r % 65536) (r / 65536) = r := by unfold rowV; omega
theorem comb_app (c : Nat) (Q : List Nat) (q : Nat) : comb c (Q ++ [q]) = if c.testBit Q.length then comb c Q ^^^ q else comb c Q := by
  unfold comb
  rw [List.length_append]
  show combK c (Q ++ [q]) (Q.length + 1) = _
  simp only [combK]
  rw [comb_append]
  simp [comb]
theorem getD_set {R : List Nat} {t r g : Nat} (ht : t < R.length) : (R.set t r).getD g 0 = if g = t then r else R.getD g 0 := by
  simp only [List.getD_eq_getElem?_getD, List.getElem?_set]
  by_cases e : t = g
  · subst e; simp [ht]
  · simp [e, Ne.symm e]
theorem InSpan.set {R : List Nat} {t r z : Nat} (h0 : R.getD t 0 = 0) (ht : t < R.length) (hr : r ≠ 0) (h : InSpan R z) : InSpan (R.set t r) z := by
  obtain ⟨c, hc, rfl⟩ := h
  refine ⟨c, fun g hg => ?_, ?_⟩
  · rw [getD_set ht]
    split
    · exact hr
    · exact hc g hg
  · unfold comb
    rw [List.length_set]
    refine combK_sets c _ _ _ fun i _ hi => ?_
    rw [getD_set ht, if_neg]
    rintro rfl
    exact hc _ hi h0

theorem xor_lt_next {a b t : Nat} (ha : a < 2 ^ t) (hb : b < 2 ^ t) : a ^^^ b < 2 ^ t := Nat.xor_lt_two_pow ha hb
theorem low_xor {x k : Nat} (h : x < 2 ^ (k + 1)) (hb : x.testBit k = true) : x ^^^ 2 ^ k < 2 ^ k :=
  xor_tops (Nat.ge_two_pow_of_testBit hb) h (Nat.le_refl _) (Nat.pow_lt_pow_right (by decide) (by omega))
theorem low_of {x k : Nat} (h : x < 2 ^ (k + 1)) (hb : x.testBit k = false) : x < 2 ^ k := by
  apply lt_of_bits
  intro i hi
  by_cases e : i = k
  · rw [e]; exact hb
  · exact Nat.testBit_lt_two_pow (Nat.lt_of_lt_of_le h (Nat.pow_le_pow_right (by decide) (by omega)))

/-- What rows of the table make is a row: what is above is the effect of what is below. -/
theorem Inv.span {sw : List Nat} {k : Nat} {R Q : List Nat} (h : Inv sw k R Q) {z : Nat} (hz : InSpan R z) :
    z < 4294967296 ∧ comb (z % 65536) sw = z / 65536 ∧ z % 65536 < 2 ^ k ∧ ∀ q ∈ Q, (z % 65536).testBit q.log2 = false := by
  refine InSpan.ind (P := fun z => z < 4294967296 ∧ comb (z % 65536) sw = z / 65536 ∧ z % 65536 < 2 ^ k ∧ ∀ q ∈ Q, (z % 65536).testBit q.log2 = false) ?_ ?_ ?_ hz
  · exact ⟨by decide, by rw [Nat.zero_mod, comb_zero], Nat.two_pow_pos k, fun q _ => by simp⟩
  · rintro a b ⟨a1, a2, a3, a4⟩ ⟨b1, b2, b3, b4⟩
    have hm : (a ^^^ b) % 65536 = a % 65536 ^^^ b % 65536 := xor_mod a b 16
    have hd : (a ^^^ b) / 65536 = a / 65536 ^^^ b / 65536 := xor_div a b 16
    rw [hm, hd, comb_xor, a2, b2]
    exact ⟨Nat.xor_lt_two_pow (n := 32) a1 b1, rfl, xor_lt_next a3 b3, fun q hq => by rw [Nat.testBit_xor, a4 q hq, b4 q hq]; rfl⟩
  · exact fun g => ⟨h.big g, h.valid g, h.low g, h.apart g⟩

theorem Inv.step {sw : List Nat} {k : Nat} {R Q : List Nat} (h : Inv sw k R Q) (hn : sw.length ≤ 16) (hs : ∀ x ∈ sw, x < 65536) (hk : k < sw.length) : Inv sw (k + 1) (redStep sw k (R, Q)).1 (redStep sw k (R, Q)).2 := by
  have hp : (2:Nat) ^ (k + 1) ≤ 65536 := pow_split (n := k + 1) (by omega)
  have hp1 : (2:Nat) ^ k < 2 ^ (k + 1) := Nat.pow_lt_pow_right (by decide) (by omega)
  have hp0 := Nat.two_pow_pos k
  have hsk : sw.getD k 0 < 65536 := by
    rw [List.getD_eq_getElem?_getD, List.getElem?_eq_getElem hk]
    exact hs _ (List.getElem_mem hk)
  obtain ⟨r, hr⟩ : ∃ r, r = redF R (rowV (2 ^ k) (sw.getD k 0)) := ⟨_, rfl⟩
  have hd0 : rowV (2 ^ k) (sw.getD k 0) / 65536 = sw.getD k 0 := rowV_div (by omega)
  have hm0 : rowV (2 ^ k) (sw.getD k 0) % 65536 = 2 ^ k := rowV_mod (by omega)
  have ho := red_out h.tab 16 (rowV (2 ^ k) (sw.getD k 0)) (by rw [hd0]; exact hsk)
  rw [show red R (16 + 1) (rowV (2 ^ k) (sw.getD k 0)) = r from hr.symm] at ho
  obtain ⟨z, hz⟩ : ∃ z, z = rowV (2 ^ k) (sw.getD k 0) ^^^ r := ⟨_, rfl⟩
  rw [← hz] at ho
  have hrz : r = rowV (2 ^ k) (sw.getD k 0) ^^^ z := by rw [hz, ← Nat.xor_assoc, Nat.xor_self, Nat.zero_xor]
  obtain ⟨hzS, hend⟩ := ho
  obtain ⟨z1, z2, z3, z4⟩ := h.span hzS
  have hrd : r / 65536 = sw.getD k 0 ^^^ z / 65536 := by
    have h1 := xor_div16 (rowV (2 ^ k) (sw.getD k 0)) z
    rw [← hrz, hd0] at h1
    exact h1
  have hrm : r % 65536 = 2 ^ k ^^^ z % 65536 := by
    have h1 := xor_mod16 (rowV (2 ^ k) (sw.getD k 0)) z
    rw [← hrz, hm0] at h1
    exact h1
  have hcm : comb (r % 65536) sw = r / 65536 := by rw [hrm, comb_xor, comb_pow sw k hk, z2, hrd]
  have hbig : r < 4294967296 := by
    rw [hrz]
    exact Nat.xor_lt_two_pow (n := 32) (by unfold rowV; omega) z1
  have hrlt : r % 65536 < 2 ^ (k + 1) := by rw [hrm]; exact Nat.xor_lt_two_pow hp1 (by omega)
  have hbit : (r % 65536).testBit k = true := by rw [hrm, Nat.testBit_xor, Nat.testBit_two_pow, Nat.testBit_lt_two_pow z3]; simp
  have hlog : (r % 65536).log2 = k := log2_eq (Nat.ge_two_pow_of_testBit hbit) hrlt
  have hrq : ∀ q ∈ Q, (r % 65536).testBit q.log2 = false := fun q hq => by
    have h1 := h.quiet q hq
    have h2 := log2_lt' h1.1 h1.2.1
    rw [hrm, Nat.testBit_xor, z4 q hq, Nat.testBit_two_pow]
    have : ¬ k = q.log2 := by omega
    simp [this]
  unfold redStep
  simp only
  rw [← hr]
  by_cases h0 : r / 65536 = 0
  · rw [if_pos h0]
    have hq0 : r % 65536 ≠ 0 := fun e => by rw [e] at hbit; simp at hbit
    refine ⟨h.tab, h.big, h.valid, fun g => Nat.lt_trans (h.low g) hp1, ?_, ?_, ?_, ?_, ?_⟩
    · intro q hq
      rcases List.mem_append.1 hq with hq | hq
      · have := h.quiet q hq
        exact ⟨this.1, Nat.lt_trans this.2.1 hp1, this.2.2⟩
      · obtain rfl : q = r % 65536 := by simpa using hq
        exact ⟨hq0, hrlt, by rw [hcm, h0]⟩
    · intro g q hq
      rcases List.mem_append.1 hq with hq | hq
      · exact h.apart g q hq
      · obtain rfl : q = r % 65536 := by simpa using hq
        rw [hlog]
        exact Nat.testBit_lt_two_pow (h.low g)
    · rw [List.pairwise_append]
      refine ⟨h.rises, by simp, fun a ha b hb => ?_⟩
      obtain rfl : b = r % 65536 := by simpa using hb
      rw [hlog]
      exact log2_lt' (h.quiet a ha).1 (h.quiet a ha).2.1
    · intro a ha b hb hab
      rcases List.mem_append.1 ha with ha | ha <;> rcases List.mem_append.1 hb with hb | hb
      · exact h.only a ha b hb hab
      · obtain rfl : b = r % 65536 := by simpa using hb
        rw [hlog]
        exact Nat.testBit_lt_two_pow (h.quiet a ha).2.1
      · obtain rfl : a = r % 65536 := by simpa using ha
        exact hrq b hb
      · obtain rfl : a = r % 65536 := by simpa using ha
        obtain rfl : b = r % 65536 := by simpa using hb
        exact absurd rfl hab
    · intro x hx
      rw [List.length_append]
      show ∃ c z, c < 2 ^ (Q.length + 1) ∧ _
      have hq1 : (2:Nat) ^ Q.length < 2 ^ (Q.length + 1) := Nat.pow_lt_pow_right (by decide) (by omega)
      cases hb : x.testBit k
      · obtain ⟨c, zx, c1, c2, c3, c4⟩ := h.all x (low_of hx hb)
        refine ⟨c, zx, by omega, c2, c3, ?_⟩
        rw [comb_app, Nat.testBit_lt_two_pow c1]
        exact c4
      · obtain ⟨c, zx, c1, c2, c3, c4⟩ := h.all (x ^^^ 2 ^ k) (low_xor hx hb)
        have hx2 : x = (x ^^^ 2 ^ k) ^^^ 2 ^ k := (xor_cancel _ _).symm
        refine ⟨c ^^^ 2 ^ Q.length, zx ^^^ z, Nat.xor_lt_two_pow (by omega) hq1, c2.xor hzS, ?_, ?_⟩
        · rw [show (zx ^^^ z) / 65536 = zx / 65536 ^^^ z / 65536 from xor_div _ _ 16, c3, comb_xor, comb_pow sw k hk]
          have h5 : z / 65536 = sw.getD k 0 := by
            rw [h0] at hrd
            have h6 : sw.getD k 0 ^^^ (sw.getD k 0 ^^^ z / 65536) = z / 65536 := by rw [← Nat.xor_assoc, Nat.xor_self, Nat.zero_xor]
            rw [← hrd, Nat.xor_zero] at h6
            exact h6.symm
          rw [h5, xor_cancel]
        · rw [show (zx ^^^ z) % 65536 = zx % 65536 ^^^ z % 65536 from xor_mod _ _ 16, c4, comb_app]
          have h5 : (c ^^^ 2 ^ Q.length).testBit Q.length = true := by rw [Nat.testBit_xor, Nat.testBit_lt_two_pow c1, Nat.testBit_two_pow]; simp
          have h6 : comb (c ^^^ 2 ^ Q.length) Q = comb c Q := by
            unfold comb
            refine combK_low _ _ _ _ fun i hi => ?_
            rw [Nat.testBit_xor, Nat.testBit_two_pow]
            have : ¬ Q.length = i := by omega
            simp [this]
          rw [h5, if_pos rfl, h6, hrm]
          generalize comb c Q = y
          generalize z % 65536 = u
          generalize 2 ^ k = v
          rw [Nat.xor_assoc x, Nat.xor_assoc x, Nat.xor_comm v y, Nat.xor_assoc y, ← Nat.xor_assoc y, ← Nat.xor_assoc]
  · rw [if_neg h0]
    have hT := hend.resolve_left h0
    have hlt : (r / 65536).log2 < 16 := log2_lt' h0 (by omega)
    have htl : (r / 65536).log2 < R.length := by rw [h.tab.1]; exact hlt
    have hr0 : r ≠ 0 := fun e => h0 (by rw [e])
    have hG : ∀ g, (R.set (r / 65536).log2 r).getD g 0 = if g = (r / 65536).log2 then r else R.getD g 0 := fun g => getD_set htl
    have hrow : InSpan (R.set (r / 65536).log2 r) r := by
      have h1 : (R.set (r / 65536).log2 r).getD (r / 65536).log2 0 = r := by rw [hG, if_pos rfl]
      have h2 := InSpan.row (R := R.set (r / 65536).log2 r) (g := (r / 65536).log2) (by rw [h1]; exact hr0)
      rwa [h1] at h2
    refine ⟨⟨by rw [List.length_set]; exact h.tab.1, fun g hg => ?_⟩, fun g => ?_, fun g => ?_, fun g => ?_, ?_, fun g q hq => ?_, h.rises, h.only, ?_⟩
    · rw [hG] at hg ⊢
      split
      · rename_i e; rw [e]; exact ⟨log2_le h0, lt_log2 _⟩
      · rename_i e; rw [if_neg e] at hg; exact h.tab.2 g hg
    · rw [hG]; split
      · exact hbig
      · exact h.big g
    · rw [hG]; split
      · exact hcm
      · exact h.valid g
    · rw [hG]; split
      · exact hrlt
      · exact Nat.lt_trans (h.low g) hp1
    · intro q hq
      have := h.quiet q hq
      exact ⟨this.1, Nat.lt_trans this.2.1 hp1, this.2.2⟩
    · rw [hG]; split
      · exact hrq q hq
      · exact h.apart g q hq
    · intro x hx
      cases hb : x.testBit k
      · obtain ⟨c, zx, c1, c2, c3, c4⟩ := h.all x (low_of hx hb)
        exact ⟨c, zx, c1, c2.set hT htl hr0, c3, c4⟩
      · obtain ⟨c, zx, c1, c2, c3, c4⟩ := h.all (x ^^^ 2 ^ k) (low_xor hx hb)
        have hx2 : x = (x ^^^ 2 ^ k) ^^^ 2 ^ k := (xor_cancel _ _).symm
        refine ⟨c, zx ^^^ (r ^^^ z), c1, (c2.set hT htl hr0).xor (hrow.xor (hzS.set hT htl hr0)), ?_, ?_⟩
        · have h5 : (r ^^^ z) / 65536 = sw.getD k 0 := by rw [hrz, xor_cancel, hd0]
          rw [show (zx ^^^ (r ^^^ z)) / 65536 = zx / 65536 ^^^ (r ^^^ z) / 65536 from xor_div _ _ 16, c3, h5, comb_xor, comb_pow sw k hk, xor_cancel]
        · have h5 : (r ^^^ z) % 65536 = 2 ^ k := by rw [hrz, xor_cancel, hm0]
          rw [show (zx ^^^ (r ^^^ z)) % 65536 = zx % 65536 ^^^ (r ^^^ z) % 65536 from xor_mod _ _ 16, c4, h5]
          rw [Nat.xor_assoc, Nat.xor_assoc, Nat.xor_comm (2 ^ k), Nat.xor_assoc, Nat.xor_self, Nat.xor_zero]

theorem Inv.all_ (sw : List Nat) (hn : sw.length ≤ 16) (hs : ∀ x ∈ sw, x < 65536) (k : Nat) (hk : k ≤ sw.length) : Inv sw k (redAll sw k).1 (redAll sw k).2 := by
  induction k with
  | zero => exact Inv.zero sw
  | succ k ih => exact (ih (by omega)).step hn hs (by omega)
end Go.Proofs.Ythbhengcinkepaa.Lamp
