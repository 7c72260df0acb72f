/- The quiet sets of a grid as plain mathematics: what the row after the last one asks, as polynomials modulo the one of a path; how many such rows there are. No program is spoken of. -/
import Derived.Test.YtpdgjjpfahobaaaGcdP
import Derived.Test.YtpdgjjpfahobaaaReachL
namespace Go.Proofs.Ytpdgjjpfahobaaa
open Go.RowKit Lamp

/-- What the places of a row of c lamps switch among their neighbours. -/
def nbr (c w : Nat) : Nat := (w * 2 ^^^ w / 2) % 2 ^ c
theorem nbr_bit (c w i : Nat) : (nbr c w).testBit i = (decide (i < c) && ((decide (1 ≤ i) && w.testBit (i - 1)) ^^ w.testBit (i + 1))) := by
  unfold nbr
  have h2 := mul_bit w 1 i
  have h3 := Nat.testBit_div_two_pow (x := w) (n := 1) i
  rw [Nat.pow_one] at h2 h3
  rw [Nat.testBit_mod_two_pow, Nat.testBit_xor, h2, h3]
theorem nbr_xor (c a b : Nat) : nbr c (a ^^^ b) = nbr c a ^^^ nbr c b := by
  apply Nat.eq_of_testBit_eq
  intro i
  rw [Nat.testBit_xor, nbr_bit, nbr_bit, nbr_bit, Nat.testBit_xor, Nat.testBit_xor]
  cases decide (i < c) <;> cases decide (1 ≤ i) <;> cases a.testBit (i - 1) <;> cases b.testBit (i - 1) <;> cases a.testBit (i + 1) <;> cases b.testBit (i + 1) <;> rfl
theorem nbr_zero (c : Nat) : nbr c 0 = 0 := by simp [nbr]
theorem nbr_lt (c w : Nat) : nbr c w < 2 ^ c := Nat.mod_lt _ (Nat.two_pow_pos c)
/-- With own, the place itself, too. -/
def nbrO (c : Nat) (own : Bool) (w : Nat) : Nat := if own then nbr c w ^^^ w else nbr c w
theorem nbrO_xor (c : Nat) (own : Bool) (a b : Nat) : nbrO c own (a ^^^ b) = nbrO c own a ^^^ nbrO c own b := by
  unfold nbrO
  cases own
  · exact nbr_xor c a b
  · simp only [if_true]
    rw [nbr_xor]
    rw [Nat.xor_assoc, Nat.xor_assoc, ← Nat.xor_assoc (nbr c b), Nat.xor_comm (nbr c b) a, Nat.xor_assoc]
theorem nbrO_lt {c : Nat} (own : Bool) {w : Nat} (h : w < 2 ^ c) : nbrO c own w < 2 ^ c := by
  unfold nbrO
  split
  · exact Nat.xor_lt_two_pow (nbr_lt c w) h
  · exact nbr_lt c w
theorem nbrO_zero (c : Nat) (own : Bool) : nbrO c own 0 = 0 := by
  unfold nbrO; split <;> simp [nbr_zero]

/-- The rows one after the other: the pair of the one before and the one now. -/
def rowsN (t : Nat → Nat) (w : Nat) : Nat → Nat × Nat
  | 0 => (0, w)
  | i + 1 => ((rowsN t w i).2, (rowsN t w i).1 ^^^ t (rowsN t w i).2)
def rowN (t : Nat → Nat) (w i : Nat) : Nat := (rowsN t w i).2
theorem rowsN_xor {t : Nat → Nat} (ht : ∀ a b, t (a ^^^ b) = t a ^^^ t b) (a b i : Nat) : rowsN t (a ^^^ b) i = ((rowsN t a i).1 ^^^ (rowsN t b i).1, (rowsN t a i).2 ^^^ (rowsN t b i).2) := by
  induction i with
  | zero => simp [rowsN]
  | succ i ih =>
    simp only [rowsN, ih, ht]
    congr 1
    generalize (rowsN t a i).1 = p
    generalize (rowsN t b i).1 = q
    generalize t (rowsN t a i).2 = x
    generalize t (rowsN t b i).2 = y
    rw [Nat.xor_assoc, Nat.xor_assoc, ← Nat.xor_assoc q, Nat.xor_comm q x, Nat.xor_assoc]
theorem rowN_xor {t : Nat → Nat} (ht : ∀ a b, t (a ^^^ b) = t a ^^^ t b) (a b i : Nat) : rowN t (a ^^^ b) i = rowN t a i ^^^ rowN t b i := by
  unfold rowN; rw [rowsN_xor ht]
/-- What passes through both kinds of steps passes through the rows. -/
theorem rowsN_map {t u f : Nat → Nat} (hf : ∀ a b, f (a ^^^ b) = f a ^^^ f b) (h0 : f 0 = 0) (h : ∀ a, f (t a) = u (f a)) (w i : Nat) : (f (rowsN t w i).1, f (rowsN t w i).2) = rowsN u (f w) i := by
  induction i with
  | zero => simp [rowsN, h0]
  | succ i ih =>
    simp only [rowsN]
    rw [← ih]
    simp only [hf, h]
theorem rowN_map {t u f : Nat → Nat} (hf : ∀ a b, f (a ^^^ b) = f a ^^^ f b) (h0 : f 0 = 0) (h : ∀ a, f (t a) = u (f a)) (w i : Nat) : f (rowN t w i) = rowN u (f w) i := by
  unfold rowN; rw [← rowsN_map hf h0 h]
theorem rowN_zero {t : Nat → Nat} (ht : t 0 = 0) (i : Nat) : rowsN t 0 i = (0, 0) := by
  induction i with
  | zero => rfl
  | succ i ih => simp only [rowsN, ih, ht]; rfl

/-- Times x, or times x + 1. -/
def tx (own : Bool) (a : Nat) : Nat := if own then a * 2 ^^^ a else a * 2
theorem tx_xor (own : Bool) (a b : Nat) : tx own (a ^^^ b) = tx own a ^^^ tx own b := by
  unfold tx
  cases own
  · exact xor_two a b
  · simp only [if_true]
    rw [xor_two, Nat.xor_assoc, Nat.xor_assoc, ← Nat.xor_assoc (b * 2), Nat.xor_comm (b * 2) a, Nat.xor_assoc]
theorem tx_two (own : Bool) (a : Nat) : tx own (a * 2) = tx own a * 2 := by
  unfold tx
  cases own
  · rfl
  · simp only [if_true]; rw [xor_two]
/-- The polynomial of the rows. -/
def polyG (r : Nat) (own : Bool) : Nat := rowN (tx own) 1 r
theorem polyG_is (r : Nat) (own : Bool) : polyG r own = if own then sig (polyV (r + 1)) else polyV (r + 1) := by
  have hV : ∀ i, rowsN (tx false) 1 i = (polyV i, polyV (i + 1)) := fun i => by
    induction i with
    | zero => exact Prod.ext (by decide) (by decide)
    | succ i ih =>
      simp only [rowsN, ih]
      rw [polyV_next]
      rfl
  cases own
  · unfold polyG rowN; rw [hV]; rfl
  · have h := rowN_map (t := tx false) (u := tx true) (f := sig) sig_xor rfl (fun a => by
      show sig (a * 2) = sig a * 2 ^^^ sig a
      exact sig_two a) 1 r
    have h1 : sig 1 = 1 := cA_pow pw 0
    rw [h1] at h
    unfold polyG
    rw [← h]
    unfold rowN
    rw [hV]
    rfl

/-- A polynomial, the neighbours in the place of x, of the first place. -/
def pwN (c : Nat) : Nat → Nat
  | 0 => 1 % 2 ^ c
  | i + 1 => nbr c (pwN c i)
def phi (c p : Nat) : Nat := cA (pwN c) p
theorem phi_xor (c a b : Nat) : phi c (a ^^^ b) = phi c a ^^^ phi c b := cA_xor _ _ _
theorem nbr_cF (c : Nat) (S : Nat → Nat) (p k : Nat) : nbr c (cF S p k) = cF (fun i => nbr c (S i)) p k := by
  induction k with
  | zero => exact nbr_zero c
  | succ k ih =>
    rw [cF, cF]
    split
    · rw [nbr_xor, ih]
    · exact ih
theorem phi_two (c a : Nat) : phi c (a * 2) = nbr c (phi c a) := by
  have ha : a < 2 ^ a := Nat.lt_two_pow_self
  unfold phi
  rw [cA_at _ (c := a * 2) (k := a + 1) (by rw [Nat.pow_succ]; omega), cF_two, cA_at _ ha, nbr_cF]
  rfl
theorem phi_tx (c : Nat) (own : Bool) (a : Nat) : phi c (tx own a) = nbrO c own (phi c a) := by
  unfold tx nbrO
  cases own
  · exact phi_two c a
  · simp only [if_true]; rw [phi_xor, phi_two]
theorem nbr_pow {c i : Nat} (hi : 1 ≤ i) : nbr c (2 ^ i) = 2 ^ (i - 1) % 2 ^ c ^^^ 2 ^ (i + 1) % 2 ^ c := by
  apply Nat.eq_of_testBit_eq
  intro j
  rw [nbr_bit, Nat.testBit_xor, Nat.testBit_mod_two_pow, Nat.testBit_mod_two_pow]
  simp only [Nat.testBit_two_pow]
  by_cases h : j < c
  · have h1 : (decide (1 ≤ j) && decide (i = j - 1)) = decide (i + 1 = j) := by
      rw [Bool.eq_iff_iff]; simp; omega
    have h2 : decide (i = j + 1) = decide (i - 1 = j) := decide_eq_decide.2 (by omega)
    rw [h1, h2]
    simp [h, Bool.xor_comm]
  · simp [h]
theorem phi_poly {c : Nat} (hc : 1 ≤ c) : ∀ k, k ≤ c → phi c (polyV k) = (if k = 0 then 0 else 2 ^ (k - 1)) ∧ phi c (polyV (k + 1)) = 2 ^ k % 2 ^ c
  | 0, _ => by
    refine ⟨rfl, ?_⟩
    show phi c (2 ^ 0) = 2 ^ 0 % 2 ^ c
    exact cA_pow (pwN c) 0
  | k + 1, hk => by
    obtain ⟨h1, h2⟩ := phi_poly hc k (by omega)
    have hlt : (2:Nat) ^ k < 2 ^ c := Nat.pow_lt_pow_right (by decide) (by omega)
    rw [Nat.mod_eq_of_lt hlt] at h2
    refine ⟨by rw [h2]; simp, ?_⟩
    rw [polyV_next, phi_xor, phi_two, h1, h2]
    by_cases h0 : k = 0
    · subst h0
      rw [if_pos rfl, Nat.zero_xor]
      show (1 * 2 ^^^ 1 / 2) % 2 ^ c = 2 ^ 1 % 2 ^ c
      rfl
    · rw [if_neg h0, nbr_pow (by omega), Nat.mod_eq_of_lt (Nat.pow_lt_pow_right (by decide) (by omega) : (2:Nat) ^ (k - 1) < 2 ^ c), ← Nat.xor_assoc, Nat.xor_self, Nat.zero_xor]
theorem phi_F {c : Nat} (hc : 1 ≤ c) : phi c (polyV (c + 1)) = 0 := by
  rw [(phi_poly hc c (Nat.le_refl _)).2]; simp
theorem pwN_top {c : Nat} : ∀ i, i < c → 2 ^ i ≤ pwN c i ∧ pwN c i < 2 ^ (i + 1)
  | 0, h => by
    have : (1 : Nat) % 2 ^ c = 1 := Nat.mod_eq_of_lt (Nat.one_lt_two_pow (by omega))
    show 2 ^ 0 ≤ 1 % 2 ^ c ∧ 1 % 2 ^ c < 2 ^ (0 + 1)
    rw [this]; decide
  | i + 1, h => by
    obtain ⟨h1, h2⟩ := pwN_top (c := c) i (by omega)
    show 2 ^ (i + 1) ≤ nbr c (pwN c i) ∧ nbr c (pwN c i) < 2 ^ (i + 1 + 1)
    have hp : (2:Nat) ^ (i + 1 + 1) ≤ 2 ^ c := Nat.pow_le_pow_right (by decide) (by omega)
    have e : (2:Nat) ^ (i + 1) = 2 ^ i * 2 := Nat.pow_succ ..
    have e2 : (2:Nat) ^ (i + 1 + 1) = 2 ^ (i + 1) * 2 := Nat.pow_succ ..
    have h3 := xor_top (t := i + 1) (a := pwN c i / 2) (b := pwN c i * 2) (by omega) (by omega) (by omega)
    unfold nbr
    rw [Nat.xor_comm, Nat.mod_eq_of_lt (by omega)]
    exact h3
/-- Below degree c it tells all polynomials apart. -/
theorem phi_top {c p : Nat} (hp : p ≠ 0) (h : p < 2 ^ c) : phi c p ≠ 0 := by
  have hl := log2_lt' hp h
  unfold phi
  rw [cA_at _ (k := p.log2 + 1) (lt_log2 p), cF, testBit_log2 hp, if_pos rfl]
  have h1 := xor_top (cF_lt (pwN c) p 0 p.log2 fun i hi => by rw [Nat.zero_add]; exact (pwN_top i (by omega)).2) (by rw [Nat.zero_add]; exact (pwN_top p.log2 hl).1) (by rw [Nat.zero_add]; exact (pwN_top p.log2 hl).2)
  have := Nat.two_pow_pos (0 + p.log2)
  omega
theorem phi_inj {c a b : Nat} (ha : a < 2 ^ c) (hb : b < 2 ^ c) (h : phi c a = phi c b) : a = b := by
  apply Decidable.byContradiction
  intro hne
  have h1 : phi c (a ^^^ b) = 0 := by rw [phi_xor, h, Nat.xor_self]
  refine phi_top (p := a ^^^ b) (fun e => hne ?_) (Nat.xor_lt_two_pow ha hb) h1
  have := xor_cancel a b
  rw [e, Nat.zero_xor] at this
  exact this.symm
theorem phi_lt (c p : Nat) (_hc : 1 ≤ c) : phi c p < 2 ^ c := by
  unfold phi cA
  generalize p = k at *
  suffices h : ∀ p k, cF (pwN c) p k < 2 ^ c from h _ _
  intro p k
  induction k with
  | zero => exact Nat.two_pow_pos c
  | succ k ih =>
    rw [cF]
    split
    · refine Nat.xor_lt_two_pow ih ?_
      cases k with
      | zero => exact Nat.mod_lt _ (Nat.two_pow_pos c)
      | succ k => exact nbr_lt c _
    · exact ih

/-- Multiplying by the polynomial of the rows stays among what it makes. -/
theorem rowN_two (own : Bool) (a r : Nat) : rowN (tx own) (a * 2) r = rowN (tx own) a r * 2 :=
  (rowN_map (t := tx own) (u := tx own) (f := fun a => a * 2) xor_two rfl (fun a => (tx_two own a).symm) a r).symm
theorem rowN_ideal (F r : Nat) (own : Bool) (p : Nat) : Idl F (polyG r own) (rowN (tx own) p r) := by
  have h1 : ∀ i, Idl F (polyG r own) (rowN (tx own) (2 ^ i) r) := fun i => by
    induction i with
    | zero => exact .snd
    | succ i ih => rw [Nat.pow_succ, rowN_two]; exact ih.mulx
  have h0 : rowN (tx own) 0 r = 0 := by
    unfold rowN
    rw [rowN_zero (by unfold tx; split <;> rfl)]
  have h2 : ∀ p k, Idl F (polyG r own) (rowN (tx own) (cF (fun i => 2 ^ i) p k) r) := fun p k => by
    induction k with
    | zero => rw [cF, h0]; exact .zero
    | succ k ih =>
      rw [cF]
      split
      · rw [rowN_xor (tx_xor own)]; exact ih.add (h1 k)
      · exact ih
  have h3 : ∀ p, cA (fun i => 2 ^ i) p = p := fun p => by
    have h4 : ∀ k i, (cF (fun i => 2 ^ i) p k).testBit i = (decide (i < k) && p.testBit i) := fun k => by
      induction k with
      | zero => intro i; simp [cF]
      | succ k ih =>
        intro i
        rw [cF]
        by_cases e : k = i
        · subst e
          cases hb : p.testBit k
          · simp [ih]
          · simp [ih, Nat.testBit_xor]
        · have hd : decide (i < k + 1) = decide (i < k) := decide_eq_decide.2 (by omega)
          split
          · rw [Nat.testBit_xor, ih, Nat.testBit_two_pow, hd]; simp [e]
          · rw [ih, hd]
    apply Nat.eq_of_testBit_eq
    intro i
    unfold cA
    rw [h4]
    by_cases hi : i < p
    · simp [hi]
    · rw [Nat.testBit_lt_two_pow (Nat.lt_of_lt_of_le (Nat.lt_two_pow_self (n := p)) (Nat.pow_le_pow_right (by decide) (by omega)))]; simp
  have := h2 p p
  rw [show cF (fun i => 2 ^ i) p p = p from h3 p] at this
  exact this
/-- What the rows lead to is what the two polynomials make. -/
theorem rows_image {c : Nat} (hc : 1 ≤ c) (r : Nat) (own : Bool) {z : Nat} (h : Idl (polyV (c + 1)) (polyG r own) z) : ∃ w, w < 2 ^ c ∧ rowN (nbrO c own) w r = phi c z := by
  have hmap := fun p => rowN_map (t := tx own) (u := nbrO c own) (f := phi c) (phi_xor c) rfl (phi_tx c own) p r
  have hz : rowN (nbrO c own) 0 r = 0 := by
    unfold rowN; rw [rowN_zero (nbrO_zero c own)]
  induction h with
  | zero => exact ⟨0, Nat.two_pow_pos c, hz⟩
  | fst => exact ⟨0, Nat.two_pow_pos c, by rw [phi_F hc]; exact hz⟩
  | snd => exact ⟨phi c 1, phi_lt c 1 hc, (hmap 1).symm⟩
  | add _ _ h1 h2 =>
    obtain ⟨a, ha, ea⟩ := h1
    obtain ⟨b, hb, eb⟩ := h2
    exact ⟨a ^^^ b, Nat.xor_lt_two_pow ha hb, by rw [rowN_xor (nbrO_xor c own), ea, eb, phi_xor]⟩
  | mulx _ h1 =>
    obtain ⟨a, ha, ea⟩ := h1
    refine ⟨nbr c a, nbr_lt c a, ?_⟩
    rw [phi_two, ← ea]
    refine (rowN_map (t := nbrO c own) (u := nbrO c own) (f := nbr c) (nbr_xor c) (nbr_zero c) (fun b => ?_) a r).symm
    unfold nbrO
    split
    · rw [nbr_xor]
    · rfl
end Go.Proofs.Ytpdgjjpfahobaaa
