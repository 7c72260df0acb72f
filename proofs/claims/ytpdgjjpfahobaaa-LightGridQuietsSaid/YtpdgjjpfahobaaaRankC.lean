/- The rank of what the rows of a grid lead to: c less the degree of the common divisor. No program is spoken of. -/
import Derived.Test.YtpdgjjpfahobaaaRankE
namespace Go.Proofs.Ytpdgjjpfahobaaa
open Go.RowKit Lamp

/-- What a press at each place of the first row asks of the row after the last one. -/
def waysL (r c : Nat) (own : Bool) : List Nat := (List.range c).map fun k => rowN (nbrO c own) (2 ^ k) r
theorem waysL_len (r c : Nat) (own : Bool) : (waysL r c own).length = c := by simp [waysL]
theorem rowsN_lt {c : Nat} {own : Bool} {w : Nat} (hw : w < 2 ^ c) (i : Nat) : (rowsN (nbrO c own) w i).1 < 2 ^ c ∧ (rowsN (nbrO c own) w i).2 < 2 ^ c := by
  induction i with
  | zero => exact ⟨Nat.two_pow_pos c, hw⟩
  | succ i ih => exact ⟨ih.2, Nat.xor_lt_two_pow ih.1 (nbrO_lt own ih.2)⟩
theorem waysL_lt (r c : Nat) (own : Bool) : ∀ x ∈ waysL r c own, x < 2 ^ c := by
  intro x hx
  obtain ⟨k, hk, rfl⟩ := List.mem_map.1 hx
  exact (rowsN_lt (Nat.pow_lt_pow_right (by decide) (List.mem_range.1 hk)) r).2

theorem cF_span {L : List Nat} {S : Nat → Nat} (p : Nat) : ∀ k, (∀ i, i < k → p.testBit i = true → Span L (S i)) → Span L (cF S p k)
  | 0, _ => .zero
  | k + 1, h => by
    rw [cF]
    split
    · rename_i hb
      exact (cF_span p k fun i hi => h i (by omega)).add (h k (by omega) hb)
    · exact cF_span p k fun i hi => h i (by omega)
theorem rowN_cF {t : Nat → Nat} (ht : ∀ a b, t (a ^^^ b) = t a ^^^ t b) (h0 : t 0 = 0) (p r : Nat) : ∀ k, rowN t (cF (fun i => 2 ^ i) p k) r = cF (fun i => rowN t (2 ^ i) r) p k
  | 0 => by show rowN t 0 r = 0; unfold rowN; rw [rowN_zero h0]
  | k + 1 => by
    rw [cF, cF]
    split
    · rw [rowN_xor ht, rowN_cF ht h0 p r k]
    · exact rowN_cF ht h0 p r k
theorem cF_id {w c : Nat} (h : w < 2 ^ c) : cF (fun i => 2 ^ i) w c = w := by
  have h4 : ∀ k i, (cF (fun i => 2 ^ i) w k).testBit i = (decide (i < k) && w.testBit i) := fun k => by
    induction k with
    | zero => intro i; simp [cF]
    | succ k ih =>
      intro i
      rw [cF]
      by_cases e : k = i
      · subst e
        cases hb : w.testBit k
        · simp [ih]
        · simp [ih, Nat.testBit_xor]
      · have hd : decide (i < k + 1) = decide (i < k) := decide_eq_decide.2 (by omega)
        split
        · rw [Nat.testBit_xor, ih, Nat.testBit_two_pow, hd]; simp [e]
        · rw [ih, hd]
  apply Nat.eq_of_testBit_eq
  intro i
  rw [h4]
  by_cases hi : i < c
  · simp [hi]
  · rw [Nat.testBit_lt_two_pow (Nat.lt_of_lt_of_le h (Nat.pow_le_pow_right (by decide) (by omega)))]; simp
theorem ways_at {r c : Nat} {own : Bool} {k : Nat} (h : k < c) : (waysL r c own).getD k 0 = rowN (nbrO c own) (2 ^ k) r := by
  simp [waysL, List.getD_eq_getElem?_getD, h]
/-- What the ways make is what the two polynomials make. -/
theorem ways_span {r c : Nat} (hc : 1 ≤ c) (own : Bool) (z : Nat) : Span (waysL r c own) z ↔ ∃ p, Idl (polyV (c + 1)) (polyG r own) p ∧ phi c p = z := by
  constructor
  · intro h
    induction h with
    | zero => exact ⟨0, .zero, rfl⟩
    | mem hm =>
      obtain ⟨k, hk, rfl⟩ := mem_at hm
      rw [waysL_len] at hk
      rw [ways_at hk]
      have h1 := (phi_poly hc k (by omega)).2
      rw [Nat.mod_eq_of_lt (Nat.pow_lt_pow_right (by decide) hk)] at h1
      refine ⟨rowN (tx own) (polyV (k + 1)) r, rowN_ideal _ r own _, ?_⟩
      rw [rowN_map (t := tx own) (u := nbrO c own) (f := phi c) (phi_xor c) rfl (phi_tx c own), h1]
    | add _ _ h1 h2 =>
      obtain ⟨a, ha, rfl⟩ := h1
      obtain ⟨b, hb, rfl⟩ := h2
      exact ⟨a ^^^ b, ha.add hb, phi_xor c a b⟩
  · rintro ⟨p, hp, rfl⟩
    obtain ⟨w, hw, e⟩ := rows_image hc r own hp
    rw [← e]
    have h1 := rowN_cF (nbrO_xor c own) (nbrO_zero c own) w r c
    rw [cF_id hw] at h1
    rw [h1]
    refine cF_span w c fun i hi _ => ?_
    have := span_at (L := waysL r c own) (i := i) (by rw [waysL_len]; exact hi)
    rwa [ways_at hi] at this

/-- Below degree c, and the same modulo the path's polynomial. -/
theorem reduce_F {c G : Nat} (hc : 1 ≤ c) : ∀ m p, p < 2 ^ m → Idl (polyV (c + 1)) G p → ∃ q, q < 2 ^ c ∧ Idl (polyV (c + 1)) G q ∧ phi c q = phi c p
  | 0, p, hp, h => ⟨p, by have := Nat.two_pow_pos c; omega, h, rfl⟩
  | m + 1, p, hp, h => by
    by_cases hlt : p < 2 ^ m
    · exact reduce_F hc m p hlt h
    · by_cases hmc : m < c
      · exact ⟨p, Nat.lt_of_lt_of_le hp (Nat.pow_le_pow_right (by decide) (by omega)), h, rfl⟩
      · have hF := polyV_top c
        have hF2 := (polyV_top (c + 1)).1
        have e : 2 ^ m = 2 ^ c * 2 ^ (m - c) := by rw [← Nat.pow_add]; congr 1; omega
        have e2 : 2 ^ (m + 1) = 2 ^ (c + 1) * 2 ^ (m - c) := by rw [← Nat.pow_add]; congr 1; omega
        have hp2 := Nat.two_pow_pos (m - c)
        have hx := xor_tops (t := m) (a := p) (b := polyV (c + 1) * 2 ^ (m - c)) (by omega) hp (by rw [e]; exact Nat.mul_le_mul_right _ hF.2) (by rw [e2]; exact Nat.mul_lt_mul_of_pos_right hF2 hp2)
        obtain ⟨q, h1, h2, h3⟩ := reduce_F hc m _ hx (h.add (Idl.shift .fst (m - c)))
        refine ⟨q, h1, h2, ?_⟩
        have h4 : ∀ k, phi c (polyV (c + 1) * 2 ^ k) = 0 := fun k => by
          induction k with
          | zero => rw [Nat.pow_zero, Nat.mul_one]; exact phi_F hc
          | succ k ih => rw [Nat.pow_succ, ← Nat.mul_assoc, phi_two, ih, nbr_zero]
        rw [h3, phi_xor, h4, Nat.xor_zero]
/-- Each element is a multiple of the one of least degree. -/
theorem mult_D {f g D d : Nat} (hD : Idl f g D) (hD0 : D ≠ 0) (hDd : D.log2 = d) (hmin : ∀ z, Idl f g z → z ≠ 0 → d ≤ z.log2) : ∀ m p, p < 2 ^ m → Idl f g p → ∃ e, e < 2 ^ (m - d) ∧ p = cA (fun i => D * 2 ^ i) e
  | 0, p, hp, _ => ⟨0, Nat.two_pow_pos _, by
    obtain rfl : p = 0 := by simpa using hp
    rfl⟩
  | m + 1, p, hp, h => by
    by_cases hlt : p < 2 ^ m
    · obtain ⟨e, h1, h2⟩ := mult_D hD hD0 hDd hmin m p hlt h
      exact ⟨e, Nat.lt_of_lt_of_le h1 (Nat.pow_le_pow_right (by decide) (by omega)), h2⟩
    · have hp0 : p ≠ 0 := by have := Nat.two_pow_pos m; omega
      have hl : p.log2 = m := log2_eq (by omega) hp
      have hdm : d ≤ m := by have := hmin p h hp0; omega
      have h5 := log2_le hD0
      have h6 := lt_log2 D
      rw [hDd] at h5 h6
      have e : 2 ^ m = 2 ^ d * 2 ^ (m - d) := by rw [← Nat.pow_add]; congr 1; omega
      have e2 : 2 ^ (m + 1) = 2 ^ (d + 1) * 2 ^ (m - d) := by rw [← Nat.pow_add]; congr 1; omega
      have hp2 := Nat.two_pow_pos (m - d)
      have hx := xor_tops (t := m) (a := p) (b := D * 2 ^ (m - d)) (by omega) hp (by rw [e]; exact Nat.mul_le_mul_right _ h5) (by rw [e2]; exact Nat.mul_lt_mul_of_pos_right h6 hp2)
      obtain ⟨q, h1, h2⟩ := mult_D hD hD0 hDd hmin m _ hx (h.add (hD.shift (m - d)))
      have hpp : (2:Nat) ^ (m + 1 - d) = 2 ^ (m - d) + 2 ^ (m - d) := by rw [show m + 1 - d = m - d + 1 by omega, Nat.pow_succ]; omega
      refine ⟨q ^^^ 2 ^ (m - d), Nat.xor_lt_two_pow (by omega) (by omega), ?_⟩
      rw [cA_xor, ← h2, cA_pow, xor_cancel]
theorem cA_ideal {f g D : Nat} (hD : Idl f g D) (e : Nat) : Idl f g (cA (fun i => D * 2 ^ i) e) := by
  unfold cA
  generalize e = k at *
  suffices h : ∀ e k, Idl f g (cF (fun i => D * 2 ^ i) e k) from h _ _
  intro e k
  induction k with
  | zero => exact .zero
  | succ k ih =>
    rw [cF]
    split
    · exact ih.add (hD.shift k)
    · exact ih
/-- The rank. -/
theorem rank_is {r c ρ d : Nat} {own : Bool} {L : List Nat} (hc : 1 ≤ c) (h : Elim (waysL r c own) L c ρ c) (hd : IsDeg (polyV (c + 1)) (polyG r own) d) : d ≤ c ∧ ρ = c - d := by
  obtain ⟨⟨D, hD, hD0, hDd⟩, hmin⟩ := hd
  have hF := polyV_top c
  have hF2 := (polyV_top (c + 1)).1
  have hF0 : polyV (c + 1) ≠ 0 := by have := Nat.two_pow_pos c; omega
  have hdc : d ≤ c := by
    have := hmin _ .fst hF0
    rw [log2_eq hF.2 hF2] at this
    exact this
  have hDS : ∀ i, 2 ^ (d + i) ≤ D * 2 ^ i ∧ D * 2 ^ i < 2 ^ (d + i + 1) := fun i => by
    have h5 := log2_le hD0
    have h6 := lt_log2 D
    rw [hDd] at h5 h6
    have hp := Nat.two_pow_pos i
    exact ⟨by rw [Nat.pow_add]; exact Nat.mul_le_mul_right _ h5, by rw [show d + i + 1 = d + 1 + i by omega, Nat.pow_add]; exact Nat.mul_lt_mul_of_pos_right h6 hp⟩
  have hsm : ∀ e, e < 2 ^ (c - d) → cA (fun i => D * 2 ^ i) e < 2 ^ c := fun e he => by
    by_cases h0 : e = 0
    · subst h0; exact Nat.two_pow_pos c
    · have h1 := (cA_top (fun i => D * 2 ^ i) d e h0 hDS).2
      have h2 := log2_lt' h0 he
      exact Nat.lt_of_lt_of_le h1 (Nat.pow_le_pow_right (by decide) (by omega))
  obtain ⟨A, hA1, hA2, hA3⟩ := h.count
  obtain ⟨B, hB⟩ : ∃ B, B = (List.range (2 ^ (c - d))).map fun e => phi c (cA (fun i => D * 2 ^ i) e) := ⟨_, rfl⟩
  have hB1 : B.Nodup := by
    rw [hB]
    unfold List.Nodup
    rw [List.pairwise_map]
    refine (List.nodup_range (n := 2 ^ (c - d))).imp_of_mem fun {a b} ha hb hne e => hne ?_
    have ha := List.mem_range.1 ha
    have hb := List.mem_range.1 hb
    have h1 := phi_inj (hsm a ha) (hsm b hb) e
    apply Decidable.byContradiction
    intro hab
    have h2 : cA (fun i => D * 2 ^ i) (a ^^^ b) = 0 := by rw [cA_xor, h1, Nat.xor_self]
    have h3 : a ^^^ b ≠ 0 := fun e2 => hab (by
      have := xor_cancel a b
      rw [e2, Nat.zero_xor] at this
      exact this.symm)
    have h4 := (cA_top (fun i => D * 2 ^ i) d (a ^^^ b) h3 hDS).1
    rw [h2] at h4
    have := Nat.two_pow_pos (d + (a ^^^ b).log2)
    omega
  have hB3 : ∀ z, z ∈ B ↔ Span (waysL r c own) z := fun z => by
    rw [ways_span hc, hB, List.mem_map]
    constructor
    · rintro ⟨e, _, rfl⟩
      exact ⟨_, cA_ideal hD e, rfl⟩
    · rintro ⟨p, hp, rfl⟩
      obtain ⟨q, h1, h2, h3⟩ := reduce_F hc p p Nat.lt_two_pow_self hp
      obtain ⟨e, he, rfl⟩ := mult_D hD hD0 hDd hmin c q h1 h2
      exact ⟨e, List.mem_range.2 he, h3⟩
  have h1 := nodup_sub A B hA1 fun x hx => (hB3 x).2 ((hA3 x).1 hx)
  have h2 := nodup_sub B A hB1 fun x hx => (hA3 x).2 ((hB3 x).1 hx)
  have hB2 : B.length = 2 ^ (c - d) := by rw [hB]; simp
  rw [hA2, hB2] at h1 h2
  refine ⟨hdc, ?_⟩
  have h3 : ρ ≤ c - d := by
    apply Decidable.byContradiction
    intro hx
    have := Nat.pow_lt_pow_right (a := 2) (by decide) (show c - d < ρ by omega)
    omega
  have h4 : c - d ≤ ρ := by
    apply Decidable.byContradiction
    intro hx
    have := Nat.pow_lt_pow_right (a := 2) (by decide) (show ρ < c - d by omega)
    omega
  omega
/-- What GridQuiet answers is what the elimination leaves. -/
theorem gridQ_rank {r c ρ : Nat} {own : Bool} {L : List Nat} (hc : 1 ≤ c) (h : Elim (waysL r c own) L c ρ c) : gridQ r c own = (c : Int) - (ρ : Int) := by
  obtain ⟨n, h1, _, h3⟩ := gridQ_deg r c own
  rw [← polyG_is] at h3
  obtain ⟨h4, h5⟩ := rank_is hc h h3
  rw [h1]
  omega
end Go.Proofs.Ytpdgjjpfahobaaa
