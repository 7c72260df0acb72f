/- The quiet basis as the reference finds it: it goes through all sets, from the least one on, and takes the quiet ones without the greatest lamps of those before. No program is spoken of. -/
import Derived.Test.YtpdgjjpfahobaaaSolveL
namespace Go.Proofs.Ytpdgjjpfahobaaa
open Go.RowKit Lamp

/-- What the reference has found among the sets from 1 to k, and the greatest lamps of these. -/
def rqK (s : List Nat) : Nat → List Nat × Nat
  | 0 => ([], 0)
  | k + 1 => if (k + 1) &&& (rqK s k).2 = 0 ∧ comb (k + 1) s = 0 then ((rqK s k).1 ++ [k + 1], (rqK s k).2 ||| 2 ^ (k + 1).log2) else rqK s k

theorem lt_of_log2 {a b : Nat} (h : a.log2 < b.log2) : a < b := by
  have hb : b ≠ 0 := by rintro rfl; simp at h
  have h1 := lt_log2 a
  have h2 := log2_le hb
  have h3 : (2:Nat) ^ (a.log2 + 1) ≤ 2 ^ b.log2 := Nat.pow_le_pow_right (by decide) h
  omega
theorem filter_next {Q : List Nat} (h : Q.Pairwise (· < ·)) (k : Nat) : Q.filter (fun q => decide (q ≤ k + 1)) = Q.filter (fun q => decide (q ≤ k)) ++ if k + 1 ∈ Q then [k + 1] else [] := by
  induction Q with
  | nil => simp
  | cons a Q ih =>
    rw [List.pairwise_cons] at h
    have ih := ih h.2
    rcases Nat.lt_trichotomy a (k + 1) with h1 | h1 | h1
    · have : (k + 1 ∈ a :: Q) = (k + 1 ∈ Q) := by
        rw [List.mem_cons]; simp; omega
      have e1 : decide (a ≤ k + 1) = true := decide_eq_true (by omega)
      have e2 : decide (a ≤ k) = true := decide_eq_true (by omega)
      simp only [this, List.filter_cons, ih, e1, e2, if_true, List.cons_append]
    · subst h1
      have h3 : Q.filter (fun q => decide (q ≤ k + 1)) = [] := by
        rw [List.filter_eq_nil_iff]; intro x hx; have := h.1 x hx; simp; omega
      have h4 : Q.filter (fun q => decide (q ≤ k)) = [] := by
        rw [List.filter_eq_nil_iff]; intro x hx; have := h.1 x hx; simp; omega
      have e1 : decide (k + 1 ≤ k + 1) = true := decide_eq_true (by omega)
      have e2 : decide (k + 1 ≤ k) = false := decide_eq_false (by omega)
      simp only [List.filter_cons, h3, h4, e1, e2, if_true, Bool.false_eq_true, if_false, List.mem_cons, true_or, List.nil_append]
    · have : (k + 1 ∈ a :: Q) = (k + 1 ∈ Q) := by
        rw [List.mem_cons]; simp; omega
      have e1 : decide (a ≤ k + 1) = false := decide_eq_false (by omega)
      have e2 : decide (a ≤ k) = false := decide_eq_false (by omega)
      simp only [this, List.filter_cons, ih, e1, e2, Bool.false_eq_true, if_false]

/-- In a reduced list the greatest lamp of each set tells whether it is among those joined. -/
theorem combK_tell {Q : List Nat} (h0 : ∀ q ∈ Q, q ≠ 0) (ho : ∀ a ∈ Q, ∀ b ∈ Q, a ≠ b → a.testBit b.log2 = false) (hr : Q.Pairwise fun a b => a.log2 < b.log2) (c i : Nat) (hi : i < Q.length) :
    ∀ k, k ≤ Q.length → (combK c Q k).testBit Q[i].log2 = (decide (i < k) && c.testBit i)
  | 0, _ => by simp [combK]
  | k + 1, hk => by
    have ih := combK_tell h0 ho hr c i hi k (by omega)
    have hg : Q.getD k 0 = Q[k] := by simp [List.getD_eq_getElem?_getD, show k < Q.length by omega]
    have hb : (Q[k]).testBit Q[i].log2 = decide (i = k) := by
      by_cases e : i = k
      · subst e; simp [testBit_log2 (h0 _ (List.getElem_mem hi))]
      · rw [ho _ (List.getElem_mem _) _ (List.getElem_mem _)]
        · simp [e]
        · intro e2
          rcases Nat.lt_or_gt_of_ne e with h1 | h1
          · have := List.pairwise_iff_getElem.1 hr i k hi (by omega) h1; rw [e2] at this; omega
          · have := List.pairwise_iff_getElem.1 hr k i (by omega) hi h1; rw [e2] at this; omega
    unfold combK
    split
    · rename_i hc
      rw [hg, Nat.testBit_xor, ih, hb]
      by_cases e : i = k
      · subst e; simp [hc]
      · have : decide (i < k + 1) = decide (i < k) := decide_eq_decide.2 (by omega)
        simp [e, this]
    · rename_i hc
      rw [ih]
      by_cases e : i = k
      · subst e; simp [hc]
      · have : decide (i < k + 1) = decide (i < k) := decide_eq_decide.2 (by omega)
        rw [this]

section
variable {n : Nat} {s : List Nat} (hl : s.length = n) (hn : n ≤ 16) (hs : ∀ x ∈ s, x < 2 ^ n)
include hl hn hs

/-- Each quiet set is made of the basis. -/
theorem quiet_made {x : Nat} (hx : x < 2 ^ n) (h : comb x s = 0) : ∃ c, c < 2 ^ (redAll s n).2.length ∧ x = comb c (redAll s n).2 := by
  have hI := inv_all hl hn hs
  obtain ⟨c, z, hc, hz, e1, e2⟩ := hI.all x hx
  rw [h] at e1
  have hz0 := hz.small hI.tab e1
  rw [hz0, Nat.zero_mod] at e2
  refine ⟨c, hc, ?_⟩
  have e3 : x = (x ^^^ comb c (redAll s n).2) ^^^ comb c (redAll s n).2 := (xor_cancel _ _).symm
  rw [← e2, Nat.zero_xor] at e3
  exact e3
theorem quiet_rise : (redAll s n).2.Pairwise (· < ·) := (inv_all hl hn hs).rises.imp lt_of_log2

theorem rqK_is (k : Nat) (hk : k < 2 ^ n) : (rqK s k).1 = (redAll s n).2.filter (fun q => decide (q ≤ k)) ∧ ∀ i, (rqK s k).2.testBit i = true ↔ ∃ q ∈ (redAll s n).2, q ≤ k ∧ q.log2 = i := by
  have hI := inv_all hl hn hs
  have hrise := quiet_rise hl hn hs
  induction k with
  | zero =>
    refine ⟨?_, fun i => ?_⟩
    · symm
      rw [rqK, List.filter_eq_nil_iff]
      intro q hq; have := (hI.quiet q hq).1; simp; omega
    · rw [rqK]
      simp only [Nat.zero_testBit, Bool.false_eq_true, false_iff]
      rintro ⟨q, hq, h, _⟩
      exact (hI.quiet q hq).1 (by omega)
  | succ k ih =>
    obtain ⟨i1, i2⟩ := ih (by omega)
    have hfn := filter_next hrise k
    by_cases hm : k + 1 ∈ (redAll s n).2
    · have ht : (k + 1) &&& (rqK s k).2 = 0 := by
        apply Nat.eq_of_testBit_eq
        intro i
        rw [Nat.testBit_and, Nat.zero_testBit]
        cases e : (rqK s k).2.testBit i with
        | false => simp
        | true =>
          obtain ⟨q, hq, h1, h2⟩ := (i2 i).1 e
          subst h2
          rw [hI.only _ hm _ hq (by omega)]; rfl
      have e : rqK s (k + 1) = ((rqK s k).1 ++ [k + 1], (rqK s k).2 ||| 2 ^ (k + 1).log2) := by
        rw [rqK, if_pos ⟨ht, (hI.quiet _ hm).2.2⟩]
      rw [e, hfn, if_pos hm, i1]
      refine ⟨rfl, fun i => ?_⟩
      rw [Nat.testBit_or, Nat.testBit_two_pow, Bool.or_eq_true, i2, decide_eq_true_eq]
      constructor
      · rintro (⟨q, hq, h1, h2⟩ | h)
        · exact ⟨q, hq, by omega, h2⟩
        · exact ⟨k + 1, hm, Nat.le_refl _, h⟩
      · rintro ⟨q, hq, h1, h2⟩
        by_cases e3 : q = k + 1
        · subst e3; exact .inr h2
        · exact .inl ⟨q, hq, by omega, h2⟩
    · have hno : ¬ ((k + 1) &&& (rqK s k).2 = 0 ∧ comb (k + 1) s = 0) := by
        rintro ⟨h1, h2⟩
        obtain ⟨c, hc, hx⟩ := quiet_made hl hn hs hk h2
        obtain ⟨Q, hQ⟩ : ∃ Q, (redAll s n).2 = Q := ⟨_, rfl⟩
        rw [hQ] at hc hx hm i2 hI
        have h0 : ∀ q ∈ Q, q ≠ 0 := fun q hq => (hI.quiet q hq).1
        have hc0 : c ≠ 0 := by rintro rfl; rw [comb_zero] at hx; omega
        have hj := log2_lt' hc0 hc
        have htell : ∀ i (hi : i < Q.length), (k + 1).testBit (Q[i]'hi).log2 = c.testBit i := fun i hi => by
          have := combK_tell h0 hI.only hI.rises c i hi Q.length (Nat.le_refl _)
          rw [hx]
          unfold comb
          rw [this]; simp [hi]
        by_cases hp : c ^^^ 2 ^ c.log2 = 0
        · have hcp : c = 2 ^ c.log2 := by
            have := xor_cancel c (2 ^ c.log2)
            rw [hp, Nat.zero_xor] at this
            exact this.symm
          rw [hcp, comb_pow _ _ hj] at hx
          apply hm
          rw [hx]
          simp [List.getD_eq_getElem?_getD, hj]
        · obtain ⟨i, hi⟩ : ∃ i, (c ^^^ 2 ^ c.log2).log2 = i := ⟨_, rfl⟩
          have hb := testBit_log2 hp
          rw [hi, Nat.testBit_xor, Nat.testBit_two_pow] at hb
          have hne : ¬ c.log2 = i := by
            intro e
            rw [← e, testBit_log2 hc0] at hb
            simp at hb
          have hbi : c.testBit i = true := by simpa [hne] using hb
          have hlt : i < c.log2 := by have := le_of_testBit hbi; omega
          have hiq : i < Q.length := by omega
          have e1 := htell i hiq
          have e2 := htell c.log2 hj
          rw [hbi] at e1
          rw [testBit_log2 hc0] at e2
          have e3 := le_of_testBit e2
          have e4 := List.pairwise_iff_getElem.1 hI.rises i c.log2 hiq hj hlt
          have e5 := lt_of_log2 (Nat.lt_of_lt_of_le e4 e3)
          have e6 := (i2 Q[i].log2).2 ⟨Q[i], List.getElem_mem hiq, by omega, rfl⟩
          have e7 : ((k + 1) &&& (rqK s k).2).testBit Q[i].log2 = true := by rw [Nat.testBit_and, e1, e6]; rfl
          rw [h1, Nat.zero_testBit] at e7
          cases e7
      have e : rqK s (k + 1) = rqK s k := by rw [rqK, if_neg hno]
      rw [e, hfn, if_neg hm, List.append_nil]
      refine ⟨i1, fun i => ?_⟩
      rw [i2]
      constructor
      · rintro ⟨q, hq, h1, h2⟩; exact ⟨q, hq, by omega, h2⟩
      · rintro ⟨q, hq, h1, h2⟩
        refine ⟨q, hq, ?_, h2⟩
        have : q ≠ k + 1 := fun e => hm (e ▸ hq)
        omega
/-- The reference's quiet basis is the program's. -/
theorem rq_all : (rqK s (2 ^ n - 1)).1 = quietL s := by
  have hp := Nat.two_pow_pos n
  rw [(rqK_is hl hn hs (2 ^ n - 1) (by omega)).1]
  unfold quietL
  rw [hl, List.filter_eq_self]
  intro q hq
  have := ((inv_all hl hn hs).quiet q hq).2.1
  simp; omega
end
end Go.Proofs.Ytpdgjjpfahobaaa
