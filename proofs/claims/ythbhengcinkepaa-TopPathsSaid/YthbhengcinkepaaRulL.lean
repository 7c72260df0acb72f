/- The rules' basis as the reference finds it: it goes through all sets, from the least one on, and takes those that are rules without the greatest holes of those before. No program is spoken of. -/
import Derived.Test.YthbhengcinkepaaElimL
namespace Go.Proofs.Ythbhengcinkepaa.Lamp

/-- What the reference has found among the sets from 1 to k, and the greatest elements of these. -/
def rqP (P : Nat → Bool) : Nat → List Nat × Nat
  | 0 => ([], 0)
  | k + 1 => if (k + 1) &&& (rqP P k).2 = 0 ∧ P (k + 1) = true then ((rqP P k).1 ++ [k + 1], (rqP P k).2 ||| 2 ^ (k + 1).log2) else rqP P k

theorem lt_of_logP {a b : Nat} (h : a.log2 < b.log2) : a < b := by
  have hb : b ≠ 0 := by rintro rfl; simp at h
  have h1 := lt_log2 a
  have h2 := log2_le hb
  have h3 : (2:Nat) ^ (a.log2 + 1) ≤ 2 ^ b.log2 := Nat.pow_le_pow_right (by decide) h
  omega
theorem filter_nextP {Q : List Nat} (h : Q.Pairwise (· < ·)) (k : Nat) : Q.filter (fun q => decide (q ≤ k + 1)) = Q.filter (fun q => decide (q ≤ k)) ++ if k + 1 ∈ Q then [k + 1] else [] := by
  induction Q with
  | nil => simp
  | cons a Q ih =>
    rw [List.pairwise_cons] at h
    have ih := ih h.2
    rcases Nat.lt_trichotomy a (k + 1) with h1 | h1 | h1
    · have : (k + 1 ∈ a :: Q) = (k + 1 ∈ Q) := by
        rw [List.mem_cons]; simp; omega
      have e1 : decide (a ≤ k + 1) = true := decide_eq_true (by omega)
      have e2 : decide (a ≤ k) = true := decide_eq_true (by omega)
      simp only [this, List.filter_cons, ih, e1, e2, if_true, List.cons_append]
    · subst h1
      have h3 : Q.filter (fun q => decide (q ≤ k + 1)) = [] := by
        rw [List.filter_eq_nil_iff]; intro x hx; have := h.1 x hx; simp; omega
      have h4 : Q.filter (fun q => decide (q ≤ k)) = [] := by
        rw [List.filter_eq_nil_iff]; intro x hx; have := h.1 x hx; simp; omega
      have e1 : decide (k + 1 ≤ k + 1) = true := decide_eq_true (by omega)
      have e2 : decide (k + 1 ≤ k) = false := decide_eq_false (by omega)
      simp only [List.filter_cons, h3, h4, e1, e2, if_true, Bool.false_eq_true, if_false, List.mem_cons, true_or, List.nil_append]
    · have : (k + 1 ∈ a :: Q) = (k + 1 ∈ Q) := by
        rw [List.mem_cons]; simp; omega
      have e1 : decide (a ≤ k + 1) = false := decide_eq_false (by omega)
      have e2 : decide (a ≤ k) = false := decide_eq_false (by omega)
      simp only [this, List.filter_cons, ih, e1, e2, Bool.false_eq_true, if_false]

/-- In a reduced list the greatest element of each set tells whether it is among those joined. -/
theorem comb_tellP {Q : List Nat} (h0 : ∀ q ∈ Q, q ≠ 0) (ho : ∀ a ∈ Q, ∀ b ∈ Q, a ≠ b → a.testBit b.log2 = false) (hr : Q.Pairwise fun a b => a.log2 < b.log2) (c i : Nat) (hi : i < Q.length) :
    ∀ k, k ≤ Q.length → (combK c Q k).testBit Q[i].log2 = (decide (i < k) && c.testBit i)
  | 0, _ => by simp [combK]
  | k + 1, hk => by
    have ih := comb_tellP h0 ho hr c i hi k (by omega)
    have hg : Q.getD k 0 = Q[k] := by simp [List.getD_eq_getElem?_getD, show k < Q.length by omega]
    have hb : (Q[k]).testBit Q[i].log2 = decide (i = k) := by
      by_cases e : i = k
      · subst e; simp [testBit_log2 (h0 _ (List.getElem_mem hi))]
      · rw [ho _ (List.getElem_mem _) _ (List.getElem_mem _)]
        · simp [e]
        · intro e2
          rcases Nat.lt_or_gt_of_ne e with h1 | h1
          · have := List.pairwise_iff_getElem.1 hr i k hi (by omega) h1; rw [e2] at this; omega
          · have := List.pairwise_iff_getElem.1 hr k i (by omega) hi h1; rw [e2] at this; omega
    unfold combK
    split
    · rename_i hc
      rw [hg, Nat.testBit_xor, ih, hb]
      by_cases e : i = k
      · subst e; simp [hc]
      · have : decide (i < k + 1) = decide (i < k) := decide_eq_decide.2 (by omega)
        simp [e, this]
    · rename_i hc
      rw [ih]
      by_cases e : i = k
      · subst e; simp [hc]
      · have : decide (i < k + 1) = decide (i < k) := decide_eq_decide.2 (by omega)
        rw [this]

theorem xor_backP (a b : Nat) : (a ^^^ b) ^^^ b = a := by rw [Nat.xor_assoc, Nat.xor_self, Nat.xor_zero]

section
variable {n : Nat} {Q : List Nat} {P : Nat → Bool} (h0 : ∀ q ∈ Q, q ≠ 0 ∧ q < 2 ^ n ∧ P q = true) (ho : ∀ a ∈ Q, ∀ b ∈ Q, a ≠ b → a.testBit b.log2 = false) (hr : Q.Pairwise fun a b => a.log2 < b.log2) (hm : ∀ x, x < 2 ^ n → P x = true → ∃ c, c < 2 ^ Q.length ∧ x = comb c Q)
include h0 ho hr hm

theorem rqP_is (k : Nat) (hk : k < 2 ^ n) : (rqP P k).1 = Q.filter (fun q => decide (q ≤ k)) ∧ ∀ i, (rqP P k).2.testBit i = true ↔ ∃ q ∈ Q, q ≤ k ∧ q.log2 = i := by
  have hrise : Q.Pairwise (· < ·) := hr.imp lt_of_logP
  induction k with
  | zero =>
    refine ⟨?_, fun i => ?_⟩
    · symm
      rw [rqP, List.filter_eq_nil_iff]
      intro q hq; have := (h0 q hq).1; simp; omega
    · rw [rqP]
      simp only [Nat.zero_testBit, Bool.false_eq_true, false_iff]
      rintro ⟨q, hq, h, _⟩
      exact (h0 q hq).1 (by omega)
  | succ k ih =>
    obtain ⟨i1, i2⟩ := ih (by omega)
    have hfn := filter_nextP hrise k
    by_cases hin : k + 1 ∈ Q
    · have ht : (k + 1) &&& (rqP P k).2 = 0 := by
        apply Nat.eq_of_testBit_eq
        intro i
        rw [Nat.testBit_and, Nat.zero_testBit]
        cases e : (rqP P k).2.testBit i with
        | false => simp
        | true =>
          obtain ⟨q, hq, h1, h2⟩ := (i2 i).1 e
          subst h2
          rw [ho _ hin _ hq (by omega)]; rfl
      have e : rqP P (k + 1) = ((rqP P k).1 ++ [k + 1], (rqP P k).2 ||| 2 ^ (k + 1).log2) := by
        rw [rqP, if_pos ⟨ht, (h0 _ hin).2.2⟩]
      rw [e, hfn, if_pos hin, i1]
      refine ⟨rfl, fun i => ?_⟩
      rw [Nat.testBit_or, Nat.testBit_two_pow, Bool.or_eq_true, i2, decide_eq_true_eq]
      constructor
      · rintro (⟨q, hq, h1, h2⟩ | h)
        · exact ⟨q, hq, by omega, h2⟩
        · exact ⟨k + 1, hin, Nat.le_refl _, h⟩
      · rintro ⟨q, hq, h1, h2⟩
        by_cases e3 : q = k + 1
        · subst e3; exact .inr h2
        · exact .inl ⟨q, hq, by omega, h2⟩
    · have hno : ¬ ((k + 1) &&& (rqP P k).2 = 0 ∧ P (k + 1) = true) := by
        rintro ⟨h1, h2⟩
        obtain ⟨c, hc, hx⟩ := hm _ hk h2
        have h0' : ∀ q ∈ Q, q ≠ 0 := fun q hq => (h0 q hq).1
        have hc0 : c ≠ 0 := by rintro rfl; rw [comb_zero] at hx; omega
        have hj := log2_lt' hc0 hc
        have htell : ∀ i (hi : i < Q.length), (k + 1).testBit (Q[i]'hi).log2 = c.testBit i := fun i hi => by
          have := comb_tellP h0' ho hr c i hi Q.length (Nat.le_refl _)
          rw [hx]
          unfold comb
          rw [this]; simp [hi]
        by_cases hp : c ^^^ 2 ^ c.log2 = 0
        · have hcp : c = 2 ^ c.log2 := by
            have := xor_backP c (2 ^ c.log2)
            rw [hp, Nat.zero_xor] at this
            exact this.symm
          rw [hcp, comb_pow _ _ hj] at hx
          apply hin
          rw [hx]
          simp [List.getD_eq_getElem?_getD, hj]
        · obtain ⟨i, hi⟩ : ∃ i, (c ^^^ 2 ^ c.log2).log2 = i := ⟨_, rfl⟩
          have hb := testBit_log2 hp
          rw [hi, Nat.testBit_xor, Nat.testBit_two_pow] at hb
          have hne : ¬ c.log2 = i := by
            intro e
            rw [← e, testBit_log2 hc0] at hb
            simp at hb
          have hbi : c.testBit i = true := by simpa [hne] using hb
          have hlt : i < c.log2 := by have := le_of_testBit hbi; omega
          have hiq : i < Q.length := by omega
          have e1 := htell i hiq
          have e2 := htell c.log2 hj
          rw [hbi] at e1
          rw [testBit_log2 hc0] at e2
          have e3 := le_of_testBit e2
          have e4 := List.pairwise_iff_getElem.1 hr i c.log2 hiq hj hlt
          have e5 := lt_of_logP (Nat.lt_of_lt_of_le e4 e3)
          have e6 := (i2 Q[i].log2).2 ⟨Q[i], List.getElem_mem hiq, by omega, rfl⟩
          have e7 : ((k + 1) &&& (rqP P k).2).testBit Q[i].log2 = true := by rw [Nat.testBit_and, e1, e6]; rfl
          rw [h1, Nat.zero_testBit] at e7
          cases e7
      have e : rqP P (k + 1) = rqP P k := by rw [rqP, if_neg hno]
      rw [e, hfn, if_neg hin, List.append_nil]
      refine ⟨i1, fun i => ?_⟩
      rw [i2]
      constructor
      · rintro ⟨q, hq, h1, h2⟩; exact ⟨q, hq, by omega, h2⟩
      · rintro ⟨q, hq, h1, h2⟩
        refine ⟨q, hq, ?_, h2⟩
        have : q ≠ k + 1 := fun e => hin (e ▸ hq)
        omega
/-- The reference's basis is the reduced list. -/
theorem rqP_all : (rqP P (2 ^ n - 1)).1 = Q := by
  have hp := Nat.two_pow_pos n
  rw [(rqP_is h0 ho hr hm (2 ^ n - 1) (by omega)).1, List.filter_eq_self]
  intro q hq
  have := (h0 q hq).2.1
  simp; omega
end

/-- Is a set a rule of these lines (given by their sets of holes)? -/
def isRule (E : List Nat) (x : Nat) : Bool := E.all fun e => !ip x e
theorem isRule_iff {E : List Nat} {x : Nat} : isRule E x = true ↔ ∀ i, ip x (E.getD i 0) = false := by
  unfold isRule
  rw [List.all_eq_true]
  constructor
  · intro h i
    rcases Nat.lt_or_ge i E.length with hi | hi
    · have := h (E.getD i 0) (by simp [List.getD_eq_getElem?_getD, hi])
      simpa using this
    · rw [getD_off hi, ip_zero]
  · intro h e he
    obtain ⟨i, hi, rfl⟩ := List.getElem_of_mem he
    have := h i
    rw [List.getD_eq_getElem?_getD, List.getElem?_eq_getElem hi] at this
    simpa using this

section
variable {n : Nat} {E : List Nat} (hn : n ≤ 16) (hE : ∀ i, E.getD i 0 < 2 ^ n)
include hn hE
theorem rulesL_in {x : Nat} (hx : x ∈ rulesL n E) : x ≠ 0 ∧ x < 2 ^ n ∧ isRule E x = true := by
  have H := Ech.all_ hE n
  obtain ⟨h1, h2, h3⟩ := H.inker hn hx
  exact ⟨h1, h2, isRule_iff.2 ((H.ker x).1 h3)⟩
theorem rulesL_made {x : Nat} (hx : x < 2 ^ n) (h : isRule E x = true) : ∃ c, c < 2 ^ (rulesL n E).length ∧ x = comb c (rulesL n E) := by
  have H := Ech.all_ hE n
  exact H.made hn hx ((H.ker x).2 (isRule_iff.1 h))
/-- The rules' basis of the program is the reference's. -/
theorem rulesL_ref : (rqP (isRule E) (2 ^ n - 1)).1 = rulesL n E := by
  have H := Ech.all_ hE n
  exact rqP_all (fun q hq => rulesL_in hn hE hq) (fun a ha b hb hne => H.only ha hb hne) H.rises (fun x hx hp => rulesL_made hn hE hx hp)
/-- Two positions are alike for all rules just if they are for those of the basis. -/
theorem rulesL_alike (d : Nat) : (∀ x, x < 2 ^ n → isRule E x = true → ip x d = false) ↔ ∀ x ∈ rulesL n E, ip x d = false := by
  constructor
  · intro h x hx
    obtain ⟨_, h2, h3⟩ := rulesL_in hn hE hx
    exact h x h2 h3
  · intro h x hx hp
    obtain ⟨c, _, rfl⟩ := rulesL_made hn hE hx hp
    rw [ip_comm]
    have hk : ∀ k, ip d (combK c (rulesL n E) k) = false := by
      intro k
      rw [ip_combK]
      rw [sumB_congr (g := fun _ => false), sumB_false]
      intro i _
      have : ip d ((rulesL n E).getD i 0) = false := by
        rcases Nat.lt_or_ge i (rulesL n E).length with hi | hi
        · rw [ip_comm]; exact h _ (by simp [List.getD_eq_getElem?_getD, hi])
        · rw [getD_off hi, ip_zero]
      rw [this, Bool.and_false]
    exact hk _
end
end Go.Proofs.Ythbhengcinkepaa.Lamp
