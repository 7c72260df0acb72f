/- What Fewest answers: of all sets with the target as their effect the one with the fewest lamps, and of these the least one; so does the reference's search through all sets. No program is spoken of. -/
import Derived.Test.YtpdgjjpfahobaaaQuiL
import Derived.Test.YtpdgjjpfahobaaaLig10
namespace Go.Proofs.Ytpdgjjpfahobaaa
open Go.RowKit Lamp

theorem keyLt_iff {a b : Nat} : keyLt a b = true ↔ popc a < popc b ∨ (popc a = popc b ∧ a < b) := by
  unfold keyLt
  simp only [Bool.or_eq_true, Bool.and_eq_true, decide_eq_true_eq]
theorem keyLt_not {a b : Nat} : keyLt a b = false ↔ popc b < popc a ∨ (popc b = popc a ∧ b ≤ a) := by
  rw [← Bool.not_eq_true, keyLt_iff]; omega
theorem keyLt_one {a b : Nat} (h1 : keyLt a b = false) (h2 : keyLt b a = false) : a = b := by
  rw [keyLt_not] at h1 h2; omega
theorem keyLt_step {a b c : Nat} (h1 : keyLt a b = false) (h2 : keyLt c b = true) : keyLt a c = false := by
  rw [keyLt_not] at h1 ⊢; rw [keyLt_iff] at h2; omega

theorem bestL_fold (s : Nat) (Q : List Nat) (cs : List Nat) : ∀ b, let r := cs.foldl (fun best c => if keyLt (s ^^^ comb c Q) best then s ^^^ comb c Q else best) b
    (r = b ∨ ∃ c ∈ cs, r = s ^^^ comb c Q) ∧ (∀ a, keyLt a b = false → keyLt a r = false) ∧ ∀ c ∈ cs, keyLt (s ^^^ comb c Q) r = false := by
  induction cs with
  | nil => intro b; exact ⟨.inl rfl, fun a h => h, fun c hc => by simp at hc⟩
  | cons c cs ih =>
    intro b
    obtain ⟨h1, h2, h3⟩ := ih (if keyLt (s ^^^ comb c Q) b then s ^^^ comb c Q else b)
    simp only [List.foldl_cons]
    have hself : ∀ x, keyLt x x = false := fun x => by rw [keyLt_not]; omega
    refine ⟨?_, fun a ha => h2 a ?_, fun d hd => ?_⟩
    · rcases h1 with h1 | ⟨d, hd, h1⟩
      · by_cases e : keyLt (s ^^^ comb c Q) b = true
        · rw [if_pos e] at h1
          rw [if_pos e]
          exact .inr ⟨c, by simp, h1⟩
        · rw [if_neg e] at h1
          rw [if_neg e]
          exact .inl h1
      · exact .inr ⟨d, by simp [hd], h1⟩
    · split
      · rename_i e; exact keyLt_step ha e
      · exact ha
    · rcases List.mem_cons.1 hd with rfl | hd
      · refine h2 _ ?_
        split
        · exact hself _
        · rename_i e; simpa using e
      · exact h3 d hd
theorem fewestL_is (s : Nat) (Q : List Nat) : (∃ c, fewestL s Q = s ^^^ comb c Q) ∧ ∀ c, c < 2 ^ Q.length → keyLt (s ^^^ comb c Q) (fewestL s Q) = false := by
  obtain ⟨h1, _, h3⟩ := bestL_fold s Q (List.range (2 ^ Q.length)) s
  refine ⟨?_, fun c hc => h3 c (List.mem_range.2 hc)⟩
  rcases h1 with h1 | ⟨c, _, h1⟩
  · exact ⟨0, by rw [comb_zero, Nat.xor_zero]; exact h1⟩
  · exact ⟨c, h1⟩

section
variable {n : Nat} {s : List Nat} (hl : s.length = n) (hn : n ≤ 16) (hs : ∀ x ∈ s, x < 2 ^ n)
include hl hn hs

theorem basis_quiet (c : Nat) : comb (comb c (quietL s)) s = 0 ∧ comb c (quietL s) < 2 ^ n := by
  have hq : ∀ q ∈ quietL s, comb q s = 0 ∧ q < 2 ^ n := fun q h => by
    unfold quietL at h
    rw [hl] at h
    have := (inv_all hl hn hs).quiet q h
    exact ⟨this.2.2, this.2.1⟩
  refine ⟨?_, comb_lt c _ fun q h => (hq q h).2⟩
  unfold comb at hq ⊢
  generalize (quietL s).length = m
  induction m with
  | zero => exact combK_zero s _
  | succ m ih =>
    rw [show combK c (quietL s) (m + 1) = if c.testBit m then combK c (quietL s) m ^^^ (quietL s).getD m 0 else combK c (quietL s) m from rfl]
    split
    · rw [combK_xor, ih, Nat.zero_xor]
      by_cases hm : m < (quietL s).length
      · rw [show (quietL s).getD m 0 = (quietL s)[m] by simp [List.getD_eq_getElem?_getD, hm]]
        exact (hq _ (List.getElem_mem hm)).1
      · rw [show (quietL s).getD m 0 = 0 by simp [List.getD_eq_getElem?_getD, List.getElem?_eq_none (Nat.le_of_not_lt hm)]]
        exact combK_zero s _
    · exact ih
/-- The set with the fewest lamps. -/
theorem few_right {t : Nat} (ht : t < 2 ^ n) (h : (solveL s t).1 = true) : fewL s t = (fewestL (solveL s t).2 (quietL s), true) ∧ comb (fewL s t).1 s = t ∧ (fewL s t).1 < 2 ^ n ∧ ∀ y, y < 2 ^ n → comb y s = t → keyLt y (fewL s t).1 = false := by
  obtain ⟨h1, h2⟩ := solve_right hl hn hs ht h
  obtain ⟨⟨c, hc⟩, hb⟩ := fewestL_is (solveL s t).2 (quietL s)
  have he : fewL s t = (fewestL (solveL s t).2 (quietL s), true) := by unfold fewL; rw [if_pos h]
  rw [he]
  obtain ⟨q1, q2⟩ := basis_quiet hl hn hs c
  refine ⟨rfl, ?_, ?_, fun y hy hyt => ?_⟩
  · rw [hc, comb_xor, q1, h1, Nat.xor_zero]
  · rw [hc]; exact Nat.xor_lt_two_pow h2 q2
  · have h3 : comb ((solveL s t).2 ^^^ y) s = 0 := by rw [comb_xor, h1, hyt, Nat.xor_self]
    obtain ⟨d, hd1, hd2⟩ := quiet_made hl hn hs (Nat.xor_lt_two_pow h2 hy) h3
    have h4 : y = (solveL s t).2 ^^^ comb d (redAll s n).2 := by
      rw [← hd2, ← Nat.xor_assoc, Nat.xor_self, Nat.zero_xor]
    rw [h4]
    have h5 : quietL s = (redAll s n).2 := by unfold quietL; rw [hl]
    rw [h5] at hb ⊢
    exact hb d hd1
omit hl hn hs in
theorem few_none {t : Nat} (h : (solveL s t).1 = false) : fewL s t = (0, false) := by
  unfold fewL; rw [h]; rfl
end

/-- The best set among those below k whose effect is t, or -1. -/
def fT (s : List Nat) (t : Nat) : Nat → Int
  | 0 => -1
  | k + 1 => if comb k s = t ∧ (fT s t k < 0 ∨ popc k < popc (fT s t k).toNat) then (k : Int) else fT s t k
theorem fT_is (s : List Nat) (t k : Nat) : (fT s t k = -1 ∧ ∀ y, y < k → comb y s ≠ t) ∨ ∃ f : Nat, fT s t k = f ∧ f < k ∧ comb f s = t ∧ ∀ y, y < k → comb y s = t → keyLt y f = false := by
  induction k with
  | zero => exact .inl ⟨rfl, fun y h => by omega⟩
  | succ k ih =>
    rw [fT]
    by_cases hk : comb k s = t
    · rcases ih with ⟨e, hno⟩ | ⟨f, e, hf, hft, hb⟩
      · rw [if_pos ⟨hk, .inl (by omega)⟩]
        refine .inr ⟨k, rfl, by omega, hk, fun y hy hyt => ?_⟩
        by_cases e2 : y = k
        · subst e2; rw [keyLt_not]; omega
        · exact absurd hyt (hno y (by omega))
      · rw [e]
        have ht : ((f : Int)).toNat = f := rfl
        rw [ht]
        by_cases hlt : popc k < popc f
        · rw [if_pos ⟨hk, .inr hlt⟩]
          refine .inr ⟨k, rfl, by omega, hk, fun y hy hyt => ?_⟩
          by_cases e2 : y = k
          · subst e2; rw [keyLt_not]; omega
          · exact keyLt_step (hb y (by omega) hyt) (keyLt_iff.2 (.inl hlt))
        · rw [if_neg (by rintro ⟨_, h | h⟩ <;> omega)]
          refine .inr ⟨f, rfl, by omega, hft, fun y hy hyt => ?_⟩
          by_cases e2 : y = k
          · subst e2; rw [keyLt_not]; omega
          · exact hb y (by omega) hyt
    · rw [if_neg (fun h => hk h.1)]
      rcases ih with ⟨e, hno⟩ | ⟨f, e, hf, hft, hb⟩
      · refine .inl ⟨e, fun y hy => ?_⟩
        by_cases e2 : y = k
        · subst e2; exact hk
        · exact hno y (by omega)
      · refine .inr ⟨f, e, by omega, hft, fun y hy hyt => ?_⟩
        by_cases e2 : y = k
        · subst e2; exact absurd hyt hk
        · exact hb y (by omega) hyt
theorem solve_some {n : Nat} {s : List Nat} (hl : s.length = n) (hn : n ≤ 16) (hs : ∀ x ∈ s, x < 2 ^ n) (hy : Sym s) {t : Nat} (ht : t < 2 ^ n) {y : Nat} (h : comb y s = t) : (solveL s t).1 = true := by
  cases e : (solveL s t).1 with
  | true => rfl
  | false =>
    obtain ⟨q, h1, h2⟩ := solve_full hl hn hs hy ht e
    have h3 := (inv_all hl hn hs).quiet q h1
    rw [← h, ip_sym hy, h3.2.2, ip_zero] at h2
    cases h2
/-- What the search through all sets finds is what Fewest answers. -/
theorem fT_few {n : Nat} {s : List Nat} (hl : s.length = n) (hn : n ≤ 16) (hs : ∀ x ∈ s, x < 2 ^ n) (hy : Sym s) {t : Nat} (ht : t < 2 ^ n) :
    ((solveL s t).1 = false ∧ fT s t (2 ^ n) = -1) ∨ ((solveL s t).1 = true ∧ fT s t (2 ^ n) = ((fewL s t).1 : Nat)) := by
  cases e : (solveL s t).1 with
  | false =>
    refine .inl ⟨rfl, ?_⟩
    rcases fT_is s t (2 ^ n) with ⟨h, _⟩ | ⟨f, _, _, h, _⟩
    · exact h
    · rw [solve_some hl hn hs hy ht h] at e; cases e
  | true =>
    refine .inr ⟨rfl, ?_⟩
    obtain ⟨_, h1, h2, h3⟩ := few_right hl hn hs ht e
    rcases fT_is s t (2 ^ n) with ⟨_, h⟩ | ⟨f, hf, hlt, hft, hb⟩
    · exact absurd h1 (h _ h2)
    · rw [hf, keyLt_one (hb _ h2 h1) (h3 f hlt hft)]
end Go.Proofs.Ytpdgjjpfahobaaa
