/- Jumps by bits; going back: a game from p to q is, read backwards, one between the holes without pegs. No program is spoken of. -/
import Derived.Test.YthbhengcinkepaaGameL
import Derived.Test.YthbhengcinkepaaLampS
namespace Go.Proofs.Ythbhengcinkepaa
open Lamp

theorem bitN_nat (a : Nat) : bitN (a : Int) = 2 ^ a := by simp [bitN]
theorem takenM_bit (a b i : Nat) (c : Int) : (takenM ((a : Int), (b : Int), c)).testBit i = (decide (a = i) || decide (b = i)) := by
  unfold takenM
  simp only [bitN_nat]
  rw [Nat.testBit_or, Nat.testBit_two_pow, Nat.testBit_two_pow]
theorem holesM_bit (a b c i : Nat) : (holesM ((a : Int), (b : Int), (c : Int))).testBit i = (decide (a = i) || decide (b = i) || decide (c = i)) := by
  unfold holesM
  rw [Nat.testBit_or, takenM_bit]
  simp only [bitN_nat]
  rw [Nat.testBit_two_pow]
theorem canJ_bits {a b c : Nat} (p : Nat) (hac : a ≠ c) (hbc : b ≠ c) : canJ ((a : Int), (b : Int), (c : Int)) p = (p.testBit a && p.testBit b && !p.testBit c) := by
  unfold canJ
  rw [Bool.eq_iff_iff, beq_iff_eq]
  constructor
  · intro h
    have hb : ∀ i, (p.testBit i && (decide (a = i) || decide (b = i) || decide (c = i))) = (decide (a = i) || decide (b = i)) := fun i => by
      rw [← holesM_bit, ← Nat.testBit_and, h, takenM_bit]
    have h1 := hb a
    have h2 := hb b
    have h3 := hb c
    simp at h1 h2
    have h4 : p.testBit c = false := by
      rw [decide_eq_false hac, decide_eq_false hbc] at h3
      simpa using h3
    simp [h1, h2, h4]
  · intro h
    simp only [Bool.and_eq_true, Bool.not_eq_true'] at h
    obtain ⟨⟨h1, h2⟩, h3⟩ := h
    refine Nat.eq_of_testBit_eq fun i => ?_
    rw [Nat.testBit_and, holesM_bit, takenM_bit]
    by_cases e1 : a = i
    · subst e1; simp [h1]
    · by_cases e2 : b = i
      · subst e2; simp [h2]
      · by_cases e3 : c = i
        · subst e3; simp [h3, e1, e2]
        · simp [e1, e2, e3]
theorem full_bit (n i : Nat) : (2 ^ n - 1).testBit i = decide (i < n) := Nat.testBit_two_pow_sub_one n i
theorem comp_lt {n p : Nat} (hp : p < 2 ^ n) : (2 ^ n - 1) ^^^ p < 2 ^ n := Nat.xor_lt_two_pow (by have := Nat.two_pow_pos n; omega) hp
theorem comp_comp (n p : Nat) : (2 ^ n - 1) ^^^ ((2 ^ n - 1) ^^^ p) = p := by rw [← Nat.xor_assoc, Nat.xor_self, Nat.zero_xor]
theorem TriOk.nats {n : Nat} {j : Tri} (h : TriOk n j) : ∃ a b c : Nat, j = ((a : Int), (b : Int), (c : Int)) ∧ a < n ∧ b < n ∧ c < n ∧ a ≠ b ∧ a ≠ c ∧ b ≠ c := by
  obtain ⟨x, y, z⟩ := j
  obtain ⟨h1, h2, h3, h4, h5, h6, h7, h8, h9⟩ := h
  dsimp only at h1 h2 h3 h4 h5 h6 h7 h8 h9
  exact ⟨x.toNat, y.toNat, z.toNat, by simp only [Prod.mk.injEq]; omega, by omega, by omega, by omega, by omega, by omega, by omega⟩
theorem canJ_back {n : Nat} {j : Tri} {p : Nat} (hj : TriOk n j) (h : canJ j p = true) : canJ j ((2 ^ n - 1) ^^^ fromJ j p) = true ∧ fromJ j ((2 ^ n - 1) ^^^ fromJ j p) = (2 ^ n - 1) ^^^ p := by
  constructor
  · obtain ⟨a, b, c, rfl, ha, hb, hc, hab, hac, hbc⟩ := hj.nats
    rw [canJ_bits p hac hbc] at h
    simp only [Bool.and_eq_true, Bool.not_eq_true'] at h
    obtain ⟨⟨h1, h2⟩, h3⟩ := h
    rw [canJ_bits _ hac hbc]
    unfold fromJ
    simp only [Nat.testBit_xor, full_bit, holesM_bit, h1, h2, h3, ha, hb, hc]
    simp
  · unfold fromJ
    rw [Nat.xor_assoc, Nat.xor_assoc p, Nat.xor_self, Nat.xor_zero]
theorem Game.back {n : Nat} {all : List Tri} {p q : Nat} {g : List Tri} (hall : ∀ j ∈ all, TriOk n j) (hg : Game all p g q) : Game all ((2 ^ n - 1) ^^^ q) g.reverse ((2 ^ n - 1) ^^^ p) := by
  induction hg with
  | nil p => exact .nil _
  | cons h1 h2 _ ih =>
    rw [List.reverse_cons]
    obtain ⟨h3, h4⟩ := canJ_back (hall _ h1) h2
    rw [← h4]
    exact ih.snoc h1 h3
/-- There is a game from p to q just if there is one from the holes without a peg in q to those without a peg in p. -/
theorem game_back {n : Nat} {all : List Tri} {p q : Nat} (hall : ∀ j ∈ all, TriOk n j) : (∃ g, Game all p g q) ↔ ∃ g, Game all ((2 ^ n - 1) ^^^ q) g ((2 ^ n - 1) ^^^ p) := by
  constructor
  · rintro ⟨g, hg⟩
    exact ⟨_, hg.back hall⟩
  · rintro ⟨g, hg⟩
    have := hg.back hall
    rw [comp_comp, comp_comp] at this
    exact ⟨_, this⟩

theorem sumB_pick (x a k : Nat) (ha : a < k) : sumB (fun i => x.testBit i && decide (a = i)) k = x.testBit a := by
  rw [sumB_one _ a k ha fun i _ hi => by simp [Ne.symm hi]]
  simp
theorem ip_holes {a b c : Nat} (x : Nat) (ha : a < 16) (hb : b < 16) (hc : c < 16) (hab : a ≠ b) (hac : a ≠ c) (hbc : b ≠ c) : ip x (holesM ((a : Int), (b : Int), (c : Int))) = ((x.testBit a).xor (x.testBit b)).xor (x.testBit c) := by
  unfold ip
  rw [sumB_congr (g := fun i => ((x.testBit i && decide (a = i)).xor (x.testBit i && decide (b = i))).xor (x.testBit i && decide (c = i)))]
  · rw [sumB_xor, sumB_xor, sumB_pick x a 16 ha, sumB_pick x b 16 hb, sumB_pick x c 16 hc]
  · intro i _
    rw [holesM_bit]
    cases x.testBit i
    · rfl
    · by_cases e1 : a = i
      · have e2 : b ≠ i := by omega
        have e3 : c ≠ i := by omega
        simp [e1, e2, e3]
      · by_cases e2 : b = i
        · have e3 : c ≠ i := by omega
          simp [e1, e2, e3]
        · simp [e1, e2]
/-- A line's holes in a set, counted. -/
theorem rule_par {a b c : Nat} (x : Nat) (ha : a < 16) (hb : b < 16) (hc : c < 16) (hab : a ≠ b) (hac : a ≠ c) (hbc : b ≠ c) : ip x (holesM ((a : Int), (b : Int), (c : Int))) = decide ((x / 2 ^ a + x / 2 ^ b + x / 2 ^ c) % 2 = 1) := by
  rw [ip_holes x ha hb hc hab hac hbc]
  simp only [Nat.testBit_eq_decide_div_mod_eq]
  rw [Bool.eq_iff_iff]
  have h1 := Nat.mod_two_eq_zero_or_one (x / 2 ^ a)
  have h2 := Nat.mod_two_eq_zero_or_one (x / 2 ^ b)
  have h3 := Nat.mod_two_eq_zero_or_one (x / 2 ^ c)
  generalize x / 2 ^ a = u at *
  generalize x / 2 ^ b = v at *
  generalize x / 2 ^ c = t at *
  rcases h1 with h1 | h1 <;> rcases h2 with h2 | h2 <;> rcases h3 with h3 | h3 <;> simp [h1, h2, h3] <;> omega
end Go.Proofs.Ythbhengcinkepaa
