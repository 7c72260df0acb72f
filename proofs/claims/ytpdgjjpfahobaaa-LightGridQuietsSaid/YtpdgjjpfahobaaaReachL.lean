/- How many targets are the effect of some set; the search that presses lamps one by one finds each target by the fewest lamps. No program is spoken of. -/
import Derived.Test.YtpdgjjpfahobaaaFewL
namespace Go.Proofs.Ytpdgjjpfahobaaa
open Go.RowKit Lamp

theorem nodup_sub {α : Type} [DecidableEq α] : ∀ (A B : List α), A.Nodup → (∀ x ∈ A, x ∈ B) → A.length ≤ B.length
  | [], _, _, _ => Nat.zero_le _
  | a :: A, B, h, hs => by
    rw [List.nodup_cons] at h
    have h1 := nodup_sub A (B.erase a) h.2 fun x hx => by
      have hne : x ≠ a := by rintro rfl; exact h.1 hx
      rw [List.mem_erase_of_ne hne]
      exact hs x (by simp [hx])
    have h2 := hs a (by simp)
    rw [List.length_erase_of_mem h2] at h1
    have := List.length_pos_of_mem h2
    simp only [List.length_cons]
    omega
theorem nodup_all {α : Type} [DecidableEq α] {A B : List α} (hA : A.Nodup) (hs : ∀ x ∈ A, x ∈ B) (hl : B.length ≤ A.length) : ∀ x ∈ B, x ∈ A := fun x hx => by
  apply Decidable.byContradiction
  intro hn
  have := nodup_sub (x :: A) B (by rw [List.nodup_cons]; exact ⟨hn, hA⟩) (fun y hy => by
    rcases List.mem_cons.1 hy with rfl | hy
    · exact hx
    · exact hs y hy)
  simp at this
  omega

/-- The effects of the sets of the first k lamps. -/
def imgK (s : List Nat) : Nat → List Nat
  | 0 => [0]
  | k + 1 => if redF (redAll s k).1 (rowV (2 ^ k) (s.getD k 0)) / 65536 = 0 then imgK s k else imgK s k ++ (imgK s k).map (· ^^^ s.getD k 0)

theorem xor_left {a b c : Nat} (h : a ^^^ c = b ^^^ c) : a = b := by
  have := congrArg (· ^^^ c) h
  simpa [xor_cancel] using this

section
variable {n : Nat} {s : List Nat} (hl : s.length = n) (hn : n ≤ 16) (hs : ∀ x ∈ s, x < 2 ^ n)
include hl hn hs

theorem img_is (k : Nat) (hk : k ≤ n) : (imgK s k).Nodup ∧ (∀ t, t ∈ imgK s k ↔ ∃ x, x < 2 ^ k ∧ comb x s = t) ∧ (imgK s k).length * 2 ^ (redAll s k).2.length = 2 ^ k := by
  have hb := s_big hn hs
  induction k with
  | zero =>
    refine ⟨by simp [imgK], fun t => ?_, by simp [imgK, redAll]⟩
    simp only [imgK, List.mem_singleton]
    constructor
    · rintro rfl; exact ⟨0, by simp, comb_zero s⟩
    · rintro ⟨x, hx, h⟩
      obtain rfl : x = 0 := by simpa using hx
      rw [← h, comb_zero]
  | succ k ih =>
    obtain ⟨i1, i2, i3⟩ := ih (by omega)
    have hI := Inv.all_ s (by omega) hb k (by omega)
    have hI2 := Inv.all_ s (by omega) hb (k + 1) (by omega)
    have hp := Nat.two_pow_pos k
    have hp2 : (2:Nat) ^ (k + 1) = 2 ^ k + 2 ^ k := by rw [Nat.pow_succ]; omega
    have hkl : k < s.length := by omega
    have hsk : s.getD k 0 < 65536 := getD_lt hb (by decide) k
    have hp16 : (2:Nat) ^ k < 65536 := pow_lt16 (by omega)
    obtain ⟨r, hr⟩ : ∃ r, redF (redAll s k).1 (rowV (2 ^ k) (s.getD k 0)) = r := ⟨_, rfl⟩
    have ho := red_out hI.tab 16 (rowV (2 ^ k) (s.getD k 0)) (by rw [rowV_div hp16]; exact hsk)
    rw [show red (redAll s k).1 (16 + 1) (rowV (2 ^ k) (s.getD k 0)) = r from hr] at ho
    obtain ⟨ho1, ho2⟩ := ho
    have hsp := hI.span ho1
    rw [xor_div16, xor_mod16, rowV_div hp16, rowV_mod hp16] at hsp
    obtain ⟨_, s2, s3, _⟩ := hsp
    have hR : redAll s (k + 1) = redStep s k (redAll s k) := rfl
    -- the sets with lamp k
    have hsplit : ∀ t, (∃ x, x < 2 ^ (k + 1) ∧ comb x s = t) ↔ t ∈ imgK s k ∨ t ^^^ s.getD k 0 ∈ imgK s k := by
      intro t
      rw [i2, i2]
      constructor
      · rintro ⟨x, hx, h⟩
        cases hbit : x.testBit k
        · exact .inl ⟨x, low_of hx hbit, h⟩
        · refine .inr ⟨x ^^^ 2 ^ k, low_xor hx hbit, ?_⟩
          rw [comb_xor, h, comb_pow s k hkl]
      · rintro (⟨x, hx, h⟩ | ⟨x, hx, h⟩)
        · exact ⟨x, by omega, h⟩
        · refine ⟨x ^^^ 2 ^ k, Nat.xor_lt_two_pow (by omega) (by omega), ?_⟩
          rw [comb_xor, h, comb_pow s k hkl, xor_cancel]
    by_cases h0 : r / 65536 = 0
    · have e1 : imgK s (k + 1) = imgK s k := by rw [imgK, hr, if_pos h0]
      have e2 : (redAll s (k + 1)).2.length = (redAll s k).2.length + 1 := by
        rw [hR]; unfold redStep; simp only; rw [hr, if_pos h0]; simp
      have hin : s.getD k 0 ∈ imgK s k := by
        rw [i2]
        rw [h0, Nat.xor_zero] at s2
        exact ⟨_, s3, s2⟩
      obtain ⟨y, hy, hys⟩ := (i2 _).1 hin
      rw [e1, e2]
      refine ⟨i1, fun t => ?_, ?_⟩
      · rw [hsplit]
        constructor
        · exact fun h => .inl h
        · rintro (h | h)
          · exact h
          · obtain ⟨x, hx, hxt⟩ := (i2 _).1 h
            rw [i2]
            refine ⟨x ^^^ y, Nat.xor_lt_two_pow hx hy, ?_⟩
            rw [comb_xor, hxt, hys, xor_cancel]
      · rw [Nat.pow_succ, ← Nat.mul_assoc, i3]; omega
    · have e1 : imgK s (k + 1) = imgK s k ++ (imgK s k).map (· ^^^ s.getD k 0) := by rw [imgK, hr, if_neg h0]
      have e2 : (redAll s (k + 1)).2.length = (redAll s k).2.length := by
        rw [hR]; unfold redStep; simp only; rw [hr, if_neg h0]
      have hout : s.getD k 0 ∉ imgK s k := by
        rw [i2]
        rintro ⟨y, hy, hys⟩
        obtain ⟨c, z, _, hz, z1, _⟩ := hI.all y hy
        have hz2 := hz.xor ho1
        have e3 : (z ^^^ (rowV (2 ^ k) (s.getD k 0) ^^^ r)) / 65536 = r / 65536 := by
          rw [xor_div16, xor_div16, rowV_div hp16, z1, hys, ← Nat.xor_assoc, Nat.xor_self, Nat.zero_xor]
        rcases hz2.top hI.tab with h | ⟨_, h⟩
        · rw [h] at e3; omega
        · rw [e3] at h; exact h (ho2.resolve_left h0)
      have hmem : ∀ t, t ∈ imgK s (k + 1) ↔ t ∈ imgK s k ∨ t ^^^ s.getD k 0 ∈ imgK s k := by
        intro t
        rw [e1, List.mem_append, List.mem_map]
        constructor
        · rintro (h | ⟨a, ha, rfl⟩)
          · exact .inl h
          · exact .inr (by rw [xor_cancel]; exact ha)
        · rintro (h | h)
          · exact .inl h
          · exact .inr ⟨_, h, xor_cancel _ _⟩
      refine ⟨?_, fun t => by rw [hsplit, hmem], ?_⟩
      · rw [e1, List.nodup_append]
        refine ⟨i1, ?_, ?_⟩
        · unfold List.Nodup
          rw [List.pairwise_map]
          exact i1.imp fun h e => h (xor_left e)
        · intro a ha b hb hab
          obtain ⟨d, hd, rfl⟩ := List.mem_map.1 hb
          apply hout
          obtain ⟨x, hx, hxa⟩ := (i2 _).1 ha
          obtain ⟨y, hy, hyd⟩ := (i2 _).1 hd
          rw [i2]
          refine ⟨x ^^^ y, Nat.xor_lt_two_pow hx hy, ?_⟩
          rw [comb_xor, hxa, hyd, hab, Nat.xor_comm d, xor_cancel]
      · rw [e2, e1, List.length_append, List.length_map, Nat.add_mul, i3, hp2]

theorem img_len : (imgK s n).length = 2 ^ (n - (quietL s).length) := by
  obtain ⟨_, _, h⟩ := img_is hl hn hs n (Nat.le_refl _)
  have hq : (redAll s n).2.length ≤ n := redAll_len s n
  have e : quietL s = (redAll s n).2 := by unfold quietL; rw [hl]
  rw [e]
  have h2 : (2:Nat) ^ n = 2 ^ (n - (redAll s n).2.length) * 2 ^ (redAll s n).2.length := by
    rw [← Nat.pow_add]; congr 1; omega
  rw [h2] at h
  exact Nat.eq_of_mul_eq_mul_right (Nat.two_pow_pos _) h
theorem img_mem (hy : Sym s) (t : Nat) : t ∈ imgK s n ↔ t < 2 ^ n ∧ (solveL s t).1 = true := by
  rw [(img_is hl hn hs n (Nat.le_refl _)).2.1]
  constructor
  · rintro ⟨x, _, h⟩
    have ht : t < 2 ^ n := by rw [← h]; exact comb_lt x s hs
    exact ⟨ht, solve_some hl hn hs hy ht h⟩
  · rintro ⟨ht, h⟩
    obtain ⟨h1, h2⟩ := solve_right hl hn hs ht h
    exact ⟨_, h2, h1⟩
/-- How many targets the reference counts. -/
theorem reach_count (hy : Sym s) : ((List.range (2 ^ n)).filter fun t => decide (0 ≤ fT s t (2 ^ n))).length = 2 ^ (n - (quietL s).length) := by
  rw [← img_len hl hn hs]
  have h1 : ∀ t, t ∈ (List.range (2 ^ n)).filter (fun t => decide (0 ≤ fT s t (2 ^ n))) ↔ t ∈ imgK s n := by
    intro t
    rw [img_mem hl hn hs hy, List.mem_filter, List.mem_range]
    refine and_congr_right fun ht => ?_
    rcases fT_few hl hn hs hy ht with ⟨h1, h2⟩ | ⟨h1, h2⟩
    · rw [h1, h2]; simp
    · rw [h1, h2]; simp
  exact Nat.le_antisymm (nodup_sub _ _ (List.nodup_range.filter _) fun x hx => (h1 x).1 hx) (nodup_sub _ _ (img_is hl hn hs n (Nat.le_refl _)).1 fun x hx => (h1 x).2 hx)
end

/-- How many lamps a target needs. -/
def dist (s : List Nat) (t : Nat) : Nat := popc (fewL s t).1
/-- A target that can be reached. -/
def Rch (s : List Nat) (t : Nat) : Prop := t < 2 ^ s.length ∧ (solveL s t).1 = true

theorem popK_flip (x i : Nat) : ∀ k, popK (x ^^^ 2 ^ i) k + (if i < k then (x.testBit i).toNat else 0) = popK x k + (if i < k then (!x.testBit i).toNat else 0)
  | 0 => by simp [popK]
  | k + 1 => by
    have ih := popK_flip x i k
    rw [popK, popK, ← Nat.toNat_testBit, ← Nat.toNat_testBit, Nat.testBit_xor, Nat.testBit_two_pow]
    by_cases e : i = k
    · subst e
      rw [if_neg (Nat.lt_irrefl _), if_neg (Nat.lt_irrefl _)] at ih
      rw [if_pos (Nat.lt_succ_self _), if_pos (Nat.lt_succ_self _)]
      cases x.testBit i <;> simp <;> omega
    · by_cases h : i < k
      · rw [if_pos h, if_pos h] at ih
        rw [if_pos (by omega), if_pos (by omega)]
        simp [e]; omega
      · rw [if_neg h, if_neg h] at ih
        rw [if_neg (by omega), if_neg (by omega)]
        simp [e]; omega
theorem popc_on {x i : Nat} (hi : i < 16) (h : x.testBit i = true) : popc (x ^^^ 2 ^ i) + 1 = popc x := by
  have := popK_flip x i 16
  rw [if_pos hi, if_pos hi, h] at this
  unfold popc
  simpa using this
theorem popc_off {x i : Nat} (hi : i < 16) (h : x.testBit i = false) : popc (x ^^^ 2 ^ i) = popc x + 1 := by
  have := popK_flip x i 16
  rw [if_pos hi, if_pos hi, h] at this
  unfold popc
  simpa using this
theorem popc_near (x : Nat) {i : Nat} (hi : i < 16) : popc (x ^^^ 2 ^ i) ≤ popc x + 1 := by
  cases h : x.testBit i
  · rw [popc_off hi h]; omega
  · have := popc_on hi h; omega
theorem popK_pos {x i : Nat} (h : x.testBit i = true) : ∀ k, i < k → 0 < popK x k
  | k + 1, hk => by
    rw [popK, ← Nat.toNat_testBit]
    by_cases e : i = k
    · subst e; rw [h]; simp
    · have := popK_pos h k (by omega); omega
theorem popc_zero {x : Nat} (hx : x < 65536) (h : popc x = 0) : x = 0 := by
  apply Decidable.byContradiction
  intro h0
  have := popK_pos (testBit_log2 h0) 16 (log2_lt' (k := 16) h0 hx)
  unfold popc at h
  omega
theorem popc_0 : popc 0 = 0 := by decide

section
variable {n : Nat} {s : List Nat} (hl : s.length = n) (hn : n ≤ 16) (hs : ∀ x ∈ s, x < 2 ^ n) (hy : Sym s)
include hl hn hs hy

omit hy in
theorem dist_get {t : Nat} (h : Rch s t) : ∃ y, y < 2 ^ n ∧ comb y s = t ∧ popc y = dist s t := by
  obtain ⟨ht, h⟩ := h
  rw [hl] at ht
  obtain ⟨_, h1, h2, _⟩ := few_right hl hn hs ht h
  exact ⟨_, h2, h1, rfl⟩
theorem dist_le {t y : Nat} (hyn : y < 2 ^ n) (h : comb y s = t) : Rch s t ∧ dist s t ≤ popc y := by
  have ht : t < 2 ^ n := by rw [← h]; exact comb_lt y s hs
  have h1 := solve_some hl hn hs hy ht h
  obtain ⟨_, _, _, h4⟩ := few_right hl hn hs ht h1
  have h5 := h4 y hyn h
  rw [keyLt_not] at h5
  unfold dist Rch
  rw [hl]
  exact ⟨⟨ht, h1⟩, by omega⟩
theorem dist_zero : Rch s 0 ∧ dist s 0 = 0 := by
  obtain ⟨h1, h2⟩ := dist_le hl hn hs hy (Nat.two_pow_pos n) (comb_zero s)
  rw [popc_0] at h2
  exact ⟨h1, by omega⟩
omit hy in
theorem dist_pos {t : Nat} (h : Rch s t) (h0 : t ≠ 0) : 0 < dist s t := by
  obtain ⟨y, h1, h2, h3⟩ := dist_get hl hn hs h
  apply Decidable.byContradiction
  intro hc
  have := popc_zero (Nat.lt_of_lt_of_le h1 (pow_split hn)) (by omega)
  rw [this, comb_zero] at h2
  exact h0 h2.symm
theorem dist_step {t i : Nat} (h : Rch s t) (hi : i < n) : Rch s (t ^^^ s.getD i 0) ∧ dist s (t ^^^ s.getD i 0) ≤ dist s t + 1 := by
  obtain ⟨y, h1, h2, h3⟩ := dist_get hl hn hs h
  have h4 : comb (y ^^^ 2 ^ i) s = t ^^^ s.getD i 0 := by rw [comb_xor, h2, comb_pow s i (by omega)]
  obtain ⟨h5, h6⟩ := dist_le hl hn hs hy (Nat.xor_lt_two_pow h1 (Nat.pow_lt_pow_right (by decide) hi)) h4
  have := popc_near y (i := i) (by omega)
  exact ⟨h5, by omega⟩
theorem dist_down {t : Nat} (h : Rch s t) (h0 : t ≠ 0) : ∃ i, i < n ∧ Rch s (t ^^^ s.getD i 0) ∧ dist s (t ^^^ s.getD i 0) + 1 = dist s t := by
  obtain ⟨y, h1, h2, h3⟩ := dist_get hl hn hs h
  have hy0 : y ≠ 0 := by rintro rfl; rw [comb_zero] at h2; exact h0 h2.symm
  have hi := log2_lt' hy0 h1
  have h4 : comb (y ^^^ 2 ^ y.log2) s = t ^^^ s.getD y.log2 0 := by rw [comb_xor, h2, comb_pow s _ (by omega)]
  obtain ⟨h5, h6⟩ := dist_le hl hn hs hy (Nat.xor_lt_two_pow h1 (Nat.pow_lt_pow_right (by decide) hi)) h4
  have h7 := popc_on (i := y.log2) (by omega) (testBit_log2 hy0)
  have h8 := dist_step hl hn hs hy h5 hi
  rw [xor_cancel] at h8
  exact ⟨y.log2, hi, h5, by omega⟩
end

/-- How far the search has come: the targets so far, of which those before place i and, at place i, the first m lamps are done. -/
structure Bfs (s : List Nat) (T : List Nat) (i m : Nat) : Prop where
  nodup : T.Nodup
  rch : ∀ t ∈ T, Rch s t
  zero : 0 ∈ T
  lt : i < T.length
  sorted : T.Pairwise fun a b => dist s a ≤ dist s b
  done : ∀ j, j < i → ∀ l, l < s.length → T.getD j 0 ^^^ s.getD l 0 ∈ T
  cur : ∀ l, l < m → T.getD i 0 ^^^ s.getD l 0 ∈ T
  near : ∀ t ∈ T, dist s t ≤ dist s (T.getD i 0) + 1
  full : ∀ t, Rch s t → dist s t ≤ dist s (T.getD i 0) → t ∈ T

theorem getD_app {T : List Nat} {x j : Nat} (h : j < T.length) : (T ++ [x]).getD j 0 = T.getD j 0 := by
  simp [List.getD_eq_getElem?_getD, List.getElem?_append_left h]
theorem getD_mem {T : List Nat} {j : Nat} (h : j < T.length) : T.getD j 0 ∈ T := by
  rw [show T.getD j 0 = T[j] by simp [List.getD_eq_getElem?_getD, h]]
  exact List.getElem_mem h

section
variable {n : Nat} {s : List Nat} (hl : s.length = n) (hn : n ≤ 16) (hs : ∀ x ∈ s, x < 2 ^ n) (hy : Sym s)
include hl hn hs hy

theorem Bfs.start : Bfs s [0] 0 0 := by
  obtain ⟨h1, h2⟩ := dist_zero hl hn hs hy
  refine ⟨by simp, fun t ht => ?_, by simp, by simp, by simp, fun j hj => by omega, fun l hl => by omega, fun t ht => ?_, fun t ht h => ?_⟩
  · obtain rfl : t = 0 := by simpa using ht
    exact h1
  · obtain rfl : t = 0 := by simpa using ht
    rw [h2]; omega
  · rw [show ([0] : List Nat).getD 0 0 = 0 from rfl, h2] at h
    apply Decidable.byContradiction
    intro hc
    have := dist_pos hl hn hs ht (by simpa using hc)
    omega
omit hl hn hs hy in
theorem Bfs.skip {T : List Nat} {i m : Nat} (h : Bfs s T i m) (hin : T.getD i 0 ^^^ s.getD m 0 ∈ T) : Bfs s T i (m + 1) :=
  ⟨h.nodup, h.rch, h.zero, h.lt, h.sorted, h.done, fun l hl => by
    by_cases e : l = m
    · rw [e]; exact hin
    · exact h.cur l (by omega), h.near, h.full⟩
theorem Bfs.add {T : List Nat} {i m : Nat} (h : Bfs s T i m) (hm : m < n) (hin : T.getD i 0 ^^^ s.getD m 0 ∉ T) :
    Bfs s (T ++ [T.getD i 0 ^^^ s.getD m 0]) i (m + 1) ∧ dist s (T.getD i 0 ^^^ s.getD m 0) = dist s (T.getD i 0) + 1 ∧ Rch s (T.getD i 0 ^^^ s.getD m 0) := by
  obtain ⟨h1, h2⟩ := dist_step hl hn hs hy (h.rch _ (getD_mem h.lt)) hm
  obtain ⟨x, hx⟩ : ∃ x, T.getD i 0 ^^^ s.getD m 0 = x := ⟨_, rfl⟩
  rw [hx] at h1 h2 hin
  have h3 : dist s x = dist s (T.getD i 0) + 1 := by
    apply Decidable.byContradiction
    intro hc
    exact hin (h.full x h1 (by omega))
  rw [hx]
  have hg := getD_app (x := x) h.lt
  refine ⟨⟨?_, ?_, by simp [h.zero], by simp; have := h.lt; omega, ?_, ?_, ?_, ?_, ?_⟩, h3, h1⟩
  · rw [List.nodup_append]
    exact ⟨h.nodup, by simp, fun a ha b hb hab => by
      obtain rfl : b = x := by simpa using hb
      exact hin (hab ▸ ha)⟩
  · intro t ht
    rcases List.mem_append.1 ht with ht | ht
    · exact h.rch t ht
    · obtain rfl : t = x := by simpa using ht
      exact h1
  · rw [List.pairwise_append]
    exact ⟨h.sorted, by simp, fun a ha b hb => by
      obtain rfl : b = x := by simpa using hb
      rw [h3]; exact h.near a ha⟩
  · intro j hj l hl2
    rw [getD_app (by have := h.lt; omega)]
    exact List.mem_append_left _ (h.done j hj l hl2)
  · intro l hl2
    rw [hg]
    by_cases e : l = m
    · rw [e, hx]; simp
    · exact List.mem_append_left _ (h.cur l (by omega))
  · intro t ht
    rw [hg]
    rcases List.mem_append.1 ht with ht | ht
    · exact h.near t ht
    · obtain rfl : t = x := by simpa using ht
      omega
  · intro t ht h4
    rw [hg] at h4
    exact List.mem_append_left _ (h.full t ht h4)
omit hl hn hs hy in
theorem Bfs.mono {T : List Nat} {i m : Nat} (h : Bfs s T i m) {j k : Nat} (hjk : j ≤ k) (hk : k < T.length) : dist s (T.getD j 0) ≤ dist s (T.getD k 0) := by
  by_cases e : j = k
  · rw [e]; exact Nat.le_refl _
  · have := List.pairwise_iff_getElem.1 h.sorted j k (by omega) hk (by omega)
    simpa [List.getD_eq_getElem?_getD, hk, show j < T.length by omega] using this
omit hy in
theorem Bfs.next {T : List Nat} {i : Nat} (h : Bfs s T i n) (hy : Sym s) (hi : i + 1 < T.length) : Bfs s T (i + 1) 0 := by
  have hm : dist s (T.getD i 0) ≤ dist s (T.getD (i + 1) 0) := h.mono (Nat.le_succ i) hi
  refine ⟨h.nodup, h.rch, h.zero, hi, h.sorted, fun j hj l hl2 => ?_, fun l hl2 => by omega, fun t ht => ?_, fun t ht hd => ?_⟩
  · by_cases e : j = i
    · rw [e]; exact h.cur l (by omega)
    · exact h.done j (by omega) l hl2
  · have := h.near t ht; omega
  · by_cases hle : dist s t ≤ dist s (T.getD i 0)
    · exact h.full t ht hle
    · have hn1 := h.near _ (getD_mem hi)
      have h0 : t ≠ 0 := by
        rintro rfl
        rw [(dist_zero hl hn hs hy).2] at hle
        omega
      obtain ⟨l, hln, hr, hd2⟩ := dist_down hl hn hs hy ht h0
      have hin := h.full _ hr (by omega)
      obtain ⟨j, hj, hje⟩ := List.getElem_of_mem hin
      have hjg : T.getD j 0 = t ^^^ s.getD l 0 := by rw [← hje]; simp [List.getD_eq_getElem?_getD, hj]
      have hji : j ≤ i := by
        apply Decidable.byContradiction
        intro hc
        have := h.mono (j := i + 1) (k := j) (by omega) hj
        rw [hjg] at this
        omega
      have hd3 : T.getD j 0 ^^^ s.getD l 0 ∈ T := by
        by_cases e : j = i
        · rw [e]; exact h.cur l (by omega)
        · exact h.done j (by omega) l (by omega)
      rw [hjg, xor_cancel] at hd3
      exact hd3
omit hy in
theorem Bfs.last {T : List Nat} {i : Nat} (h : Bfs s T i n) (hy : Sym s) (hi : i + 1 = T.length) : ∀ t, Rch s t → t ∈ T := by
  have hall : ∀ d t, Rch s t → dist s t = d → t ∈ T := by
    intro d
    induction d with
    | zero =>
      intro t ht hd
      exact h.full t ht (by omega)
    | succ d ih =>
      intro t ht hd
      have h0 : t ≠ 0 := by
        rintro rfl
        rw [(dist_zero hl hn hs hy).2] at hd
        omega
      obtain ⟨l, hln, hr, hd2⟩ := dist_down hl hn hs hy ht h0
      have hin := ih _ hr (by omega)
      obtain ⟨j, hj, hje⟩ := List.getElem_of_mem hin
      have hjg : T.getD j 0 = t ^^^ s.getD l 0 := by rw [← hje]; simp [List.getD_eq_getElem?_getD, hj]
      have hd3 : T.getD j 0 ^^^ s.getD l 0 ∈ T := by
        by_cases e : j = i
        · rw [e]; exact h.cur l (by omega)
        · exact h.done j (by omega) l (by omega)
      rw [hjg, xor_cancel] at hd3
      exact hd3
  exact fun t ht => hall _ t ht rfl
theorem Bfs.enough {T : List Nat} {i m : Nat} (h : Bfs s T i m) (hc : T.length = 2 ^ (n - (quietL s).length)) : ∀ t, Rch s t → t ∈ T := by
  have h1 := nodup_all (B := imgK s n) h.nodup (fun x hx => (img_mem hl hn hs hy x).2 (by have := h.rch x hx; unfold Rch at this; rwa [hl] at this)) (by rw [img_len hl hn hs]; omega)
  exact fun t ht => h1 t ((img_mem hl hn hs hy t).2 (by unfold Rch at ht; rwa [hl] at ht))
theorem Bfs.most {T : List Nat} {i m : Nat} (h : Bfs s T i m) : T.length ≤ 2 ^ (n - (quietL s).length) := by
  rw [← img_len hl hn hs]
  exact nodup_sub T (imgK s n) h.nodup (fun x hx => (img_mem hl hn hs hy x).2 (by have := h.rch x hx; unfold Rch at this; rwa [hl] at this))
end
end Go.Proofs.Ytpdgjjpfahobaaa
