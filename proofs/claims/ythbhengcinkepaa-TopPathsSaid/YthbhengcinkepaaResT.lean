/- The functions Results, Ways and Twins of package dice: of dice they return the number of results, the ways for a sum, and just the pairs that the plain search finds; otherwise the error that Check returns. -/

import Derived.Test.YthbhengcinkepaaCheck
import Derived.Test.YthbhengcinkepaaWays
namespace Go.Proofs.Ythbhengcinkepaa.Dic
open Go.RowKit Go.Maps

theorem sortTo_le {d : List Int} : ∀ {k : Nat}, sortTo d k = true → ∀ j i, i ≤ j → j ≤ k → d.getD i 0 ≤ d.getD j 0
  | 0, _, j, i, h1, h2 => by
    obtain rfl : j = 0 := by omega
    obtain rfl : i = 0 := by omega
    exact Int.le_refl _
  | k + 1, h, j, i, h1, h2 => by
    simp only [sortTo, Bool.and_eq_true, decide_eq_true_eq] at h
    rcases Nat.lt_or_ge j (k + 1) with hj | hj
    · exact sortTo_le h.1 j i h1 (by omega)
    · obtain rfl : j = k + 1 := by omega
      rcases Nat.lt_or_ge i (k + 1) with hi | hi
      · exact Int.le_trans (sortTo_le h.1 k i (by omega) (Nat.le_refl _)) h.2
      · obtain rfl : i = k + 1 := by omega
        exact Int.le_refl _

/-- A die: not too long, not empty, rising, from 0 to 60. -/
structure IsDie (d : List Int) : Prop where
  ok : DieOk d
  ne : 1 ≤ d.length
  sorted : sortB d = true

theorem isDie_of {d : List Int} (h8 : d.length ≤ 8) (h : noDie d = false) : IsDie d := by
  simp only [noDie, Bool.or_eq_false_iff, decide_eq_false_iff_not, Bool.not_eq_false'] at h
  obtain ⟨⟨⟨h1, h2⟩, h3⟩, h4⟩ := h
  have hne : d ≠ [] := by intro e; rw [e] at h1; simp at h1
  have hpos : 1 ≤ d.length := List.length_pos_iff.2 hne
  refine ⟨⟨h8, fun x hx => ?_⟩, hpos, h2⟩
  obtain ⟨i, hi⟩ := List.mem_iff_getElem?.1 hx
  have hil : i < d.length := (List.getElem?_eq_some_iff.1 hi).1
  have e : d.getD i 0 = x := by simp [List.getD, hi]
  have a := sortTo_le h2 i 0 (by omega) (by omega)
  have b := sortTo_le h2 (d.length - 1) i (by omega) (Nat.le_refl _)
  rw [e] at a b
  omega

/-- Some dice. -/
structure AreDice (ds : List (List Int)) : Prop where
  pos : 1 ≤ ds.length
  len : ds.length ≤ 6
  die : ∀ d ∈ ds, IsDie d

theorem areDice_of {ds : List (List Int)} (h : checkL ds = 0) : AreDice ds := by
  unfold checkL at h
  split at h
  · omega
  · rename_i h1
    split at h
    · omega
    · rename_i h2
      have h3 : ∀ d ∈ ds, d.length ≤ 8 := fun d hd => by
        rcases Nat.lt_or_ge 8 d.length with h4 | h4
        · exact absurd (Or.inr (List.any_eq_true.2 ⟨d, hd, by simpa using h4⟩)) h1
        · exact h4
      refine ⟨?_, ?_, fun d hd => isDie_of (h3 d hd) ?_⟩
      · rcases Nat.eq_zero_or_pos ds.length with h4 | h4
        · exact absurd (Or.inl h4) h2
        · exact h4
      · rcases Nat.lt_or_ge 6 ds.length with h4 | h4
        · exact absurd (Or.inl h4) h1
        · exact h4
      · cases hn : noDie d
        · rfl
        · exact absurd (Or.inr (List.any_eq_true.2 ⟨d, hd, hn⟩)) h2
theorem checkL_zero {ds : List (List Int)} (h : AreDice ds) : checkL ds = 0 := by
  have h1 := h.pos
  have h2 := h.len
  have ha : ds.any (fun d => decide (8 < d.length)) = false := by
    rw [List.any_eq_false]
    intro d hd
    have := (h.die d hd).ok.1
    simp; omega
  have hb : ds.any noDie = false := by
    rw [List.any_eq_false]
    intro d hd
    have hd2 := h.die d hd
    have hl := hd2.ne
    have e0 : d[0]? = some d[0] := List.getElem?_eq_getElem (by omega)
    have el : d[d.length - 1]? = some d[d.length - 1] := List.getElem?_eq_getElem (by omega)
    have b0 := hd2.ok.2 _ (List.mem_of_getElem? e0)
    have bl := hd2.ok.2 _ (List.mem_of_getElem? el)
    have g0 : d.getD 0 0 = d[0] := by simp [List.getD, e0]
    have gl : d.getD (d.length - 1) 0 = d[d.length - 1] := by simp [List.getD, el]
    have hne : d.isEmpty = false := by cases d with | nil => simp at hl | cons => rfl
    simp only [noDie, hd2.sorted, g0, gl, hne, Bool.not_true, Bool.or_self, Bool.false_or, Bool.or_eq_true, decide_eq_true_eq]
    omega
  unfold checkL
  rw [ha, hb, if_neg (by simp; omega), if_neg (by simp; intro e; rw [e] at h1; simp at h1)]

/-- The number of results of the first k dice. -/
def resTo (ds : List (List Int)) : Nat → Nat
  | 0 => 1
  | k + 1 => resTo ds k * (ds.getD k []).length
def resL (ds : List (List Int)) : Nat := resTo ds ds.length
theorem resTo_le {ds : List (List Int)} (h : AreDice ds) : ∀ k, k ≤ ds.length → resTo ds k ≤ 8 ^ k
  | 0, _ => by simp [resTo]
  | k + 1, hk => by
    have e : ds[k]? = some ds[k] := List.getElem?_eq_getElem (by omega)
    have e2 : ds.getD k [] = ds[k] := by simp [List.getD, e]
    rw [resTo, e2, Nat.pow_succ]
    exact Nat.mul_le_mul (resTo_le h k (by omega)) (h.die _ (List.mem_of_getElem? e)).ok.1

set_option maxHeartbeats 1000000 in
theorem Results_ok (A : Option Addr) (ds : List (List Int)) (c B : Nat) (w : World) (hr : RDice w B A ds) (hd : AreDice ds) :
    Calls Try.prog 87 #[.slice A ds.length c] w fun e w' => e = .returned (.tuple #[.int .i64 (resL ds), .int .i64 0]) ∧ ∃ n, w' = w.drewN n := by
  have h6 := hd.len
  have HC := Lib.hid (check_any A ds c B w hr (by omega) (fun d h => by have := (hd.die d h).ok.1; omega))
  have HZ := Lib.hid (checkL_zero hd)
  have HD := Lib.hid hd
  have HR := Lib.hid hr
  have HL := Lib.hid (resTo_le hd)
  clear hr hd
  go_enter Try.func87, Try.ntmps87
  go_wp2_with fail
  refine HC.out.mono ?_
  rintro e w' ⟨rfl, n, rfl⟩
  rw [HZ.out]
  go_wp2_with fail
  go_loop [5, 15] (fun v i => ∃ k : Nat, k ≤ ds.length ∧ i = .int .i64 k ∧ v = .int .i64 (resTo ds k)) (fun _ i => ds.length - (intOf i).toNat)
  case atStart => exact ⟨0, by omega, rfl, rfl⟩
  case round =>
    obtain ⟨k, hk, rfl, rfl⟩ := hrel
    by_cases hlt : k < ds.length
    · obtain ⟨b, o, a, cd, d, hA, hb, hdk, hc, _, hri⟩ := HR.out.at_ hlt
      subst hA
      have hd8 := (HD.out.die d (List.mem_of_getElem? hdk)).ok.1
      have h1 := HL.out k (by omega)
      have h2 : 8 ^ k ≤ 32768 := by
        have := Nat.pow_le_pow_right (n := 8) (by omega) (show k ≤ 5 by omega)
        simpa using this
      have e2 : ds.getD k [] = d := by simp [List.getD, hdk]
      have hm : resTo ds k * d.length ≤ 32768 * 8 := Nat.mul_le_mul (by omega) hd8
      obtain ⟨q, hq⟩ : ∃ q, q = resTo ds k := ⟨_, rfl⟩
      have HQ := Lib.hid (show resTo ds (k + 1) = q * d.length by rw [resTo, e2, hq])
      rw [← hq] at hm ⊢
      obtain ⟨p, hp⟩ : ∃ p, p = q * d.length := ⟨_, rfl⟩
      have hpi : (q : Int) * (d.length : Int) = (p : Int) := by rw [hp]; push_cast; rfl
      rw [← hp] at hm HQ
      clear h1 h2 hdk hri e2 hq hp
      go_wp2_with fail
      go_round
      case rel => exact ⟨k + 1, by omega, by go_num, by rw [HQ.out]⟩
      case measure => simp [intOf]; omega
    · obtain rfl : k = ds.length := by omega
      go_wp2_with fail
      go_ret2
      exact ⟨rfl, n, rfl⟩

end Go.Proofs.Ythbhengcinkepaa.Dic
