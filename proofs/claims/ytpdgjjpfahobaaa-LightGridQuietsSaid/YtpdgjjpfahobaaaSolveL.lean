/- What solving answers: a set with the target as its effect, or else a quiet set refutes the target. -/
import Derived.Test.YtpdgjjpfahobaaaLampB
namespace Go.Proofs.Ytpdgjjpfahobaaa
open Go.RowKit Lamp

section
variable {n : Nat} {s : List Nat} (hl : s.length = n) (hn : n ≤ 16) (hs : ∀ x ∈ s, x < 2 ^ n)
include hl hn hs

omit hl in
theorem s_big : ∀ x ∈ s, x < 65536 := fun x hx => Nat.lt_of_lt_of_le (hs x hx) (pow_split hn)
theorem inv_all : Inv s n (redAll s n).1 (redAll s n).2 := Inv.all_ s (by omega) (s_big hn hs) n (by omega)
theorem red_of (t : Nat) (ht : t < 2 ^ n) : InSpan (redAll s n).1 (rowV 0 t ^^^ redF (redAll s n).1 (rowV 0 t)) ∧ (redF (redAll s n).1 (rowV 0 t) / 65536 = 0 ∨ (redAll s n).1.getD (redF (redAll s n).1 (rowV 0 t) / 65536).log2 0 = 0) := by
  have h := pow_split hn
  exact red_out (inv_all hl hn hs).tab 16 (rowV 0 t) (by rw [rowV_div (by decide)]; omega)

theorem solve_right {t : Nat} (ht : t < 2 ^ n) (h : (solveL s t).1 = true) : comb (solveL s t).2 s = t ∧ (solveL s t).2 < 2 ^ n := by
  obtain ⟨h1, _⟩ := red_of hl hn hs t ht
  have h2 := (inv_all hl hn hs).span h1
  unfold solveL at h ⊢
  rw [hl] at h ⊢
  simp only at h ⊢
  split at h
  · rename_i h0
    rw [if_pos h0]
    rw [xor_div16, xor_mod16, rowV_div (by decide), rowV_mod (by decide), h0, Nat.xor_zero, Nat.zero_xor] at h2
    exact ⟨h2.2.1, h2.2.2.1⟩
  · cases h
omit hl hn hs in
theorem solve_zero {t : Nat} (h : (solveL s t).1 = false) : solveL s t = (false, 0) := by
  unfold solveL at h ⊢
  simp only at h ⊢
  split at h
  · cases h
  · rename_i h0; rw [if_neg h0]

omit hn hs in
theorem comb_low (x : Nat) : comb (x % 2 ^ n) s = comb x s := by
  unfold comb
  refine combK_low _ _ _ _ fun i hi => ?_
  rw [Nat.testBit_mod_two_pow]
  simp [show i < n by omega]
omit hl hn hs in
theorem quiet_comb {x t : Nat} {Q : List Nat} (h : ∀ q ∈ Q, ip q t = false) (hx : ∃ c, x = comb c Q) : ip x t = false := by
  obtain ⟨c, rfl⟩ := hx
  rw [ip_comm]
  unfold comb
  rw [ip_combK]
  rw [sumB_congr (g := fun _ => false) (fun i hi => ?_), sumB_false]
  have : Q.getD i 0 = Q[i] := by simp [List.getD_eq_getElem?_getD, hi]
  rw [this, ip_comm, h _ (List.getElem_mem hi), Bool.and_false]

theorem solve_full (hy : Sym s) {t : Nat} (ht : t < 2 ^ n) (h : (solveL s t).1 = false) : ∃ q ∈ (redAll s n).2, ip q t = true := by
  have hI := inv_all hl hn hs
  obtain ⟨h1, h2⟩ := red_of hl hn hs t ht
  obtain ⟨R, hR⟩ : ∃ R, (redAll s n).1 = R := ⟨_, rfl⟩
  obtain ⟨Q, hQ⟩ : ∃ Q, (redAll s n).2 = Q := ⟨_, rfl⟩
  have hv : redF R (rowV 0 t) / 65536 ≠ 0 := by
    unfold solveL at h
    rw [hl, hR] at h
    simp only at h
    split at h
    · cases h
    · assumption
  rw [hR, hQ] at hI
  rw [hR] at h1 h2
  rw [hQ]
  have h3 := h2.resolve_left hv
  obtain ⟨r, hr⟩ : ∃ r, redF R (rowV 0 t) = r := ⟨_, rfl⟩
  rw [hr] at h1 h3 hv
  obtain ⟨v, hvv⟩ : ∃ v, r / 65536 = v := ⟨_, rfl⟩
  rw [hvv] at h3 hv
  have hp16 := pow_split hn
  have hvlt : v < 65536 := by
    have h4 := (hI.span h1).1
    have h5 : (rowV 0 t ^^^ r) / 65536 < 65536 := by omega
    rw [xor_div16, rowV_div (by decide), hvv] at h5
    have h6 : v = (t ^^^ v) ^^^ t := by rw [Nat.xor_comm t v, xor_cancel]
    rw [h6]
    exact Nat.xor_lt_two_pow (n := 16) h5 (by omega)
  have hg : v.log2 < 16 := log2_lt' hv (by omega)
  obtain ⟨x, hx⟩ : ∃ x, dual (fun k => R.getD k 0 / 65536) (fun k => decide (R.getD k 0 ≠ 0)) v.log2 16 = x := ⟨_, rfl⟩
  have hrow : ∀ k, ip x (R.getD k 0 / 65536) = false := by
    intro k
    by_cases hk : R.getD k 0 = 0
    · rw [hk, Nat.zero_div]; exact ip_zero x
    · have hk16 : k < 16 := by
        apply Decidable.byContradiction
        intro hc
        exact hk (by rw [List.getD_eq_getElem?_getD, List.getElem?_eq_none (by rw [hI.tab.1]; omega)]; rfl)
      obtain ⟨e1, e2⟩ := hI.tab.2 k hk
      rw [← hx]
      exact dual_row (fun k => R.getD k 0 / 65536) _ _ k hk16 (decide_eq_true hk) e1 e2
  have hspan : ∀ z, InSpan R z → ip x (z / 65536) = false := fun z hz =>
    InSpan.ind (P := fun z => ip x (z / 65536) = false) (by rw [Nat.zero_div]; exact ip_zero x) (fun a b ha hb => by rw [xor_div16, ip_xor, ha, hb]; rfl) hrow hz
  have hxv : ip x v = true := by
    have e1 := log2_le hv
    have e2 := lt_log2 v
    have e3 : v = (v ^^^ 2 ^ v.log2) ^^^ 2 ^ v.log2 := (xor_cancel _ _).symm
    have e4 : v ^^^ 2 ^ v.log2 < 2 ^ v.log2 := xor_tops e1 e2 (Nat.le_refl _) (Nat.pow_lt_pow_right (by decide) (by omega))
    have e5 : ip x (v ^^^ 2 ^ v.log2) = ip 0 (v ^^^ 2 ^ v.log2) := ip_low (by omega) e4 fun i hi => by
      rw [← hx, dual_bit _ _ _ v.log2 16 i (by omega) hi, dual_zero _ _ _ _ (Nat.le_refl _)]
    have e6 : ip x (2 ^ v.log2) = x.testBit v.log2 := by
      unfold ip
      rw [sumB_one _ v.log2 16 hg (fun i _ hne => by rw [Nat.testBit_two_pow]; simp [Ne.symm hne])]
      rw [Nat.testBit_two_pow]; simp
    have e7 : x.testBit v.log2 = true := by
      rw [← hx, dual_at _ _ _ _ _ hg, dual_zero _ _ _ _ (Nat.le_refl _)]
      have h3' : R[v.log2]?.getD 0 = 0 := by rwa [List.getD_eq_getElem?_getD] at h3
      unfold dualB
      simp [h3']
    rw [e3, ip_xor, e5, e6, e7, ip_comm, ip_zero]
    rfl
  have hxt : ip x t = true := by
    have e1 := hspan _ h1
    rw [xor_div16, rowV_div (by decide), hvv, ip_xor, hxv] at e1
    revert e1
    cases ip x t <;> simp
  have hall : ∀ y, y < 2 ^ n → ip x (comb y s) = false := fun y hyn => by
    obtain ⟨c, z, _, hz, e, _⟩ := hI.all y hyn
    rw [← e]; exact hspan z hz
  have hcx : comb x s = 0 := by
    apply Nat.eq_of_testBit_eq
    intro i
    rw [Nat.zero_testBit]
    by_cases hi : i < n
    · have e := hall (2 ^ i) (Nat.pow_lt_pow_right (by decide) hi)
      rw [ip_sym hy, ip_comm] at e
      have e6 : ip (comb x s) (2 ^ i) = (comb x s).testBit i := by
        unfold ip
        rw [sumB_one _ i 16 (by omega) (fun j _ hne => by rw [Nat.testBit_two_pow]; simp [Ne.symm hne])]
        rw [Nat.testBit_two_pow]; simp
      rw [← e6]; exact e
    · exact Nat.testBit_lt_two_pow (Nat.lt_of_lt_of_le (comb_lt x s hs) (Nat.pow_le_pow_right (by decide) (by omega)))
  obtain ⟨c, z, _, hz, e1, e2⟩ := hI.all (x % 2 ^ n) (Nat.mod_lt _ (Nat.two_pow_pos n))
  rw [comb_low hl, hcx] at e1
  have hz0 := hz.small hI.tab e1
  rw [hz0, Nat.zero_mod] at e2
  have hxc : x % 2 ^ n = comb c Q := by
    have e3 : x % 2 ^ n = (x % 2 ^ n ^^^ comb c Q) ^^^ comb c Q := (xor_cancel _ _).symm
    rw [← e2, Nat.zero_xor] at e3
    exact e3
  have hxn : ip (x % 2 ^ n) t = true := by
    rw [← hxt]
    exact ip_low hn ht fun i hi => by rw [Nat.testBit_mod_two_pow]; simp [hi]
  apply Decidable.byContradiction
  intro hno
  have := quiet_comb (t := t) (Q := Q) (fun q hq => by
    cases e : ip q t with
    | false => rfl
    | true => exact absurd ⟨q, hq, e⟩ hno) ⟨c, hxc⟩
  rw [hxn] at this
  cases this
end
end Go.Proofs.Ytpdgjjpfahobaaa
