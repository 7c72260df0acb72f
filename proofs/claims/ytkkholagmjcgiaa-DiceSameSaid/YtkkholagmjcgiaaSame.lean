/- The function Same of package dice, at dice: whether the sums of both, each with its ways, are the same. -/
import Derived.Test.YtkkholagmjcgiaaShelf3
import Derived.Test.YtkkholagmjcgiaaAddsL
import Derived.Test.YtkkholagmjcgiaaRing
namespace Go.Proofs.Ytkkholagmjcgiaa
open Go.RowKit Go.Maps

/-- Two literal numbers, compared. -/
def eqLit : DataW Unit → DataW Unit → Bool
  | .lit (.int _ a), .lit (.int _ b) => a == b
  | _, _ => false

section
variable {w : World} {b1 b2 n1 n2 : Nat} {D1 D2 : DataW Unit} {f1 f2 : Int → Int}
theorem owns_form (h : w.ownsMap Try.prog 3 (plainElem Try.prog 2) b1 n1 D1) : ∃ es, D1 = .map es ∧ Maps.size D1 = (intKeys D1).length ∧ (∀ p ∈ es, ∃ x, p.1 = .int .i64 x ∧ x ∈ intKeys D1 ∧ ∀ z, D1.atKey (.int .i64 x) z = p.2) ∧ ∀ x ∈ intKeys D1, ∃ p ∈ es, p.1 = .int .i64 x := by
  obtain ⟨es, hD, hpw, hkeys⟩ := h.entries lawI
  obtain ⟨es', hD', hko⟩ := h.keysOf
  obtain rfl : es = es' := by rw [hD] at hD'; simpa using hD'
  subst hD
  refine ⟨es, rfl, ?_, fun p hp => ?_, fun x hx => ?_⟩
  · rw [Maps.size_eq]
    simp [intKeys]
  · obtain ⟨v, hv⟩ := hko p hp
    obtain ⟨x, _, hx, _⟩ := Maps.keyOf_i64 Try.underlying3 hv
    refine ⟨x, hx, ?_, fun z => ?_⟩
    · simp only [intKeys, List.mem_map]
      exact ⟨p, hp, by rw [hx]; rfl⟩
    · have := WideAt.atKey_mem (k := p.1) z (hkeys p hp) hpw hp
      rw [hx] at this
      exact this
  · simp only [intKeys, List.mem_map] at hx
    obtain ⟨p, hp, e⟩ := hx
    obtain ⟨v, hv⟩ := hko p hp
    obtain ⟨y, _, hy, _⟩ := Maps.keyOf_i64 Try.underlying3 hv
    rw [hy] at e
    have e2 : y = x := e
    exact ⟨p, hp, by rw [hy, e2]⟩

theorem equal_iff (h1 : w.ownsMap Try.prog 3 (plainElem Try.prog 2) b1 n1 D1) (h2 : w.ownsMap Try.prog 3 (plainElem Try.prog 2) b2 n2 D2)
    (a1 : ∀ x, W64 x → D1.atKey (.int .i64 x) (.lit (.int .i64 0)) = .lit (.int .i64 (f1 x))) (s1 : ∀ x, W64 x → Maps.has D1 (.int .i64 x) = nz f1 x)
    (a2 : ∀ x, W64 x → D2.atKey (.int .i64 x) (.lit (.int .i64 0)) = .lit (.int .i64 (f2 x))) (s2 : ∀ x, W64 x → Maps.has D2 (.int .i64 x) = nz f2 x) :
    Lib.equalFuncD eqLit D1 D2 = true ↔ ∀ x, W64 x → f1 x = f2 x := by
  obtain ⟨es1, e1, z1, k1, m1⟩ := owns_form h1
  obtain ⟨es2, e2, z2, _, _⟩ := owns_form h2
  obtain ⟨n1', w1', i1⟩ := mem_keys h1
  obtain ⟨n2', w2', i2⟩ := mem_keys h2
  have hen : Lib.entriesD D1 = es1 := by rw [e1]; rfl
  have hgood : ∀ p ∈ es1, ∀ x, p.1 = .int .i64 x → x ∈ intKeys D1 → p.2 = .lit (.int .i64 (f1 x)) ∧ Lib.goodD eqLit D2 p = (decide (x ∈ intKeys D2) && (f1 x == f2 x)) := fun p hp x hx hin => by
    have h64 := w1' x hin
    obtain ⟨y, hy, _, hat⟩ := k1 p hp
    obtain rfl : y = x := by rw [hx] at hy; injection hy with _ e; exact e.symm
    have hp2 : p.2 = .lit (.int .i64 (f1 y)) := (hat (.lit (.int .i64 0))).symm.trans (a1 y h64)
    refine ⟨hp2, ?_⟩
    unfold Lib.goodD
    rw [hx, hp2]
    by_cases hk : y ∈ intKeys D2
    · have hh := (i2 y).1 hk
      rw [hh, Maps.atKey_indep hh .nil (.lit (.int .i64 0)), a2 y h64, decide_eq_true hk]
      rfl
    · have hh : Maps.has D2 (.int .i64 y) = false := by
        cases hc : Maps.has D2 (.int .i64 y)
        · rfl
        · exact absurd ((i2 y).2 hc) hk
      rw [hh, decide_eq_false hk]
      rfl
  have hz : ∀ x, W64 x → (x ∈ intKeys D1 ↔ f1 x ≠ 0) ∧ (x ∈ intKeys D2 ↔ f2 x ≠ 0) := fun x h => by
    rw [i1, i2, s1 x h, s2 x h, nz_iff, nz_iff]
    exact ⟨Iff.rfl, Iff.rfl⟩
  unfold Lib.equalFuncD
  rw [hen, Bool.and_eq_true, decide_eq_true_eq, List.all_eq_true, z1, z2]
  constructor
  · rintro ⟨hs, hall⟩ x hx
    have hG : ∀ x ∈ intKeys D1, x ∈ intKeys D2 ∧ f1 x = f2 x := fun x hin => by
      obtain ⟨p, hp, he⟩ := m1 x hin
      have h9 := hall p hp
      rw [(hgood p hp x he hin).2, Bool.and_eq_true, decide_eq_true_eq, beq_iff_eq] at h9
      exact h9
    by_cases hin : x ∈ intKeys D1
    · exact (hG x hin).2
    · have hf1 : f1 x = 0 := Classical.byContradiction fun h => hin ((hz x hx).1.2 h)
      rw [hf1]
      refine Classical.byContradiction fun h => ?_
      have hin2 := (hz x hx).2.2 (fun e => h e.symm)
      have := nodup_le (x :: intKeys D1) (intKeys D2) (List.nodup_cons.2 ⟨hin, n1'⟩) (fun y hy => by
        rcases List.mem_cons.1 hy with rfl | hy
        · exact hin2
        · exact (hG y hy).1)
      rw [List.length_cons] at this
      omega
  · intro hf
    have hsub : ∀ x, x ∈ intKeys D1 → x ∈ intKeys D2 := fun x hin => (hz x (w1' x hin)).2.2 (by rw [← hf x (w1' x hin)]; exact (hz x (w1' x hin)).1.1 hin)
    have hsub2 : ∀ x, x ∈ intKeys D2 → x ∈ intKeys D1 := fun x hin => (hz x (w2' x hin)).1.2 (by rw [hf x (w2' x hin)]; exact (hz x (w2' x hin)).2.1 hin)
    refine ⟨Nat.le_antisymm (nodup_le _ _ n1' hsub) (nodup_le _ _ n2' hsub2), fun p hp => ?_⟩
    obtain ⟨x, hx, hin, _⟩ := k1 p hp
    rw [(hgood p hp x hx hin).2, decide_eq_true (hsub x hin), hf x (w1' x hin)]
    simp
end

/-- Whether two lists of dice have the same sums, each as often. -/
def sameB (a b : List (List Int)) : Bool := decide (sumsL a = sumsL b)
theorem sums_keys (ds : List (List Int)) : (sumsL ds).map (fun p : Int × Int => p.1) = keysW ds := by
  unfold sumsL
  rw [List.map_map]
  exact List.map_id' _
theorem sameB_iff {a b : List (List Int)} (ha : AreDice a) (hb : AreDice b) : sameB a b = true ↔ ∀ x, W64 x → waysF a x = waysF b x := by
  unfold sameB
  rw [decide_eq_true_eq]
  constructor
  · intro h x _
    have hk : keysW a = keysW b := by
      have := congrArg (List.map fun p : Int × Int => p.1) h
      rwa [sums_keys, sums_keys] at this
    by_cases hin : x ∈ keysW a
    · obtain ⟨i, hi⟩ := List.mem_iff_getElem?.1 hin
      have h1 : (sumsL a)[i]? = some (x, waysF a x) := by simp [sumsL, hi]
      have h2 : (sumsL b)[i]? = some (x, waysF b x) := by rw [hk] at hi; simp [sumsL, hi]
      rw [h, h2] at h1
      injection h1 with h1
      exact (Prod.mk.inj h1).2.symm
    · have hz : ∀ {ds : List (List Int)}, AreDice ds → x ∉ keysW ds → waysF ds x = 0 := fun hd hn => by
        refine Classical.byContradiction fun hne => hn ?_
        have := (waysOk_all _ (fun d h => (hd.die d h).ok) hd.len).2 x hne
        unfold keysW
        rw [List.mem_filter, mem_evK]
        exact ⟨by omega, nz_iff.2 hne⟩
      rw [hz ha hin, hz hb (by rw [← hk]; exact hin)]
  · intro h
    have hk : keysW a = keysW b := by
      unfold keysW
      refine List.filter_congr fun x hx => ?_
      have hx2 := mem_evK.1 hx
      unfold nz
      rw [h x ⟨by omega, by omega⟩]
    unfold sumsL
    rw [← hk]
    refine List.map_congr_left fun x hx => ?_
    unfold keysW at hx
    rw [List.mem_filter, mem_evK] at hx
    rw [h x ⟨by omega, by omega⟩]

end Go.Proofs.Ytkkholagmjcgiaa
