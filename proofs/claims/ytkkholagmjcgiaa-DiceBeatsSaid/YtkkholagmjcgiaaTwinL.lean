/- The ways of two dice, as plain mathematics: from the least sum on, as many as the product of the numbers of sides. No program is spoken of. -/
import Derived.Test.YtkkholagmjcgiaaResults
namespace Go.Proofs.Ytkkholagmjcgiaa
open Go.RowKit Go.Maps

theorem evK_succ (k : Nat) : evK (k + 1) = evK k ++ [(k : Int)] := by simp [evK, List.range_succ]
theorem sumF_append (f : Int → Int) (a b : List Int) : sumF f (a ++ b) = sumF f a + sumF f b := by simp [sumF]
theorem sumF_ext {f : Int → Int} {K : Nat} (h : ∀ z : Int, (K : Int) ≤ z → f z = 0) : ∀ j, sumF f (evK (K + j)) = sumF f (evK K)
  | 0 => rfl
  | j + 1 => by
    rw [← Nat.add_assoc, evK_succ, sumF_append, sumF_ext h j]
    simp only [sumF, List.map_cons, List.map_nil, List.sum_cons, List.sum_nil]
    rw [h _ (by omega)]
    omega
theorem sumF_shift {f : Int → Int} (y : Nat) (h : ∀ z : Int, z < 0 → f z = 0) : ∀ K : Nat, sumF (fun s => f (s - (y : Int))) (evK (K + y)) = sumF f (evK K)
  | 0 => by
    rw [sumF_none]
    · rfl
    · intro z hz
      have := mem_evK.1 hz
      exact h _ (by omega)
  | K + 1 => by
    rw [show K + 1 + y = K + y + 1 by omega, evK_succ, evK_succ, sumF_append, sumF_append, sumF_shift y h K]
    simp only [sumF, List.map_cons, List.map_nil, List.sum_cons, List.sum_nil]
    rw [show ((K + y : Nat) : Int) - (y : Int) = (K : Int) by push_cast; omega]
theorem sumF_conv {f : Int → Int} {K : Nat} (h0 : ∀ z : Int, z < 0 → f z = 0) (h1 : ∀ z : Int, (K : Int) ≤ z → f z = 0) : ∀ (d : List Int) (i : Nat), (∀ x ∈ d, 0 ≤ x ∧ x ≤ 60) → sumF (cv f (fun _ _ => false) d i) (evK (K + 60)) = d.length * sumF f (evK K)
  | [], i, _ => by
    rw [sumF_none (f := cv f (fun _ _ => false) [] i) _ fun _ _ => rfl]
    simp
  | x :: r, i, hd => by
    have hx := hd x (by simp)
    have ih := sumF_conv h0 h1 r (i + 1) fun y hy => hd y (by simp [hy])
    have e : cv f (fun _ _ => false) (x :: r) i = fun s => f (s - x) + cv f (fun _ _ => false) r (i + 1) s := by funext s; simp [cv]
    obtain ⟨y, rfl⟩ := Int.eq_ofNat_of_zero_le hx.1
    have hs : sumF (fun s => f (s - (y : Int))) (evK (K + 60)) = sumF f (evK K) := by
      rw [show K + 60 = K + y + (60 - y) by omega, sumF_ext (K := K + y) (fun z hz => h1 _ (by push_cast at hz; omega)), sumF_shift y h0 K]
    rw [e, sumF_add, hs, ih]
    simp only [List.length_cons, Int.natCast_add, Int.natCast_one, Int.add_mul, Int.one_mul]
    omega
theorem sumF_filter (f : Int → Int) : ∀ l : List Int, sumF f (l.filter fun x => nz f x) = sumF f l
  | [] => rfl
  | x :: r => by
    have ih := sumF_filter f r
    by_cases h : f x = 0
    · rw [List.filter_cons_of_neg (by simp [nz, h]), ih]
      simp [sumF, h]
    · rw [List.filter_cons_of_pos (by simp [nz, h])]
      simp only [sumF, List.map_cons, List.sum_cons] at ih ⊢
      rw [ih]

/-- The keys of a map of ways of two dice. -/
def keys2 (f : Int → Int) : List Int := (evK 121).filter fun x => nz f x
/-- All twins of two dice, as the plain search finds them. -/
def twinsL (a b : List Int) : List (List Int × List Int) := pairsL a.length b.length (a.headD 0) (b.headD 0) (waysF [a, b]) (keys2 (waysF [a, b]))

theorem cv_ne {f : Int → Int} : ∀ (d : List Int) (i : Nat) (s : Int), cv f (fun _ _ => false) d i s ≠ 0 → ∃ x ∈ d, f (s - x) ≠ 0
  | [], _, _, h => absurd rfl h
  | x :: r, i, s, h => by
    by_cases e : f (s - x) = 0
    · have h2 : cv f (fun _ _ => false) r (i + 1) s ≠ 0 := by
        intro e2
        apply h
        simp [cv, e, e2]
      obtain ⟨y, hy, h3⟩ := cv_ne r (i + 1) s h2
      exact ⟨y, by simp [hy], h3⟩
    · exact ⟨x, by simp, e⟩
theorem cv_pos {f : Int → Int} (hf : ∀ y, 0 ≤ f y) : ∀ (d : List Int) (i : Nat) (s x : Int), x ∈ d → f (s - x) ≠ 0 → cv f (fun _ _ => false) d i s ≠ 0
  | y :: r, i, s, x, hx, h => by
    have h1 := hf (s - y)
    have h2 : 0 ≤ cv f (fun _ _ => false) r (i + 1) s := by
      have hg : ∀ (d : List Int) (i : Nat), 0 ≤ cv f (fun _ _ => false) d i s := by
        intro d
        induction d with
        | nil => intro i; simp [cv]
        | cons z t ih => intro i; have := ih (i + 1); have := hf (s - z); simp [cv]; omega
      exact hg r (i + 1)
    simp only [cv]
    rcases List.mem_cons.1 hx with rfl | hx
    · simp; omega
    · have h3 := cv_pos hf r (i + 1) s x hx h
      simp; omega

theorem head_le {d : List Int} (h : IsDie d) {x : Int} (hx : x ∈ d) : d.headD 0 ≤ x := by
  obtain ⟨i, hi⟩ := List.mem_iff_getElem?.1 hx
  have hil : i < d.length := (List.getElem?_eq_some_iff.1 hi).1
  have e : d.getD i 0 = x := by simp [List.getD, hi]
  have e0 : d.getD 0 0 = d.headD 0 := by
    have := head_at h.ne
    simp only [List.getD, this, Option.getD_some]
  have := sortTo_le h.sorted i 0 (by omega) (by omega)
  omega
theorem head_mem {d : List Int} (h : 1 ≤ d.length) : d.headD 0 ∈ d := List.mem_of_getElem? (head_at h)

theorem twinIn {a b : List Int} (ha : IsDie a) (hb : IsDie b) : PairsIn a.length b.length (a.headD 0) (b.headD 0) (waysF [a, b]) (nz (waysF [a, b])) (keys2 (waysF [a, b])) := by
  have hd : ∀ d ∈ [a, b], DieOk d := fun d h => by
    simp at h
    rcases h with rfl | rfl
    · exact ha.ok
    · exact hb.ok
  have hw2 := waysOk_take [a, b] hd 2 (by simp)
  have hw1 := waysOk_take [a, b] hd 1 (by simp)
  have e2 : [a, b].take 2 = [a, b] := rfl
  have e1 : [a, b].take 1 = [a] := rfl
  rw [e2] at hw2
  rw [e1] at hw1
  have hf : waysF [a, b] = conv (waysF [a]) b := rfl
  have hf1 : waysF [a] = conv one0 a := rfl
  have hA := ha.ok.2 _ (head_mem ha.ne)
  have hB := hb.ok.2 _ (head_mem hb.ne)
  have la := ha.ok.1
  have lb := hb.ok.1
  have na := ha.ne
  have nb := hb.ne
  have one_ne : ∀ z, one0 z ≠ 0 → z = 0 := fun z h => by unfold one0 at h; split at h <;> simp_all
  have split2 : ∀ x, waysF [a, b] x ≠ 0 → ∃ p ∈ a, ∃ q ∈ b, x = p + q := fun x hx => by
    rw [hf] at hx
    obtain ⟨q, hq, h2⟩ := cv_ne b 0 x hx
    rw [hf1] at h2
    obtain ⟨p, hp, h3⟩ := cv_ne a 0 (x - q) h2
    have := one_ne _ h3
    exact ⟨p, hp, q, hq, by omega⟩
  have mem_keys2 : ∀ x, x ∈ keys2 (waysF [a, b]) ↔ waysF [a, b] x ≠ 0 := fun x => by
    simp only [keys2, List.mem_filter, mem_evK, nz_iff]
    constructor
    · exact fun h => h.2
    · intro h
      have := hw2.2 x h
      exact ⟨by omega, h⟩
  refine ⟨⟨na, la, nb, lb⟩, by omega, ?_, fun x _ => by rw [mem_keys2, nz_iff], fun x hx => ?_, fun y => ?_, fun y hy => (mem_keys2 y).2 hy, ?_, ?_, ?_⟩
  · refine List.Pairwise.filter _ ?_
    rw [evK, List.pairwise_map]
    exact List.pairwise_lt_range.imp fun h => by omega
  · obtain ⟨p, hp, q, hq, e⟩ := split2 x ((mem_keys2 x).1 hx)
    have h1 := head_le ha hp
    have h2 := head_le hb hq
    have h3 := ha.ok.2 p hp
    have h4 := hb.ok.2 q hq
    omega
  · have := hw2.1 y
    have e : (8 : Nat) ^ 2 = 64 := rfl
    rw [e] at this
    omega
  · have z0 : ∀ z : Int, z < 0 → one0 z = 0 := fun z h => by unfold one0; rw [if_neg (by omega)]
    have z1 : ∀ z : Int, ((1 : Nat) : Int) ≤ z → one0 z = 0 := fun z h => by unfold one0; rw [if_neg (by omega)]
    have s1 := sumF_conv z0 z1 a 0 ha.ok.2
    have y0 : ∀ z : Int, z < 0 → waysF [a] z = 0 := fun z h => by
      by_cases e : waysF [a] z = 0
      · exact e
      · have := hw1.2 z e
        omega
    have y1 : ∀ z : Int, ((1 + 60 : Nat) : Int) ≤ z → waysF [a] z = 0 := fun z h => by
      by_cases e : waysF [a] z = 0
      · exact e
      · have := hw1.2 z e
        omega
    have s2 := sumF_conv y0 y1 b 0 hb.ok.2
    rw [keys2, sumF_filter]
    have s3 : sumF (waysF [a, b]) (evK 121) = b.length * sumF (waysF [a]) (evK 61) := s2
    have s4 : sumF (waysF [a]) (evK 61) = a.length * sumF one0 (evK 1) := s1
    have s5 : sumF one0 (evK 1) = 1 := by decide
    rw [s3, s4, s5, Int.mul_one, Int.mul_comm]
  · rw [hf]
    refine cv_pos (fun y => (hw1.1 y).1) b 0 _ (b.headD 0) (head_mem nb) ?_
    rw [hf1]
    refine cv_pos (fun y => by unfold one0; split <;> omega) a 0 _ (a.headD 0) (head_mem na) ?_
    unfold one0
    rw [if_pos (by omega)]
    omega
  · have h1 : (keys2 (waysF [a, b])).length ≤ (evK 121).length := List.length_filter_le _ _
    have h2 : (evK 121).length = 121 := by simp [evK]
    omega

end Go.Proofs.Ytkkholagmjcgiaa
