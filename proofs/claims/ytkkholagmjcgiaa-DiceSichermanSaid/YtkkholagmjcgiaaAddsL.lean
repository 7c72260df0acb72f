/- The sums of some dice and others together, as plain lists: each way of a sum is a way of a sum of the ones and one of the others. -/
import Derived.Test.YtkkholagmjcgiaaRSums
import Derived.Test.YtkkholagmjcgiaaBeats2
namespace Go.Proofs.Ytkkholagmjcgiaa
open Go.RowKit

/-- The sums of all results, one by one. -/
def stepL (L : List Int) (d : List Int) : List Int := L.flatMap fun s => d.map fun x => s + x
def allSums (ds : List (List Int)) : List Int := ds.foldl stepL [0]

theorem count_shift (B : List Int) (s t : Int) : (B.map fun u => s + u).count t = B.count (t - s) := by
  rw [List.count_eq_countP, List.countP_map, List.count_eq_countP]
  refine List.countP_congr fun x _ => ?_
  simp
  omega
theorem count_step (L d : List Int) (t : Int) : (stepL L d).count t = (d.map fun x => L.count (t - x)).sum := by
  unfold stepL
  rw [List.count_flatMap]
  have h := sum_swap (fun s x : Int => decide (s + x = t)) d L
  have e1 : (L.map fun s => d.countP fun x => decide (s + x = t)) = L.map (List.count t ∘ fun s => d.map fun x => s + x) := by
    refine List.map_congr_left fun s _ => ?_
    show _ = (d.map fun x => s + x).count t
    rw [List.count_eq_countP, List.countP_map]
    refine List.countP_congr fun x _ => ?_
    simp
  have e2 : (d.map fun x => L.countP fun s => decide (s + x = t)) = d.map fun x => L.count (t - x) := by
    refine List.map_congr_left fun x _ => ?_
    rw [List.count_eq_countP]
    refine List.countP_congr fun s _ => ?_
    simp
    omega
  rw [← e1, ← e2]
  exact h
theorem cast_sum (f : Int → Nat) : ∀ d : List Int, (((d.map f).sum : Nat) : Int) = (d.map fun x => (f x : Int)).sum
  | [] => rfl
  | x :: r => by
    rw [List.map_cons, List.sum_cons, List.map_cons, List.sum_cons, ← cast_sum f r]
    omega
theorem ways_foldl : ∀ (ds : List (List Int)) (L : List Int), ds.foldl conv (fun t => (L.count t : Int)) = fun t => (((ds.foldl stepL L).count t : Nat) : Int)
  | [], L => rfl
  | d :: r, L => by
    rw [List.foldl_cons, List.foldl_cons]
    have e : conv (fun t => (L.count t : Int)) d = fun t => ((stepL L d).count t : Int) := by
      funext t
      rw [conv_sum, count_step, cast_sum]
    rw [e]
    exact ways_foldl r (stepL L d)
theorem ways_count (ds : List (List Int)) (t : Int) : waysF ds t = ((allSums ds).count t : Int) := by
  have e : one0 = fun t => (([0] : List Int).count t : Int) := by
    funext t
    unfold one0
    by_cases h : t = 0
    · subst h; rfl
    · rw [if_neg h, List.count_singleton]
      have : ((0 : Int) == t) = false := by rw [beq_eq_false_iff_ne]; omega
      rw [this]
      rfl
  unfold waysF allSums
  rw [e, ways_foldl]
theorem foldl_step : ∀ (dy : List (List Int)) (L : List Int), dy.foldl stepL L = L.flatMap fun s => (allSums dy).map fun u => s + u
  | [], L => by
    unfold allSums
    simp
  | d :: r, L => by
    have h0 : allSums (d :: r) = (stepL [0] d).flatMap fun s => (allSums r).map fun u => s + u := by
      show r.foldl stepL (stepL [0] d) = _
      exact foldl_step r _
    rw [List.foldl_cons, foldl_step r (stepL L d), h0]
    unfold stepL
    simp only [List.flatMap_assoc, List.flatMap_map, List.map_flatMap, List.map_map, List.flatMap_cons, List.flatMap_nil, List.append_nil]
    congr 1
    funext s
    congr 1
    funext x
    refine List.map_congr_left fun u _ => ?_
    show s + x + u = s + (0 + x + u)
    omega
theorem ways_both (dx dy : List (List Int)) (t : Int) : waysF (dx ++ dy) t = ((allSums dx).map fun s => waysF dy (t - s)).sum := by
  have e : allSums (dx ++ dy) = (allSums dx).flatMap fun s => (allSums dy).map fun u => s + u := by
    show (dx ++ dy).foldl stepL [0] = _
    rw [List.foldl_append]
    exact foldl_step dy _
  rw [ways_count, e, List.count_flatMap, cast_sum]
  congr 1
  refine List.map_congr_left fun s _ => ?_
  show (((allSums dy).map fun u => s + u).count t : Int) = _
  rw [count_shift, ways_count]

/-- A sum over a list is one over the values, each as often as it comes. -/
theorem pick_one (g : Int → Int) (x : Int) : ∀ K : List Int, K.Nodup → x ∈ K → (K.map fun k => (if x = k then 1 else 0) * g k).sum = g x
  | [], _, h => by cases h
  | k :: r, hn, h => by
    rw [List.map_cons, List.sum_cons]
    obtain ⟨h1, h2⟩ := List.nodup_cons.1 hn
    have hz : ∀ l : List Int, x ∉ l → (l.map fun k => (if x = k then 1 else 0) * g k).sum = 0 := fun l => by
      induction l with
      | nil => intro _; rfl
      | cons a s ih =>
        intro hx
        rw [List.mem_cons] at hx
        rw [List.map_cons, List.sum_cons, if_neg (fun e => hx (.inl e)), ih (fun e => hx (.inr e))]
        simp
    by_cases e : x = k
    · subst e
      rw [if_pos rfl, hz r h1]
      omega
    · rw [if_neg e, pick_one g x r h2 ((List.mem_cons.1 h).resolve_left e)]
      omega
theorem group (g : Int → Int) (K : List Int) (hK : K.Nodup) : ∀ L : List Int, (∀ x ∈ L, x ∈ K) → (L.map g).sum = (K.map fun k => (L.count k : Int) * g k).sum
  | [], _ => by
    have : ∀ l : List Int, (l.map fun k => (([] : List Int).count k : Int) * g k).sum = 0 := fun l => by
      induction l with
      | nil => rfl
      | cons a s ih => rw [List.map_cons, List.sum_cons, ih]; simp
    rw [this]
    rfl
  | x :: r, h => by
    rw [List.map_cons, List.sum_cons, group g K hK r fun y hy => h y (by simp [hy])]
    have e : (K.map fun k => ((x :: r).count k : Int) * g k) = K.map fun k => (if x = k then 1 else 0) * g k + (r.count k : Int) * g k := by
      refine List.map_congr_left fun k _ => ?_
      rw [List.count_cons]
      by_cases e : x = k
      · subst e
        simp
        rw [Int.add_mul]
        omega
      · have : (x == k) = false := by rw [beq_eq_false_iff_ne]; exact e
        simp [this, e]
    rw [e, sum_add, pick_one g x K hK (h x (by simp))]

theorem keys_nodup (ds : List (List Int)) : (keysW ds).Nodup := ((evK_rising 361).filter _).imp fun h => by omega
theorem sums_in_keys {ds : List (List Int)} (hd : AreDice ds) : ∀ x ∈ allSums ds, x ∈ keysW ds := fun x hx => by
  have h1 : waysF ds x ≠ 0 := by
    rw [ways_count]
    have := List.count_pos_iff.2 hx
    omega
  have h2 := (waysOk_all ds (fun d h => (hd.die d h).ok) hd.len).2 x h1
  unfold keysW
  rw [List.mem_filter, mem_evK]
  exact ⟨by omega, nz_iff.2 h1⟩
/-- Each with each. -/
def hitP (t : Int) (p q : Int × Int) : Int := if p.1 + q.1 = t then p.2 * q.2 else 0
def convP (ps qs : List (Int × Int)) (t : Int) : Int := (ps.map fun p => (qs.map fun q => hitP t p q).sum).sum
theorem inner_pairs {dy : List (List Int)} (hd : AreDice dy) (t : Int) (p : Int × Int) : ((sumsL dy).map fun q => hitP t p q).sum = p.2 * waysF dy (t - p.1) := by
  unfold sumsL
  rw [List.map_map]
  have e : (keysW dy).map ((fun q => hitP t p q) ∘ fun s => (s, waysF dy s)) = (keysW dy).map fun k => (if t - p.1 = k then 1 else 0) * (p.2 * waysF dy k) := by
    refine List.map_congr_left fun k _ => ?_
    show hitP t p (k, waysF dy k) = _
    unfold hitP
    by_cases h : p.1 + k = t
    · rw [if_pos h, if_pos (by omega), Int.one_mul]
    · rw [if_neg h, if_neg (by omega), Int.zero_mul]
  rw [e]
  by_cases hk : t - p.1 ∈ keysW dy
  · exact pick_one (fun k => p.2 * waysF dy k) _ _ (keys_nodup dy) hk
  · have hz : waysF dy (t - p.1) = 0 := by
      apply Classical.byContradiction
      intro h
      have h2 := (waysOk_all dy (fun d h => (hd.die d h).ok) hd.len).2 _ h
      exact hk (by unfold keysW; rw [List.mem_filter, mem_evK]; exact ⟨by omega, nz_iff.2 h⟩)
    rw [hz, Int.mul_zero]
    have : ∀ l : List Int, t - p.1 ∉ l → (l.map fun k => (if t - p.1 = k then 1 else 0) * (p.2 * waysF dy k)).sum = 0 := fun l => by
      induction l with
      | nil => intro _; rfl
      | cons a s ih =>
        intro hx
        rw [List.mem_cons] at hx
        rw [List.map_cons, List.sum_cons, if_neg (fun e => hx (.inl e)), ih (fun e => hx (.inr e))]
        simp
    exact this _ hk
theorem conv_pairs {dx dy : List (List Int)} (hx : AreDice dx) (hy : AreDice dy) (t : Int) : convP (sumsL dx) (sumsL dy) t = waysF (dx ++ dy) t := by
  unfold convP
  have e : ((sumsL dx).map fun p => ((sumsL dy).map fun q => hitP t p q).sum) = (sumsL dx).map fun p => p.2 * waysF dy (t - p.1) := List.map_congr_left fun p _ => inner_pairs hy t p
  rw [e, ways_both, group (fun s => waysF dy (t - s)) (keysW dx) (keys_nodup dx) _ (sums_in_keys hx)]
  unfold sumsL
  rw [List.map_map]
  congr 1
  refine List.map_congr_left fun k _ => ?_
  show waysF dx k * waysF dy (t - k) = _
  rw [ways_count dx]

theorem step_len (L d : List Int) : (stepL L d).length = L.length * d.length := by
  unfold stepL
  induction L with
  | nil => simp
  | cons s r ih => rw [List.flatMap_cons, List.length_append, ih, List.length_map, List.length_cons, Nat.add_mul]; omega
theorem allSums_len (ds : List (List Int)) : ∀ k, k ≤ ds.length → (allSums (ds.take k)).length = resTo ds k
  | 0, _ => rfl
  | k + 1, h => by
    have hget : ds[k]? = some ds[k] := List.getElem?_eq_getElem (by omega)
    have e : allSums (ds.take (k + 1)) = stepL (allSums (ds.take k)) ds[k] := by
      unfold allSums
      rw [List.take_succ_eq_append_getElem (by omega), List.foldl_append]
      rfl
    rw [e, step_len, allSums_len ds k (by omega), resTo]
    simp [List.getD, hget]
/-- The ways of all sums add up to the results. -/
theorem ways_all {ds : List (List Int)} (hd : AreDice ds) : ((sumsL ds).map fun p => p.2).sum = (resL ds : Int) := by
  have h1 := group (fun _ => 1) (keysW ds) (keys_nodup ds) (allSums ds) (sums_in_keys hd)
  have h2 : ∀ l : List Int, (l.map fun _ => (1 : Int)).sum = l.length := fun l => by
    induction l with
    | nil => rfl
    | cons a s ih => rw [List.map_cons, List.sum_cons, ih, List.length_cons]; omega
  rw [h2] at h1
  have h3 := allSums_len ds ds.length (Nat.le_refl _)
  rw [List.take_length] at h3
  unfold resL
  rw [← h3, h1]
  unfold sumsL
  rw [List.map_map]
  congr 1
  refine List.map_congr_left fun k _ => ?_
  show waysF ds k = _
  rw [ways_count]
  simp

end Go.Proofs.Ytkkholagmjcgiaa
