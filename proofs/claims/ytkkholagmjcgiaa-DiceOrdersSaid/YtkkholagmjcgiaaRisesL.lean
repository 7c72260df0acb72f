/- Orders of dice of which no two share a side, as plain lists: each result rises in just one order; a die more that shows only a side above all others changes none of the numbers that are not 0. -/
import Derived.Test.YtkkholagmjcgiaaOrders
import Derived.Test.YtkkholagmjcgiaaApart
namespace Go.Proofs.Ytkkholagmjcgiaa
open Go.RowKit

theorem rollL_at : ∀ (ds : List (List Int)) (p x : List Int), x ∈ rollL ds p → ∃ q, x = p ++ q ∧ q.length = ds.length ∧ ∀ i, i < ds.length → q.getD i 0 ∈ ds.getD i []
  | [], p, x, h => by
    have : x = p := by simpa [rollL] using h
    exact ⟨[], by simp [this], rfl, fun i hi => by simp at hi⟩
  | d :: ds, p, x, h => by
    simp only [rollL, List.mem_flatMap] at h
    obtain ⟨y, hy, h⟩ := h
    obtain ⟨q, rfl, hl, hq⟩ := rollL_at ds (p ++ [y]) x h
    refine ⟨y :: q, by simp, by simp [hl], fun i hi => ?_⟩
    cases i with
    | zero => simpa using hy
    | succ i => simpa using hq i (by simpa using hi)
theorem rollL_last (x : Int) : ∀ (ds : List (List Int)) (p : List Int), rollL (ds ++ [[x]]) p = (rollL ds p).map fun r => r ++ [x]
  | [], p => by simp [rollL]
  | d :: ds, p => by
    simp only [List.cons_append, rollL, List.map_flatMap]
    congr 1
    funext y
    exact rollL_last x ds (p ++ [y])

/-- No two dice share a side. -/
def Apart (ds : List (List Int)) : Prop := ∀ i j, i < j → j < ds.length → ∀ x ∈ ds.getD i [], ∀ y ∈ ds.getD j [], x ≠ y
theorem common_not {ds : List (List Int)} (h : Apart ds) : commonL ds = false := by
  unfold commonL commonTo
  rw [List.any_eq_false]
  intro j hj hc
  have hj := List.mem_range.1 hj
  obtain ⟨y, hy, hs⟩ := List.any_eq_true.1 hc
  unfold seen at hs
  obtain ⟨d, hd, hdy⟩ := List.any_eq_true.1 hs
  obtain ⟨i, hi, rfl⟩ := List.mem_iff_getElem.1 hd
  have hi2 : i < j := by simp at hi; omega
  refine h i j hi2 hj y ?_ y hy rfl
  rw [List.getElem_take] at hdy
  have e : ds.getD i [] = ds[i] := by simp [List.getD, show i < ds.length by omega]
  rw [e]
  simpa using hdy
theorem apartL_at {ds : List (List Int)} {j : Nat} (hj : j < ds.length) : (apartL ds).getD j [] = (ds.getD j []).map fun s => 5 * s + (j : Int) := by simp [apartL, List.getD, hj]
theorem apartL_len (ds : List (List Int)) : (apartL ds).length = ds.length := by simp [apartL]
theorem apartL_apart {ds : List (List Int)} (h5 : ds.length ≤ 5) : Apart (apartL ds) := fun i j hij hj x hx y hy => by
  rw [apartL_len] at hj
  rw [apartL_at (by omega)] at hx
  rw [apartL_at hj] at hy
  obtain ⟨s, _, rfl⟩ := List.mem_map.1 hx
  obtain ⟨t, _, rfl⟩ := List.mem_map.1 hy
  omega
theorem more_apart {ds : List (List Int)} (h : Apart ds) (h60 : ∀ d ∈ ds, ∀ x ∈ d, x < 60) : Apart (ds ++ [[60]]) := fun i j hij hj x hx y hy => by
  rw [List.length_append, List.length_singleton] at hj
  have hi : i < ds.length := by omega
  have ei : (ds ++ [[60]]).getD i [] = ds.getD i [] := by simp [List.getD, List.getElem?_append_left hi]
  rw [ei] at hx
  rcases Nat.lt_or_ge j ds.length with hlt | hge
  · have ej : (ds ++ [[60]]).getD j [] = ds.getD j [] := by simp [List.getD, List.getElem?_append_left hlt]
    rw [ej] at hy
    exact h i j hij hlt x hx y hy
  · obtain rfl : j = ds.length := by omega
    have ej : (ds ++ [[60]]).getD ds.length [] = [60] := by simp [List.getD]
    rw [ej, List.mem_singleton] at hy
    have e : ds.getD i [] = ds[i] := by simp [List.getD, hi]
    rw [e] at hx
    have := h60 _ (List.getElem_mem hi) x hx
    omega

/-- A list of one, two or three numbers that differ rises in just one order. -/
theorem one_order1 (a : Int) : (ordersL 1).countP (fun o => risesL [a] o) = 1 := by
  have e : ordersL 1 = [[0]] := by decide +kernel
  rw [e]
  simp [risesL, risesTo]
theorem one_order2 {a b : Int} (h : a ≠ b) : (ordersL 2).countP (fun o => risesL [a, b] o) = 1 := by
  have e : ordersL 2 = [[0, 1], [1, 0]] := by decide +kernel
  rw [e]
  rcases Int.lt_or_lt_of_ne h with h | h
  · have : ¬ b < a := by omega
    simp [risesL, risesTo, h, this]
  · have : ¬ a < b := by omega
    simp [risesL, risesTo, h, this]
theorem one_order3 {a b c : Int} (h1 : a ≠ b) (h2 : a ≠ c) (h3 : b ≠ c) : (ordersL 3).countP (fun o => risesL [a, b, c] o) = 1 := by
  have e : ordersL 3 = [[0, 1, 2], [0, 2, 1], [1, 0, 2], [1, 2, 0], [2, 0, 1], [2, 1, 0]] := by decide +kernel
  rw [e]
  rcases Int.lt_or_lt_of_ne h1 with h1 | h1 <;> rcases Int.lt_or_lt_of_ne h2 with h2 | h2 <;> rcases Int.lt_or_lt_of_ne h3 with h3 | h3
  all_goals first | (exfalso; omega) | skip
  all_goals
    have h4 := Int.not_lt.2 (Int.le_of_lt h1)
    have h5 := Int.not_lt.2 (Int.le_of_lt h2)
    have h6 := Int.not_lt.2 (Int.le_of_lt h3)
    simp [risesL, risesTo, List.range_succ, h1, h2, h3, h4, h5, h6]

theorem nums_swap (p : List Int → List Int → Bool) (os : List (List Int)) : ∀ R : List (List Int), (os.map fun o => ((R.countP fun r => p r o : Nat) : Int)).sum = (R.map fun r => ((os.countP fun o => p r o : Nat) : Int)).sum
  | [] => by
    induction os with
    | nil => rfl
    | cons o os ih => rw [List.map_cons, List.sum_cons, ih]; rfl
  | r :: R => by
    rw [List.map_cons, List.sum_cons, ← nums_swap p os R]
    clear nums_swap
    induction os with
    | nil => simp
    | cons o os ih =>
      simp only [List.map_cons, List.sum_cons, List.countP_cons] at ih ⊢
      omega
theorem ones {α : Type} (f : α → Int) : ∀ l : List α, (∀ x ∈ l, f x = 1) → (l.map f).sum = l.length
  | [], _ => rfl
  | a :: l, h => by
    rw [List.map_cons, List.sum_cons, ones f l fun x hx => h x (List.mem_cons_of_mem _ hx), h a (List.mem_cons_self ..), List.length_cons]
    omega
/-- The numbers of all orders come to all results. -/
theorem nums_sum {ds : List (List Int)} (h : Apart ds) (h1 : 1 ≤ ds.length) (h3 : ds.length ≤ 3) : (numsL ds (ordersL ds.length)).sum = (rollL ds []).length := by
  unfold numsL
  rw [nums_swap]
  refine ones _ _ fun r hr => ?_
  obtain ⟨q, e, hl, hq⟩ := rollL_at ds [] r hr
  rw [List.nil_append] at e
  subst e
  have hne : ∀ i j, i < j → j < ds.length → r.getD i 0 ≠ r.getD j 0 := fun i j hij hj => h i j hij hj _ (hq i (by omega)) _ (hq j hj)
  rw [← hl] at h1 h3 hne ⊢
  clear hq hr hl
  match r, h1, h3, hne with
  | [a], _, _, _ => exact_mod_cast one_order1 a
  | [a, b], _, _, hne => exact_mod_cast one_order2 (hne 0 1 (by decide) (by simp))
  | [a, b, c], _, _, hne => exact_mod_cast one_order3 (hne 0 1 (by decide) (by simp)) (hne 0 2 (by decide) (by simp)) (hne 1 2 (by decide) (by simp))
  | _ :: _ :: _ :: _ :: _, _, h3, _ => exact absurd h3 (by simp)

theorem last1 {a : Int} (ha : a < 60) : ∀ o ∈ ordersL 2, risesL ([a] ++ [60]) o = (decide (o.getD 1 0 = 1) && risesL [a] (o.take 1)) := by
  have e : ordersL 2 = [[0, 1], [1, 0]] := by decide +kernel
  rw [e]
  have h1 : ¬ 60 < a := by omega
  simp [risesL, risesTo, ha, h1]
theorem last2 {a b : Int} (ha : a < 60) (hb : b < 60) : ∀ o ∈ ordersL 3, risesL ([a, b] ++ [60]) o = (decide (o.getD 2 0 = 2) && risesL [a, b] (o.take 2)) := by
  have e : ordersL 3 = [[0, 1, 2], [0, 2, 1], [1, 0, 2], [1, 2, 0], [2, 0, 1], [2, 1, 0]] := by decide +kernel
  rw [e]
  have h1 : ¬ 60 < a := by omega
  have h2 : ¬ 60 < b := by omega
  simp [risesL, risesTo, List.range_succ, ha, hb, h1, h2]
theorem last3 {a b c : Int} (ha : a < 60) (hb : b < 60) (hc : c < 60) : ∀ o ∈ ordersL 4, risesL ([a, b, c] ++ [60]) o = (decide (o.getD 3 0 = 3) && risesL [a, b, c] (o.take 3)) := by
  have e : ordersL 4 = [[0, 1, 2, 3], [0, 1, 3, 2], [0, 2, 1, 3], [0, 2, 3, 1], [0, 3, 1, 2], [0, 3, 2, 1], [1, 0, 2, 3], [1, 0, 3, 2], [1, 2, 0, 3], [1, 2, 3, 0], [1, 3, 0, 2], [1, 3, 2, 0],
    [2, 0, 1, 3], [2, 0, 3, 1], [2, 1, 0, 3], [2, 1, 3, 0], [2, 3, 0, 1], [2, 3, 1, 0], [3, 0, 1, 2], [3, 0, 2, 1], [3, 1, 0, 2], [3, 1, 2, 0], [3, 2, 0, 1], [3, 2, 1, 0]] := by decide +kernel
  rw [e]
  have h1 : ¬ 60 < a := by omega
  have h2 : ¬ 60 < b := by omega
  have h3 : ¬ 60 < c := by omega
  simp [risesL, risesTo, List.range_succ, ha, hb, hc, h1, h2, h3]

theorem pos_filter {α : Type} (P : α → Bool) (g : α → α) (f : α → Int) : ∀ l : List α, (l.map fun o => if P o = true then f (g o) else 0).filter (fun x => decide (0 < x)) = (((l.filter P).map g).map f).filter (fun x => decide (0 < x))
  | [] => rfl
  | o :: l => by
    have ih := pos_filter P g f l
    cases h : P o
    · simp [h, ih]
    · simp [h, ih, List.filter_cons]
/-- A die more that shows only 60: the numbers that are not 0 are the same. -/
theorem more_nums {ds : List (List Int)} (h60 : ∀ d ∈ ds, ∀ x ∈ d, x < 60) (h1 : 1 ≤ ds.length) (h3 : ds.length ≤ 3) :
    (numsL (ds ++ [[60]]) (ordersL (ds.length + 1))).filter (fun x => decide (0 < x)) = (numsL ds (ordersL ds.length)).filter (fun x => decide (0 < x)) := by
  have key : ∀ o ∈ ordersL (ds.length + 1), (((rollL (ds ++ [[60]]) []).countP fun r => risesL r o : Nat) : Int) = if decide (o.getD ds.length 0 = ds.length) = true then (((rollL ds []).countP fun r => risesL r (o.take ds.length) : Nat) : Int) else 0 := fun o ho => by
    rw [rollL_last, List.countP_map]
    have hr : ∀ r ∈ rollL ds [], risesL (r ++ [60]) o = (decide (o.getD ds.length 0 = ds.length) && risesL r (o.take ds.length)) := fun r hr => by
      obtain ⟨q, e, hl, hq⟩ := rollL_at ds [] r hr
      rw [List.nil_append] at e
      subst e
      have hlt : ∀ i, i < ds.length → r.getD i 0 < 60 := fun i hi => by
        have e : ds.getD i [] = ds[i] := by simp [List.getD, hi]
        exact h60 _ (List.getElem_mem hi) _ (e ▸ hq i hi)
      rw [← hl] at h1 h3 hlt ho ⊢
      clear hq hr hl
      match r, h1, h3, hlt, ho with
      | [a], _, _, hlt, ho => exact last1 (hlt 0 (by simp)) o ho
      | [a, b], _, _, hlt, ho => exact last2 (hlt 0 (by simp)) (hlt 1 (by simp)) o ho
      | [a, b, c], _, _, hlt, ho => exact last3 (hlt 0 (by simp)) (hlt 1 (by simp)) (hlt 2 (by simp)) o ho
      | _ :: _ :: _ :: _ :: _, _, h3, _, _ => exact absurd h3 (by simp)
    cases hP : decide (o.getD ds.length 0 = (ds.length : Int)) with
    | false =>
      rw [if_neg (by decide)]
      have : (rollL ds []).countP ((fun r => risesL r o) ∘ fun r => r ++ [60]) = 0 := List.countP_eq_zero.2 fun r hr2 h => by
        have h : risesL (r ++ [60]) o = true := h
        rw [hr r hr2, hP] at h
        cases h
      omega
    | true =>
      rw [if_pos rfl]
      congr 1
      refine List.countP_congr fun r hr2 => ?_
      show risesL (r ++ [60]) o = true ↔ _
      rw [hr r hr2, hP]
      rfl
  unfold numsL
  rw [List.map_congr_left key, pos_filter (fun o => decide (o.getD ds.length 0 = (ds.length : Int))) (fun o => o.take ds.length) (fun o => (((rollL ds []).countP fun r => risesL r o : Nat) : Int))]
  congr 2
  clear key h60
  generalize ds.length = n at h1 h3 ⊢
  match n, h1, h3 with
  | 1, _, _ => decide +kernel
  | 2, _, _ => decide +kernel
  | 3, _, _ => decide +kernel

theorem someL_in (l : List (List Int)) {many most : Nat} (d : List Int) (h : d ∈ someL l many most) : ∀ x ∈ d, 0 ≤ x ∧ x ≤ (most : Int) := by
  unfold someL at h
  split at h
  · rw [List.mem_singleton] at h
    subst h
    intro x hx
    simp at hx
    omega
  · obtain ⟨y, _, rfl⟩ := List.mem_map.1 h
    exact (madeL_facts y (most := (most : Int)) (by omega)).2.2.2
theorem sortTo_map (f : Int → Int) (hf : ∀ x y, x ≤ y → f x ≤ f y) (d : List Int) : ∀ k, k < d.length ∨ k = 0 → sortTo d k = true → sortTo (d.map f) k = true := by
  intro k
  induction k with
  | zero => intro _ _; rfl
  | succ k ih =>
    intro hk h
    rw [sortTo, Bool.and_eq_true] at h ⊢
    refine ⟨ih (by omega) h.1, ?_⟩
    have h1 := of_decide_eq_true h.2
    have e : ∀ i, i < d.length → (d.map f).getD i 0 = f (d.getD i 0) := fun i hi => by simp [List.getD, hi]
    rw [e k (by omega), e (k + 1) (by omega)]
    exact decide_eq_true (hf _ _ h1)
theorem apartL_dice {ds : List (List Int)} (hd : AreDice ds) (h3 : ds.length ≤ 3) (h11 : ∀ d ∈ ds, ∀ x ∈ d, 0 ≤ x ∧ x ≤ 11) : AreDice (apartL ds) ∧ ∀ d ∈ apartL ds, ∀ x ∈ d, x < 60 := by
  have key : ∀ d ∈ apartL ds, ∃ j d0, j < ds.length ∧ d0 ∈ ds ∧ d = d0.map fun s => 5 * s + (j : Int) := fun d h => by
    obtain ⟨j, hj, rfl⟩ := List.mem_map.1 h
    have hj := List.mem_range.1 hj
    have e : ds.getD j [] = ds[j] := by simp [List.getD, hj]
    exact ⟨j, _, hj, List.getElem_mem hj, by rw [e]⟩
  refine ⟨⟨by rw [apartL_len]; exact hd.pos, by rw [apartL_len]; exact hd.len, fun d h => ?_⟩, fun d h x hx => ?_⟩
  · obtain ⟨j, d0, hj, hd0, rfl⟩ := key d h
    have hi := hd.die d0 hd0
    refine ⟨⟨by rw [List.length_map]; exact hi.ok.1, fun x hx => ?_⟩, by rw [List.length_map]; exact hi.ne, ?_⟩
    · obtain ⟨s, hs, rfl⟩ := List.mem_map.1 hx
      have := h11 d0 hd0 s hs
      omega
    · have := hi.ne
      unfold sortB
      rw [List.length_map]
      exact sortTo_map _ (fun x y h => by omega) d0 _ (by omega) hi.sorted
  · obtain ⟨j, d0, hj, hd0, rfl⟩ := key d h
    obtain ⟨s, hs, rfl⟩ := List.mem_map.1 hx
    have := h11 d0 hd0 s hs
    omega
theorem more_dice {ds : List (List Int)} (hd : AreDice ds) (h5 : ds.length ≤ 5) : AreDice (ds ++ [[60]]) :=
  ⟨by simp, by simp; omega, fun d h => (List.mem_append.1 h).elim (hd.die d) fun h => by
    rw [List.mem_singleton.1 h]
    exact ⟨⟨by simp, fun x hx => by simp at hx; omega⟩, by simp, rfl⟩⟩
theorem res_roll {ds : List (List Int)} (h1 : 1 ≤ ds.length) (h3 : ds.length ≤ 3) : resL ds = (rollL ds []).length := by
  rw [rollL_length]
  match ds, h1, h3 with
  | [a], _, _ => simp [resL, resTo]
  | [a, b], _, _ => simp [resL, resTo]
  | [a, b, c], _, _ => simp [resL, resTo, Nat.mul_assoc]
  | _ :: _ :: _ :: _ :: _, _, h3 => exact absurd h3 (by simp)
theorem nums_two (a b : List Int) : numsL [a, b] (ordersL 2) = [(lessL (rollL [a, b] []) : Int), (moreL (rollL [a, b] []) : Int)] := by
  have e : ordersL 2 = [[0, 1], [1, 0]] := by decide +kernel
  unfold numsL
  rw [e]
  simp [risesL, risesTo, lessL, moreL]
theorem same_none {a b : List Int} (h : Apart [a, b]) : sameL (rollL [a, b] []) = 0 := List.countP_eq_zero.2 fun r hr hs => by
  obtain ⟨q, e, hl, hq⟩ := rollL_at [a, b] [] r hr
  rw [List.nil_append] at e
  subst e
  have := h 0 1 (by decide) (by simp) _ (hq 0 (by simp)) _ (hq 1 (by simp))
  simp only [Bool.and_eq_true, Bool.not_eq_true', decide_eq_false_iff_not] at hs
  omega

theorem I64Row.reads {w : World} {base : Nat} {v : Value} {zs : List Int} (h : I64Row w base v zs) : ∃ A c, v = .slice A zs.length c ∧ ∀ W, Below w.heap.size w W → ∀ (j : Nat) (z : Int), zs[j]? = some z → ∃ g, A = some ⟨g, 0, none⟩ ∧ W.cell? ⟨g, j, none⟩ = some (.int .i64 z) := by
  have h0 := h
  rcases h.2 with ⟨e1, hn⟩ | ⟨g, cap, cur, e1, hb, hh, _⟩
  · refine ⟨none, 0, by rw [e1, hn], fun W _ j z hz => ?_⟩
    rw [List.eq_nil_of_length_eq_zero hn] at hz
    simp at hz
  · subst e1
    refine ⟨_, cap, rfl, fun W hW j z hz => ⟨g, rfl, ?_⟩⟩
    have hbx : Box w g 2 cur := hh
    have hlt : j < zs.length := (List.getElem?_eq_some_iff.1 hz).1
    refine (hW.cell (p := ⟨g, j, none⟩) hbx.lt).trans ?_
    have h1 : w.ownsRow base 2 1 (.slice (some ⟨g, 0, none⟩) zs.length cap) zs.length (zs.map (Value.int .i64)) := h0
    rw [h1.cellAt j (by omega), List.getElem?_map, hz]
    rfl
theorem tot_in {M : Int} (hM : 0 ≤ M) : ∀ l : List Int, (∀ z ∈ l, 0 ≤ z ∧ z ≤ M) → 0 ≤ l.sum ∧ l.sum ≤ M * l.length
  | [], _ => by simp
  | z :: l, h => by
    have h1 := tot_in hM l fun x hx => h x (List.mem_cons_of_mem _ hx)
    have h2 := h z (List.mem_cons_self ..)
    rw [List.sum_cons, List.length_cons]
    have e : M * ((l.length + 1 : Nat) : Int) = M * l.length + M := by rw [Int.natCast_add, Int.mul_add]; simp
    rw [e]
    omega
theorem nums_in {ds : List (List Int)} (hd : AreDice ds) (os : List (List Int)) : ∀ z ∈ numsL ds os, 0 ≤ z ∧ z ≤ 262144 := fun z hz => by
  obtain ⟨o, _, rfl⟩ := List.mem_map.1 hz
  have h1 := rollL_small (ds := ds) (fun d h => (hd.die d h).ok.1) hd.len
  have h2 := List.countP_le_length (p := fun r => risesL r o) (l := rollL ds [])
  omega
theorem orders_len {n : Nat} (h1 : 1 ≤ n) (h4 : n ≤ 4) : (ordersL n).length ≤ 24 := by
  match n, h1, h4 with
  | 1, _, _ => decide +kernel
  | 2, _, _ => decide +kernel
  | 3, _, _ => decide +kernel
  | 4, _, _ => decide +kernel
theorem take_sum {l : List Int} {k : Nat} {z : Int} (h : l[k]? = some z) : (l.take (k + 1)).sum = (l.take k).sum + z := by
  rw [take_snoc h, List.sum_append, List.sum_cons, List.sum_nil, Int.add_zero]
/-- The sum and the number of those above 0 of the first k. -/
def posS (l : List Int) (k : Nat) : Int := ((l.take k).filter fun x => decide (0 < x)).sum
def posN (l : List Int) (k : Nat) : Nat := ((l.take k).filter fun x => decide (0 < x)).length
theorem pos_step {l : List Int} {k : Nat} {z : Int} (h : l[k]? = some z) : posS l (k + 1) = (if 0 < z then posS l k + z else posS l k) ∧ posN l (k + 1) = if 0 < z then posN l k + 1 else posN l k := by
  unfold posS posN
  rw [take_snoc h, List.filter_append]
  by_cases hz : 0 < z
  · simp [hz]
  · simp [hz]
theorem pos_sum : ∀ l : List Int, (∀ z ∈ l, 0 ≤ z) → (l.filter fun x => decide (0 < x)).sum = l.sum
  | [], _ => rfl
  | z :: l, h => by
    have h1 := pos_sum l fun x hx => h x (List.mem_cons_of_mem _ hx)
    have h2 := h z (List.mem_cons_self ..)
    by_cases hz : 0 < z
    · simp [hz, h1]
    · have : z = 0 := by omega
      simp [this, h1]

end Go.Proofs.Ytkkholagmjcgiaa
