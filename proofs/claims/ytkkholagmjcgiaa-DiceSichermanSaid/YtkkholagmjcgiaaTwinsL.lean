/- Two dice with given ways: the search of package dice finds, in rising order, just the pairs of dice that show each sum as often as is asked; and what the reference's search does at each step. Pure mathematics of lists. -/
import Derived.Test.YtkkholagmjcgiaaGrow
namespace Go.Proofs.Ytkkholagmjcgiaa

/-- How often a sum is made by a side of the one list and one of the other. -/
def cp (c d : List Int) (y : Int) : Int := (c.map fun x => cnt x d y).sum
theorem cp_snoc (c d : List Int) (x y : Int) : cp (c ++ [x]) d y = cp c d y + cnt x d y := by simp [cp]
theorem cnt_app (u : Int) (d e : List Int) (y : Int) : cnt u (d ++ e) y = cnt u d y + cnt u e y := by
  unfold cnt
  rw [List.filter_append, List.length_append]
  push_cast
  rfl
theorem cp_app1 (c e d : List Int) (y : Int) : cp (c ++ e) d y = cp c d y + cp e d y := by simp [cp]
theorem cp_app2 (d e : List Int) (y : Int) : ∀ c : List Int, cp c (d ++ e) y = cp c d y + cp c e y
  | [] => rfl
  | u :: c => by
    have h := cp_app2 d e y c
    simp only [cp, List.map_cons, List.sum_cons] at h ⊢
    rw [h, cnt_app]
    omega
theorem cnt_one (u x y : Int) : cnt u [x] y = if u + x = y then 1 else 0 := by
  unfold cnt
  by_cases h : u + x = y <;> simp [h]
theorem cp_one (x y : Int) : ∀ c : List Int, cp c [x] y = cnt x c y
  | [] => rfl
  | u :: c => by
    have h := cp_one x y c
    simp only [cp, List.map_cons, List.sum_cons] at h ⊢
    rw [h, cnt_one, cnt_cons]
    by_cases e : u + x = y
    · rw [if_pos e, if_pos (by omega)]
    · rw [if_neg e, if_neg (by omega)]
theorem cp_snoc2 (c d : List Int) (x y : Int) : cp c (d ++ [x]) y = cp c d y + cnt x c y := by rw [cp_app2, cp_one]
theorem sums_nonneg : ∀ l : List Int, (∀ x ∈ l, 0 ≤ x) → 0 ≤ l.sum
  | [], _ => Int.le_refl _
  | x :: l, h => by
    have h1 := h x (by simp)
    have h2 := sums_nonneg l fun y hy => h y (by simp [hy])
    rw [List.sum_cons]
    omega
theorem cp_nonneg (c d : List Int) (y : Int) : 0 ≤ cp c d y := sums_nonneg _ fun z hz => by
  obtain ⟨x, _, rfl⟩ := List.mem_map.1 hz
  exact cnt_nonneg _ _ _
theorem cnt_pos {u v : Int} {d : List Int} (h : v ∈ d) : 1 ≤ cnt u d (u + v) := by
  unfold cnt
  have : 0 < (d.filter fun s => decide (u + s = u + v)).length := List.length_pos_of_mem (a := v) (List.mem_filter.2 ⟨h, by simp⟩)
  omega
theorem cp_pos {u v : Int} {d : List Int} (hv : v ∈ d) : ∀ {c : List Int}, u ∈ c → 1 ≤ cp c d (u + v)
  | x :: c, h => by
    have h2 := cp_nonneg c d (u + v)
    have h1 := cnt_nonneg x d (u + v)
    have e : cp (x :: c) d (u + v) = cnt x d (u + v) + cp c d (u + v) := by simp [cp]
    rw [e]
    rcases List.mem_cons.1 h with rfl | h
    · have := cnt_pos (u := u) hv
      omega
    · have := cp_pos hv h
      omega
theorem cp_made {c d : List Int} {y : Int} (h : cp c d y ≠ 0) : ∃ u ∈ c, ∃ v ∈ d, u + v = y := by
  induction c with
  | nil => exact absurd rfl h
  | cons x c ih =>
    have e : cp (x :: c) d y = cnt x d y + cp c d y := by simp [cp]
    by_cases h2 : cp c d y = 0
    · have h3 : cnt x d y ≠ 0 := fun h4 => h (by rw [e, h2, h4]; rfl)
      unfold cnt at h3
      obtain ⟨v, hv⟩ := List.exists_mem_of_length_pos (l := d.filter fun s => decide (x + s = y)) (by omega)
      have hv := List.mem_filter.1 hv
      exact ⟨x, by simp, v, hv.1, by simpa using hv.2⟩
    · obtain ⟨u, hu, v, hv, e⟩ := ih h2
      exact ⟨u, by simp [hu], v, hv, e⟩
theorem cp_swap (c d : List Int) (y : Int) : cp c d y = cp d c y := by
  induction d with
  | nil =>
    have : ∀ c : List Int, cp c [] y = 0 := fun c => by
      induction c with
      | nil => rfl
      | cons x c ih => simp only [cp, List.map_cons, List.sum_cons] at ih ⊢; rw [ih]; rfl
    rw [this]
    rfl
  | cons x d ih =>
    have e1 : cp c (x :: d) y = cp c [x] y + cp c d y := cp_app2 [x] d y c
    rw [e1, cp_one, ih]
    simp [cp]

/-- All rising. -/
def Asc (l : List Int) : Prop := l.Pairwise (· ≤ ·)
theorem Asc.snoc {l : List Int} (h : Asc l) {x : Int} (hx : ∀ y ∈ l, y ≤ x) : Asc (l ++ [x]) := by
  unfold Asc
  rw [List.pairwise_append]
  exact ⟨h, by simp, fun a ha b hb => by rw [List.mem_singleton.1 hb]; exact hx a ha⟩

/-- Two dice with these numbers of sides that show each sum as often as is asked. -/
structure Two (n m : Nat) (W : Int → Int) (C D : List Int) : Prop where
  n : C.length = n
  m : D.length = m
  ac : Asc C
  ad : Asc D
  lc : ∀ x ∈ C, x ≤ 60
  ld : ∀ x ∈ D, x ≤ 60
  w : ∀ y, cp C D y = W y
theorem Two.swap {n m : Nat} {W : Int → Int} {C D : List Int} (h : Two n m W C D) : Two m n W D C :=
  ⟨h.m, h.n, h.ad, h.ac, h.ld, h.lc, fun y => by rw [cp_swap]; exact h.w y⟩

/-- Two dice that are begun, and what is left of the ways. -/
structure Begun (W f : Int → Int) (c d : List Int) : Prop where
  eq : ∀ y, f y = W y - cp c d y
  ac : Asc c
  ad : Asc d
  lc : ∀ x ∈ c, ∀ y, f y ≠ 0 → x + d.headD 0 ≤ y
  ld : ∀ x ∈ d, ∀ y, f y ≠ 0 → c.headD 0 + x ≤ y
theorem Begun.swap {W f : Int → Int} {c d : List Int} (h : Begun W f c d) : Begun W f d c :=
  ⟨fun y => by rw [cp_swap]; exact h.eq y, h.ad, h.ac, fun x hx y hy => by have := h.ld x hx y hy; omega, fun x hx y hy => by have := h.lc x hx y hy; omega⟩
theorem tk_le (f : Int → Int) (x : Int) (d : List Int) (y : Int) : tk f x d y ≤ f y := by
  rw [tk_eq]
  have := cnt_nonneg x d y
  omega
/-- A side more for the first die, at the least sum that is left. -/
theorem Begun.grow {W f : Int → Int} {c d : List Int} (h : Begun W f c d) (hc : 1 ≤ c.length) {s : Int} (hs : f s ≠ 0) (hl : ∀ y, f y ≠ 0 → s ≤ y) (hn2 : ∀ y, 0 ≤ tk f (s - d.headD 0) d y) :
    Begun W (tk f (s - d.headD 0) d) (c ++ [s - d.headD 0]) d := by
  have hf : ∀ y, tk f (s - d.headD 0) d y ≠ 0 → f y ≠ 0 := fun y hy h0 => by
    have h1 := tk_le f (s - d.headD 0) d y
    have h2 := hn2 y
    omega
  refine ⟨fun y => by rw [tk_eq, h.eq y, cp_snoc]; omega, h.ac.snoc fun y hy => by have := h.lc y hy s hs; omega, h.ad, fun x hx y hy => ?_, fun x hx y hy => ?_⟩
  · have h1 := hl y (hf y hy)
    rcases List.mem_append.1 hx with hx | hx
    · exact h.lc x hx y (hf y hy)
    · rw [List.mem_singleton.1 hx]
      omega
  · rw [headD_append hc]
    exact h.ld x hx y (hf y hy)

theorem mem_getD {l : List Int} {k : Nat} (h : k < l.length) : l.getD k 0 ∈ l := by
  have e : l.getD k 0 = l[k] := by simp [List.getD, h]
  rw [e]
  exact List.getElem_mem h
theorem drop_ge {l : List Int} (h : Asc l) {k : Nat} {u : Int} (hu : u ∈ l.drop k) : l.getD k 0 ≤ u := by
  obtain ⟨i, hi, rfl⟩ := List.mem_iff_getElem.1 hu
  rw [List.length_drop] at hi
  rw [List.getElem_drop]
  have e : l.getD k 0 = l[k] := by simp [List.getD, show k < l.length by omega]
  rw [e]
  rcases Nat.eq_zero_or_pos i with h0 | h0
  · subst h0
    exact Int.le_refl _
  · exact List.pairwise_iff_getElem.1 h k (k + i) (by omega) (by omega) (by omega)
theorem heads_le {l : List Int} (h : Asc l) {u : Int} (hu : u ∈ l) : l.headD 0 ≤ u := by
  have e : l.headD 0 = l.getD 0 0 := by cases l <;> rfl
  rw [e]
  exact drop_ge h (k := 0) (by simpa using hu)
/-- Two dice that go on from two that are begun. -/
structure Ext (c d C D : List Int) : Prop where
  e1 : C.take c.length = c
  e2 : D.take d.length = d
theorem Ext.swap {c d C D : List Int} (h : Ext c d C D) : Ext d c D C := ⟨h.e2, h.e1⟩
theorem Ext.head {c d C D : List Int} (h : Ext c d C D) (hc : 1 ≤ c.length) : C.headD 0 = c.headD 0 := by
  have h1 := h.e1
  cases C with
  | nil => rw [List.take_nil] at h1; rw [← h1]
  | cons x C =>
    obtain ⟨n, hn⟩ : ∃ n, c.length = n + 1 := ⟨c.length - 1, by omega⟩
    rw [hn, List.take_succ_cons] at h1
    rw [← h1]
    rfl
theorem cp_split {c d C D : List Int} (h : Ext c d C D) (y : Int) : cp C D y = cp c d y + cp (C.drop c.length) D y + cp c (D.drop d.length) y := by
  have e1 : C = c ++ C.drop c.length := by
    have := List.take_append_drop c.length C
    rw [h.e1] at this
    exact this.symm
  have e2 : D = d ++ D.drop d.length := by
    have := List.take_append_drop d.length D
    rw [h.e2] at this
    exact this.symm
  have h1 : cp C D y = cp c D y + cp (C.drop c.length) D y := by
    have := cp_app1 c (C.drop c.length) D y
    rw [← e1] at this
    exact this
  have h2 : cp c D y = cp c d y + cp c (D.drop d.length) y := by
    have := cp_app2 d (D.drop d.length) y c
    rw [← e2] at this
    exact this
  omega
/-- The sum that the next side makes with the other die's least side is left. -/
theorem next_left {n m : Nat} {W f : Int → Int} {c d C D : List Int} (h : ∀ y, f y = W y - cp c d y) (ht : Two n m W C D) (he : Ext c d C D) (hd : 1 ≤ d.length) (hc : c.length < n) : f (C.getD c.length 0 + d.headD 0) ≠ 0 := by
  have hdh := he.swap.head hd
  have hm : d.headD 0 ∈ D := by
    rw [← hdh]
    have : 1 ≤ D.length := by
      have h1 := congrArg List.length he.e2
      rw [List.length_take] at h1
      omega
    cases D with
    | nil => simp at this
    | cons x D => simp
  have hx : C.getD c.length 0 ∈ C.drop c.length := by
    rw [List.mem_iff_getElem]
    have hl : c.length < C.length := by rw [ht.n]; exact hc
    exact ⟨0, by rw [List.length_drop]; omega, by simp [List.getD, hl]⟩
  have h1 := cp_pos (u := C.getD c.length 0) (v := d.headD 0) hm hx
  have h2 := cp_split he (C.getD c.length 0 + d.headD 0)
  have h3 := cp_nonneg c (D.drop d.length) (C.getD c.length 0 + d.headD 0)
  rw [h, ← ht.w]
  omega
/-- What is left is made by a side that is to come. -/
theorem left_made {n m : Nat} {W f : Int → Int} {c d C D : List Int} (h : ∀ y, f y = W y - cp c d y) (hac : Asc c) (ht : Two n m W C D) (he : Ext c d C D) (hd : 1 ≤ d.length) {s : Int} (hs : f s ≠ 0) :
    (c.length < n ∧ C.getD c.length 0 + d.headD 0 ≤ s) ∨ (d.length < m ∧ c.headD 0 + D.getD d.length 0 ≤ s) := by
  have h2 := cp_split he s
  have h3 : cp (C.drop c.length) D s ≠ 0 ∨ cp c (D.drop d.length) s ≠ 0 := by
    have := h s
    have := ht.w s
    omega
  rcases h3 with h3 | h3
  · obtain ⟨u, hu, v, hv, rfl⟩ := cp_made h3
    refine .inl ⟨?_, ?_⟩
    · have := List.length_pos_of_mem hu
      rw [List.length_drop, ht.n] at this
      omega
    · have h4 := drop_ge ht.ac hu
      have h5 := heads_le ht.ad hv
      rw [he.swap.head hd] at h5
      omega
  · obtain ⟨u, hu, v, hv, rfl⟩ := cp_made h3
    refine .inr ⟨?_, ?_⟩
    · have := List.length_pos_of_mem hv
      rw [List.length_drop, ht.m] at this
      omega
    · have h4 := drop_ge ht.ad hv
      have h5 := heads_le hac hu
      omega
theorem Ext.grow {n m : Nat} {W : Int → Int} {c d C D : List Int} (he : Ext c d C D) (ht : Two n m W C D) (hc : c.length < n) {x : Int} (hx : C.getD c.length 0 = x) : Ext (c ++ [x]) d C D := by
  refine ⟨?_, he.e2⟩
  have hl : c.length < C.length := by rw [ht.n]; exact hc
  rw [List.length_append, List.length_singleton, List.take_succ_eq_append_getElem hl, he.e1]
  have e : C.getD c.length 0 = C[c.length] := by simp [List.getD, hl]
  rw [← e, hx]
theorem okT_of (side : Int) : ∀ (zs : List Int) (f : Int → Int), (∀ y, cnt side zs y ≤ f y) → okT f side zs = true
  | [], _, _ => rfl
  | s :: r, f, h => by
    have h1 := h (side + s)
    rw [cnt_cons, if_pos rfl] at h1
    have h0 := cnt_nonneg side r (side + s)
    rw [okT, Bool.and_eq_true]
    refine ⟨by rw [decide_eq_true_eq]; omega, okT_of side r _ fun y => ?_⟩
    have h2 := h y
    rw [cnt_cons] at h2
    unfold upd
    by_cases e : y = side + s
    · rw [if_pos e] at h2 ⊢
      subst e
      omega
    · rw [if_neg e] at h2 ⊢
      omega
theorem grow_ok {n m : Nat} {W f : Int → Int} {c d C D : List Int} (h : ∀ y, f y = W y - cp c d y) (ht : Two n m W C D) (he : Ext c d C D) (hc : c.length < n) {x : Int} (hx : C.getD c.length 0 = x) : ∀ y, cnt x d y ≤ f y := fun y => by
  have h2 := cp_split (he.grow ht hc hx) y
  rw [cp_snoc] at h2
  have h3 := cp_nonneg (C.drop (c ++ [x]).length) D y
  have h4 := cp_nonneg (c ++ [x]) (D.drop d.length) y
  rw [h, ← ht.w]
  omega

/-- What holds while the program's search runs. -/
structure GSt (n m : Nat) (W : Int → Int) (sums : List Int) (at_ : Nat) (c d : List Int) (f : Int → Int) : Prop where
  inv : Inv n m sums at_ c d f
  beg : Begun W f c d
  rise : sums.Pairwise (· < ·)
theorem findAt_ge (f : Int → Int) (sums : List Int) (a : Nat) : a ≤ findAt f sums a := by
  unfold findAt
  omega
theorem GSt.least {n m : Nat} {W : Int → Int} {sums : List Int} {at_ : Nat} {c d : List Int} {f : Int → Int} (h : GSt n m W sums at_ c d f) (hne : ¬ (c.length = n ∧ d.length = m)) :
    ∃ s, sums[findAt f sums at_]? = some s ∧ f s ≠ 0 ∧ ∀ y, f y ≠ 0 → s ≤ y := by
  obtain ⟨_, s, hs, hfs, hz⟩ := h.inv.find hne
  refine ⟨s, hs, hfs, fun y hy => ?_⟩
  obtain ⟨j, hj, rfl⟩ := List.mem_iff_getElem.1 (h.inv.key y hy)
  obtain ⟨hl, rfl⟩ := List.getElem?_eq_some_iff.1 hs
  rcases Nat.lt_or_ge j (findAt f sums at_) with h1 | h1
  · rcases Nat.lt_or_ge j at_ with h2 | h2
    · exact absurd (h.inv.low j _ h2 (List.getElem?_eq_getElem hj)) hy
    · obtain ⟨t, ht, h0⟩ := hz j h2 h1
      rw [List.getElem?_eq_getElem hj] at ht
      rw [Option.some.inj ht] at hy
      exact absurd h0 hy
  · rcases Nat.eq_or_lt_of_le h1 with h2 | h2
    · subst h2
      exact Int.le_refl _
    · exact Int.le_of_lt (List.pairwise_iff_getElem.1 h.rise _ j hl hj h2)
theorem GSt.grow1 {n m : Nat} {W : Int → Int} {sums : List Int} {at_ : Nat} {c d : List Int} {f : Int → Int} (h : GSt n m W sums at_ c d f) (hne : ¬ (c.length = n ∧ d.length = m)) {s : Int} (hs : sums[findAt f sums at_]? = some s) (hfs : f s ≠ 0) (hl : ∀ y, f y ≠ 0 → s ≤ y)
    (hc : c.length ≠ n) (h60 : s - d.headD 0 ≤ 60) (hok : okT f (s - d.headD 0) d = true) : GSt n m W sums (findAt f sums at_) (c ++ [s - d.headD 0]) d (tk f (s - d.headD 0) d) :=
  ⟨h.inv.grow1 hne hs hc h60 hok, h.beg.grow h.inv.cl.1 hfs hl (okT_nonneg _ _ _ (fun y => (h.inv.rng y).1) hok), h.rise⟩
theorem GSt.grow2 {n m : Nat} {W : Int → Int} {sums : List Int} {at_ : Nat} {c d : List Int} {f : Int → Int} (h : GSt n m W sums at_ c d f) (hne : ¬ (c.length = n ∧ d.length = m)) {s : Int} (hs : sums[findAt f sums at_]? = some s) (hfs : f s ≠ 0) (hl : ∀ y, f y ≠ 0 → s ≤ y)
    (hd : d.length ≠ m) (h60 : s - c.headD 0 ≤ 60) (hok : okT f (s - c.headD 0) c = true) : GSt n m W sums (findAt f sums at_) c (d ++ [s - c.headD 0]) (tk f (s - c.headD 0) c) :=
  ⟨h.inv.grow2 hne hs hd h60 hok, (h.beg.swap.grow h.inv.dl.1 hfs hl (okT_nonneg _ _ _ (fun y => (h.inv.rng y).1) hok)).swap, h.rise⟩
theorem Ext.less1 {c d C D : List Int} {x : Int} (h : Ext (c ++ [x]) d C D) : Ext c d C D ∧ C.getD c.length 0 = x ∧ c.length < C.length := by
  have h1 := h.e1
  have hl := congrArg List.length h1
  rw [List.length_take, List.length_append, List.length_singleton] at hl
  have hlt : c.length < C.length := by omega
  rw [List.length_append, List.length_singleton, List.take_succ_eq_append_getElem hlt] at h1
  obtain ⟨h2, h3⟩ := List.append_inj' h1 rfl
  refine ⟨⟨h2, h.e2⟩, ?_, hlt⟩
  have e : C.getD c.length 0 = C[c.length] := by simp [List.getD, hlt]
  rw [e]
  exact List.cons.inj h3 |>.1

/-- What the search finds from a state on. -/
def Good (n m : Nat) (W : Int → Int) (sums : List Int) (at_ : Nat) (barred : Int) (c d : List Int) (f : Int → Int) (p : List Int × List Int) : Prop :=
  Two n m W p.1 p.2 ∧ Ext c d p.1 p.2 ∧ (c.length < n → p.1.getD c.length 0 + d.headD 0 = sums.getD (findAt f sums at_) 0 → (findAt f sums at_ : Int) ≠ barred)
def Finds (k n m : Nat) (W : Int → Int) (sums : List Int) : Prop := ∀ (at_ : Nat) (barred : Int) (c d : List Int) (f : Int → Int), GSt n m W sums at_ c d f → barred ≤ at_ → (n - c.length) + (m - d.length) + 1 ≤ k →
  ∀ p, p ∈ growL k n m sums at_ barred c d f ↔ Good n m W sums at_ barred c d f p

section
variable {k n m : Nat} {W : Int → Int} {sums : List Int} {at_ : Nat} {barred : Int} {c d : List Int} {f : Int → Int}
theorem br1_mem (ih : Finds k n m W sums) (h : GSt n m W sums at_ c d f) (hb : barred ≤ at_) (hk : (n - c.length) + (m - d.length) ≤ k) (hne : ¬ (c.length = n ∧ d.length = m)) {s : Int} (hs : sums[findAt f sums at_]? = some s) (hfs : f s ≠ 0) (hl : ∀ y, f y ≠ 0 → s ≤ y) (p : List Int × List Int) :
    p ∈ br1 k n m sums (findAt f sums at_) barred c d f s ↔ Two n m W p.1 p.2 ∧ Ext c d p.1 p.2 ∧ c.length < n ∧ p.1.getD c.length 0 + d.headD 0 = s ∧ (findAt f sums at_ : Int) ≠ barred := by
  have hcl := h.inv.cl
  have hfa := findAt_ge f sums at_
  have key : c.length ≠ n → s - d.headD 0 ≤ 60 → (findAt f sums at_ : Int) ≠ barred → okT f (s - d.headD 0) d = true →
      (p ∈ growL k n m sums (findAt f sums at_) barred (c ++ [s - d.headD 0]) d (tk f (s - d.headD 0) d) ↔ Two n m W p.1 p.2 ∧ Ext (c ++ [s - d.headD 0]) d p.1 p.2) := fun h1 h2 h3 h4 => by
    rw [ih _ _ _ _ _ (h.grow1 hne hs hfs hl h1 h2 h4) (by omega) (by simp; omega)]
    unfold Good
    refine ⟨fun ⟨a, b, _⟩ => ⟨a, b⟩, fun ⟨a, b⟩ => ⟨a, b, fun _ _ => ?_⟩⟩
    have := findAt_ge (tk f (s - d.headD 0) d) sums (findAt f sums at_)
    omega
  unfold br1
  by_cases h1 : c.length = n
  · rw [if_pos (.inl h1)]
    exact ⟨fun h => (by cases h), fun ⟨_, _, h2, _⟩ => absurd h1 (by omega)⟩
  by_cases h2 : 60 < s - d.headD 0
  · rw [if_pos (.inr (.inl h2))]
    refine ⟨fun h => (by cases h), fun ⟨ht, he, h3, h4, _⟩ => ?_⟩
    have := ht.lc _ (mem_getD (l := p.1) (k := c.length) (by rw [ht.n]; exact h3))
    omega
  by_cases h3 : (findAt f sums at_ : Int) = barred
  · rw [if_pos (.inr (.inr h3))]
    exact ⟨fun h => (by cases h), fun ⟨_, _, _, _, h4⟩ => absurd h3 h4⟩
  rw [if_neg (by rintro (e | e | e) <;> contradiction)]
  by_cases h4 : okT f (s - d.headD 0) d = true
  · rw [if_pos h4, key h1 (by omega) h3 h4]
    constructor
    · rintro ⟨ht, he⟩
      obtain ⟨e1, e2, e3⟩ := he.less1
      exact ⟨ht, e1, by omega, by omega, h3⟩
    · rintro ⟨ht, he, h5, h6, _⟩
      exact ⟨ht, he.grow ht h5 (by omega)⟩
  · rw [if_neg h4]
    refine ⟨fun h => (by cases h), fun ⟨ht, he, h5, h6, _⟩ => absurd ?_ h4⟩
    exact okT_of _ _ _ (grow_ok h.beg.eq ht he h5 (by omega))
theorem br2_mem (ih : Finds k n m W sums) (h : GSt n m W sums at_ c d f) (hk : (n - c.length) + (m - d.length) ≤ k) (hne : ¬ (c.length = n ∧ d.length = m)) {s : Int} (hs : sums[findAt f sums at_]? = some s) (hfs : f s ≠ 0) (hl : ∀ y, f y ≠ 0 → s ≤ y) (p : List Int × List Int) :
    p ∈ br2 k n m sums (findAt f sums at_) c d f s ↔ Two n m W p.1 p.2 ∧ Ext c d p.1 p.2 ∧ ¬ (c.length < n ∧ p.1.getD c.length 0 + d.headD 0 = s) := by
  have hcl := h.inv.cl
  have hdl := h.inv.dl
  have hsm : s ∈ sums := List.mem_of_getElem? hs
  have key : d.length ≠ m → s - c.headD 0 ≤ 60 → okT f (s - c.headD 0) c = true →
      (p ∈ growL k n m sums (findAt f sums at_) (findAt f sums at_) c (d ++ [s - c.headD 0]) (tk f (s - c.headD 0) c) ↔ Two n m W p.1 p.2 ∧ Ext c (d ++ [s - c.headD 0]) p.1 p.2 ∧ ¬ (c.length < n ∧ p.1.getD c.length 0 + d.headD 0 = s)) := fun h1 h2 h4 => by
    have hg := h.grow2 hne hs hfs hl h1 h2 h4
    rw [ih _ _ _ _ _ hg (Int.le_refl _) (by simp; omega)]
    unfold Good
    rw [headD_append hdl.1]
    refine and_congr_right fun ht => and_congr_right fun he => ?_
    constructor
    · rintro h5 ⟨h6, h7⟩
      obtain ⟨s', hs', hfs', hl'⟩ := hg.least (fun e => by omega)
      have h8 := next_left hg.beg.eq ht he (by simp) h6
      rw [headD_append hdl.1, h7] at h8
      have h9 := hl' s h8
      have h10 := hl s' (fun h0 => hfs' (by have := tk_le f (s - c.headD 0) c s'; have := (hg.inv.rng s').1; omega))
      obtain rfl : s = s' := by omega
      obtain ⟨j1, e1⟩ := List.getElem?_eq_some_iff.1 hs
      obtain ⟨j2, e2⟩ := List.getElem?_eq_some_iff.1 hs'
      have h11 := (List.getElem_inj h.inv.nd).1 (e2.trans e1.symm)
      refine h5 h6 ?_ (by rw [h11])
      rw [h11, h7]
      simp [List.getD, hs]
    · intro h5 h6 h7 h8
      refine h5 ⟨h6, ?_⟩
      rw [h7, show findAt (tk f (s - c.headD 0) c) sums (findAt f sums at_) = findAt f sums at_ by omega]
      simp [List.getD, hs]
  have go : Two n m W p.1 p.2 → Ext c d p.1 p.2 → ¬ (c.length < n ∧ p.1.getD c.length 0 + d.headD 0 = s) → d.length < m ∧ p.2.getD d.length 0 = s - c.headD 0 := fun ht he h5 => by
    rcases left_made h.beg.eq h.beg.ac ht he hdl.1 hfs with ⟨h6, h7⟩ | ⟨h6, h7⟩
    · have := hl _ (next_left h.beg.eq ht he hdl.1 h6)
      exact absurd ⟨h6, by omega⟩ h5
    · have := hl _ (next_left h.beg.swap.eq ht.swap he.swap hcl.1 h6)
      exact ⟨h6, by omega⟩
  unfold br2
  by_cases h1 : d.length = m
  · rw [if_pos (.inl h1)]
    refine ⟨fun h => (by cases h), fun ⟨ht, he, h5⟩ => ?_⟩
    have := go ht he h5
    omega
  by_cases h2 : 60 < s - c.headD 0
  · rw [if_pos (.inr h2)]
    refine ⟨fun h => (by cases h), fun ⟨ht, he, h5⟩ => ?_⟩
    obtain ⟨h6, h7⟩ := go ht he h5
    have := ht.ld _ (mem_getD (l := p.2) (k := d.length) (by rw [ht.m]; exact h6))
    omega
  rw [if_neg (by rintro (e | e) <;> contradiction)]
  by_cases h4 : okT f (s - c.headD 0) c = true
  · rw [if_pos h4, key h1 (by omega) h4]
    constructor
    · rintro ⟨ht, he, h5⟩
      exact ⟨ht, he.swap.less1.1.swap, h5⟩
    · rintro ⟨ht, he, h5⟩
      obtain ⟨h6, h7⟩ := go ht he h5
      exact ⟨ht, (he.swap.grow ht.swap h6 h7).swap, h5⟩
  · rw [if_neg h4]
    refine ⟨fun h => (by cases h), fun ⟨ht, he, h5⟩ => absurd ?_ h4⟩
    obtain ⟨h6, h7⟩ := go ht he h5
    exact okT_of _ _ _ (grow_ok h.beg.swap.eq ht.swap he.swap h6 h7)
end

theorem growL_mem : ∀ (k n m : Nat) (W : Int → Int) (sums : List Int), Finds k n m W sums
  | 0, n, m, W, sums => fun at_ barred c d f _ _ hk => by omega
  | k + 1, n, m, W, sums => fun at_ barred c d f h hb hk p => by
    by_cases hne : c.length = n ∧ d.length = m
    · rw [growL, if_pos hne, List.mem_singleton]
      unfold Good
      have hz : ∀ y, f y = 0 := fun y => by
        rcases Classical.em (f y = 0) with h0 | h0
        · exact h0
        · have h1 := h.inv.sum
          rw [hne.1, hne.2, Int.sub_self] at h1
          obtain ⟨l1, l2, e⟩ := List.append_of_mem (h.inv.key y h0)
          have h2 : sumF f sums = sumF f l1 + (f y + sumF f l2) := by rw [e]; simp [sumF]
          have h3 : ∀ l : List Int, 0 ≤ sumF f l := fun l => sums_nonneg _ fun z hz => by
            obtain ⟨x, _, rfl⟩ := List.mem_map.1 hz
            exact (h.inv.rng x).1
          have h4 := h3 l1
          have h5 := h3 l2
          have h6 := (h.inv.rng y).1
          omega
      constructor
      · rintro rfl
        refine ⟨⟨hne.1, hne.2, h.beg.ac, h.beg.ad, fun x hx => (h.inv.ce x hx).2, fun x hx => (h.inv.de x hx).2, fun y => ?_⟩, ⟨List.take_length, List.take_length⟩, fun h1 => by omega⟩
        have := h.beg.eq y
        rw [hz y] at this
        show cp c d y = W y
        omega
      · rintro ⟨ht, he, _⟩
        have e1 := he.e1
        have e2 := he.e2
        rw [List.take_of_length_le (by rw [ht.n]; omega)] at e1
        rw [List.take_of_length_le (by rw [ht.m]; omega)] at e2
        exact Prod.ext e1 e2
    · obtain ⟨s, hs, hfs, hl⟩ := h.least hne
      have ih := growL_mem k n m W sums
      rw [growL_succ hne hs, List.mem_append, br1_mem ih h hb (by omega) hne hs hfs hl, br2_mem ih h (by omega) hne hs hfs hl]
      unfold Good
      have e : sums.getD (findAt f sums at_) 0 = s := by simp [List.getD, hs]
      rw [e]
      constructor
      · rintro (⟨ht, he, h1, h2, h3⟩ | ⟨ht, he, h1⟩)
        · exact ⟨ht, he, fun _ _ => h3⟩
        · exact ⟨ht, he, fun h2 h3 => absurd ⟨h2, h3⟩ h1⟩
      · rintro ⟨ht, he, h1⟩
        by_cases h2 : c.length < n ∧ p.1.getD c.length 0 + d.headD 0 = s
        · exact .inl ⟨ht, he, h2.1, h2.2, h1 h2.1 h2.2⟩
        · exact .inr ⟨ht, he, h2⟩

/-- Whether a list comes before another one: as the reference says it. -/
def befL : List Int → List Int → Bool
  | x :: a, y :: b => if x = y then befL a b else decide (x < y)
  | _, _ => false
def ltP (p q : List Int × List Int) : Bool := befL p.1 q.1 || (p.1 == q.1 && befL p.2 q.2)
theorem befL_asymm : ∀ {a b : List Int}, befL a b = true → befL b a = false
  | [], _, h => by simp [befL] at h
  | _ :: _, [], h => by simp [befL] at h
  | x :: a, y :: b, h => by
    unfold befL at h ⊢
    by_cases e : x = y
    · rw [if_pos e] at h
      rw [if_pos e.symm]
      exact befL_asymm h
    · rw [if_neg e] at h
      rw [if_neg (fun e2 => e e2.symm)]
      have := of_decide_eq_true h
      exact decide_eq_false (by omega)
theorem befL_irrefl (a : List Int) : befL a a = false := by
  cases h : befL a a with
  | false => rfl
  | true => exact h.symm.trans (befL_asymm h)
theorem befL_trans : ∀ {a b c : List Int}, befL a b = true → befL b c = true → befL a c = true
  | [], _, _, h, _ => by simp [befL] at h
  | _ :: _, [], _, h, _ => by simp [befL] at h
  | _ :: _, _ :: _, [], _, h => by simp [befL] at h
  | x :: a, y :: b, z :: c, h1, h2 => by
    unfold befL at h1 h2 ⊢
    by_cases e : x = y
    · subst e
      rw [if_pos rfl] at h1
      by_cases e2 : x = z
      · rw [if_pos e2] at h2 ⊢
        exact befL_trans h1 h2
      · rw [if_neg e2] at h2 ⊢
        exact h2
    · rw [if_neg e] at h1
      have h3 := of_decide_eq_true h1
      by_cases e2 : y = z
      · subst e2
        rw [if_neg e]
        exact h1
      · rw [if_neg e2] at h2
        have h4 := of_decide_eq_true h2
        rw [if_neg (by omega)]
        exact decide_eq_true (by omega)
theorem befL_total : ∀ {a b : List Int}, a.length = b.length → befL a b = false → befL b a = false → a = b
  | [], [], _, _, _ => rfl
  | [], _ :: _, h, _, _ => by simp at h
  | _ :: _, [], h, _, _ => by simp at h
  | x :: a, y :: b, h, h1, h2 => by
    unfold befL at h1 h2
    by_cases e : x = y
    · rw [if_pos e] at h1
      rw [if_pos e.symm] at h2
      rw [e, befL_total (by simpa using h) h1 h2]
    · rw [if_neg e] at h1
      rw [if_neg (fun e2 => e e2.symm)] at h2
      have h3 := of_decide_eq_false h1
      have h4 := of_decide_eq_false h2
      omega
theorem ltP_asymm {p q : List Int × List Int} (h : ltP p q = true) : ltP q p = false := by
  unfold ltP at h ⊢
  rw [Bool.or_eq_true, Bool.and_eq_true, beq_iff_eq] at h
  rw [Bool.or_eq_false_iff, Bool.and_eq_false_iff]
  rcases h with h | ⟨h1, h2⟩
  · refine ⟨befL_asymm h, .inl ?_⟩
    rw [beq_eq_false_iff_ne]
    intro e
    rw [e, befL_irrefl] at h
    cases h
  · refine ⟨by rw [h1, befL_irrefl], .inr (befL_asymm h2)⟩
theorem ltP_trans {p q r : List Int × List Int} (h1 : ltP p q = true) (h2 : ltP q r = true) : ltP p r = true := by
  unfold ltP at h1 h2 ⊢
  rw [Bool.or_eq_true, Bool.and_eq_true, beq_iff_eq] at h1 h2 ⊢
  rcases h1 with h1 | ⟨e1, h1⟩ <;> rcases h2 with h2 | ⟨e2, h2⟩
  · exact .inl (befL_trans h1 h2)
  · exact .inl (by rw [← e2]; exact h1)
  · exact .inl (by rw [e1]; exact h2)
  · exact .inr ⟨e1.trans e2, befL_trans h1 h2⟩
theorem ltP_total {p q : List Int × List Int} (h1 : p.1.length = q.1.length) (h2 : p.2.length = q.2.length) (h3 : ltP p q = false) (h4 : ltP q p = false) : p = q := by
  unfold ltP at h3 h4
  rw [Bool.or_eq_false_iff] at h3 h4
  have e1 := befL_total h1 h3.1 h4.1
  have h5 := h3.2
  have h6 := h4.2
  rw [e1, beq_self_eq_true, Bool.true_and] at h5
  rw [e1, beq_self_eq_true, Bool.true_and] at h6
  exact Prod.ext e1 (befL_total h2 h5 h6)
theorem less_at : ∀ {a b : List Int} {k : Nat}, a.take k = b.take k → k < a.length → k < b.length → a.getD k 0 < b.getD k 0 → befL a b = true
  | [], _, _, _, h, _, _ => by simp at h
  | _ :: _, [], _, _, _, h, _ => by simp at h
  | x :: a, y :: b, 0, _, _, _, h => by
    have h : x < y := h
    unfold befL
    rw [if_neg (by omega)]
    exact decide_eq_true h
  | x :: a, y :: b, k + 1, h1, h2, h3, h => by
    rw [List.take_succ_cons, List.take_succ_cons] at h1
    obtain ⟨e, h1⟩ := List.cons.inj h1
    unfold befL
    rw [if_pos e]
    exact less_at h1 (by simpa using h2) (by simpa using h3) h
/-- In rising order. -/
def RiseP (l : List (List Int × List Int)) : Prop := l.Pairwise fun p q => ltP p q = true
theorem RiseP.unique : ∀ {a b : List (List Int × List Int)}, RiseP a → RiseP b → (∀ p, p ∈ a ↔ p ∈ b) → a = b
  | [], [], _, _, _ => rfl
  | [], q :: b, _, _, h => by have := (h q).2 (by simp); simp at this
  | p :: a, [], _, _, h => by have := (h p).1 (by simp); simp at this
  | p :: a, q :: b, ha, hb, h => by
    have ha2 := List.pairwise_cons.1 ha
    have hb2 := List.pairwise_cons.1 hb
    have hirr : ∀ r, ltP r r = false := fun r => by
      cases e : ltP r r with
      | false => rfl
      | true => exact e.symm.trans (ltP_asymm e)
    have hpq : p = q := by
      rcases List.mem_cons.1 ((h p).1 (by simp)) with e | e
      · exact e
      · rcases List.mem_cons.1 ((h q).2 (by simp)) with e2 | e2
        · exact e2.symm
        · have h1 := hb2.1 p e
          have h2 := ltP_asymm (ha2.1 q e2)
          rw [h1] at h2
          cases h2
    subst hpq
    rw [RiseP.unique ha2.2 hb2.2 fun z => ?_]
    constructor
    · intro hz
      rcases List.mem_cons.1 ((h z).1 (by simp [hz])) with e | e
      · have := ha2.1 z hz
        rw [e, hirr] at this
        cases this
      · exact e
    · intro hz
      rcases List.mem_cons.1 ((h z).2 (by simp [hz])) with e | e
      · have := hb2.1 z hz
        rw [e, hirr] at this
        cases this
      · exact e

theorem growL_rise : ∀ (k n m : Nat) (W : Int → Int) (sums : List Int) (at_ : Nat) (barred : Int) (c d : List Int) (f : Int → Int), GSt n m W sums at_ c d f → barred ≤ at_ → (n - c.length) + (m - d.length) + 1 ≤ k → RiseP (growL k n m sums at_ barred c d f)
  | 0, n, m, W, sums, at_, barred, c, d, f, _, _, hk => by omega
  | k + 1, n, m, W, sums, at_, barred, c, d, f, h, hb, hk => by
    by_cases hne : c.length = n ∧ d.length = m
    · rw [growL, if_pos hne]
      exact List.pairwise_singleton _ _
    · obtain ⟨s, hs, hfs, hl⟩ := h.least hne
      have ih := growL_mem k n m W sums
      have hcl := h.inv.cl
      have hdl := h.inv.dl
      have hfa := findAt_ge f sums at_
      unfold RiseP
      rw [growL_succ hne hs, List.pairwise_append]
      refine ⟨?_, ?_, fun p hp q hq => ?_⟩
      · unfold br1
        split
        · exact List.Pairwise.nil
        · rename_i h1
          rw [not_or, not_or] at h1
          split
          · rename_i h2
            exact growL_rise k n m W sums _ _ _ _ _ (h.grow1 hne hs hfs hl h1.1 (by omega) h2) (by omega) (by simp; omega)
          · exact List.Pairwise.nil
      · unfold br2
        split
        · exact List.Pairwise.nil
        · rename_i h1
          rw [not_or] at h1
          split
          · rename_i h2
            exact growL_rise k n m W sums _ _ _ _ _ (h.grow2 hne hs hfs hl h1.1 (by omega) h2) (Int.le_refl _) (by simp; omega)
          · exact List.Pairwise.nil
      · rw [br1_mem ih h hb (by omega) hne hs hfs hl] at hp
        rw [br2_mem ih h (by omega) hne hs hfs hl] at hq
        obtain ⟨tp, ep, h1, h2, _⟩ := hp
        obtain ⟨tq, eq, h3⟩ := hq
        have h4 := hl _ (next_left h.beg.eq tq eq hdl.1 h1)
        have h5 : q.1.getD c.length 0 + d.headD 0 ≠ s := fun e => h3 ⟨h1, e⟩
        unfold ltP
        rw [less_at (a := p.1) (b := q.1) (k := c.length) (ep.e1.trans eq.e1.symm) (by rw [tp.n]; exact h1) (by rw [tq.n]; exact h1) (by omega), Bool.true_or]

theorem Two.len {n m : Nat} {W : Int → Int} {C D : List Int} (h : Two n m W C D) : C.length = n ∧ D.length = m := ⟨h.n, h.m⟩
/-- Where ways are exceeded, no dice go on. -/
theorem none_over {n m : Nat} {W : Int → Int} {c d : List Int} {s : Int} (h : W s < cp c d s) (p : List Int × List Int) : ¬ (Two n m W p.1 p.2 ∧ Ext c d p.1 p.2) := fun ⟨ht, he⟩ => by
  have h1 := cp_split he s
  have h2 := cp_nonneg (p.1.drop c.length) p.2 s
  have h3 := cp_nonneg c (p.2.drop d.length) s
  have := ht.w s
  omega
/-- Where nothing is left, only dice with all sides go on. -/
theorem full_only {n m : Nat} {W : Int → Int} {c d : List Int} (h : ∀ y, cp c d y = W y) (hc : 1 ≤ c.length) (hd : 1 ≤ d.length) (hcn : c.length ≤ n) (hdm : d.length ≤ m) (ac : Asc c) (ad : Asc d) (lc : ∀ x ∈ c, x ≤ 60) (ld : ∀ x ∈ d, x ≤ 60) (p : List Int × List Int) :
    (Two n m W p.1 p.2 ∧ Ext c d p.1 p.2) ↔ (c.length = n ∧ d.length = m) ∧ p = (c, d) := by
  have h0 : ∀ y, (fun _ => (0 : Int)) y = W y - cp c d y := fun y => by
    have := h y
    show (0 : Int) = _
    omega
  constructor
  · rintro ⟨ht, he⟩
    have h1 : c.length = n := by
      rcases Nat.lt_or_ge c.length n with h2 | h2
      · exact absurd rfl (next_left h0 ht he hd h2)
      · omega
    have h2 : d.length = m := by
      rcases Nat.lt_or_ge d.length m with h2 | h2
      · exact absurd rfl (next_left (f := fun _ => 0) (fun y => by rw [cp_swap]; exact h0 y) ht.swap he.swap hc h2)
      · omega
    have e1 := he.e1
    have e2 := he.e2
    rw [List.take_of_length_le (by rw [ht.n]; omega)] at e1
    rw [List.take_of_length_le (by rw [ht.m]; omega)] at e2
    exact ⟨⟨h1, h2⟩, Prod.ext e1 e2⟩
  · rintro ⟨⟨h1, h2⟩, rfl⟩
    exact ⟨⟨h1, h2, ac, ad, lc, ld, h⟩, ⟨List.take_length, List.take_length⟩⟩
theorem last_le {l : List Int} (h : Asc l) (h1 : 1 ≤ l.length) {u : Int} (hu : u ∈ l) : u ≤ l.getD (l.length - 1) 0 := by
  obtain ⟨i, hi, rfl⟩ := List.mem_iff_getElem.1 hu
  have e : l.getD (l.length - 1) 0 = l[l.length - 1] := by simp [List.getD, show l.length - 1 < l.length by omega]
  rw [e]
  rcases Nat.eq_or_lt_of_le (show i ≤ l.length - 1 by omega) with h2 | h2
  · subst h2
    exact Int.le_refl _
  · exact List.pairwise_iff_getElem.1 h i (l.length - 1) hi (by omega) h2
theorem ext_last {n m : Nat} {W : Int → Int} {c d C D : List Int} (ht : Two n m W C D) (he : Ext c d C D) (hc : 1 ≤ c.length) (hcn : c.length < n) : c.getD (c.length - 1) 0 ≤ C.getD c.length 0 := by
  have hl : c.length < C.length := by rw [ht.n]; exact hcn
  have e1 : C.getD c.length 0 = C[c.length] := by simp [List.getD, hl]
  have e2 : c.getD (c.length - 1) 0 = C[c.length - 1] := by
    have h1 : (C.take c.length).getD (c.length - 1) 0 = C[c.length - 1] := by simp [List.getD, show c.length - 1 < c.length by omega, show c.length - 1 < C.length by omega]
    rw [he.e1] at h1
    exact h1
  rw [e1, e2]
  exact List.pairwise_iff_getElem.1 ht.ac (c.length - 1) c.length (by omega) hl (by omega)
/-- At the least sum that is left, the one die or the other one goes on. -/
theorem step_ext {n m : Nat} {W f : Int → Int} {c d : List Int} (h : ∀ y, f y = W y - cp c d y) (ac : Asc c) (hc : 1 ≤ c.length) (hd : 1 ≤ d.length) {s : Int} (hs : f s ≠ 0) (hl : ∀ y, f y ≠ 0 → s ≤ y) (p : List Int × List Int) :
    (Two n m W p.1 p.2 ∧ Ext c d p.1 p.2) ↔ ((c.length < n ∧ c.getD (c.length - 1) 0 ≤ s - d.headD 0 ∧ s - d.headD 0 ≤ 60) ∧ Two n m W p.1 p.2 ∧ Ext (c ++ [s - d.headD 0]) d p.1 p.2) ∨ ((d.length < m ∧ d.getD (d.length - 1) 0 ≤ s - c.headD 0 ∧ s - c.headD 0 ≤ 60) ∧ Two n m W p.1 p.2 ∧ Ext c (d ++ [s - c.headD 0]) p.1 p.2) := by
  have h' : ∀ y, f y = W y - cp d c y := fun y => by rw [cp_swap]; exact h y
  constructor
  · rintro ⟨ht, he⟩
    rcases left_made h ac ht he hd hs with ⟨h6, h7⟩ | ⟨h6, h7⟩
    · have h8 := hl _ (next_left h ht he hd h6)
      have e : p.1.getD c.length 0 = s - d.headD 0 := by omega
      refine .inl ⟨⟨h6, ?_, ?_⟩, ht, he.grow ht h6 e⟩
      · rw [← e]
        exact ext_last ht he hc h6
      · rw [← e]
        exact ht.lc _ (mem_getD (by rw [ht.n]; exact h6))
    · have h8 := hl _ (next_left h' ht.swap he.swap hc h6)
      have e : p.2.getD d.length 0 = s - c.headD 0 := by omega
      refine .inr ⟨⟨h6, ?_, ?_⟩, ht, (he.swap.grow ht.swap h6 e).swap⟩
      · rw [← e]
        exact ext_last ht.swap he.swap hd h6
      · rw [← e]
        exact ht.ld _ (mem_getD (by rw [ht.m]; exact h6))
  · rintro (⟨_, ht, he⟩ | ⟨_, ht, he⟩)
    · exact ⟨ht, he.less1.1⟩
    · exact ⟨ht, he.swap.less1.1.swap⟩

/-- A pair put into its place, if it isn't there. -/
def putK (x : List Int × List Int) (l : List (List Int × List Int)) : Nat := l.findIdx fun p => !ltP p x
def putL (x : List Int × List Int) (l : List (List Int × List Int)) : List (List Int × List Int) := if l[putK x l]? = some x then l else l.take (putK x l) ++ x :: l.drop (putK x l)
theorem putK_le (x : List Int × List Int) (l : List (List Int × List Int)) : putK x l ≤ l.length := List.findIdx_le_length
theorem putL_mem (x : List Int × List Int) (l : List (List Int × List Int)) (p : List Int × List Int) : p ∈ putL x l ↔ p ∈ l ∨ p = x := by
  unfold putL
  split
  · rename_i h
    have := List.mem_of_getElem? h
    constructor
    · exact .inl
    · rintro (h | rfl)
      · exact h
      · exact this
  · have e : p ∈ l ↔ p ∈ l.take (putK x l) ∨ p ∈ l.drop (putK x l) := by rw [← List.mem_append, List.take_append_drop]
    rw [List.mem_append, List.mem_cons, e]
    constructor
    · rintro (h | h | h)
      · exact .inl (.inl h)
      · exact .inr h
      · exact .inl (.inr h)
    · rintro ((h | h) | h)
      · exact .inl h
      · exact .inr (.inr h)
      · exact .inr (.inl h)
theorem putL_rise {n m : Nat} {x : List Int × List Int} {l : List (List Int × List Int)} (hx : x.1.length = n ∧ x.2.length = m) (hl : ∀ p ∈ l, p.1.length = n ∧ p.2.length = m) (hr : RiseP l) : RiseP (putL x l) := by
  unfold putL
  split
  · exact hr
  · rename_i hne
    unfold RiseP at hr ⊢
    have hlt : ∀ p ∈ l.take (putK x l), ltP p x = true := fun p hp => by
      obtain ⟨i, hi, rfl⟩ := List.mem_iff_getElem.1 hp
      rw [List.getElem_take]
      rw [List.length_take] at hi
      have := List.not_of_lt_findIdx (show i < l.findIdx fun p => !ltP p x from by unfold putK at hi; omega)
      simpa using this
    have hgt : ∀ p ∈ l.drop (putK x l), ltP x p = true := fun p hp => by
      obtain ⟨i, hi, rfl⟩ := List.mem_iff_getElem.1 hp
      rw [List.getElem_drop]
      rw [List.length_drop] at hi
      have hk : putK x l < l.length := by omega
      have h1 : ltP l[putK x l] x = false := by
        have := List.findIdx_getElem (p := fun p => !ltP p x) (xs := l) (w := hk)
        exact Bool.not_eq_true' _ ▸ this
      have h2 : ltP x l[putK x l] = true := by
        cases e : ltP x l[putK x l] with
        | true => rfl
        | false =>
          have h3 := hl _ (List.getElem_mem hk)
          have h4 := ltP_total (h3.1.trans hx.1.symm) (h3.2.trans hx.2.symm) h1 e
          exact absurd (by rw [List.getElem?_eq_getElem hk, h4]) hne
      rcases Nat.eq_zero_or_pos i with h0 | h0
      · subst h0
        exact h2
      · exact ltP_trans h2 (List.pairwise_iff_getElem.1 hr (putK x l) (putK x l + i) hk (by omega) (by omega))
    rw [List.pairwise_append, List.pairwise_cons]
    refine ⟨hr.sublist (List.take_sublist _ _), ⟨hgt, hr.sublist (List.drop_sublist _ _)⟩, fun a ha b hb => ?_⟩
    rcases List.mem_cons.1 hb with rfl | hb
    · exact hlt a ha
    · exact ltP_trans (hlt a ha) (hgt b hb)
/-- The list with these pairs added. -/
structure Adds (n m : Nat) (l l' : List (List Int × List Int)) (P : List Int × List Int → Prop) : Prop where
  rise : RiseP l'
  len : ∀ p ∈ l', p.1.length = n ∧ p.2.length = m
  mem : ∀ p, p ∈ l' ↔ p ∈ l ∨ P p

end Go.Proofs.Ytkkholagmjcgiaa
