/- What DiceAdds needs besides: two lists of dice one behind the other; bounds on sums and their ways. -/
import Derived.Test.YtkkholagmjcgiaaAddsL
import Derived.Test.YtkkholagmjcgiaaDiceSums
namespace Go.Proofs.Ytkkholagmjcgiaa
open Go.ChangeShapes Go.WideShapes Go.ChangeAt Go.RowKit

/-- Two lists of dice, laid one behind the other. -/
theorem both_dice {w w2 : World} {base : Nat} {v : Value} {dx dy : List (List Int)} {us1 us2 : List Value} (h : w2.ownsRow base 36 1 v (dx.length + dy.length) (us1 ++ us2)) (l1 : us1.length = dx.length) (l2 : us2.length = dy.length)
    (r1 : ∀ (i : Nat) (u : Value) (d : List Int), us1[i]? = some u → dx[i]? = some d → RDie w w.heap.size u d) (r2 : ∀ (i : Nat) (u : Value) (d : List Int), us2[i]? = some u → dy[i]? = some d → RDie w w.heap.size u d) (hb : Below w.heap.size w w2) :
    ∃ A c, v = .slice A (dx ++ dy).length c ∧ RDice w2 w2.heap.size A (dx ++ dy) := by
  have hlen : (us1 ++ us2).length = (dx ++ dy).length := by rw [List.length_append, List.length_append, l1, l2]
  have hrow : ∀ (i : Nat) (u : Value) (d : List Int), (us1 ++ us2)[i]? = some u → (dx ++ dy)[i]? = some d → RDie w2 w2.heap.size u d := fun i u d hu hd => by
    have hk : RDie w w.heap.size u d := by
      rcases Nat.lt_or_ge i us1.length with hlt | hge
      · rw [List.getElem?_append_left hlt] at hu
        rw [List.getElem?_append_left (by omega)] at hd
        exact r1 i u d hu hd
      · rw [List.getElem?_append_right hge] at hu
        rw [List.getElem?_append_right (by omega), ← l1] at hd
        exact r2 _ u d hu hd
    exact (hk.keep fun b o hlt => hb.cell (p := ⟨b, o, none⟩) hlt).more hb.size
  rw [← List.length_append] at h
  rcases h.2 with ⟨e1, hn⟩ | ⟨g, cap, cur, e1, hbg, hh, h1, h2, h3, h4⟩
  · refine ⟨none, 0, by rw [e1, hn], ?_⟩
    rw [List.eq_nil_of_length_eq_zero hn]
    exact RDice.nil_
  · refine ⟨_, cap, e1, ⟨us1 ++ us2, hlen, fun j u hu => ?_, hrow⟩⟩
    have hbx : Box w2 g 36 cur := hh
    have hj : j < (dx ++ dy).length := by rw [← hlen]; exact (List.getElem?_eq_some_iff.1 hu).1
    refine ⟨g, 0, rfl, hbx.lt, ?_⟩
    rw [Nat.zero_add, hbx.cell j]
    have h5 := congrArg (fun l => l[j]?) h4
    rw [show (us1 ++ us2)[j]? = some u from hu] at h5
    have h6 : (cur.toList.take ((dx ++ dy).length * 1))[j]? = some u := h5
    rw [Nat.mul_one, List.getElem?_take, if_pos hj] at h6
    simpa using h6

theorem maxW_small : ∀ {ds : List (List Int)} {m : Nat}, (∀ d ∈ ds, lastN d ≤ m) → maxW ds ≤ m * ds.length
  | [], _, _ => by simp [maxW]
  | d :: r, m, h => by
    have ih := maxW_small (ds := r) (m := m) fun x hx => h x (by simp [hx])
    have h1 := h d (by simp)
    unfold maxW at ih ⊢
    simp only [List.map_cons, List.sum_cons, List.length_cons, Nat.mul_add, Nat.mul_one]
    omega
theorem someL_last (l : List (List Int)) {many most : Nat} (d : List Int) (h : d ∈ someL l many most) : lastN d ≤ most := by
  have hin : ∀ x ∈ d, 0 ≤ x ∧ x ≤ (most : Int) := by
    unfold someL at h
    split at h
    · rw [List.mem_singleton] at h
      subst h
      intro x hx
      simp at hx
      omega
    · obtain ⟨y, _, rfl⟩ := List.mem_map.1 h
      exact (madeL_facts y (most := (most : Int)) (by omega)).2.2.2
  unfold lastN
  rcases Nat.eq_zero_or_pos d.length with h0 | h0
  · rw [List.eq_nil_of_length_eq_zero h0]
    simp
  · have hg : d.getD (d.length - 1) 0 = d[d.length - 1] := by simp [List.getD, show d.length - 1 < d.length by omega]
    have := hin d[d.length - 1] (List.getElem_mem _)
    rw [hg]
    omega
theorem someL_many (l : List (List Int)) {many : Nat} (most : Int) (h1 : 1 ≤ many) : (someL l many most).length ≤ many := by
  unfold someL
  split
  · simpa using h1
  · rw [List.length_map, List.length_take]
    omega
theorem sums_len {ds : List (List Int)} (hd : AreDice ds) : (sumsL ds).length ≤ maxW ds + 1 := by
  rw [← sumsTo_all hd.die hd.len]
  exact sumsTo_len ds _
theorem maxW_append (dx dy : List (List Int)) : maxW (dx ++ dy) = maxW dx + maxW dy := by
  unfold maxW
  rw [List.map_append, List.sum_append]
theorem sums_at {ds : List (List Int)} (hd : AreDice ds) {i : Nat} {p : Int × Int} (h : (sumsL ds)[i]? = some p) : 0 ≤ p.1 ∧ p.1 ≤ 360 ∧ 1 ≤ p.2 ∧ p.2 ≤ 262144 ∧ p.2 = waysF ds p.1 := by
  unfold sumsL at h
  rw [List.getElem?_map] at h
  obtain ⟨k, hk, rfl⟩ := Option.map_eq_some_iff.1 h
  have hm := List.mem_of_getElem? hk
  unfold keysW at hm
  rw [List.mem_filter, mem_evK] at hm
  have h1 := (waysOk_all ds (fun d h => (hd.die d h).ok) hd.len).1 k
  have h2 := nz_iff.1 hm.2
  refine ⟨by show 0 ≤ k; omega, by show k ≤ 360; omega, by show 1 ≤ waysF ds k; omega, by show waysF ds k ≤ 262144; omega, rfl⟩
theorem four {a b c d e : Prop} (h : a ∧ b ∧ c ∧ d ∧ e) : a ∧ b ∧ c ∧ d := ⟨h.1, h.2.1, h.2.2.1, h.2.2.2.1⟩
theorem sums_rise {ds : List (List Int)} {i : Nat} {p q : Int × Int} (h1 : (sumsL ds)[i]? = some p) (h2 : (sumsL ds)[i + 1]? = some q) : p.1 < q.1 := by
  unfold sumsL at h1 h2
  rw [List.getElem?_map] at h1 h2
  obtain ⟨a, ha, rfl⟩ := Option.map_eq_some_iff.1 h1
  obtain ⟨b, hb, rfl⟩ := Option.map_eq_some_iff.1 h2
  have hr : (keysW ds).Pairwise (· < ·) := (evK_rising 361).filter _
  obtain ⟨ia, ea⟩ := List.getElem?_eq_some_iff.1 ha
  obtain ⟨ib, eb⟩ := List.getElem?_eq_some_iff.1 hb
  have := (List.pairwise_iff_getElem.1 hr) i (i + 1) ia ib (by omega)
  rw [ea, eb] at this
  exact this
theorem sum_in {α : Type} {f : α → Int} {M : Int} : ∀ l : List α, (∀ x ∈ l, 0 ≤ f x ∧ f x ≤ M) → 0 ≤ (l.map f).sum ∧ (l.map f).sum ≤ l.length * M
  | [], _ => by simp
  | x :: r, h => by
    have ih := sum_in r fun y hy => h y (by simp [hy])
    have h1 := h x (by simp)
    rw [List.map_cons, List.sum_cons, List.length_cons]
    have e : ((r.length + 1 : Nat) : Int) * M = r.length * M + M := by rw [Int.natCast_add, Int.add_mul]; simp
    rw [e]
    omega
theorem sum_take {α : Type} (f : α → Int) {l : List α} {k : Nat} {x : α} (h : l[k]? = some x) : ((l.take (k + 1)).map f).sum = ((l.take k).map f).sum + f x := by
  have hk := List.getElem?_eq_some_iff.1 h
  rw [List.take_succ_eq_append_getElem hk.1, hk.2, List.map_append, List.sum_append]
  simp
theorem hit_in {ds es : List (List Int)} (hd : AreDice ds) (he : AreDice es) (t : Int) {p q : Int × Int} (hp : p ∈ sumsL ds) (hq : q ∈ sumsL es) : 0 ≤ hitP t p q ∧ hitP t p q ≤ 68719476736 := by
  obtain ⟨i, hi⟩ := List.mem_iff_getElem?.1 hp
  obtain ⟨k, hk⟩ := List.mem_iff_getElem?.1 hq
  have h1 := sums_at hd hi
  have h2 := sums_at he hk
  unfold hitP
  split
  · refine ⟨Int.mul_nonneg (by omega) (by omega), ?_⟩
    have := Int.mul_le_mul h1.2.2.2.1 h2.2.2.2.1 (by omega) (by decide)
    exact this
  · omega

end Go.Proofs.Ytkkholagmjcgiaa
