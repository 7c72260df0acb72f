/- Rings, rank lists and the closure of a table, as plain lists: there is a ring just if some dice are left; the closure leads a die to itself just then. -/
import Derived.Test.YtkkholagmjcgiaaRing
import Derived.Test.YtkkholagmjcgiaaBeats2
import Derived.Test.YtkkholagmjcgiaaSums
namespace Go.Proofs.Ytkkholagmjcgiaa
open Go.RowKit

/-- The closure by the first k: who leads to whom. -/
def war (f : Nat → Nat → Bool) : Nat → Nat → Nat → Bool
  | 0 => f
  | k + 1 => fun i j => war f k i j || (war f k i k && war f k k j)
theorem war_row (f : Nat → Nat → Bool) (k i : Nat) : war f (k + 1) i k = war f k i k := by
  show (war f k i k || (war f k i k && war f k k k)) = _
  cases war f k i k <;> simp
theorem war_col (f : Nat → Nat → Bool) (k j : Nat) : war f (k + 1) k j = war f k k j := by
  show (war f k k j || (war f k k k && war f k k j)) = _
  cases war f k k j <;> simp
theorem war_more {f : Nat → Nat → Bool} {k i j : Nat} (h : war f k i j = true) : war f (k + 1) i j = true := by
  show (war f k i j || _) = true
  rw [h]; rfl
theorem war_base {f : Nat → Nat → Bool} {i j : Nat} (h : f i j = true) : ∀ k, war f k i j = true
  | 0 => h
  | k + 1 => war_more (war_base h k)
theorem war_iff {f : Nat → Nat → Bool} {k i j : Nat} : war f (k + 1) i j = true ↔ war f k i j = true ∨ war f k i k = true ∧ war f k k j = true := by
  show (war f k i j || (war f k i k && war f k k j)) = true ↔ _
  rw [Bool.or_eq_true, Bool.and_eq_true]
theorem war_trans (f : Nat → Nat → Bool) : ∀ k a b c, c < k → war f k a c = true → war f k c b = true → war f k a b = true
  | 0, _, _, _, h, _, _ => by omega
  | k + 1, a, b, c, hc, h1, h2 => by
    have ih := war_trans f k
    rcases Nat.lt_or_ge c k with hlt | hge
    · rw [war_iff] at h1 h2 ⊢
      rcases h1 with h1 | ⟨h1, h1'⟩
      · rcases h2 with h2 | ⟨h2, h2'⟩
        · exact .inl (ih a b c hlt h1 h2)
        · exact .inr ⟨ih a k c hlt h1 h2, h2'⟩
      · rcases h2 with h2 | ⟨h2, h2'⟩
        · exact .inr ⟨h1, ih k b c hlt h1' h2⟩
        · exact .inr ⟨h1, h2'⟩
    · obtain rfl : c = k := by omega
      rw [war_row] at h1
      rw [war_col] at h2
      rw [war_iff]
      exact .inr ⟨h1, h2⟩
/-- What rises along the table rises along the closure. -/
theorem war_pos {f : Nat → Nat → Bool} {n : Nat} (pos : Nat → Nat) (h : ∀ i j, i < n → j < n → f i j = true → pos i < pos j) : ∀ k, k ≤ n → ∀ i j, i < n → j < n → war f k i j = true → pos i < pos j
  | 0, _, i, j, hi, hj, h2 => h i j hi hj h2
  | k + 1, hk, i, j, hi, hj, h2 => by
    rw [war_iff] at h2
    rcases h2 with h2 | ⟨h2, h3⟩
    · exact war_pos pos h k (by omega) i j hi hj h2
    · have a1 := war_pos pos h k (by omega) i k hi (by omega) h2
      have a2 := war_pos pos h k (by omega) k j (by omega) hj h3
      omega
/-- Does one lead to itself? -/
def loops (f : Nat → Nat → Bool) (n : Nat) : Bool := (List.range n).any fun i => war f n i i

/-- The list of dice taken away: none beats one before it, and none left beats one of them. -/
structure Taken (t : List (List Bool)) (n : Nat) (r l : List Int) : Prop where
  perm : (r ++ l).Perm (evK n)
  rank : ∀ (i k : Nat) (a b : Int), k < i → r[i]? = some a → r[k]? = some b → hit t a b = false
  left : ∀ a ∈ l, ∀ b ∈ r, hit t a b = false
theorem taken_spec (t : List (List Bool)) (n : Nat) : ∀ (k : Nat) (r l : List Int), Taken t n r l → Taken t n (rankL t k r l).1 (rankL t k r l).2
  | 0, r, l, h => h
  | k + 1, r, l, h => by
    cases hp : pick t l with
    | none => simp only [rankL, hp]; exact h
    | some i =>
      simp only [rankL, hp]
      obtain ⟨hil, hw, _⟩ := List.findIdx?_eq_some_iff_getElem.1 hp
      have hd : l.getD i 0 = l[i] := by simp [List.getD, hil]
      rw [hd]
      have hno : ∀ a ∈ l, hit t a l[i] = false := fun a ha => by
        have hw := of_decide_eq_true hw
        unfold winnerL at hw
        cases hf : l.find? fun o => hit t o l[i] with
        | none => simpa using List.find?_eq_none.1 hf a ha
        | some o =>
          rw [hf] at hw
          have hm : o ∈ l := List.mem_of_find?_eq_some hf
          have : o ∈ evK n := (h.perm.mem_iff).1 (List.mem_append_right _ hm)
          have := mem_evK.1 this
          simp only [Option.getD_some] at hw
          omega
      refine taken_spec t n k _ _ ⟨?_, fun p q a b hpq ha hb => ?_, fun a ha b hb => ?_⟩
      · refine List.Perm.trans ?_ h.perm
        rw [List.append_assoc]
        refine List.Perm.append_left r ?_
        show (l[i] :: l.eraseIdx i).Perm l
        rw [List.eraseIdx_eq_take_drop_succ]
        refine List.perm_middle.symm.trans ?_
        rw [← List.drop_eq_getElem_cons hil, List.take_append_drop]
      · rcases Nat.lt_or_ge p r.length with hlt | hge
        · rw [List.getElem?_append_left hlt] at ha
          rw [List.getElem?_append_left (by omega)] at hb
          exact h.rank p q a b hpq ha hb
        · rw [List.getElem?_append_right hge] at ha
          have e : p - r.length = 0 := by
            rcases Nat.eq_zero_or_pos (p - r.length) with h0 | h0
            · exact h0
            · rw [List.getElem?_eq_none (by simp; omega)] at ha; cases ha
          rw [e] at ha
          have ea : l[i] = a := by simpa using ha
          subst ea
          have hq : q < r.length := by omega
          rw [List.getElem?_append_left hq] at hb
          exact h.left _ (List.getElem_mem _) b (List.mem_of_getElem? hb)
      · have hal := List.mem_of_mem_eraseIdx ha
        rcases List.mem_append.1 hb with hb | hb
        · exact h.left a hal b hb
        · rw [List.mem_singleton] at hb
          subst hb
          exact hno a hal
theorem taken_all (ds : List (List Int)) : Taken (tbl ds) ds.length (rankedL ds) (leftL ds) :=
  taken_spec (tbl ds) ds.length ds.length [] (evK ds.length) ⟨by simp, fun i k a b _ h => by simp at h, fun a _ b h => by simp at h⟩

theorem hit_tbl {ds : List (List Int)} {a b : Nat} (ha : a < ds.length) (hb : b < ds.length) : hit (tbl ds) a b = bt ds a b := by
  unfold hit tbl tabL
  simp [List.getD, ha, hb]
theorem bt_self (ds : List (List Int)) (a : Nat) : bt ds a a = false := by
  rw [bt_is, more_less]
  simp
theorem bt_anti {ds : List (List Int)} {a b : Nat} (h : bt ds a b = true) : bt ds b a = false := by
  rw [bt_is] at h ⊢
  have h := of_decide_eq_true h
  rw [more_less (ds.getD b []) (ds.getD a []), ← more_less (ds.getD a []) (ds.getD b [])]
  exact decide_eq_false (by omega)

theorem idx_at {l : List Int} {a : Int} (h : a ∈ l) : l[l.idxOf a]? = some a := by
  rw [List.getElem?_eq_getElem (List.idxOf_lt_length_of_mem h), List.getElem_idxOf]
/-- Where no die is left there is no ring. -/
theorem no_loops {ds : List (List Int)} (h : leftL ds = []) : loops (bt ds) ds.length = false := by
  have ht := taken_all ds
  rw [h] at ht
  have hp := ht.perm
  rw [List.append_nil] at hp
  unfold loops
  rw [List.any_eq_false]
  intro i hi
  have hi := List.mem_range.1 hi
  intro hw
  have hmem : ∀ a, a < ds.length → (a : Int) ∈ rankedL ds := fun a ha => (hp.mem_iff).2 (mem_evK.2 ⟨by omega, by omega⟩)
  have := war_pos (f := bt ds) (n := ds.length) (fun a => (rankedL ds).idxOf (a : Int)) (fun a b ha hb hab => by
    rcases Nat.lt_or_ge ((rankedL ds).idxOf (a : Int)) ((rankedL ds).idxOf (b : Int)) with hlt | hge
    · exact hlt
    · exfalso
      have ea := idx_at (hmem a ha)
      have eb := idx_at (hmem b hb)
      rcases Nat.lt_or_ge ((rankedL ds).idxOf (b : Int)) ((rankedL ds).idxOf (a : Int)) with hlt | hge2
      · have := ht.rank _ _ _ _ hlt ea eb
        rw [hit_tbl ha hb] at this
        rw [this] at hab
        cases hab
      · have e : (rankedL ds).idxOf (a : Int) = (rankedL ds).idxOf (b : Int) := by omega
        rw [e, eb] at ea
        have e2 : (b : Int) = (a : Int) := by simpa using ea
        have e3 : b = a := by omega
        subst e3
        rw [bt_self] at hab
        cases hab) ds.length (Nat.le_refl _) i i hi hi hw
  omega

/-- A way from dice to their winners. -/
structure Path (t : List (List Bool)) (L k : List Int) (d : Int) : Prop where
  nd : k.Nodup
  mem : ∀ x ∈ k, x ∈ L
  dm : d ∈ L
  next : ∀ (i : Nat) (x y : Int), (k ++ [d])[i]? = some x → (k ++ [d])[i + 1]? = some y → y = winnerL t L x
theorem walkL_path {t : List (List Bool)} {L : List Int} (hwin : ∀ d ∈ L, winnerL t L d ∈ L) : ∀ (g : Nat) (k : List Int) (d : Int), Path t L k d →
    Path t L (walkL t L g k d).1 (walkL t L g k d).2 ∧ ((walkL t L g k d).1.contains (walkL t L g k d).2 = true ∨ (walkL t L g k d).1.length = k.length + g)
  | 0, k, d, h => ⟨h, .inr rfl⟩
  | g + 1, k, d, h => by
    cases hc : k.contains d with
    | true =>
      have e : walkL t L (g + 1) k d = (k, d) := by rw [walkL, hc]; rfl
      rw [e]
      exact ⟨h, .inl hc⟩
    | false =>
      have e : walkL t L (g + 1) k d = walkL t L g (k ++ [d]) (winnerL t L d) := by rw [walkL, hc]; rfl
      have hm := nodup_more ⟨h.nd, h.mem⟩ hc h.dm
      obtain ⟨h1, h2⟩ := walkL_path hwin g (k ++ [d]) (winnerL t L d) ⟨hm.1, hm.2, hwin d h.dm, fun i x y hx hy => by
        rcases Nat.lt_or_ge (i + 1) (k ++ [d]).length with hlt | hge
        · rw [List.getElem?_append_left (by omega)] at hx
          rw [List.getElem?_append_left hlt] at hy
          exact h.next i x y hx hy
        · have hi := (List.getElem?_eq_some_iff.1 hy).1
          simp only [List.length_append, List.length_cons, List.length_nil] at hi hge
          obtain rfl : i = k.length := by omega
          rw [List.getElem?_append_left (by simp), List.getElem?_append_right (Nat.le_refl _)] at hx
          rw [List.getElem?_append_right (by simp)] at hy
          simp at hx hy
          rw [← hx, ← hy]⟩
      rw [e]
      refine ⟨h1, h2.imp_right fun h3 => ?_⟩
      rw [h3]
      simp
      omega
theorem winner_hit {t : List (List Bool)} {L : List Int} {d : Int} (h : winnerL t L d ∈ L) (hn : ∀ x ∈ L, 0 ≤ x) : hit t (winnerL t L d) d = true := by
  have h0 := hn _ h
  unfold winnerL at h0 ⊢
  cases hf : L.find? fun o => hit t o d with
  | none => rw [hf] at h0; simp at h0
  | some o => exact List.find?_some (p := fun o => hit t o d) hf

/-- The ring that is given is one. -/
theorem ring_spec {ds : List (List Int)} (hne : leftL ds ≠ []) :
    3 ≤ (ringL (tbl ds) (leftL ds) ds.length).length ∧ Inds (ringL (tbl ds) (leftL ds) ds.length) ds.length ∧ (ringL (tbl ds) (leftL ds) ds.length).Nodup ∧
    ∀ (i : Nat) (a b : Nat), i < (ringL (tbl ds) (leftL ds) ds.length).length → (ringL (tbl ds) (leftL ds) ds.length)[i]? = some (a : Int) →
      (ringL (tbl ds) (leftL ds) ds.length)[(i + 1) % (ringL (tbl ds) (leftL ds) ds.length).length]? = some (b : Int) → bt ds a b = true := by
  obtain ⟨hwin, hin, _⟩ := leftL_spec ds
  have hd0 : (leftL ds).getD 0 0 ∈ leftL ds := by
    cases hL : leftL ds with
    | nil => exact absurd hL hne
    | cons x r => simp
  obtain ⟨hp, hc⟩ := walkL_path (t := tbl ds) hwin (ds.length + 1) [] ((leftL ds).getD 0 0) ⟨List.nodup_nil, fun x h => by simp at h, hd0, fun i x y hx hy => by simp at hy⟩
  have hr : ringL (tbl ds) (leftL ds) ds.length = ((walkL (tbl ds) (leftL ds) (ds.length + 1) [] ((leftL ds).getD 0 0)).1.drop (Lib.idxOf (walkL (tbl ds) (leftL ds) (ds.length + 1) [] ((leftL ds).getD 0 0)).1 (walkL (tbl ds) (leftL ds) (ds.length + 1) [] ((leftL ds).getD 0 0)).2).toNat).reverse := rfl
  obtain ⟨walk, hwalk⟩ : ∃ walk, (walkL (tbl ds) (leftL ds) (ds.length + 1) [] ((leftL ds).getD 0 0)).1 = walk := ⟨_, rfl⟩
  obtain ⟨die, hdie⟩ : ∃ die, (walkL (tbl ds) (leftL ds) (ds.length + 1) [] ((leftL ds).getD 0 0)).2 = die := ⟨_, rfl⟩
  rw [hwalk, hdie] at hp hc hr
  clear hwalk hdie
  have hcon : walk.contains die = true := by
    rcases hc with hc | hc
    · exact hc
    · have := nodup_le walk (evK ds.length) hp.nd fun x hx => mem_evK.2 (hin x (hp.mem x hx))
      rw [hc] at this
      simp [evK] at this
      omega
  obtain ⟨k, hk, hidx, hkd⟩ := idxFrom_hit walk die 0 hcon
  have hidx : Lib.idxOf walk die = (k : Int) := by
    have h : Lib.idxOf walk die = ((0 + k : Nat) : Int) := hidx
    rw [h, Nat.zero_add]
  rw [hidx, Int.toNat_natCast] at hr
  obtain ⟨m, hm⟩ : ∃ m, walk.length - k = m := ⟨_, rfl⟩
  have hlen : (walk.drop k).reverse.length = m := by simp [hm]
  have hat : ∀ i, i < m → (walk.drop k).reverse[i]? = walk[k + (m - 1 - i)]? := fun i hi => by
    rw [List.getElem?_reverse (by simp; omega), List.getElem?_drop]
    congr 2
    simp
    omega
  have hmem : Inds (walk.drop k).reverse ds.length := fun x hx => hin x (hp.mem x (List.mem_of_mem_drop (List.mem_reverse.1 hx)))
  have hnx : ∀ (i a b : Nat), i < m → (walk.drop k).reverse[i]? = some (a : Int) → (walk.drop k).reverse[(i + 1) % m]? = some (b : Int) → bt ds a b = true := fun i a b hi ha hb => by
    have hbL : (b : Int) ∈ leftL ds := hp.mem _ (List.mem_of_mem_drop (List.mem_reverse.1 (List.mem_of_getElem? hb)))
    have han := hmem _ (List.mem_of_getElem? ha)
    have hbn := hmem _ (List.mem_of_getElem? hb)
    have hw : (a : Int) = winnerL (tbl ds) (leftL ds) (b : Int) := by
      rcases Nat.lt_or_ge (i + 1) m with hlt | hge
      · rw [Nat.mod_eq_of_lt hlt, hat _ hlt] at hb
        rw [hat _ hi] at ha
        refine hp.next (k + (m - 1 - (i + 1))) b a ?_ ?_
        · rw [List.getElem?_append_left (by omega)]; exact hb
        · rw [List.getElem?_append_left (by omega), ← ha]
          congr 1
          omega
      · obtain rfl : m = i + 1 := by omega
        rw [Nat.mod_self, hat 0 (by omega)] at hb
        rw [hat i hi] at ha
        have e0 : k + (i + 1 - 1 - i) = k := by omega
        rw [e0, hkd] at ha
        refine hp.next (walk.length - 1) b a ?_ ?_
        · rw [List.getElem?_append_left (by omega), ← hb]
          congr 1
          omega
        · rw [List.getElem?_append_right (by omega)]
          have e1 : walk.length - 1 + 1 - walk.length = 0 := by omega
          rw [e1, ← ha]
          rfl
    have := winner_hit (t := tbl ds) (hwin _ hbL) (fun x hx => (hin x hx).1)
    rw [← hw, hit_tbl (by omega) (by omega)] at this
    exact this
  rw [hr, hlen]
  refine ⟨?_, hmem, ?_, hnx⟩
  · have hg : ∀ i, i < m → ∃ a : Nat, (walk.drop k).reverse[i]? = some (a : Int) := fun i hi => by
      have h1 := List.getElem?_eq_getElem (l := (walk.drop k).reverse) (i := i) (by omega)
      have h2 := hmem _ (List.mem_of_getElem? h1)
      obtain ⟨a, ha⟩ := Int.eq_ofNat_of_zero_le h2.1
      exact ⟨a, by rw [h1, ha]⟩
    refine Nat.not_lt.1 fun hlt => ?_
    obtain ⟨a, ha⟩ := hg 0 (by omega)
    rcases Nat.lt_or_ge m 2 with h1 | h2
    · obtain rfl : m = 1 := by omega
      have := hnx 0 a a (by omega) ha (by simpa using ha)
      rw [bt_self] at this
      cases this
    · obtain rfl : m = 2 := by omega
      obtain ⟨b, hb⟩ := hg 1 (by omega)
      have h3 := hnx 0 a b (by omega) ha hb
      have h4 := hnx 1 b a (by omega) hb ha
      rw [bt_anti h3] at h4
      cases h4
  · exact List.pairwise_reverse.2 ((List.Pairwise.sublist (List.drop_sublist k walk) hp.nd).imp fun h e => h e.symm)

/-- Where a die is left one leads to itself. -/
theorem some_loops {ds : List (List Int)} (hne : leftL ds ≠ []) : loops (bt ds) ds.length = true := by
  obtain ⟨h3, hin, _, hnx⟩ := ring_spec hne
  obtain ⟨r, hr⟩ : ∃ r, ringL (tbl ds) (leftL ds) ds.length = r := ⟨_, rfl⟩
  rw [hr] at h3 hin hnx
  have hat : ∀ i, i < r.length → r[i]? = some (((r.getD i 0).toNat : Nat) : Int) ∧ (r.getD i 0).toNat < ds.length := fun i hi => by
    have h1 := List.getElem?_eq_getElem hi
    have h2 := hin _ (List.mem_of_getElem? h1)
    have e : r.getD i 0 = r[i] := by simp [List.getD, h1]
    rw [e, Int.toNat_of_nonneg h2.1]
    exact ⟨h1, by omega⟩
  have hw : ∀ j, j < r.length → 1 ≤ j → war (bt ds) ds.length (r.getD 0 0).toNat (r.getD j 0).toNat = true := fun j => by
    induction j with
    | zero => intro _ h; omega
    | succ j ih =>
      intro hj _
      have hb := hnx j _ _ (by omega) (hat j (by omega)).1 (by rw [Nat.mod_eq_of_lt hj]; exact (hat (j + 1) hj).1)
      rcases Nat.eq_zero_or_pos j with rfl | hp
      · exact war_base hb _
      · exact war_trans (bt ds) ds.length _ _ _ (hat j (by omega)).2 (ih (by omega) hp) (war_base hb _)
  have hl := hnx (r.length - 1) _ _ (by omega) (hat (r.length - 1) (by omega)).1 (by rw [show r.length - 1 + 1 = r.length by omega, Nat.mod_self]; exact (hat 0 (by omega)).1)
  have h := war_trans (bt ds) ds.length _ _ _ (hat (r.length - 1) (by omega)).2 (hw (r.length - 1) (by omega) (by omega)) (war_base hl _)
  unfold loops
  exact List.any_eq_true.2 ⟨_, List.mem_range.2 (hat 0 (by omega)).2, h⟩

/-- What the rank list promises. -/
theorem rank_spec {ds : List (List Int)} (h : leftL ds = []) : (rankedL ds).length = ds.length ∧ Inds (rankedL ds) ds.length ∧ (rankedL ds).Nodup ∧
    ∀ (i k : Nat) (a b : Nat), k < i → (rankedL ds)[i]? = some (a : Int) → (rankedL ds)[k]? = some (b : Int) → bt ds a b = false := by
  have ht := taken_all ds
  rw [h] at ht
  have hp := ht.perm
  rw [List.append_nil] at hp
  have hin : Inds (rankedL ds) ds.length := fun x hx => mem_evK.1 ((hp.mem_iff).1 hx)
  refine ⟨by rw [hp.length_eq]; simp [evK], hin, (hp.nodup_iff).2 ((evK_rising ds.length).imp fun h => by omega), fun i k a b hk ha hb => ?_⟩
  have h1 := ht.rank i k a b hk ha hb
  have h2 := hin _ (List.mem_of_getElem? ha)
  have h3 := hin _ (List.mem_of_getElem? hb)
  rw [hit_tbl (by omega) (by omega)] at h1
  exact h1

end Go.Proofs.Ytkkholagmjcgiaa
