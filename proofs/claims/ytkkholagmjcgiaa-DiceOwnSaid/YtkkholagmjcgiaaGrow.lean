/- The function giveBack of package dice: each sum of the side with one of the list gets one way more; nothing but the map turns. · The search for two dice with given sums, as a plain function, and what holds while it runs. No program is spoken of. -/
import Derived.Test.YtkkholagmjcgiaaMap
namespace Go.Proofs.Ytkkholagmjcgiaa
open Go.RowKit Go.Maps

/-- One way more for the side with each of the list. -/
def give (f : Int → Int) (side : Int) (zs : List Int) : Int → Int := zs.foldl (fun g s => upd g (side + s) (g (side + s) + 1)) f
theorem give_snoc (f : Int → Int) (side : Int) (zs : List Int) (k : Nat) (z : Int) (h : zs[k]? = some z) : give f side (zs.take (k + 1)) = upd (give f side (zs.take k)) (side + z) (give f side (zs.take k) (side + z) + 1) := by
  have hk : k < zs.length := (List.getElem?_eq_some_iff.1 h).1
  have he : zs[k] = z := (List.getElem?_eq_some_iff.1 h).2
  rw [List.take_succ_eq_append_getElem hk, give, List.foldl_append, he]
  rfl
theorem give_le (side : Int) : ∀ (zs : List Int) (f : Int → Int) (M : Int), (∀ y, 0 ≤ f y ∧ f y ≤ M) → ∀ y, 0 ≤ give f side zs y ∧ give f side zs y ≤ M + zs.length
  | [], f, M, h, y => by have := h y; simp [give]; omega
  | z :: r, f, M, h, y => by
    have h2 : ∀ y, 0 ≤ upd f (side + z) (f (side + z) + 1) y ∧ upd f (side + z) (f (side + z) + 1) y ≤ M + 1 := fun y => by
      have h1 := h y
      have h3 := h (side + z)
      unfold upd
      split <;> omega
    have h4 := give_le side r _ _ h2 y
    show 0 ≤ give (upd f (side + z) (f (side + z) + 1)) side r y ∧ give (upd f (side + z) (f (side + z) + 1)) side r y ≤ _
    simp only [List.length_cons]
    omega

set_option maxHeartbeats 400000 in
theorem giveBack_any (M N : Nat) (side : Int) (A : Option Addr) (zs : List Int) (c B : Nat) (f : Int → Int) (S : Int → Bool) (w : World) (hm : MapF w M N f S) (hN : N < 1000000000) (hr : RInts w B A zs) (hl : zs.length ≤ 1000)
    (hs : -1000000 ≤ side ∧ side ≤ 1000000) (hz : ∀ z ∈ zs, 0 ≤ z ∧ z ≤ 1000000) (hf : ∀ y, 0 ≤ f y ∧ f y ≤ 1000000000) (hS : ∀ z ∈ zs, S (side + z) = true)
    (hMA : ∀ b o, A = some ⟨b, o, none⟩ → b ≠ M) (hBs : B ≤ w.heap.size) :
    Calls Try.prog 100 #[.map (some M), .int .i64 side, .slice A zs.length c] w fun e w' => e = .returned (.tuple #[]) ∧ MapF w' M N (give f side zs) S ∧ w.grownBy w' (some M) := by
  have HR := Lib.hid hr
  have HF := Lib.hid hf
  have HS := Lib.hid hS
  have HZ := Lib.hid hz
  have HA := Lib.hid hMA
  obtain ⟨hs1, hs2⟩ := hs
  have HM := Lib.hid hm
  clear hr hf hS hz hMA hm
  go_enter Try.func100, Try.ntmps100
  go_wp2_with fail
  go_loopw [10] (fun i wr => ∃ (k : Nat), k ≤ zs.length ∧ i = .int .i64 k ∧ MapF wr M N (give f side (zs.take k)) S ∧ w.grownBy wr (some M)) (fun i _ => zs.length - (intOf i).toNat)
  case atStart => exact ⟨0, by omega, rfl, HM.out, World.grownBy.refl w _⟩
  case round =>
    obtain ⟨k, hk, rfl, hmap, hg⟩ := hrel
    by_cases hlt : k < zs.length
    · obtain ⟨b, o, z, hA, hb, hz, hc0⟩ := HR.out.at_ hlt
      have hbM := HA.out b o hA
      subst hA
      have hc : wr.cell? ⟨b, o + k, none⟩ = some (.int .i64 z) := (World.cell?_of_block (hg.block b (by omega) (by simpa using hbM))).trans hc0
      have hzr := HZ.out z (List.mem_of_getElem? hz)
      have HSz := Lib.hid (HS.out z (List.mem_of_getElem? hz))
      have HST := Lib.hid (give_snoc f side zs k z hz)
      have hgl := give_le side (zs.take k) f 1000000000 HF.out (side + z)
      have hll : (zs.take k).length ≤ k := List.length_take_le _ _
      generalize give f side (zs.take k) = g at hmap HST hgl
      have HW1 := Lib.hid (show W64 (side + z) from ⟨by omega, by omega⟩)
      have HW2 := Lib.hid (show W64 (g (side + z) + 1) from ⟨by omega, by omega⟩)
      clear hc0 hz hbM
      go_wp2_with (first
        | (at_lookup; refine wpList_look _ rfl _ _ rfl rfl hmap _ rfl HW1.out ?_)
        | (at_mapUpdate; refine wpList_put _ rfl _ _ _ rfl rfl hmap hN _ _ rfl rfl HW1.out HW2.out HSz.out ?_; intro w2 hmap2 hg2))
      have hgg := hg.andThen hg2 (fun j hj => .inr hj)
      have HM2 := Lib.hid hmap2
      clear hmap2
      go_roundw
      case rel => exact ⟨k + 1, by omega, by go_num, (by rw [HST.out]; exact HM2.out), hgg⟩
      case measure => simp [intOf]; omega
    · obtain rfl : k = zs.length := by omega
      rw [List.take_length] at hmap
      go_wp2_with fail
      go_end0
      exact ⟨rfl, hmap, hg⟩

end Go.Proofs.Ytkkholagmjcgiaa

namespace Go.Proofs.Ytkkholagmjcgiaa

/-- How often the side makes the sum y with the list. -/
def cnt (side : Int) (zs : List Int) (y : Int) : Int := ((zs.filter fun s => decide (side + s = y)).length : Int)
/-- One way less for the side with each of the list. -/
def tk (f : Int → Int) (side : Int) (zs : List Int) : Int → Int := zs.foldl (fun g s => upd g (side + s) (g (side + s) - 1)) f
/-- Whether there is a way each time. -/
def okT (f : Int → Int) (side : Int) : List Int → Bool
  | [] => true
  | s :: r => decide (f (side + s) ≠ 0) && okT (upd f (side + s) (f (side + s) - 1)) side r

theorem cnt_nonneg (side : Int) (zs : List Int) (y : Int) : 0 ≤ cnt side zs y := by unfold cnt; omega
theorem cnt_cons (side s : Int) (r : List Int) (y : Int) : cnt side (s :: r) y = (if y = side + s then 1 else 0) + cnt side r y := by
  unfold cnt
  by_cases h : side + s = y
  · rw [List.filter_cons_of_pos (by simpa using h), if_pos h.symm]; simp; omega
  · rw [List.filter_cons_of_neg (by simpa using h), if_neg (fun e => h e.symm)]; omega
theorem tk_eq (side : Int) : ∀ (zs : List Int) (f : Int → Int) (y : Int), tk f side zs y = f y - cnt side zs y
  | [], f, y => by simp [tk, cnt]
  | s :: r, f, y => by
    have h := tk_eq side r (upd f (side + s) (f (side + s) - 1)) y
    show tk (upd f (side + s) (f (side + s) - 1)) side r y = _
    rw [h, cnt_cons]
    unfold upd
    by_cases e : y = side + s
    · rw [if_pos e, if_pos e, e]; omega
    · rw [if_neg e, if_neg e]; omega
theorem give_eq (side : Int) : ∀ (zs : List Int) (f : Int → Int) (y : Int), give f side zs y = f y + cnt side zs y
  | [], f, y => by simp [give, cnt]
  | s :: r, f, y => by
    have h := give_eq side r (upd f (side + s) (f (side + s) + 1)) y
    show give (upd f (side + s) (f (side + s) + 1)) side r y = _
    rw [h, cnt_cons]
    unfold upd
    by_cases e : y = side + s
    · rw [if_pos e, if_pos e, e]; omega
    · rw [if_neg e, if_neg e]; omega
theorem give_tk (f : Int → Int) (side : Int) (zs : List Int) : give (tk f side zs) side zs = f := by
  funext y
  rw [give_eq, tk_eq]
  omega
theorem tk_snoc (f : Int → Int) (side : Int) (zs : List Int) (k : Nat) (z : Int) (h : zs[k]? = some z) : tk f side (zs.take (k + 1)) = upd (tk f side (zs.take k)) (side + z) (tk f side (zs.take k) (side + z) - 1) := by
  have hk : k < zs.length := (List.getElem?_eq_some_iff.1 h).1
  have he : zs[k] = z := (List.getElem?_eq_some_iff.1 h).2
  rw [List.take_succ_eq_append_getElem hk, tk, List.foldl_append, he]
  rfl
theorem okT_append (side : Int) : ∀ (a b : List Int) (f : Int → Int), okT f side (a ++ b) = (okT f side a && okT (tk f side a) side b)
  | [], b, f => by simp [okT, tk]
  | s :: r, b, f => by
    show (decide _ && okT _ side (r ++ b)) = ((decide _ && okT _ side r) && _)
    rw [okT_append side r b, Bool.and_assoc]
    rfl
theorem okT_snoc (f : Int → Int) (side : Int) (zs : List Int) (k : Nat) (z : Int) (h : zs[k]? = some z) : okT f side (zs.take (k + 1)) = (okT f side (zs.take k) && decide (tk f side (zs.take k) (side + z) ≠ 0)) := by
  have hk : k < zs.length := (List.getElem?_eq_some_iff.1 h).1
  have he : zs[k] = z := (List.getElem?_eq_some_iff.1 h).2
  rw [List.take_succ_eq_append_getElem hk, okT_append, he]
  simp [okT]
theorem okT_false (f : Int → Int) (side : Int) (zs : List Int) (k : Nat) (z : Int) (h : zs[k]? = some z) (h0 : tk f side (zs.take k) (side + z) = 0) : okT f side zs = false := by
  have hk : k < zs.length := (List.getElem?_eq_some_iff.1 h).1
  have he : zs[k] = z := (List.getElem?_eq_some_iff.1 h).2
  have e : zs = zs.take k ++ z :: zs.drop (k + 1) := by
    rw [← he, ← List.drop_eq_getElem_cons hk, List.take_append_drop]
  have e2 := okT_append side (zs.take k) (z :: zs.drop (k + 1)) f
  rw [← e] at e2
  rw [e2]
  simp [okT, h0]
theorem okT_nonneg (side : Int) : ∀ (zs : List Int) (f : Int → Int), (∀ y, 0 ≤ f y) → okT f side zs = true → ∀ y, 0 ≤ tk f side zs y
  | [], f, h, _, y => h y
  | s :: r, f, h, ho, y => by
    simp only [okT, Bool.and_eq_true, decide_eq_true_eq] at ho
    refine okT_nonneg side r (upd f (side + s) (f (side + s) - 1)) (fun z => ?_) ho.2 y
    have := h (side + s)
    have := h z
    unfold upd
    split <;> omega
theorem okT_mem (side : Int) : ∀ (zs : List Int) (f : Int → Int), okT f side zs = true → ∀ s ∈ zs, (∀ y, 0 ≤ f y) → f (side + s) ≠ 0
  | x :: r, f, ho, s, hs, h => by
    simp only [okT, Bool.and_eq_true, decide_eq_true_eq] at ho
    rcases List.mem_cons.1 hs with rfl | hs
    · exact ho.1
    · have h1 : ∀ z, 0 ≤ upd f (side + x) (f (side + x) - 1) z := fun z => by
        have := h (side + x)
        have := h z
        unfold upd
        split <;> omega
      have h2 := okT_mem side r _ ho.2 s hs h1
      intro e
      by_cases q : side + s = side + x
      · rw [q] at e
        exact ho.1 e
      · unfold upd at h2
        rw [if_neg q] at h2
        exact h2 e

/-- The first place from at on where something is left. -/
def findAt (f : Int → Int) (sums : List Int) (at_ : Nat) : Nat := at_ + (sums.drop at_).findIdx fun s => decide (f s ≠ 0)
def sumF (f : Int → Int) (sums : List Int) : Int := (sums.map f).sum

/-- The search: both dice so far, what is left of the ways, from which place on; at the barred place the first die does not grow. -/
def growL : Nat → Nat → Nat → List Int → Nat → Int → List Int → List Int → (Int → Int) → List (List Int × List Int)
  | 0, _, _, _, _, _, _, _, _ => []
  | k + 1, n, m, sums, at_, barred, c, d, f =>
    if c.length = n ∧ d.length = m then [(c, d)] else
      (if c.length = n ∨ 60 < sums.getD (findAt f sums at_) 0 - d.headD 0 ∨ (findAt f sums at_ : Int) = barred then [] else
        if okT f (sums.getD (findAt f sums at_) 0 - d.headD 0) d then growL k n m sums (findAt f sums at_) barred (c ++ [sums.getD (findAt f sums at_) 0 - d.headD 0]) d (tk f (sums.getD (findAt f sums at_) 0 - d.headD 0) d) else []) ++
      (if d.length = m ∨ 60 < sums.getD (findAt f sums at_) 0 - c.headD 0 then [] else
        if okT f (sums.getD (findAt f sums at_) 0 - c.headD 0) c then growL k n m sums (findAt f sums at_) (findAt f sums at_) c (d ++ [sums.getD (findAt f sums at_) 0 - c.headD 0]) (tk f (sums.getD (findAt f sums at_) 0 - c.headD 0) c) else [])

/-- What comes of a side more for the first die. -/
def br1 (k n m : Nat) (sums : List Int) (a : Nat) (barred : Int) (c d : List Int) (f : Int → Int) (s : Int) : List (List Int × List Int) :=
  if c.length = n ∨ 60 < s - d.headD 0 ∨ (a : Int) = barred then [] else if okT f (s - d.headD 0) d then growL k n m sums a barred (c ++ [s - d.headD 0]) d (tk f (s - d.headD 0) d) else []
/-- What comes of a side more for the second die. -/
def br2 (k n m : Nat) (sums : List Int) (a : Nat) (c d : List Int) (f : Int → Int) (s : Int) : List (List Int × List Int) :=
  if d.length = m ∨ 60 < s - c.headD 0 then [] else if okT f (s - c.headD 0) c then growL k n m sums a a c (d ++ [s - c.headD 0]) (tk f (s - c.headD 0) c) else []
theorem growL_succ {k n m : Nat} {sums : List Int} {at_ : Nat} {barred : Int} {c d : List Int} {f : Int → Int} (h : ¬ (c.length = n ∧ d.length = m)) {s : Int} (hs : sums[findAt f sums at_]? = some s) :
    growL (k + 1) n m sums at_ barred c d f = br1 k n m sums (findAt f sums at_) barred c d f s ++ br2 k n m sums (findAt f sums at_) c d f s := by
  have e : sums.getD (findAt f sums at_) 0 = s := by simp [List.getD, hs]
  rw [growL, if_neg h, e]
  rfl
theorem growL_le : ∀ (k n m : Nat) (sums : List Int) (at_ : Nat) (barred : Int) (c d : List Int) (f : Int → Int), (growL k n m sums at_ barred c d f).length ≤ 2 ^ k
  | 0, _, _, _, _, _, _, _, _ => by simp [growL]
  | k + 1, n, m, sums, at_, barred, c, d, f => by
    have h1 := growL_le k n m sums (findAt f sums at_) barred (c ++ [sums.getD (findAt f sums at_) 0 - d.headD 0]) d (tk f (sums.getD (findAt f sums at_) 0 - d.headD 0) d)
    have h2 := growL_le k n m sums (findAt f sums at_) (findAt f sums at_) c (d ++ [sums.getD (findAt f sums at_) 0 - c.headD 0]) (tk f (sums.getD (findAt f sums at_) 0 - c.headD 0) c)
    have h3 : 2 ^ (k + 1) = 2 ^ k + 2 ^ k := by rw [Nat.pow_succ]; omega
    have h4 : 1 ≤ 2 ^ k := Nat.one_le_two_pow
    rw [growL]
    split
    · simp; omega
    · rw [List.length_append]
      have a1 : ∀ (p q : Prop) [Decidable p] [Decidable q] (l : List (List Int × List Int)), (if p then [] else if q then l else []).length ≤ l.length := fun p q _ _ l => by split <;> (try split) <;> simp
      have b1 := a1 (c.length = n ∨ 60 < sums.getD (findAt f sums at_) 0 - d.headD 0 ∨ (findAt f sums at_ : Int) = barred) (okT f (sums.getD (findAt f sums at_) 0 - d.headD 0) d = true) (growL k n m sums (findAt f sums at_) barred (c ++ [sums.getD (findAt f sums at_) 0 - d.headD 0]) d (tk f (sums.getD (findAt f sums at_) 0 - d.headD 0) d))
      have b2 := a1 (d.length = m ∨ 60 < sums.getD (findAt f sums at_) 0 - c.headD 0) (okT f (sums.getD (findAt f sums at_) 0 - c.headD 0) c = true) (growL k n m sums (findAt f sums at_) (findAt f sums at_) c (d ++ [sums.getD (findAt f sums at_) 0 - c.headD 0]) (tk f (sums.getD (findAt f sums at_) 0 - c.headD 0) c))
      omega
theorem br1_le (k n m : Nat) (sums : List Int) (a : Nat) (barred : Int) (c d : List Int) (f : Int → Int) (s : Int) : (br1 k n m sums a barred c d f s).length ≤ 2 ^ k := by
  have h := growL_le k n m sums a barred (c ++ [s - d.headD 0]) d (tk f (s - d.headD 0) d)
  unfold br1
  split
  · simp
  · split
    · exact h
    · simp
theorem head_at {d : List Int} (h : 1 ≤ d.length) : d[0]? = some (d.headD 0) := by
  cases d with
  | nil => simp at h
  | cons y r => rfl

/-- What holds while the search runs. -/
structure Inv (n m : Nat) (sums : List Int) (at_ : Nat) (c d : List Int) (f : Int → Int) : Prop where
  rng : ∀ y, 0 ≤ f y ∧ f y ≤ 1000000
  key : ∀ y, f y ≠ 0 → y ∈ sums
  sum : sumF f sums = (n : Int) * m - (c.length : Int) * d.length
  low : ∀ (j : Nat) (s : Int), j < at_ → sums[j]? = some s → f s = 0
  nm : n ≤ 8 ∧ m ≤ 8
  cl : 1 ≤ c.length ∧ c.length ≤ n
  dl : 1 ≤ d.length ∧ d.length ≤ m
  ce : ∀ x ∈ c, 0 ≤ x ∧ x ≤ 60
  de : ∀ x ∈ d, 0 ≤ x ∧ x ≤ 60
  se : ∀ s ∈ sums, c.headD 0 + d.headD 0 ≤ s ∧ s ≤ 1000
  nd : sums.Nodup

theorem sumF_pos {f : Int → Int} : ∀ (l : List Int), (∀ y, 0 ≤ f y) → 0 < sumF f l → ∃ (j : Nat) (s : Int), l[j]? = some s ∧ f s ≠ 0
  | [], _, h => by simp [sumF] at h
  | x :: r, hf, h => by
    by_cases e : f x = 0
    · have h2 : 0 < sumF f r := by simpa [sumF, e] using h
      obtain ⟨j, s, hj, hs⟩ := sumF_pos r hf h2
      exact ⟨j + 1, s, by simpa using hj, hs⟩
    · exact ⟨0, x, rfl, e⟩

theorem mul_lt_of {n m c d : Nat} (hc : 1 ≤ c) (hcn : c ≤ n) (hd : 1 ≤ d) (hdm : d ≤ m) (h : ¬ (c = n ∧ d = m)) : c * d < n * m := by
  rcases Nat.lt_or_ge c n with h1 | h1
  · calc c * d < n * d := Nat.mul_lt_mul_of_pos_right h1 hd
      _ ≤ n * m := Nat.mul_le_mul_left _ hdm
  · have : c = n := by omega
    subst this
    exact Nat.mul_lt_mul_of_pos_left (by omega) (by omega)

theorem Inv.find {n m : Nat} {sums : List Int} {at_ : Nat} {c d : List Int} {f : Int → Int} (h : Inv n m sums at_ c d f) (hne : ¬ (c.length = n ∧ d.length = m)) :
    at_ ≤ findAt f sums at_ ∧ ∃ s, sums[findAt f sums at_]? = some s ∧ f s ≠ 0 ∧ ∀ j, at_ ≤ j → j < findAt f sums at_ → ∃ t, sums[j]? = some t ∧ f t = 0 := by
  have hlt := mul_lt_of h.cl.1 h.cl.2 h.dl.1 h.dl.2 hne
  have hpos : 0 < sumF f sums := by
    rw [h.sum]
    have : ((c.length * d.length : Nat) : Int) < ((n * m : Nat) : Int) := Int.ofNat_lt.2 hlt
    push_cast at this
    omega
  obtain ⟨j, s, hj, hs⟩ := sumF_pos sums (fun y => (h.rng y).1) hpos
  have hja : at_ ≤ j := by
    rcases Nat.lt_or_ge j at_ with h1 | h1
    · exact absurd (h.low j s h1 hj) hs
    · exact h1
  have hjl : j < sums.length := (List.getElem?_eq_some_iff.1 hj).1
  have hex : ∃ x ∈ sums.drop at_, decide (f x ≠ 0) = true := by
    refine ⟨s, ?_, by simpa using hs⟩
    rw [List.mem_iff_getElem?]
    exact ⟨j - at_, by rw [List.getElem?_drop, show at_ + (j - at_) = j by omega]; exact hj⟩
  have hfi := List.findIdx_lt_length_of_exists hex
  have hg := List.findIdx_getElem (w := hfi)
  have hdl : (sums.drop at_).length = sums.length - at_ := by simp
  refine ⟨by unfold findAt; omega, (sums.drop at_)[(sums.drop at_).findIdx fun s => decide (f s ≠ 0)], ?_, ?_, ?_⟩
  · unfold findAt
    rw [← List.getElem?_drop]
    exact List.getElem?_eq_getElem hfi
  · simpa using hg
  · intro i h1 h2
    unfold findAt at h2
    have hi : i - at_ < (sums.drop at_).findIdx fun s => decide (f s ≠ 0) := by omega
    have hn := List.not_of_lt_findIdx hi
    have hil : i < sums.length := by omega
    refine ⟨sums[i], List.getElem?_eq_getElem hil, ?_⟩
    rw [List.getElem_drop] at hn
    simpa [show at_ + (i - at_) = i by omega] using hn


theorem sumF_le (f g : Int → Int) : ∀ (l : List Int), sumF (fun y => f y - g y) l = sumF f l - sumF g l
  | [] => by simp [sumF]
  | x :: r => by
    have h := sumF_le f g r
    simp only [sumF, List.map_cons, List.sum_cons] at h ⊢
    omega
theorem sumF_none {f : Int → Int} : ∀ (l : List Int), (∀ y ∈ l, f y = 0) → sumF f l = 0
  | [], _ => rfl
  | x :: r, h => by
    have h2 := sumF_none r fun y hy => h y (by simp [hy])
    simp only [sumF, List.map_cons, List.sum_cons] at h2 ⊢
    rw [h x (by simp), h2]; rfl
theorem sumF_one (y : Int) : ∀ (l : List Int), l.Nodup → y ∈ l → sumF (fun z => if z = y then 1 else 0) l = 1
  | x :: r, hn, hy => by
    have hn2 := List.nodup_cons.1 hn
    simp only [sumF, List.map_cons, List.sum_cons]
    by_cases e : x = y
    · subst e
      have h2 := sumF_none (f := fun z => if z = x then 1 else 0) r fun z hz => if_neg (fun (e : z = x) => hn2.1 (by rw [← e]; exact hz))
      simp only [sumF] at h2
      rw [h2]; simp
    · have h2 := sumF_one y r hn2.2 (by rcases List.mem_cons.1 hy with h | h; exact absurd h.symm e; exact h)
      simp only [sumF] at h2
      rw [h2, if_neg e]; rfl
theorem sumF_add (f g : Int → Int) : ∀ (l : List Int), sumF (fun y => f y + g y) l = sumF f l + sumF g l
  | [] => by simp [sumF]
  | x :: r => by
    have h := sumF_add f g r
    simp only [sumF, List.map_cons, List.sum_cons] at h ⊢
    omega
theorem sumF_cnt (side : Int) (l : List Int) (hn : l.Nodup) : ∀ (zs : List Int), (∀ s ∈ zs, side + s ∈ l) → sumF (cnt side zs) l = zs.length
  | [], _ => by rw [sumF_none (f := cnt side []) l fun y _ => rfl]; rfl
  | s :: r, h => by
    have h1 := sumF_cnt side l hn r fun t ht => h t (by simp [ht])
    have h2 := sumF_one (side + s) l hn (h s (by simp))
    have e : cnt side (s :: r) = fun y => (if y = side + s then 1 else 0) + cnt side r y := by funext y; exact cnt_cons side s r y
    rw [e, sumF_add, h1, h2]
    simp only [List.length_cons]
    omega

theorem headD_append {c : List Int} (h : 1 ≤ c.length) (x : Int) : (c ++ [x]).headD 0 = c.headD 0 := by
  cases c with
  | nil => simp at h
  | cons y r => rfl

/-- One side more for the one die, at the place where something is left. -/
theorem Inv.grow1 {n m : Nat} {sums : List Int} {at_ : Nat} {c d : List Int} {f : Int → Int} (h : Inv n m sums at_ c d f) (hne : ¬ (c.length = n ∧ d.length = m)) {s : Int} (hs : sums[findAt f sums at_]? = some s)
    (hc : c.length ≠ n) (h60 : s - d.headD 0 ≤ 60) (hok : okT f (s - d.headD 0) d = true) : Inv n m sums (findAt f sums at_) (c ++ [s - d.headD 0]) d (tk f (s - d.headD 0) d) := by
  have hf0 : ∀ y, 0 ≤ f y := fun y => (h.rng y).1
  have hn0 := okT_nonneg (s - d.headD 0) d f hf0 hok
  have hle : ∀ y, tk f (s - d.headD 0) d y ≤ f y := fun y => by rw [tk_eq]; have := cnt_nonneg (s - d.headD 0) d y; omega
  have hms : s ∈ sums := List.mem_of_getElem? hs
  have hse := h.se s hms
  obtain ⟨hfa, _, _, _, hz⟩ := h.find hne
  have hm : ∀ t ∈ d, (s - d.headD 0) + t ∈ sums := fun t ht => h.key _ (okT_mem (s - d.headD 0) d f hok t ht hf0)
  have hlen : (c ++ [s - d.headD 0]).length = c.length + 1 := by simp
  refine ⟨fun y => ⟨hn0 y, by have := hle y; have := h.rng y; omega⟩, fun y hy => h.key y (fun e => hy (by have := hle y; have := hn0 y; omega)), ?_, ?_, h.nm, ?_, h.dl, ?_, h.de, ?_, h.nd⟩
  · have e : tk f (s - d.headD 0) d = fun y => f y - cnt (s - d.headD 0) d y := by funext y; exact tk_eq _ _ _ _
    rw [e, sumF_le, sumF_cnt _ _ h.nd d hm, h.sum, hlen]
    push_cast
    rw [Int.add_mul]
    omega
  · intro j t hj ht
    have : f t = 0 := by
      rcases Nat.lt_or_ge j at_ with h1 | h1
      · exact h.low j t h1 ht
      · obtain ⟨t', ht', h0⟩ := hz j h1 hj
        rw [ht] at ht'
        injection ht' with e
        rw [e]; exact h0
    have := hle t
    have := hn0 t
    omega
  · have := h.cl; rw [hlen]; omega
  · intro x hx
    rcases List.mem_append.1 hx with hx | hx
    · exact h.ce x hx
    · obtain rfl : x = s - d.headD 0 := by simpa using hx
      have hc0 : 0 ≤ c.headD 0 := by
        cases c with
        | nil => simp
        | cons y r => exact (h.ce y (by simp)).1
      omega
  · intro t ht
    rw [headD_append h.cl.1]
    exact h.se t ht

theorem Inv.swap {n m : Nat} {sums : List Int} {at_ : Nat} {c d : List Int} {f : Int → Int} (h : Inv n m sums at_ c d f) : Inv m n sums at_ d c f :=
  ⟨h.rng, h.key, by rw [h.sum, Int.mul_comm (n : Int), Int.mul_comm (c.length : Int)], h.low, ⟨h.nm.2, h.nm.1⟩, h.dl, h.cl, h.de, h.ce, fun s hs => by have := h.se s hs; omega, h.nd⟩
theorem Inv.grow2 {n m : Nat} {sums : List Int} {at_ : Nat} {c d : List Int} {f : Int → Int} (h : Inv n m sums at_ c d f) (hne : ¬ (c.length = n ∧ d.length = m)) {s : Int} (hs : sums[findAt f sums at_]? = some s)
    (hd : d.length ≠ m) (h60 : s - c.headD 0 ≤ 60) (hok : okT f (s - c.headD 0) c = true) : Inv n m sums (findAt f sums at_) c (d ++ [s - c.headD 0]) (tk f (s - c.headD 0) c) :=
  (h.swap.grow1 (fun e => hne ⟨e.2, e.1⟩) hs hd h60 hok).swap

end Go.Proofs.Ytkkholagmjcgiaa
