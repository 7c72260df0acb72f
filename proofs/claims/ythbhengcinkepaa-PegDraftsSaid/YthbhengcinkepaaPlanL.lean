/- Plans as plain mathematics: what so many jumps of each line take from the holes. No program is spoken of. -/
import Derived.Test.YthbhengcinkepaaGames
namespace Go.Proofs.Ythbhengcinkepaa
open Lamp

/-- One peg, or none. -/
def dirN (p h : Nat) : Int := if p.testBit h = true then 1 else 0
/-- What x jumps one way and y the other way of a line take from a hole. -/
def lostE (e : Tri) (x y : Int) (h : Nat) : Int := (if e.1 = (h : Int) then x - y else 0) + ((if e.2.1 = (h : Int) then x + y else 0) + (if e.2.2 = (h : Int) then y - x else 0))
/-- What the jumps of the first k lines take from a hole. -/
def lostK (l : List Tri) (js : List (Int × Int)) (h : Nat) : Nat → Int
  | 0 => 0
  | k + 1 => lostK l js h k + lostE (l.getD k (0, 0, 0)) (js.getD k (0, 0)).1 (js.getD k (0, 0)).2 h
def okT (j : Int × Int) : Bool := decide (0 ≤ j.1) && (decide (j.1 ≤ 1000000) && (decide (0 ≤ j.2) && decide (j.2 ≤ 1000000)))
def holeB (l : List Tri) (js : List (Int × Int)) (p q : Nat) (m : Int) (h : Nat) : Bool := decide (lostK l js h l.length = m * dirN p h - m * dirN q h)
/-- Whether m and so many jumps are a plan. -/
def planB (n : Nat) (l : List Tri) (p q : Nat) (m : Int) (js : List (Int × Int)) : Bool :=
  (decide (1 ≤ m) && (decide (m ≤ 1000000) && decide (js.length = l.length))) && (js.all okT && (List.range n).all (holeB l js p q m))
theorem dirN_01 (p h : Nat) : dirN p h = 0 ∨ dirN p h = 1 := by unfold dirN; split <;> simp
theorem okT_at {js : List (Int × Int)} {k : Nat} (h : (js.take k).all okT = true) {i : Nat} (hi : i < k) : 0 ≤ (js.getD i (0, 0)).1 ∧ (js.getD i (0, 0)).1 ≤ 1000000 ∧ 0 ≤ (js.getD i (0, 0)).2 ∧ (js.getD i (0, 0)).2 ≤ 1000000 := by
  rcases Nat.lt_or_ge i js.length with hl | hl
  · have h1 := List.all_eq_true.1 h (js.getD i (0, 0)) (by
      rw [List.getD_eq_getElem?_getD, List.getElem?_eq_getElem hl, Option.getD_some]
      exact List.mem_take_iff_getElem.2 ⟨i, by omega, by simp⟩)
    unfold okT at h1
    simpa using h1
  · rw [List.getD_eq_getElem?_getD, List.getElem?_eq_none hl]
    simp
theorem lostE_in (e : Tri) {x y : Int} (h : Nat) (hx : 0 ≤ x ∧ x ≤ 1000000 ∧ 0 ≤ y ∧ y ≤ 1000000) : -4000000 ≤ lostE e x y h ∧ lostE e x y h ≤ 4000000 := by
  unfold lostE
  repeat' split
  all_goals omega
theorem lostK_in {l : List Tri} {js : List (Int × Int)} (h : Nat) : ∀ k : Nat, (js.take k).all okT = true → -(4000000 * (k : Int)) ≤ lostK l js h k ∧ lostK l js h k ≤ 4000000 * (k : Int)
  | 0, _ => by simp [lostK]
  | k + 1, hk => by
    have h1 : (js.take k).all okT = true := by
      rw [List.all_eq_true] at hk ⊢
      exact fun x hx => hk x (by
        rw [List.mem_take_iff_getElem] at hx ⊢
        obtain ⟨i, hi, e⟩ := hx
        exact ⟨i, by omega, e⟩)
    have ih := lostK_in (l := l) (js := js) h k h1
    have h2 := lostE_in (l.getD k (0, 0, 0)) h (okT_at hk (Nat.lt_succ_self k))
    rw [lostK]
    omega
theorem okT_next {js : List (Int × Int)} {k : Nat} {x y : Int} (h : js[k]? = some (x, y)) : (js.take (k + 1)).all okT = ((js.take k).all okT && okT (x, y)) := by
  have h3 := List.getElem?_eq_some_iff.1 h
  rw [List.take_succ_eq_append_getElem h3.1, h3.2, List.all_append]
  simp
theorem okT_not {js : List (Int × Int)} {k : Nat} {x y : Int} (h : js[k]? = some (x, y)) (hb : okT (x, y) = false) : js.all okT = false :=
  List.all_eq_false.2 ⟨_, List.mem_of_getElem? h, by simp [hb]⟩
/-- A jump takes from its holes what it changes. -/
theorem lost_jump {a b c p : Nat} (hab : a ≠ b) (hac : a ≠ c) (hbc : b ≠ c) (hc : canJ ((a : Int), (b : Int), (c : Int)) p = true) (h : Nat) : lostE ((a : Int), (b : Int), (c : Int)) 1 0 h = dirN p h - dirN (fromJ ((a : Int), (b : Int), (c : Int)) p) h := by
  rw [canJ_bits p hac hbc] at hc
  simp only [Bool.and_eq_true, Bool.not_eq_true'] at hc
  obtain ⟨⟨h1, h2⟩, h3⟩ := hc
  unfold lostE dirN fromJ
  simp only [Nat.testBit_xor, holesM_bit, Int.ofNat_inj]
  by_cases e1 : a = h
  · subst e1; simp [h1, Ne.symm hab, Ne.symm hac]
  · by_cases e2 : b = h
    · subst e2; simp [h2, hab, Ne.symm hbc]
    · by_cases e3 : c = h
      · subst e3; simp [h3, hac, hbc]
      · simp [e1, e2, e3]
theorem lostE_turn (x y z : Int) (u v : Int) (h : Nat) : lostE (z, y, x) u v h = lostE (x, y, z) v u h := by
  unfold lostE
  simp only
  repeat' split
  all_goals omega
theorem lostE_more (e : Tri) (x y u v : Int) (h : Nat) : lostE e (x + u) (y + v) h = lostE e x y h + lostE e u v h := by
  unfold lostE
  repeat' split
  all_goals omega
theorem lostE_times (e : Tri) (m x y : Int) (h : Nat) : lostE e (m * x) (m * y) h = m * lostE e x y h := by
  unfold lostE
  repeat' split
  all_goals simp [Int.mul_add, Int.mul_sub]
theorem lostK_times {l : List Tri} {js js' : List (Int × Int)} {m : Int} (h : Nat) : ∀ k, (∀ i, i < k → js'.getD i (0, 0) = (m * (js.getD i (0, 0)).1, m * (js.getD i (0, 0)).2)) → lostK l js' h k = m * lostK l js h k
  | 0, _ => by simp [lostK]
  | k + 1, hk => by
    rw [lostK, lostK, lostK_times h k (fun i hi => hk i (by omega)), hk k (by omega), lostE_times, Int.mul_add]
/-- One jump more. -/
theorem lostK_one {l : List Tri} {js js' : List (Int × Int)} {t : Nat} {u v : Int} (h : Nat) (ht : js'.getD t (0, 0) = ((js.getD t (0, 0)).1 + u, (js.getD t (0, 0)).2 + v)) (ho : ∀ i, i ≠ t → js'.getD i (0, 0) = js.getD i (0, 0)) : ∀ k, lostK l js' h k = lostK l js h k + (if t < k then lostE (l.getD t (0, 0, 0)) u v h else 0)
  | 0 => by simp [lostK]
  | k + 1 => by
    have ih := lostK_one (l := l) h ht ho k
    rw [lostK, lostK, ih]
    by_cases e : k = t
    · subst e
      rw [if_neg (Nat.lt_irrefl _), if_pos (Nat.lt_succ_self _), ht, lostE_more]
      omega
    · rw [ho k e]
      by_cases h2 : t < k
      · rw [if_pos h2, if_pos (by omega)]
        omega
      · rw [if_neg h2, if_neg (by omega)]
        omega
end Go.Proofs.Ythbhengcinkepaa
