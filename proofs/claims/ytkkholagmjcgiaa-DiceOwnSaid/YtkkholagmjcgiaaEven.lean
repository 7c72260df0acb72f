/- The function Even of package dice: for numbers from 1 to 8 it returns just the pairs that the plain search finds for the sums 0 to n m - 1, once each; ErrArg outside. -/
import Derived.Test.YtkkholagmjcgiaaPairs
import Derived.Test.YtkkholagmjcgiaaChains
namespace Go.Proofs.Ytkkholagmjcgiaa
open Go.RowKit Go.Maps

def evF (k : Nat) : Int → Int := fun y => if 0 ≤ y ∧ y < k then 1 else 0
def evS (k : Nat) : Int → Bool := fun y => decide (0 ≤ y ∧ y < k)
def evK (k : Nat) : List Int := (List.range k).map fun (i : Nat) => (i : Int)
/-- All even dice for two numbers, as the plain search finds them. -/
def evenL (n m : Nat) : List (List Int × List Int) := pairsL n m 0 0 (evF (n * m)) (evK (n * m))

theorem mem_evK {k : Nat} {x : Int} : x ∈ evK k ↔ 0 ≤ x ∧ x < k := by
  simp only [evK, List.mem_map, List.mem_range]
  constructor
  · rintro ⟨i, hi, rfl⟩
    omega
  · rintro ⟨h1, h2⟩
    exact ⟨x.toNat, by omega, by omega⟩
theorem sum_ev (k : Nat) : ∀ j, j ≤ k → sumF (evF k) (evK j) = j
  | 0, _ => rfl
  | j + 1, h => by
    have ih := sum_ev k j (by omega)
    have e : evF k (j : Int) = 1 := by unfold evF; rw [if_pos ⟨by omega, by omega⟩]
    simp only [sumF, evK, List.range_succ, List.map_append, List.map_cons, List.map_nil, List.sum_append, List.sum_cons, List.sum_nil, e] at ih ⊢
    rw [ih]
    push_cast
    omega
theorem evIn {n m : Nat} (hn1 : 1 ≤ n) (hn8 : n ≤ 8) (hm1 : 1 ≤ m) (hm8 : m ≤ 8) : PairsIn n m 0 0 (evF (n * m)) (evS (n * m)) (evK (n * m)) := by
  have hp1 : 1 ≤ n * m := Nat.mul_le_mul hn1 hm1
  have hp2 : n * m ≤ 64 := Nat.mul_le_mul hn8 hm8
  refine ⟨⟨hn1, hn8, hm1, hm8⟩, by omega, ?_, fun x _ => ?_, fun x hx => ?_, fun y => ?_, fun y hy => ?_, ?_, ?_, ?_⟩
  · rw [evK, List.pairwise_map]
    exact List.pairwise_lt_range.imp fun h => by omega
  · rw [mem_evK]; simp [evS]
  · have := mem_evK.1 hx
    omega
  · unfold evF; split <;> omega
  · unfold evF at hy
    rw [mem_evK]
    by_cases h : 0 ≤ y ∧ y < ((n * m : Nat) : Int)
    · exact h
    · rw [if_neg h] at hy; exact absurd rfl hy
  · rw [sum_ev _ _ (Nat.le_refl _)]; push_cast; rfl
  · unfold evF; rw [if_pos ⟨by omega, by omega⟩]; omega
  · simp [evK]; omega

set_option maxHeartbeats 1000000 in
theorem Even_bad (n m : Int) (h : n < 1 ∨ 8 < n ∨ m < 1 ∨ 8 < m) (w : World) :
    Calls Try.prog 48 #[.int .i64 n, .int .i64 m] w fun e w' => e = .returned (.tuple #[.slice none 0 0, .int .i64 1]) ∧ w = w' := by
  by_cases hn : n < 1 ∨ 8 < n
  · have H := Lib.hid hn
    clear hn h
    go_enter Try.func48, Try.ntmps48
    go_wp2_with fail
    refine (isSize_no n H.out _).mono ?_
    rintro e w' ⟨rfl, rfl⟩
    go_wp2_with fail
    go_ret2
    exact ⟨rfl, rfl⟩
  · have h1 : 1 ≤ n := by omega
    have h2 : n ≤ 8 := by omega
    have H := Lib.hid (show m < 1 ∨ 8 < m by omega)
    clear hn h
    go_enter Try.func48, Try.ntmps48
    go_wp2_with fail
    refine (isSize_yes n h1 h2 _).mono ?_
    rintro e w' ⟨rfl, rfl⟩
    go_wp2_with fail
    refine (isSize_no m H.out _).mono ?_
    rintro e w' ⟨rfl, rfl⟩
    go_wp2_with fail
    go_ret2
    exact ⟨rfl, rfl⟩

set_option maxHeartbeats 1000000 in
theorem Even_ok (n m : Nat) (hn1 : 1 ≤ n) (hn8 : n ≤ 8) (hm1 : 1 ≤ m) (hm8 : m ≤ 8) (w : World) :
    Calls Try.prog 48 #[.int .i64 n, .int .i64 m] w fun e w' => ∃ fv, e = .returned (.tuple #[fv, .int .i64 0]) ∧ OutOk (fun _ => False) w' fv (evenL n m) ∧ Below w.heap.size w w' := by
  have hmm := @run_makeMap Try.prog
  have HIN := Lib.hid (evIn hn1 hn8 hm1 hm8)
  have hp2 : n * m ≤ 64 := Nat.mul_le_mul hn8 hm8
  have HE := Lib.hid (show evenL n m = pairsL n m 0 0 (evF (n * m)) (evK (n * m)) from rfl)
  obtain ⟨p, hp⟩ : ∃ p, p = n * m := ⟨_, rfl⟩
  have hpi : (n : Int) * (m : Int) = (p : Int) := by rw [hp]; push_cast; rfl
  rw [← hp] at hp2 HIN HE
  clear hp
  go_enter Try.func48, Try.ntmps48
  go_wp2_with fail
  refine (isSize_yes n (by omega) (by omega) _).mono ?_
  rintro e w' ⟨rfl, rfl⟩
  go_wp2_with fail
  refine (isSize_yes m (by omega) (by omega) _).mono ?_
  rintro e w' ⟨rfl, rfl⟩
  go_wp2_with fail
  go_loopw [20] (fun i wr => ∃ k : Nat, k ≤ p ∧ i = .int .i64 k ∧ MapF wr w.heap.size k (evF k) (evS k) ∧ Below w.heap.size w wr) (fun i _ => p - (intOf i).toNat)
  case atStart => exact ⟨0, by omega, rfl, (MapF.new w).congr (fun x _ => by unfold evF; rw [if_neg (by omega)]) (fun x _ => by unfold evS; rw [decide_eq_false (by omega)]), (Below.refl _ _).alloc (Nat.le_refl _) _⟩
  case round =>
    obtain ⟨k, hk, rfl, hmap, hB⟩ := hrel
    by_cases hlt : k < p
    · have HW := Lib.hid (show W64 (k : Int) from ⟨by omega, by omega⟩)
      have HW1 := Lib.hid (show W64 (1 : Int) from ⟨by omega, by omega⟩)
      go_wp2_with (first
        | (at_mapUpdate; refine wpList_store _ rfl _ _ _ rfl rfl hmap (by omega) _ _ rfl rfl HW.out HW1.out ?_; intro w2 hm2 hg2))
      have hB2 := hB.grown hg2 hB.size (fun j hj => by cases hj; exact Nat.le_refl _)
      have HM2 := Lib.hid (show MapF w2 w.heap.size (k + 1) (evF (k + 1)) (evS (k + 1)) from hm2.congr (fun x _ => by
          unfold upd evF
          by_cases e : x = (k : Int)
          · rw [if_pos e, if_pos ⟨by omega, by omega⟩]
          · rw [if_neg e]
            by_cases h : 0 ≤ x ∧ x < (k : Int)
            · rw [if_pos h, if_pos ⟨by omega, by omega⟩]
            · rw [if_neg h, if_neg (by omega)]) (fun x _ => by
          unfold ins evS
          rw [Bool.eq_iff_iff]
          simp
          omega))
      clear hm2 hg2
      go_roundw
      case rel => exact ⟨k + 1, by omega, by go_num, HM2.out, hB2⟩
      case measure => simp [intOf]; omega
    · obtain rfl : k = p := by omega
      go_wp2_with fail
      refine (pairs_any _ k n m 0 0 _ _ _ _ hmap (by omega) HIN.out).mono ?_
      rintro e w' ⟨fv, rfl, ho, hg⟩
      have HO := Lib.hid ho
      clear ho
      go_wp2_with fail
      go_ret2
      exact ⟨fv, rfl, by rw [HE.out]; exact HO.out, hB.grown hg hB.size (fun j hj => by cases hj; exact Nat.le_refl _)⟩

end Go.Proofs.Ytkkholagmjcgiaa
