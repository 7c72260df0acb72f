/- The functions Beats and Rank of package dice, at dice, and the reference's Beats; of two dice what the one shows more often the other shows less often. -/
import Derived.Test.YtkkholagmjcgiaaRCompare
namespace Go.Proofs.Ytkkholagmjcgiaa
open Go.RowKit Go.Shelf

theorem rollL_two (a b : List Int) : rollL [a, b] [] = a.flatMap fun x => b.map fun y => [x, y] := by
  simp [rollL, List.map_eq_flatMap]
/-- What is counted row by row is what is counted column by column. -/
theorem sum_swap (p : Int → Int → Bool) (b : List Int) : ∀ a : List Int, (a.map fun x => b.countP fun y => p x y).sum = (b.map fun y => a.countP fun x => p x y).sum
  | [] => by
    have : (b.map fun _ => 0).sum = 0 := by induction b with
      | nil => rfl
      | cons y r ih => simp [ih]
    simpa using this.symm
  | x :: r => by
    rw [List.map_cons, List.sum_cons, sum_swap p b r]
    induction b with
    | nil => rfl
    | cons y t ih =>
      simp only [List.map_cons, List.sum_cons, List.countP_cons]
      simp only [List.countP_cons] at ih
      omega
theorem more_sum (a b : List Int) : moreL (rollL [a, b] []) = (a.map fun x => b.countP fun y => decide (y < x)).sum := by
  rw [rollL_two]
  unfold moreL
  rw [List.countP_flatMap]
  congr 1
  refine List.map_congr_left fun x _ => ?_
  simp only [Function.comp, List.countP_map]
  rfl
theorem less_sum (a b : List Int) : lessL (rollL [a, b] []) = (a.map fun x => b.countP fun y => decide (x < y)).sum := by
  rw [rollL_two]
  unfold lessL
  rw [List.countP_flatMap]
  congr 1
  refine List.map_congr_left fun x _ => ?_
  simp only [Function.comp, List.countP_map]
  rfl
theorem same_sum (a b : List Int) : sameL (rollL [a, b] []) = (a.map fun x => b.countP fun y => decide (x = y)).sum := by
  rw [rollL_two]
  unfold sameL
  rw [List.countP_flatMap]
  congr 1
  refine List.map_congr_left fun x _ => ?_
  simp only [Function.comp, List.countP_map]
  refine List.countP_congr fun y _ => ?_
  simp
  omega
theorem more_less (a b : List Int) : moreL (rollL [a, b] []) = lessL (rollL [b, a] []) := by
  rw [more_sum, less_sum]
  exact sum_swap (fun x y => decide (y < x)) b a
theorem same_same (a b : List Int) : sameL (rollL [a, b] []) = sameL (rollL [b, a] []) := by
  rw [same_sum, same_sum, sum_swap (fun x y => decide (x = y)) b a]
  congr 1
  refine List.map_congr_left fun y _ => List.countP_congr fun x _ => ?_
  simp
  exact eq_comm
theorem three_count {α : Type} (p q : α → Bool) (h : ∀ x, p x = true → q x = false) : ∀ l : List α, l.countP p + l.countP q + l.countP (fun x => !p x && !q x) = l.length
  | [] => rfl
  | x :: t => by
    have ih := three_count p q h t
    simp only [List.countP_cons, List.length_cons]
    cases hp : p x
    · cases hq : q x <;> simp <;> omega
    · rw [h x hp]
      simp
      omega
theorem three_sum (l : List (List Int)) : moreL l + lessL l + sameL l = l.length :=
  three_count (fun r : List Int => decide (r.getD 1 0 < r.getD 0 0)) (fun r => decide (r.getD 0 0 < r.getD 1 0)) (fun r h => by
    have := of_decide_eq_true h
    exact decide_eq_false (by omega)) l
theorem all_results (a b : List Int) : moreL (rollL [a, b] []) + lessL (rollL [a, b] []) + sameL (rollL [a, b] []) = a.length * b.length := by
  rw [three_sum, rollL_length]
  simp
/-- Whether one die beats another, said once for all. -/
theorem bt_is (ds : List (List Int)) (a b : Nat) : bt ds a b = decide (lessL (rollL [ds.getD a [], ds.getD b []] []) < moreL (rollL [ds.getD a [], ds.getD b []] [])) := by
  unfold bt
  split
  · rfl
  · split
    · rw [more_less (ds.getD b []) (ds.getD a []), ← more_less (ds.getD a []) (ds.getD b [])]
    · obtain rfl : a = b := by omega
      rw [more_less (ds.getD a []) (ds.getD a [])]
      simp

set_option maxRecDepth 100000 in
theorem RBeats_any (A1 A2 : Option Addr) (a b : List Int) (c1 c2 B : Nat) (w : World) (h1 : RInts w B A1 a) (h2 : RInts w B A2 b) (ha : a.length ≤ 1000) (hb : b.length ≤ 1000) :
    Calls Try.prog 41 #[.slice A1 a.length c1, .slice A2 b.length c2] w fun e w' => e = .returned (.bool (decide (lessL (rollL [a, b] []) < moreL (rollL [a, b] [])))) ∧ ∃ n, w' = w.drewN n := by
  have HC := Lib.hid (RCompare_any A1 A2 a b c1 c2 B w h1 h2 ha hb)
  clear h1 h2
  obtain ⟨m, hm⟩ : ∃ m, moreL (rollL [a, b] []) = m := ⟨_, rfl⟩
  obtain ⟨s, hs⟩ : ∃ s, lessL (rollL [a, b] []) = s := ⟨_, rfl⟩
  rw [hm, hs] at HC ⊢
  clear hm hs
  go_enter Try.func41, Try.ntmps41
  go_wp2_with fail
  refine HC.out.mono ?_
  rintro e w' ⟨rfl, n, rfl⟩
  go_wp2_with fail
  go_ret
  exact ⟨ret_bool (by rw [decide_eq_decide]), n, rfl⟩

set_option maxRecDepth 100000 in
theorem Beats_ok (A : Option Addr) (ds : List (List Int)) (c : Nat) (w : World) (hr : RDice w w.heap.size A ds) (hd : AreDice ds) :
    Calls Try.prog 27 #[.slice A ds.length c] w fun e w' => ∃ T g, e = .returned (.tuple #[.slice (some ⟨T, 0, none⟩) ds.length ds.length, .int .i64 0]) ∧ Tab w' T ds.length ds.length g (bt ds) w.heap.size ∧ Below w.heap.size w w' := by
  have h6 := hd.len
  have HC := Lib.hid (check_any A ds c _ w hr (by omega) (fun d h => by have := (hd.die d h).ok.1; omega))
  have HZ := Lib.hid (checkL_zero hd)
  have HBT := Lib.hid (fun n => beats_any A ds c (w.drewN n) (hr.drewN n) h6 (fun d h => (hd.die d h).ok.1))
  clear hr hd
  go_enter Try.func27, Try.ntmps27
  go_wp2_with fail
  refine HC.out.mono ?_
  rintro e w' ⟨rfl, n, rfl⟩
  rw [HZ.out]
  go_wp2_with fail
  refine (HBT.out n).mono ?_
  rintro e w1 ⟨T, g, rfl, htab, hb1⟩
  have hb1 : Below w.heap.size w w1 := ⟨hb1.os, hb1.tape, hb1.output, hb1.size, hb1.block⟩
  have htab : Tab w1 T ds.length ds.length g (bt ds) w.heap.size := htab
  have HTAB := Lib.hid htab
  have HB1 := Lib.hid hb1
  clear htab hb1
  go_wp2_with fail
  refine bodyPost_ret (v := .tuple #[.slice (some ⟨T, 0, none⟩) ds.length ds.length, .int .i64 0]) (by simp [results, Try.results27, go_sem]) rfl ⟨T, g, rfl, HTAB.out, HB1.out⟩

end Go.Proofs.Ytkkholagmjcgiaa
