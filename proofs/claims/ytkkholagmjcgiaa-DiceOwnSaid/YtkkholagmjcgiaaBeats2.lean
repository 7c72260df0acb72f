/- The functions Compare and Twins of package dice, at dice and at lists that are none. · The reference's function Compare: in how many results of two lists the first shows more, less, and the same. · The functions Beats and Rank of package dice, at dice, and the reference's Beats; of two dice what the one shows more often the other shows less often. · The function Rank of package dice, at dice. -/
import Derived.Test.YtkkholagmjcgiaaRing
import Derived.Test.YtkkholagmjcgiaaAppV
import Derived.Test.YtkkholagmjcgiaaTwins
namespace Go.Proofs.Ytkkholagmjcgiaa
open Go.RowKit Go.Shelf

set_option maxRecDepth 100000 in
set_option maxHeartbeats 2000000 in
theorem Compare_bad (A1 A2 : Option Addr) (a b : List Int) (c1 c2 : Nat) (w : World) (h1 : RInts w w.heap.size A1 a) (h2 : RInts w w.heap.size A2 b) (hc1 : a.length ≤ c1) (hc2 : b.length ≤ c2) (hla : a.length ≤ 1000) (hlb : b.length ≤ 1000) (hbad : checkL [a, b] ≠ 0) :
    Calls Try.prog 33 #[.slice A1 a.length c1, .slice A2 b.length c2] w fun e w' => e = .returned (.tuple #[.int .i64 0, .int .i64 0, .int .i64 0, .int .i64 (checkL [a, b])]) ∧ Below w.heap.size w w' := by
  have HC := Lib.hid (check_any (some ⟨w.heap.size, 0, none⟩) [a, b] 2 _ _ (RDice.two h1 h2 hc1 hc2 (Nat.le_refl _)) (by simp) (fun d hd => by simp at hd; rcases hd with rfl | rfl <;> omega))
  obtain ⟨k, hk⟩ : ∃ k, checkL [a, b] = k := ⟨_, rfl⟩
  rw [hk] at hbad HC ⊢
  have hne : (k == 0) = false := by rw [beq_eq_false_iff_ne]; exact hbad
  have hne2 : (k != 0) = true := by simp [bne, hne]
  clear h1 h2 hk hbad
  go_enter Try.func33, Try.ntmps33
  go_wp2_with fail
  refine HC.out.mono ?_
  rintro e w' ⟨rfl, n, rfl⟩
  go_wp2_with fail
  refine bodyPost_ret (v := .tuple #[.int .i64 0, .int .i64 0, .int .i64 0, .int .i64 k]) (by simp [results, Try.results33, go_sem]) rfl ⟨rfl, ?_⟩
  exact ⟨rfl, rfl, rfl, by simp, fun i hi => Below.heap_alloc w _ i hi⟩

set_option maxRecDepth 100000 in
set_option maxHeartbeats 2000000 in
theorem Twins_bad (A1 A2 : Option Addr) (a b : List Int) (c1 c2 : Nat) (w : World) (h1 : RInts w w.heap.size A1 a) (h2 : RInts w w.heap.size A2 b) (hc1 : a.length ≤ c1) (hc2 : b.length ≤ c2) (hla : a.length ≤ 1000) (hlb : b.length ≤ 1000) (hbad : checkL [a, b] ≠ 0) :
    Calls Try.prog 34 #[.slice A1 a.length c1, .slice A2 b.length c2] w fun e w' => e = .returned (.tuple #[.slice none 0 0, .int .i64 (checkL [a, b])]) ∧ Below w.heap.size w w' := by
  have HC := Lib.hid (check_any (some ⟨w.heap.size, 0, none⟩) [a, b] 2 _ _ (RDice.two h1 h2 hc1 hc2 (Nat.le_refl _)) (by simp) (fun d hd => by simp at hd; rcases hd with rfl | rfl <;> omega))
  obtain ⟨k, hk⟩ : ∃ k, checkL [a, b] = k := ⟨_, rfl⟩
  rw [hk] at hbad HC ⊢
  have hne : (k == 0) = false := by rw [beq_eq_false_iff_ne]; exact hbad
  have hne2 : (k != 0) = true := by simp [bne, hne]
  clear h1 h2 hk hbad
  go_enter Try.func34, Try.ntmps34
  go_wp2_with fail
  refine HC.out.mono ?_
  rintro e w' ⟨rfl, n, rfl⟩
  go_wp2_with fail
  refine bodyPost_ret (v := .tuple #[.slice none 0 0, .int .i64 k]) (by simp [results, Try.results34, go_sem]) rfl ⟨rfl, ?_⟩
  exact ⟨rfl, rfl, rfl, by simp, fun i hi => Below.heap_alloc w _ i hi⟩

set_option maxRecDepth 100000 in
set_option maxHeartbeats 2000000 in
theorem Compare_ok (A1 A2 : Option Addr) (a b : List Int) (c1 c2 : Nat) (w : World) (h1 : RInts w w.heap.size A1 a) (h2 : RInts w w.heap.size A2 b) (hc1 : a.length ≤ c1) (hc2 : b.length ≤ c2) (ha : IsDie a) (hb : IsDie b) :
    Calls Try.prog 33 #[.slice A1 a.length c1, .slice A2 b.length c2] w fun e w' => e = .returned (.tuple #[.int .i64 (moreL (rollL [a, b] [])), .int .i64 (lessL (rollL [a, b] [])), .int .i64 (sameL (rollL [a, b] [])), .int .i64 0]) ∧ Below w.heap.size w w' := by
  have l1 := ha.ok.1
  have l2 := hb.ok.1
  have HC := Lib.hid (check_any (some ⟨w.heap.size, 0, none⟩) [a, b] 2 _ _ (RDice.two h1 h2 hc1 hc2 (Nat.le_refl _)) (by simp) (fun d hd => by simp at hd; rcases hd with rfl | rfl <;> omega))
  have HZ := Lib.hid (checkL_zero (areTwo ha hb))
  have HB0 : ∀ n, Below w.heap.size w ((w.alloc (Obj.cells #[.slice A1 a.length c1, .slice A2 b.length c2] 36)).drewN n) := fun n => ⟨rfl, rfl, rfl, by simp, fun i hi => Below.heap_alloc w _ i hi⟩
  have HCM := Lib.hid (fun n => compare_agg A1 A2 a b c1 c2 _ (RInts.tow h1 (Nat.le_refl _) (HB0 n)) (RInts.tow h2 (Nat.le_refl _) (HB0 n)) (by omega) (by omega))
  have HB := Lib.hid HB0
  clear h1 h2 HB0
  go_enter Try.func33, Try.ntmps33
  go_wp2_with fail
  refine HC.out.mono ?_
  rintro e w' ⟨rfl, n, rfl⟩
  rw [HZ.out]
  go_wp2_with fail
  refine (HCM.out n).mono ?_
  rintro e w2 ⟨rfl, hb2⟩
  have HB2 := Lib.hid (keepC2 (HB.out n) (HB.out n).size hb2)
  clear hb2
  go_wp2_with fail
  go_quiet (fail)
  go_wp2_with fail
  refine bodyPost_ret (v := .tuple #[.int .i64 (moreL (rollL [a, b] [])), .int .i64 (lessL (rollL [a, b] [])), .int .i64 (sameL (rollL [a, b] [])), .int .i64 0]) (by simp [results, Try.results33, go_sem]) rfl ⟨rfl, ?_⟩
  have h3 := HB2.out.alloc HB2.out.size (Obj.cells #[.int .i64 (moreL (rollL [a, b] [])), .int .i64 (lessL (rollL [a, b] [])), .int .i64 (sameL (rollL [a, b] []))] 97)
  exact ⟨h3.os, h3.tape, h3.output, h3.size, h3.block⟩

end Go.Proofs.Ytkkholagmjcgiaa

namespace Go.Proofs.Ytkkholagmjcgiaa
open Go.RowKit Go.Shelf

/-- The results with the first i numbers of a, and those of number i of a with the first k of b. -/
def part2 (a b : List Int) (i k : Nat) : List (List Int) := rollL [a.take i, b] [] ++ (b.take k).map fun t => [a.getD i 0, t]
theorem part2_zero (a b : List Int) : part2 a b 0 0 = [] := by simp [part2, rollL]
theorem part2_step {a b : List Int} {i k : Nat} {y : Int} (h : b[k]? = some y) : part2 a b i (k + 1) = part2 a b i k ++ [[a.getD i 0, y]] := by
  have hk := List.getElem?_eq_some_iff.1 h
  unfold part2
  rw [List.take_succ_eq_append_getElem hk.1, hk.2, List.map_append, List.append_assoc]
  rfl
theorem part2_row {a b : List Int} {i : Nat} {x : Int} (h : a[i]? = some x) : part2 a b i b.length = part2 a b (i + 1) 0 := by
  have hi := List.getElem?_eq_some_iff.1 h
  have hx : a.getD i 0 = x := by simp [List.getD, h]
  unfold part2
  rw [List.take_succ_eq_append_getElem hi.1, hi.2, hx, List.take_length, List.take_zero, List.map_nil, List.append_nil]
  simp [rollL, List.flatMap_append, List.map_eq_flatMap]
theorem part2_all (a b : List Int) : part2 a b a.length 0 = rollL [a, b] [] := by simp [part2]
theorem part2_len (a b : List Int) (i k : Nat) (ha : a.length ≤ 1000) (hb : b.length ≤ 1000) : (part2 a b i k).length ≤ 1001000 := by
  unfold part2
  rw [List.length_append, rollL_length]
  have h1 : (a.take i).length * b.length ≤ 1000 * 1000 := Nat.mul_le_mul (by simp; omega) hb
  simp at h1 ⊢
  omega

set_option maxRecDepth 100000 in
set_option maxHeartbeats 2000000 in
theorem RCompare_any (A1 A2 : Option Addr) (a b : List Int) (c1 c2 B : Nat) (w : World) (h1 : RInts w B A1 a) (h2 : RInts w B A2 b) (ha : a.length ≤ 1000) (hb : b.length ≤ 1000) :
    Calls Try.prog 35 #[.slice A1 a.length c1, .slice A2 b.length c2] w fun e w' => e = .returned (.tuple #[.int .i64 (moreL (rollL [a, b] [])), .int .i64 (lessL (rollL [a, b] [])), .int .i64 (sameL (rollL [a, b] []))]) ∧ ∃ n, w' = w.drewN n := by
  have H1 := Lib.hid h1
  have H2 := Lib.hid h2
  clear h1 h2
  go_enter Try.func35, Try.ntmps35
  go_wp2_with fail
  go_loopg [7, 8, 9, 10] a.length (fun g m l s i wx => ∃ k : Nat, k + g = a.length ∧ i = .int .i64 k ∧ m = .int .i64 (moreL (part2 a b k 0)) ∧ l = .int .i64 (lessL (part2 a b k 0)) ∧ s = .int .i64 (sameL (part2 a b k 0)) ∧ Hid (∃ n, w.drewN n = wx))
  case atStart => exact ⟨0, by omega, rfl, by rw [part2_zero]; rfl, by rw [part2_zero]; rfl, by rw [part2_zero]; rfl, Lib.hid ⟨0, rfl⟩⟩
  case round =>
    obtain ⟨i, hi, rfl, rfl, rfl, rfl, HW⟩ := hrel
    obtain ⟨n0, hn0⟩ := HW.out
    clear HW
    subst hn0
    cases gk with
    | zero =>
      obtain rfl : i = a.length := by omega
      rw [part2_all]
      go_wp2_with fail
      refine bodyPost_ret (v := .tuple #[.int .i64 (moreL (rollL [a, b] [])), .int .i64 (lessL (rollL [a, b] [])), .int .i64 (sameL (rollL [a, b] []))]) (by simp [results, Try.results35, go_sem]) rfl ⟨rfl, n0, rfl⟩
    | succ g =>
      obtain ⟨b1, o1, x, hA1, hb1, hx, hcx⟩ := H1.out.at_ (k := i) (by omega)
      subst hA1
      have HX := Lib.hid (show a.getD i 0 = x by simp [List.getD, hx])
      have HROW := Lib.hid (part2_row (b := b) hx)
      have hil : (i : Int) < (a.length : Int) := by omega
      have hi0 : (0 : Int) ≤ (i : Int) := by omega
      clear hx
      go_wp2_with fail
      go_loopg [7, 8, 9, 11] b.length (fun g m l s j wx => ∃ k : Nat, k + g = b.length ∧ j = .int .i64 k ∧ m = .int .i64 (moreL (part2 a b i k)) ∧ l = .int .i64 (lessL (part2 a b i k)) ∧ s = .int .i64 (sameL (part2 a b i k)) ∧ Hid (∃ n, w.drewN n = wx))
      case atStart => exact ⟨0, by omega, rfl, rfl, rfl, rfl, Lib.hid ⟨n0, rfl⟩⟩
      case round =>
        obtain ⟨k, hk, rfl, rfl, rfl, rfl, HW⟩ := hrel
        obtain ⟨n1, hn1⟩ := HW.out
        clear HW
        subst hn1
        cases gk with
        | zero =>
          obtain rfl : k = b.length := by omega
          rw [HROW.out]
          go_wp2_with fail
          go_roundg g
          case measure => omega
          case rel => exact ⟨i + 1, by omega, by go_num, rfl, rfl, rfl, Lib.hid ⟨n1, rfl⟩⟩
        | succ g1 =>
          obtain ⟨b2, o2, y, hA2, hb2, hy, hcy⟩ := H2.out.at_ (k := k) (by omega)
          subst hA2
          have HST := Lib.hid (part2_step (a := a) (i := i) hy)
          have hpl := part2_len a b i k ha hb
          have m0 : moreL (part2 a b i k) ≤ 1001000 := Nat.le_trans List.countP_le_length hpl
          have m1 : lessL (part2 a b i k) ≤ 1001000 := Nat.le_trans List.countP_le_length hpl
          have m2 : sameL (part2 a b i k) ≤ 1001000 := Nat.le_trans List.countP_le_length hpl
          have hkl : (k : Int) < (b.length : Int) := by omega
          have hk0 : (0 : Int) ≤ (k : Int) := by omega
          clear hy hpl
          by_cases g1' : y < x
          · have g2' : ¬ x < y := by omega
            have HS3 := Lib.hid (show moreL (part2 a b i (k + 1)) = moreL (part2 a b i k) + 1 ∧ lessL (part2 a b i (k + 1)) = lessL (part2 a b i k) ∧ sameL (part2 a b i (k + 1)) = sameL (part2 a b i k) by
              rw [HST.out, HX.out]
              simp [moreL, lessL, sameL, List.countP_append, g1', g2'])
            go_wp2_with fail
            go_quiet (fail)
            go_wp2_with fail
            go_roundg g1
            case measure => omega
            case rel => exact ⟨k + 1, by omega, by go_num, by rw [HS3.out.1]; go_num, by rw [HS3.out.2.1], by rw [HS3.out.2.2], Lib.hid ⟨n1 + nq, by simp⟩⟩
          · by_cases g2' : x < y
            · have HS3 := Lib.hid (show moreL (part2 a b i (k + 1)) = moreL (part2 a b i k) ∧ lessL (part2 a b i (k + 1)) = lessL (part2 a b i k) + 1 ∧ sameL (part2 a b i (k + 1)) = sameL (part2 a b i k) by
                rw [HST.out, HX.out]
                simp [moreL, lessL, sameL, List.countP_append, g1', g2'])
              go_wp2_with fail
              go_quiet (fail)
              go_wp2_with fail
              go_quiet (fail)
              go_wp2_with fail
              go_roundg g1
              case measure => omega
              case rel => exact ⟨k + 1, by omega, by go_num, by rw [HS3.out.1], by rw [HS3.out.2.1]; go_num, by rw [HS3.out.2.2], Lib.hid ⟨_, rfl⟩⟩
            · have HS3 := Lib.hid (show moreL (part2 a b i (k + 1)) = moreL (part2 a b i k) ∧ lessL (part2 a b i (k + 1)) = lessL (part2 a b i k) ∧ sameL (part2 a b i (k + 1)) = sameL (part2 a b i k) + 1 by
                rw [HST.out, HX.out]
                simp [moreL, lessL, sameL, List.countP_append, g1', g2'])
              go_wp2_with fail
              go_quiet (fail)
              go_wp2_with fail
              go_quiet (fail)
              go_wp2_with fail
              go_roundg g1
              case measure => omega
              case rel => exact ⟨k + 1, by omega, by go_num, by rw [HS3.out.1], by rw [HS3.out.2.1], by rw [HS3.out.2.2]; go_num, Lib.hid ⟨_, rfl⟩⟩

end Go.Proofs.Ytkkholagmjcgiaa

namespace Go.Proofs.Ytkkholagmjcgiaa
open Go.RowKit Go.Shelf

theorem rollL_two (a b : List Int) : rollL [a, b] [] = a.flatMap fun x => b.map fun y => [x, y] := by
  simp [rollL, List.map_eq_flatMap]
/-- What is counted row by row is what is counted column by column. -/
theorem sum_swap (p : Int → Int → Bool) (b : List Int) : ∀ a : List Int, (a.map fun x => b.countP fun y => p x y).sum = (b.map fun y => a.countP fun x => p x y).sum
  | [] => by
    have : (b.map fun _ => 0).sum = 0 := by induction b with
      | nil => rfl
      | cons y r ih => simp [ih]
    simpa using this.symm
  | x :: r => by
    rw [List.map_cons, List.sum_cons, sum_swap p b r]
    induction b with
    | nil => rfl
    | cons y t ih =>
      simp only [List.map_cons, List.sum_cons, List.countP_cons]
      simp only [List.countP_cons] at ih
      omega
theorem more_sum (a b : List Int) : moreL (rollL [a, b] []) = (a.map fun x => b.countP fun y => decide (y < x)).sum := by
  rw [rollL_two]
  unfold moreL
  rw [List.countP_flatMap]
  congr 1
  refine List.map_congr_left fun x _ => ?_
  simp only [Function.comp, List.countP_map]
  rfl
theorem less_sum (a b : List Int) : lessL (rollL [a, b] []) = (a.map fun x => b.countP fun y => decide (x < y)).sum := by
  rw [rollL_two]
  unfold lessL
  rw [List.countP_flatMap]
  congr 1
  refine List.map_congr_left fun x _ => ?_
  simp only [Function.comp, List.countP_map]
  rfl
theorem same_sum (a b : List Int) : sameL (rollL [a, b] []) = (a.map fun x => b.countP fun y => decide (x = y)).sum := by
  rw [rollL_two]
  unfold sameL
  rw [List.countP_flatMap]
  congr 1
  refine List.map_congr_left fun x _ => ?_
  simp only [Function.comp, List.countP_map]
  refine List.countP_congr fun y _ => ?_
  simp
  omega
theorem more_less (a b : List Int) : moreL (rollL [a, b] []) = lessL (rollL [b, a] []) := by
  rw [more_sum, less_sum]
  exact sum_swap (fun x y => decide (y < x)) b a
theorem same_same (a b : List Int) : sameL (rollL [a, b] []) = sameL (rollL [b, a] []) := by
  rw [same_sum, same_sum, sum_swap (fun x y => decide (x = y)) b a]
  congr 1
  refine List.map_congr_left fun y _ => List.countP_congr fun x _ => ?_
  simp
  exact eq_comm
theorem three_count {α : Type} (p q : α → Bool) (h : ∀ x, p x = true → q x = false) : ∀ l : List α, l.countP p + l.countP q + l.countP (fun x => !p x && !q x) = l.length
  | [] => rfl
  | x :: t => by
    have ih := three_count p q h t
    simp only [List.countP_cons, List.length_cons]
    cases hp : p x
    · cases hq : q x <;> simp <;> omega
    · rw [h x hp]
      simp
      omega
theorem three_sum (l : List (List Int)) : moreL l + lessL l + sameL l = l.length :=
  three_count (fun r : List Int => decide (r.getD 1 0 < r.getD 0 0)) (fun r => decide (r.getD 0 0 < r.getD 1 0)) (fun r h => by
    have := of_decide_eq_true h
    exact decide_eq_false (by omega)) l
theorem all_results (a b : List Int) : moreL (rollL [a, b] []) + lessL (rollL [a, b] []) + sameL (rollL [a, b] []) = a.length * b.length := by
  rw [three_sum, rollL_length]
  simp
/-- Whether one die beats another, said once for all. -/
theorem bt_is (ds : List (List Int)) (a b : Nat) : bt ds a b = decide (lessL (rollL [ds.getD a [], ds.getD b []] []) < moreL (rollL [ds.getD a [], ds.getD b []] [])) := by
  unfold bt
  split
  · rfl
  · split
    · rw [more_less (ds.getD b []) (ds.getD a []), ← more_less (ds.getD a []) (ds.getD b [])]
    · obtain rfl : a = b := by omega
      rw [more_less (ds.getD a []) (ds.getD a [])]
      simp

set_option maxRecDepth 100000 in
theorem RBeats_any (A1 A2 : Option Addr) (a b : List Int) (c1 c2 B : Nat) (w : World) (h1 : RInts w B A1 a) (h2 : RInts w B A2 b) (ha : a.length ≤ 1000) (hb : b.length ≤ 1000) :
    Calls Try.prog 41 #[.slice A1 a.length c1, .slice A2 b.length c2] w fun e w' => e = .returned (.bool (decide (lessL (rollL [a, b] []) < moreL (rollL [a, b] [])))) ∧ ∃ n, w' = w.drewN n := by
  have HC := Lib.hid (RCompare_any A1 A2 a b c1 c2 B w h1 h2 ha hb)
  clear h1 h2
  obtain ⟨m, hm⟩ : ∃ m, moreL (rollL [a, b] []) = m := ⟨_, rfl⟩
  obtain ⟨s, hs⟩ : ∃ s, lessL (rollL [a, b] []) = s := ⟨_, rfl⟩
  rw [hm, hs] at HC ⊢
  clear hm hs
  go_enter Try.func41, Try.ntmps41
  go_wp2_with fail
  refine HC.out.mono ?_
  rintro e w' ⟨rfl, n, rfl⟩
  go_wp2_with fail
  go_ret
  exact ⟨ret_bool (by rw [decide_eq_decide]), n, rfl⟩

set_option maxRecDepth 100000 in
theorem Beats_ok (A : Option Addr) (ds : List (List Int)) (c : Nat) (w : World) (hr : RDice w w.heap.size A ds) (hd : AreDice ds) :
    Calls Try.prog 27 #[.slice A ds.length c] w fun e w' => ∃ T g, e = .returned (.tuple #[.slice (some ⟨T, 0, none⟩) ds.length ds.length, .int .i64 0]) ∧ Tab w' T ds.length ds.length g (bt ds) w.heap.size ∧ Below w.heap.size w w' := by
  have h6 := hd.len
  have HC := Lib.hid (check_any A ds c _ w hr (by omega) (fun d h => by have := (hd.die d h).ok.1; omega))
  have HZ := Lib.hid (checkL_zero hd)
  have HBT := Lib.hid (fun n => beats_any A ds c (w.drewN n) (hr.drewN n) h6 (fun d h => (hd.die d h).ok.1))
  clear hr hd
  go_enter Try.func27, Try.ntmps27
  go_wp2_with fail
  refine HC.out.mono ?_
  rintro e w' ⟨rfl, n, rfl⟩
  rw [HZ.out]
  go_wp2_with fail
  refine (HBT.out n).mono ?_
  rintro e w1 ⟨T, g, rfl, htab, hb1⟩
  have hb1 : Below w.heap.size w w1 := ⟨hb1.os, hb1.tape, hb1.output, hb1.size, hb1.block⟩
  have htab : Tab w1 T ds.length ds.length g (bt ds) w.heap.size := htab
  have HTAB := Lib.hid htab
  have HB1 := Lib.hid hb1
  clear htab hb1
  go_wp2_with fail
  refine bodyPost_ret (v := .tuple #[.slice (some ⟨T, 0, none⟩) ds.length ds.length, .int .i64 0]) (by simp [results, Try.results27, go_sem]) rfl ⟨T, g, rfl, HTAB.out, HB1.out⟩

end Go.Proofs.Ytkkholagmjcgiaa

namespace Go.Proofs.Ytkkholagmjcgiaa
open Go.RowKit

theorem Tab.at_ {w : World} {T n : Nat} {g : Nat → Nat} {f : Nat → Nat → Bool} {B : Nat} (h : Tab w T n n g f B) {i k : Nat} (hi : i < n) (hk : k < n) :
    w.cell? ⟨T, i, none⟩ = some (.slice (some ⟨g i, 0, none⟩) n n) ∧ w.cell? ⟨g i, k, none⟩ = some (.bool (f i k)) := by
  refine ⟨?_, ?_⟩
  · rw [h.tb.cell i, tabCells_at hi, if_pos hi]
  · rw [(h.rows i hi).cell k, rowCells_at hk]

theorem drew_more {w w' : World} (h : ∃ n, w.drewN n = w') (q : Nat) : ∃ n, w.drewN n = w'.drewN q := by
  obtain ⟨n, rfl⟩ := h
  exact ⟨n + q, by simp⟩

set_option maxHeartbeats 1000000 in
theorem Rank_fresh (A : Option Addr) (ds : List (List Int)) (c : Nat) (w : World) (hr : RDice w w.heap.size A ds) (hd : AreDice ds) :
    Calls Try.prog 29 #[.slice A ds.length c] w fun e w' => (leftL ds ≠ [] ∧ e = .returned (.tuple #[.slice none 0 0, .bool false, .int .i64 0]) ∨ leftL ds = [] ∧ ∃ v, e = .returned (.tuple #[v, .bool true, .int .i64 0]) ∧ OwnV w' v (rankedL ds) ∧ ∀ b, v.ownBlock = some b → w.heap.size ≤ b) ∧ Below w.heap.size w w' := by
  have h6 := hd.len
  have hp := hd.pos
  have HC := Lib.hid (check_any A ds c _ w hr (by omega) (fun d h => by have := (hd.die d h).ok.1; omega))
  have HZ := Lib.hid (checkL_zero hd)
  have HBT := Lib.hid (fun n => beats_any A ds c (w.drewN n) (hr.drewN n) h6 (fun d h => (hd.die d h).ok.1))
  clear hr hd
  go_enter Try.func29, Try.ntmps29
  go_wp2_with fail
  refine HC.out.mono ?_
  rintro e w' ⟨rfl, n, rfl⟩
  rw [HZ.out]
  go_wp2_with fail
  refine (HBT.out n).mono ?_
  rintro e w1 ⟨T, g, rfl, htab, hb1⟩
  have hb1 : Below w.heap.size w w1 := ⟨hb1.os, hb1.tape, hb1.output, hb1.size, hb1.block⟩
  have HTB := Lib.hid (rank_fresh (some ⟨T, 0, none⟩) (tbl ds) ds.length ds.length w1 htab.reads (tabL_square _ _) hp (by omega))
  have HB1 := Lib.hid hb1
  clear htab hb1
  go_wp2_with fail
  refine HTB.out.mono ?_
  rintro e w2 ⟨v1, v2, rfl, ho1, ho2, hb2, hf2⟩
  have HF2 := Lib.hid (fun b (hb : v1.ownBlock = some b) => Nat.le_trans HB1.out.size (hf2 b hb))
  have HB2 := Lib.hid (keepC2 HB1.out HB1.out.size hb2)
  have ho2 : OwnV w2 v2 (leftL ds) := ho2
  have ho1 : OwnV w2 v1 (rankedL ds) := ho1
  have HO1 := Lib.hid ho1
  obtain ⟨A2, c2, rfl, _, _, _⟩ := ho2.reads
  clear hb2 ho1 ho2 hf2
  by_cases hle : leftL ds = []
  · have hl0 : (leftL ds).length = 0 := by rw [hle]; rfl
    rw [hl0]
    have HLE := Lib.hid hle
    clear hle hl0
    go_wp2_with fail
    refine bodyPost_ret (v := .tuple #[v1, .bool true, .int .i64 0]) (by simp [results, Try.results29, go_sem]) rfl ⟨.inr ⟨HLE.out, v1, rfl, HO1.out, HF2.out⟩, HB2.out⟩
  · have hpos : (0 : Int) < ((leftL ds).length : Int) := by
      rcases Nat.eq_zero_or_pos (leftL ds).length with h | h
      · exact absurd (List.length_eq_zero_iff.1 h) hle
      · omega
    have HLE := Lib.hid hle
    clear hle
    go_wp2_with fail
    refine bodyPost_ret (v := .tuple #[.slice none 0 0, .bool false, .int .i64 0]) (by simp [results, Try.results29, go_sem]) rfl ⟨.inl ⟨HLE.out, rfl⟩, HB2.out⟩

theorem Rank_any (A : Option Addr) (ds : List (List Int)) (c : Nat) (w : World) (hr : RDice w w.heap.size A ds) (hd : AreDice ds) :
    Calls Try.prog 29 #[.slice A ds.length c] w fun e w' => (leftL ds ≠ [] ∧ e = .returned (.tuple #[.slice none 0 0, .bool false, .int .i64 0]) ∨ leftL ds = [] ∧ ∃ v, e = .returned (.tuple #[v, .bool true, .int .i64 0]) ∧ OwnV w' v (rankedL ds)) ∧ Below w.heap.size w w' :=
  (Rank_fresh A ds c w hr hd).mono fun _ _ ⟨h, hb⟩ => ⟨h.imp id fun ⟨h1, v, h2, h3, _⟩ => ⟨h1, v, h2, h3⟩, hb⟩

end Go.Proofs.Ytkkholagmjcgiaa
