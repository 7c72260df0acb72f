/- The functions Compare and Twins of package dice, at dice and at lists that are none. -/
import Derived.Test.YtkkholagmjcgiaaRing
import Derived.Test.YtkkholagmjcgiaaTwins
namespace Go.Proofs.Ytkkholagmjcgiaa
open Go.RowKit Go.Shelf

set_option maxRecDepth 100000 in
set_option maxHeartbeats 2000000 in
theorem Compare_bad (A1 A2 : Option Addr) (a b : List Int) (c1 c2 : Nat) (w : World) (h1 : RInts w w.heap.size A1 a) (h2 : RInts w w.heap.size A2 b) (hc1 : a.length ≤ c1) (hc2 : b.length ≤ c2) (hla : a.length ≤ 1000) (hlb : b.length ≤ 1000) (hbad : checkL [a, b] ≠ 0) :
    Calls Try.prog 33 #[.slice A1 a.length c1, .slice A2 b.length c2] w fun e w' => e = .returned (.tuple #[.int .i64 0, .int .i64 0, .int .i64 0, .int .i64 (checkL [a, b])]) ∧ Below w.heap.size w w' := by
  have HC := Lib.hid (check_any (some ⟨w.heap.size, 0, none⟩) [a, b] 2 _ _ (RDice.two h1 h2 hc1 hc2 (Nat.le_refl _)) (by simp) (fun d hd => by simp at hd; rcases hd with rfl | rfl <;> omega))
  obtain ⟨k, hk⟩ : ∃ k, checkL [a, b] = k := ⟨_, rfl⟩
  rw [hk] at hbad HC ⊢
  have hne : (k == 0) = false := by rw [beq_eq_false_iff_ne]; exact hbad
  have hne2 : (k != 0) = true := by simp [bne, hne]
  clear h1 h2 hk hbad
  go_enter Try.func33, Try.ntmps33
  go_wp2_with fail
  refine HC.out.mono ?_
  rintro e w' ⟨rfl, n, rfl⟩
  go_wp2_with fail
  refine bodyPost_ret (v := .tuple #[.int .i64 0, .int .i64 0, .int .i64 0, .int .i64 k]) (by simp [results, Try.results33, go_sem]) rfl ⟨rfl, ?_⟩
  exact ⟨rfl, rfl, rfl, by simp, fun i hi => Below.heap_alloc w _ i hi⟩

set_option maxRecDepth 100000 in
set_option maxHeartbeats 2000000 in
theorem Twins_bad (A1 A2 : Option Addr) (a b : List Int) (c1 c2 : Nat) (w : World) (h1 : RInts w w.heap.size A1 a) (h2 : RInts w w.heap.size A2 b) (hc1 : a.length ≤ c1) (hc2 : b.length ≤ c2) (hla : a.length ≤ 1000) (hlb : b.length ≤ 1000) (hbad : checkL [a, b] ≠ 0) :
    Calls Try.prog 34 #[.slice A1 a.length c1, .slice A2 b.length c2] w fun e w' => e = .returned (.tuple #[.slice none 0 0, .int .i64 (checkL [a, b])]) ∧ Below w.heap.size w w' := by
  have HC := Lib.hid (check_any (some ⟨w.heap.size, 0, none⟩) [a, b] 2 _ _ (RDice.two h1 h2 hc1 hc2 (Nat.le_refl _)) (by simp) (fun d hd => by simp at hd; rcases hd with rfl | rfl <;> omega))
  obtain ⟨k, hk⟩ : ∃ k, checkL [a, b] = k := ⟨_, rfl⟩
  rw [hk] at hbad HC ⊢
  have hne : (k == 0) = false := by rw [beq_eq_false_iff_ne]; exact hbad
  have hne2 : (k != 0) = true := by simp [bne, hne]
  clear h1 h2 hk hbad
  go_enter Try.func34, Try.ntmps34
  go_wp2_with fail
  refine HC.out.mono ?_
  rintro e w' ⟨rfl, n, rfl⟩
  go_wp2_with fail
  refine bodyPost_ret (v := .tuple #[.slice none 0 0, .int .i64 k]) (by simp [results, Try.results34, go_sem]) rfl ⟨rfl, ?_⟩
  exact ⟨rfl, rfl, rfl, by simp, fun i hi => Below.heap_alloc w _ i hi⟩

set_option maxRecDepth 100000 in
set_option maxHeartbeats 2000000 in
theorem Compare_ok (A1 A2 : Option Addr) (a b : List Int) (c1 c2 : Nat) (w : World) (h1 : RInts w w.heap.size A1 a) (h2 : RInts w w.heap.size A2 b) (hc1 : a.length ≤ c1) (hc2 : b.length ≤ c2) (ha : IsDie a) (hb : IsDie b) :
    Calls Try.prog 33 #[.slice A1 a.length c1, .slice A2 b.length c2] w fun e w' => e = .returned (.tuple #[.int .i64 (moreL (rollL [a, b] [])), .int .i64 (lessL (rollL [a, b] [])), .int .i64 (sameL (rollL [a, b] [])), .int .i64 0]) ∧ Below w.heap.size w w' := by
  have l1 := ha.ok.1
  have l2 := hb.ok.1
  have HC := Lib.hid (check_any (some ⟨w.heap.size, 0, none⟩) [a, b] 2 _ _ (RDice.two h1 h2 hc1 hc2 (Nat.le_refl _)) (by simp) (fun d hd => by simp at hd; rcases hd with rfl | rfl <;> omega))
  have HZ := Lib.hid (checkL_zero (areTwo ha hb))
  have HB0 : ∀ n, Below w.heap.size w ((w.alloc (Obj.cells #[.slice A1 a.length c1, .slice A2 b.length c2] 36)).drewN n) := fun n => ⟨rfl, rfl, rfl, by simp, fun i hi => Below.heap_alloc w _ i hi⟩
  have HCM := Lib.hid (fun n => compare_agg A1 A2 a b c1 c2 _ (RInts.tow h1 (Nat.le_refl _) (HB0 n)) (RInts.tow h2 (Nat.le_refl _) (HB0 n)) (by omega) (by omega))
  have HB := Lib.hid HB0
  clear h1 h2 HB0
  go_enter Try.func33, Try.ntmps33
  go_wp2_with fail
  refine HC.out.mono ?_
  rintro e w' ⟨rfl, n, rfl⟩
  rw [HZ.out]
  go_wp2_with fail
  refine (HCM.out n).mono ?_
  rintro e w2 ⟨rfl, hb2⟩
  have HB2 := Lib.hid (keepC2 (HB.out n) (HB.out n).size hb2)
  clear hb2
  go_wp2_with fail
  go_quiet (fail)
  go_wp2_with fail
  refine bodyPost_ret (v := .tuple #[.int .i64 (moreL (rollL [a, b] [])), .int .i64 (lessL (rollL [a, b] [])), .int .i64 (sameL (rollL [a, b] [])), .int .i64 0]) (by simp [results, Try.results33, go_sem]) rfl ⟨rfl, ?_⟩
  have h3 := HB2.out.alloc HB2.out.size (Obj.cells #[.int .i64 (moreL (rollL [a, b] [])), .int .i64 (lessL (rollL [a, b] [])), .int .i64 (sameL (rollL [a, b] []))] 97)
  exact ⟨h3.os, h3.tape, h3.output, h3.size, h3.block⟩

end Go.Proofs.Ytkkholagmjcgiaa
