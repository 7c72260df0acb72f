/- The function awake of the statements of package light: it answers true, whatever there is in memory, and nothing that was there turns. -/
import Derived.Test.YtpdgjjpfahobaaaLitL
namespace Go.Proofs.Ytpdgjjpfahobaaa
open Go.RowKit Go.Shelf Lamp

theorem Check_tiny (w : World) :
    Calls Try.prog 22 #[.int .i64 0, .slice none 0 0] w fun e w' => e = .returned (.int .i64 1) ∧ w = w' := by
  go_enter Try.func22, Try.ntmps22
  go_wp2_with fail
  go_ret
  exact ⟨rfl, rfl⟩
theorem edges_one (w : World) (A : Option Addr) (hA : A = some ⟨w.heap.size, 0, none⟩) : REdges (w.alloc (Obj.cells #[Value.int .i64 0, Value.int .i64 1] 41)) (w.alloc (Obj.cells #[Value.int .i64 0, Value.int .i64 1] 41)).heap.size A [(0, 1)] := fun j u hu => by
  refine ⟨w.heap.size, 0, hA, by simp, ?_⟩
  rw [Nat.zero_add, (Box.new w 41 #[Value.int .i64 0, Value.int .i64 1]).cell j]
  match j with
  | 0 => simpa [edgeV] using hu
  | 1 => simpa [edgeV] using hu
  | j + 2 => simp [edgeV] at hu

set_option maxRecDepth 100000 in
set_option maxHeartbeats 8000000 in
theorem awake4_any (w : World) : Calls Try.prog 23 #[] w fun e w' => e = .returned (.bool true) ∧ Below w.heap.size w w' := by
  go_enter Try.func23, Try.ntmps23
  go_wp2_with fail
  obtain ⟨w1, hw1⟩ : ∃ w1, w.alloc (Obj.cells #[Value.int .i64 0, Value.int .i64 1] 41) = w1 := ⟨_, rfl⟩
  have hg1 : Gr w1 (some ⟨w.heap.size, 0, none⟩) 2 [(0, 1)] := ⟨by rw [← hw1]; exact edges_one w _ rfl, by decide, good_two, by decide, by decide⟩
  have HG1 := Lib.hid hg1
  have HB1 := Lib.hid (show Below w.heap.size w w1 by rw [← hw1]; exact (Below.refl _ w).alloc (Nat.le_refl _) _)
  rw [hw1]
  clear hw1 hg1
  refine (Quiet_ok (some ⟨w.heap.size, 0, none⟩) 2 [(0, 1)] 1 true w1 HG1.out).mono ?_
  rintro e w2 ⟨v2, rfl, ho2, hb2⟩
  rw [quiet_two] at ho2
  obtain ⟨g2, k2, rfl, _, ho2'⟩ := OwnR.of_own ho2 (by decide)
  have q0 := ho2'.at_ (j := 0) (z := 3) rfl
  have hg2l := ho2'.lt
  have HB2 := Lib.hid hb2
  have HQ0 := Lib.hid q0
  clear ho2 ho2' hb2 q0
  go_wp2_with fail
  refine (show Calls Try.prog 31 #[.int .i64 2, .slice (some ⟨w.heap.size, 0, none⟩) 1 1, .bool true, .int .i64 1, .int .i64 3] w2 _ from IsRefutation_ok (some ⟨w.heap.size, 0, none⟩) 2 1 3 [(0, 1)] 1 true w2 (HG1.out.up HB2.out) (by decide) (by decide)).mono ?_
  rintro e w3 ⟨rfl, hb3⟩
  rw [isRef_two]
  have HQ3 := Lib.hid ((hb3.cell (p := ⟨g2, 0, none⟩) hg2l).trans HQ0.out)
  have HB3 := Lib.hid hb3
  have hg3l : g2 < w3.heap.size := by have := hb3.size; omega
  clear hb3
  go_wp2_with fail
  refine (show Calls Try.prog 42 #[.int .i64 3, .int .i64 3] w3 _ from Grid_ok 3 3 9 w3 (by decide) (by decide) (by decide) (by decide) (by decide) (by decide)).mono ?_
  rintro e w4 ⟨v4, rfl, ho4, hb4⟩
  obtain ⟨A4, c4, rfl, hr4⟩ := ho4.reads
  have HG4 := Lib.hid (show Gr w4 A4 9 (gridL 3 3) from ⟨hr4, grid_len, good_nine, by decide, by decide⟩)
  have HQ4 := Lib.hid ((hb4.cell (p := ⟨g2, 0, none⟩) hg3l).trans HQ3.out)
  have HB4 := Lib.hid hb4
  have hg4l : g2 < w4.heap.size := by have := hb4.size; omega
  clear ho4 hr4 hb4 HQ0 HQ3
  go_wp2_with fail
  refine (show Calls Try.prog 29 #[.int .i64 9, .slice A4 (gridL 3 3).length c4, .bool true, .int .i64 511] w4 _ from Fewest_ok A4 9 511 (gridL 3 3) c4 true w4 HG4.out (by decide)).mono ?_
  rintro e w5 ⟨rfl, hb5⟩
  rw [few_nine]
  have HQ5 := Lib.hid ((hb5.cell (p := ⟨g2, 0, none⟩) hg4l).trans HQ4.out)
  have HB5 := Lib.hid hb5
  have hg5l : g2 < w5.heap.size := by have := hb5.size; omega
  clear hb5 HQ4
  go_wp2_with fail
  refine (show Calls Try.prog 46 #[.int .i64 3] w5 _ from Polynomial_ok 3 w5 (by decide)).mono ?_
  rintro e w6 ⟨v6, rfl, ho6, hb6⟩
  rw [poly_3] at ho6
  obtain ⟨g6, k6, rfl, hg6, ho6'⟩ := OwnR.of_own ho6 (by decide)
  have p0 := ho6'.at_ (j := 0) (z := 0) rfl
  have p1 := ho6'.at_ (j := 1) (z := 2) rfl
  have hg6l := ho6'.lt
  have HP0 := Lib.hid p0
  have HP1 := Lib.hid p1
  have HQ6 := Lib.hid ((hb6.cell (p := ⟨g2, 0, none⟩) hg5l).trans HQ5.out)
  have HB6 := Lib.hid hb6
  have hg26 : g2 < w6.heap.size := by have := hb6.size; omega
  clear ho6 ho6' hb6 p0 p1 HQ5
  go_wp2_with fail
  refine (show Calls Try.prog 44 #[.int .i64 5, .int .i64 5, .bool true] w6 _ from GridQuiet_ok 5 5 true w6 (by decide) (by decide) (by decide) (by decide)).mono ?_
  rintro e w7 ⟨rfl, hb7⟩
  rw [gridQ_5]
  have hq0 := (hb7.cell (p := ⟨g2, 0, none⟩) hg26).trans HQ6.out
  have hp0 := (hb7.cell (p := ⟨g6, 0, none⟩) hg6l).trans HP0.out
  have hp1 := (hb7.cell (p := ⟨g6, 1, none⟩) hg6l).trans HP1.out
  have HB := Lib.hid (show Below w.heap.size w w7 by
    have a1 := HB1.out
    have a2 := a1.trans (HB2.out.mono a1.size)
    have a3 := a2.trans (HB3.out.mono a2.size)
    have a4 := a3.trans (HB4.out.mono a3.size)
    have a5 := a4.trans (HB5.out.mono a4.size)
    have a6 := a5.trans (HB6.out.mono a5.size)
    exact a6.trans (hb7.mono a6.size))
  clear hb7
  go_wp2_with fail
  refine (Check_tiny _).mono ?_
  rintro e w8 ⟨rfl, rfl⟩
  go_wp2_with fail
  go_ret
  exact ⟨rfl, HB.out⟩
end Go.Proofs.Ytpdgjjpfahobaaa
