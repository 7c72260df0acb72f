/- Four answers true. -/
import Derived.Test.YthbhengcinkepaaTopM
namespace Go.Proofs.Ythbhengcinkepaa
open Go.RowKit Lamp

set_option maxRecDepth 100000 in
set_option maxHeartbeats 4000000 in
theorem four_any (w : World) : Calls Try.prog 50 #[] w fun e w' => e = .returned (.bool true) ∧ Below w.heap.size w w' := by
  have x1 := Box.new w 3 #[.int .i64 1, .int .i64 2]
  have b1 := (Below.refl w.heap.size w).alloc (Nat.le_refl _) (Obj.cells #[.int .i64 1, .int .i64 2] 3)
  obtain ⟨w1, hw1⟩ : ∃ w1, w.alloc (Obj.cells #[.int .i64 1, .int .i64 2] 3) = w1 := ⟨_, rfl⟩
  have s1 : w1.heap.size = w.heap.size + 1 := by rw [← hw1]; simp
  rw [hw1] at x1 b1
  have x2 := Box.new w1 3 #[.int .i64 3]
  have y1 := x1.alloc (Obj.cells #[.int .i64 3] 3)
  have b2 := b1.alloc b1.size (Obj.cells #[.int .i64 3] 3)
  obtain ⟨w2, hw2⟩ : ∃ w2, w1.alloc (Obj.cells #[.int .i64 3] 3) = w2 := ⟨_, rfl⟩
  have s2 : w2.heap.size = w.heap.size + 1 + 1 := by rw [← hw2]; simp [s1]
  rw [hw2] at x2 y1 b2
  rw [s1] at x2
  have x3 := Box.new w2 47 #[.slice (some ⟨w.heap.size, 0, none⟩) 2 2, .slice (some ⟨w.heap.size + 1, 0, none⟩) 1 1]
  have y2 := x2.alloc (Obj.cells #[.slice (some ⟨w.heap.size, 0, none⟩) 2 2, .slice (some ⟨w.heap.size + 1, 0, none⟩) 1 1] 47)
  have z1 := y1.alloc (Obj.cells #[.slice (some ⟨w.heap.size, 0, none⟩) 2 2, .slice (some ⟨w.heap.size + 1, 0, none⟩) 1 1] 47)
  have b3 := b2.alloc b2.size (Obj.cells #[.slice (some ⟨w.heap.size, 0, none⟩) 2 2, .slice (some ⟨w.heap.size + 1, 0, none⟩) 1 1] 47)
  obtain ⟨w3, hw3⟩ : ∃ w3, w2.alloc (Obj.cells #[.slice (some ⟨w.heap.size, 0, none⟩) 2 2, .slice (some ⟨w.heap.size + 1, 0, none⟩) 1 1] 47) = w3 := ⟨_, rfl⟩
  rw [hw3] at x3 y2 z1 b3
  rw [s2] at x3
  have HRD := Lib.hid (rdice_two (d1 := [1, 2]) (d2 := [3]) x3 z1 y2 rfl rfl)
  have HB3 := Lib.hid b3
  have HW1 := Lib.hid hw1
  have HW2 := Lib.hid hw2
  have HW3 := Lib.hid hw3
  have HS1 := Lib.hid s1
  have HS2 := Lib.hid s2
  clear x1 b1 x2 y1 b2 x3 y2 z1 b3 s1 s2 hw1 hw2 hw3
  go_enter Try.func50, Try.ntmps50
  go_wp2_with fail
  rw [HW1.out, HW2.out, HW3.out]
  refine (Dic.Results_ok _ [[1, 2], [3]] 2 _ w3 HRD.out four_dice).mono ?_
  rintro e w4 ⟨rfl, n4, rfl⟩
  rw [four_res]
  have HB4 := Lib.hid (below_drewN HB3.out n4)
  obtain ⟨w4, hw4⟩ : ∃ w4, w3.drewN n4 = w4 := ⟨_, rfl⟩
  rw [hw4] at HB4 ⊢
  clear hw4 HRD HB3 HW1 HW2 HW3 HS1 HS2
  go_wp2_with fail
  have HR5 := Lib.hid (rtri_box (Box.new w4 30 #[.int .i64 0, .int .i64 1, .int .i64 2]))
  have HB5 := Lib.hid (HB4.out.alloc HB4.out.size (Obj.cells #[.int .i64 0, .int .i64 1, .int .i64 2] 30))
  obtain ⟨w5, hw5⟩ : ∃ w5, w4.alloc (Obj.cells #[.int .i64 0, .int .i64 1, .int .i64 2] 30) = w5 := ⟨_, rfl⟩
  rw [hw5] at HR5 HB5 ⊢
  clear hw5
  refine (Rules_ok _ 1 3 [(0, 1, 2)] w5 HR5.out four_chk).mono ?_
  rintro e w6 ⟨v6, rfl, hv6, hb6⟩
  obtain ⟨A6, c6, rfl, _⟩ := hv6.reads
  rw [natV_len, four_rules]
  have HB6 := Lib.hid (HB5.out.trans (hb6.mono HB5.out.size))
  clear hv6 hb6 HR5 HB4 HB5
  have x1 := Box.new w6 3 #[.int .i64 0]
  have b1 := HB6.out.alloc HB6.out.size (Obj.cells #[.int .i64 0] 3)
  obtain ⟨w7, hw7⟩ : ∃ w7, w6.alloc (Obj.cells #[.int .i64 0] 3) = w7 := ⟨_, rfl⟩
  have s7 : w7.heap.size = w6.heap.size + 1 := by rw [← hw7]; simp
  rw [hw7] at x1 b1
  have x2 := Box.new w7 3 #[.int .i64 2]
  have y1 := x1.alloc (Obj.cells #[.int .i64 2] 3)
  have b2 := b1.alloc b1.size (Obj.cells #[.int .i64 2] 3)
  obtain ⟨w8, hw8⟩ : ∃ w8, w7.alloc (Obj.cells #[.int .i64 2] 3) = w8 := ⟨_, rfl⟩
  rw [hw8] at x2 y1 b2
  rw [s7] at x2
  have HI1 := Lib.hid (rints_box (zs := [0]) y1 y1.lt rfl)
  have HI2 := Lib.hid (rints_box (zs := [2]) x2 x2.lt rfl)
  have HB8 := Lib.hid b2
  have HW7 := Lib.hid hw7
  have HW8 := Lib.hid hw8
  clear x1 b1 x2 y1 b2 hw7 hw8 s7 HB6
  go_wp2_with fail
  rw [HW7.out, HW8.out]
  refine (Distance_ok _ _ [0] [2] 1 1 w8 HI1.out HI2.out (by decide) (by decide) rfl).mono ?_
  rintro e w9 ⟨rfl, hb9⟩
  rw [show distK (atL [0]) (atL [2]) ([0] : List Int).length = 1 from four_dist]
  have HB9 := Lib.hid (HB8.out.trans (hb9.mono HB8.out.size))
  clear hb9 HI1 HI2 HB8 HW7 HW8
  go_wp2_with fail
  have HG := Lib.hid (redge_box (Box.new w9 41 #[.int .i64 0, .int .i64 1]))
  have HBA := Lib.hid (HB9.out.alloc HB9.out.size (Obj.cells #[.int .i64 0, .int .i64 1] 41))
  obtain ⟨wa, hwa⟩ : ∃ wa, w9.alloc (Obj.cells #[.int .i64 0, .int .i64 1] 41) = wa := ⟨_, rfl⟩
  rw [hwa] at HG HBA ⊢
  clear hwa
  refine (Lig.Effect_ok _ 2 1 [(0, 1)] 1 false wa ⟨HG.out, by decide, four_good, by decide, by decide⟩ (by decide)).mono ?_
  rintro e wb ⟨rfl, hbb⟩
  rw [four_eff]
  have HBB := Lib.hid (HBA.out.trans (hbb.mono HBA.out.size))
  clear hbb HG HBA HB9
  go_wp2_with fail
  go_ret
  exact ⟨rfl, HBB.out⟩
end Go.Proofs.Ythbhengcinkepaa
