/- The function awake of the statements of package peg: it answers true, whatever there is in memory. -/
import Derived.Test.YthbhengcinkepaaPg18
import Derived.Test.YthbhengcinkepaaPg19
namespace Go.Proofs.Ythbhengcinkepaa
open Go.RowKit Go.Shelf Lamp

theorem tri_one (w : World) (A : Option Addr) (hA : A = some ⟨w.heap.size, 0, none⟩) : RTri (w.alloc (Obj.cells #[Value.int .i64 0, Value.int .i64 1, Value.int .i64 2] 30)) (w.alloc (Obj.cells #[Value.int .i64 0, Value.int .i64 1, Value.int .i64 2] 30)).heap.size A threeL := fun j u hu => by
  refine ⟨w.heap.size, 0, hA, by simp, ?_⟩
  rw [Nat.zero_add, (Box.new w 30 #[Value.int .i64 0, Value.int .i64 1, Value.int .i64 2]).cell j]
  simpa [triV, threeL] using hu
theorem tri_two (w : World) (A : Option Addr) (hA : A = some ⟨w.heap.size, 0, none⟩) : RTri (w.alloc (Obj.cells #[Value.int .i64 0, Value.int .i64 1, Value.int .i64 2, Value.int .i64 1, Value.int .i64 2, Value.int .i64 3] 30)) (w.alloc (Obj.cells #[Value.int .i64 0, Value.int .i64 1, Value.int .i64 2, Value.int .i64 1, Value.int .i64 2, Value.int .i64 3] 30)).heap.size A fourL := fun j u hu => by
  refine ⟨w.heap.size, 0, hA, by simp, ?_⟩
  rw [Nat.zero_add, (Box.new w 30 #[Value.int .i64 0, Value.int .i64 1, Value.int .i64 2, Value.int .i64 1, Value.int .i64 2, Value.int .i64 3]).cell j]
  simpa [triV, fourL] using hu
theorem ints_four (w : World) (a b c d : Int) : RInts (w.alloc (Obj.cells #[Value.int .i64 a, Value.int .i64 b, Value.int .i64 c, Value.int .i64 d] 3)) (w.alloc (Obj.cells #[Value.int .i64 a, Value.int .i64 b, Value.int .i64 c, Value.int .i64 d] 3)).heap.size (some ⟨w.heap.size, 0, none⟩) [a, b, c, d] := fun j u hu => by
  refine ⟨w.heap.size, 0, rfl, by simp, ?_⟩
  rw [Nat.zero_add, (Box.new w 3 #[Value.int .i64 a, Value.int .i64 b, Value.int .i64 c, Value.int .i64 d]).cell j]
  simpa using hu

theorem eq_line (w : World) : Sem.run Try.prog (Op.equalIn 10000 30 (Value.agg #[Value.int IntKind.i64 0, Value.int IntKind.i64 1, Value.int IntKind.i64 2]) (Value.agg #[Value.int IntKind.i64 0, Value.int IntKind.i64 1, Value.int IntKind.i64 2])) w = .ok true w := by kernel_rfl

set_option maxRecDepth 100000 in
set_option maxHeartbeats 8000000 in
theorem awake2_any (w : World) : Calls Try.prog 21 #[] w fun e w' => e = .returned (.bool true) ∧ Below w.heap.size w w' := by
  go_enter Try.func21, Try.ntmps21
  go_wp2_with fail
  have hr1 := tri_two w _ rfl
  have hB1 := (Below.refl w.heap.size w).alloc (Nat.le_refl _) (Obj.cells #[Value.int .i64 0, Value.int .i64 1, Value.int .i64 2, Value.int .i64 1, Value.int .i64 2, Value.int .i64 3] 30)
  obtain ⟨w1, hw1⟩ : ∃ w1, w.alloc (Obj.cells #[Value.int .i64 0, Value.int .i64 1, Value.int .i64 2, Value.int .i64 1, Value.int .i64 2, Value.int .i64 3] 30) = w1 := ⟨_, rfl⟩
  have hs1 : w1.heap.size = w.heap.size + 1 := by rw [← hw1]; simp
  rw [hw1] at hr1 hB1 ⊢
  have HR1 := Lib.hid hr1
  have HB1 := Lib.hid hB1
  clear hw1 hr1 hB1
  have hr2 := tri_one w1 (some ⟨w.heap.size + 1, 0, none⟩) (by rw [hs1])
  have hb2 := (Below.refl w1.heap.size w1).alloc (Nat.le_refl _) (Obj.cells #[Value.int .i64 0, Value.int .i64 1, Value.int .i64 2] 30)
  obtain ⟨w2, hw2⟩ : ∃ w2, w1.alloc (Obj.cells #[Value.int .i64 0, Value.int .i64 1, Value.int .i64 2] 30) = w2 := ⟨_, rfl⟩
  rw [hw2] at hr2 hb2 ⊢
  have HB2 := Lib.hid (HB1.out.trans (hb2.mono HB1.out.size))
  have HR2 := Lib.hid (HR1.out.up hb2)
  refine (show Calls Try.prog 26 #[.int .i64 3, .slice (some ⟨w.heap.size + 1, 0, none⟩) 1 1, .int .i64 3, .int .i64 4] w2 _ from Solve_ok (some ⟨w.heap.size + 1, 0, none⟩) 1 3 3 4 threeL w2 hr2 three_ok (by decide) (by decide)).mono ?_
  clear hw2 hr2 hb2 hs1
  rintro e w3 (⟨A3, c3, g, rfl, hr3, -, hg3, hb3⟩ | ⟨rfl, hn, _⟩)
  case inr => rw [three_has] at hn; cases hn
  have hge := three_game hg3
  subst hge
  obtain ⟨b3, o3, rfl, hl3, d0⟩ := hr3 0 (.int .i64 0) rfl
  obtain ⟨b3', o3', e1, _, d1⟩ := hr3 1 (.int .i64 1) rfl
  cases e1
  obtain ⟨b3', o3', e2, _, d2⟩ := hr3 2 (.int .i64 2) rfl
  cases e2
  have HD := Lib.hid (And.intro d0 (And.intro d1 d2))
  have HB3 := Lib.hid (HB2.out.trans (hb3.mono HB2.out.size))
  have HR3 := Lib.hid (HR2.out.up hb3)
  clear hr3 hg3 hb3 d0 d1 d2
  go_wp2_with fail
  refine (show Calls Try.prog 31 #[.int .i64 4, .slice (some ⟨w.heap.size, 0, none⟩) 2 2] w3 _ from Rules_ok (some ⟨w.heap.size, 0, none⟩) 2 4 fourL w3 HR3.out four_ok).mono ?_
  rintro e w4 ⟨v4, rfl, hv4, hb4⟩
  rw [four_rules] at hv4
  obtain ⟨A4, c4, rfl, hr4⟩ := hv4.reads
  obtain ⟨b4, o4, rfl, hl4, g0⟩ := hr4 0 (.int .i64 6) rfl
  obtain ⟨b4', o4', e1, _, g1⟩ := hr4 1 (.int .i64 11) rfl
  cases e1
  have HG := Lib.hid (And.intro g0 g1)
  have HD4 := Lib.hid (And.intro ((hb4.cell (p := ⟨b3, o3 + 0, none⟩) hl3).trans HD.out.1) (And.intro ((hb4.cell (p := ⟨b3, o3 + 1, none⟩) hl3).trans HD.out.2.1) ((hb4.cell (p := ⟨b3, o3 + 2, none⟩) hl3).trans HD.out.2.2)))
  have hl34 : b3 < w4.heap.size := Nat.lt_of_lt_of_le hl3 hb4.size
  have HB4 := Lib.hid (HB3.out.trans (hb4.mono HB3.out.size))
  have HR4 := Lib.hid (HR3.out.up hb4)
  clear hv4 hr4 g0 g1 hb4 HD hl3
  go_wp2_with fail
  refine (show Calls Try.prog 32 #[.int .i64 4, .slice (some ⟨w.heap.size, 0, none⟩) 2 2, .int .i64 3, .int .i64 8] w4 _ from Alike_ok (some ⟨w.heap.size, 0, none⟩) 2 4 3 8 fourL w4 HR4.out four_ok (by decide) (by decide)).mono ?_
  rintro e w5 ⟨rfl, hb5⟩
  rw [four_alike]
  have HB5 := Lib.hid hb5
  have HR5 := Lib.hid (HR4.out.up hb5)
  clear hb5
  go_wp2_with fail
  have hi6 := ints_four w5 1 0 1 1
  have hb6 := (Below.refl w5.heap.size w5).alloc (Nat.le_refl _) (Obj.cells #[Value.int .i64 1, Value.int .i64 0, Value.int .i64 1, Value.int .i64 1] 3)
  have hr6 := HR5.out.up hb6
  obtain ⟨w6, hw6⟩ : ∃ w6, w5.alloc (Obj.cells #[Value.int .i64 1, Value.int .i64 0, Value.int .i64 1, Value.int .i64 1] 3) = w6 := ⟨_, rfl⟩
  rw [hw6] at hi6 hb6 hr6 ⊢
  have HB6 := Lib.hid (HB5.out.trans (hb6.mono HB5.out.size))
  have HR6 := Lib.hid hr6
  refine (show Calls Try.prog 35 #[.int .i64 4, .slice (some ⟨w.heap.size, 0, none⟩) 2 2, .slice (some ⟨w5.heap.size, 0, none⟩) 4 4] w6 _ from IsPagoda_ok (some ⟨w.heap.size, 0, none⟩) (some ⟨w5.heap.size, 0, none⟩) 4 2 4 4 fourL [1, 0, 1, 1] w6 hr6 hi6 four_ok rfl four_w1).mono ?_
  clear hw6 hi6 hb6 hr6
  rintro e w7 ⟨rfl, hb7⟩
  rw [four_p1]
  have HB7 := Lib.hid (HB6.out.trans (hb7.mono HB6.out.size))
  have HR7 := Lib.hid (HR6.out.up hb7)
  clear hb7
  go_wp2_with fail
  have hi8 := ints_four w7 1 1 3 1
  have hb8 := (Below.refl w7.heap.size w7).alloc (Nat.le_refl _) (Obj.cells #[Value.int .i64 1, Value.int .i64 1, Value.int .i64 3, Value.int .i64 1] 3)
  have hr8 := HR7.out.up hb8
  obtain ⟨w8, hw8⟩ : ∃ w8, w7.alloc (Obj.cells #[Value.int .i64 1, Value.int .i64 1, Value.int .i64 3, Value.int .i64 1] 3) = w8 := ⟨_, rfl⟩
  rw [hw8] at hi8 hb8 hr8 ⊢
  have HB8 := Lib.hid (HB7.out.trans (hb8.mono HB7.out.size))
  refine (show Calls Try.prog 35 #[.int .i64 4, .slice (some ⟨w.heap.size, 0, none⟩) 2 2, .slice (some ⟨w7.heap.size, 0, none⟩) 4 4] w8 _ from IsPagoda_ok (some ⟨w.heap.size, 0, none⟩) (some ⟨w7.heap.size, 0, none⟩) 4 2 4 4 fourL [1, 1, 3, 1] w8 hr8 hi8 four_ok rfl four_w2).mono ?_
  clear hw8 hi8 hb8 hr8
  rintro e w9 ⟨rfl, hb9⟩
  rw [four_p2]
  have HB9 := Lib.hid (HB8.out.trans (hb9.mono HB8.out.size))
  clear hb9
  go_wp2_with fail
  have hr10 := tri_one w9 _ rfl
  have hb10 := (Below.refl w9.heap.size w9).alloc (Nat.le_refl _) (Obj.cells #[Value.int .i64 0, Value.int .i64 1, Value.int .i64 2] 30)
  obtain ⟨w10, hw10⟩ : ∃ w10, w9.alloc (Obj.cells #[Value.int .i64 0, Value.int .i64 1, Value.int .i64 2] 30) = w10 := ⟨_, rfl⟩
  rw [hw10] at hr10 hb10 ⊢
  have HB10 := Lib.hid (HB9.out.trans (hb10.mono HB9.out.size))
  refine (show Calls Try.prog 29 #[.int .i64 3, .slice (some ⟨w9.heap.size, 0, none⟩) 1 1, .int .i64 3] w10 _ from Fewest_ok (some ⟨w9.heap.size, 0, none⟩) 1 3 3 threeL w10 hr10 three_ok (by decide)).mono ?_
  clear hw10 hr10 hb10
  rintro e w11 ⟨rfl, hb11⟩
  rw [three_few]
  have hB11 := HB10.out.trans (hb11.mono HB10.out.size)
  have h0 := (hB11.cell (p := ⟨b3, o3 + 0, none⟩) hl34).trans HD4.out.1
  have h1 := (hB11.cell (p := ⟨b3, o3 + 1, none⟩) hl34).trans HD4.out.2.1
  have h2 := (hB11.cell (p := ⟨b3, o3 + 2, none⟩) hl34).trans HD4.out.2.2
  have k0 := (hB11.cell (p := ⟨b4, o4 + 0, none⟩) hl4).trans HG.out.1
  have k1 := (hB11.cell (p := ⟨b4, o4 + 1, none⟩) hl4).trans HG.out.2
  rw [Nat.add_zero] at h0 k0
  have HBZ := Lib.hid (HB4.out.trans (hB11.mono HB4.out.size))
  have HCK := Lib.hid (show Calls Try.prog 62 #[.int .i64 0, .slice none 0 0] w11 (fun e w' => e = .returned (.int .i64 (checkT 0 [])) ∧ Below w11.heap.size w11 w') from Check_any none 0 [] 0 w11 RTri.nil_ (by decide))
  have heq : Sem.run Try.prog (Op.equalIn 10000 30 (Value.agg #[Value.int IntKind.i64 0, Value.int IntKind.i64 1, Value.int IntKind.i64 2]) (Value.agg #[Value.int IntKind.i64 0, Value.int IntKind.i64 1, Value.int IntKind.i64 2])) w11 = .ok true w11 := eq_line w11
  clear hB11 hb11
  go_wp2_with fail
  refine HCK.out.mono ?_
  rintro e w12 ⟨rfl, hb12⟩
  rw [none_bad]
  have HBE := Lib.hid (HBZ.out.trans (hb12.mono HBZ.out.size))
  clear hb12 HCK
  go_wp2_with fail
  go_ret
  exact ⟨rfl, HBE.out⟩
end Go.Proofs.Ythbhengcinkepaa
