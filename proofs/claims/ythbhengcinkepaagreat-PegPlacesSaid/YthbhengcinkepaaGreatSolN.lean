/- The error exit of Solve of package peg; rows that are just made. -/
import Derived.Test.YthbhengcinkepaaGreatPg18
import Derived.Test.YthbhengcinkepaaGreatBad2
namespace Go.Proofs.YthbhengcinkepaaGreat
open Go.RowKit Go.Shelf Lamp

attribute [local go_sem] Oper.semAt_some

theorem make_ints0 (n : Nat) (hn : n ≤ 1000000) : ∀ w : World, (Instr.makeSlice 34 (.int .i64 n) (.int .i64 n)).run Tryz.prog w = .ok (.slice (some ⟨w.heap.size, 0, none⟩) n n) (w.alloc (.cells (madeCells (Value.int .i64 0).cells (n * 1)) 3)) := by
  obtain ⟨i0, hi, hz0, hz1, hz2⟩ := info_parts (show (Tryz.prog.info? 3).map (fun i => (i.zero, i.size, i.bytes)) = some (some (.int .i64 0), 1, 8) from by kernel_rfl)
  intro w
  have := run_make (P := Tryz.prog) w 34 3 i0 (.int .i64 0) Tryz.underlying34 hi hz0 .i64 .i64 n n (by omega) (by omega) (by rw [hz2]; omega) (by omega)
  rw [hz1] at this
  simpa using this
theorem make_pairs0 (n : Nat) (hn : n ≤ 1000000) : ∀ w : World, (Instr.makeSlice 45 (.int .i64 n) (.int .i64 n)).run Tryz.prog w = .ok (.slice (some ⟨w.heap.size, 0, none⟩) n n) (w.alloc (.cells (madeCells (Value.agg #[.int .i64 0, .int .i64 0]).cells (n * 2)) 52)) := by
  obtain ⟨i0, hi, hz0, hz1, hz2⟩ := info_parts (show (Tryz.prog.info? 52).map (fun i => (i.zero, i.size, i.bytes)) = some (some (.agg #[.int .i64 0, .int .i64 0]), 2, 16) from by kernel_rfl)
  intro w
  have := run_make (P := Tryz.prog) w 45 52 i0 (.agg #[.int .i64 0, .int .i64 0]) Tryz.underlying45 hi hz0 .i64 .i64 n n (by omega) (by omega) (by rw [hz2]; omega) (by omega)
  rw [hz1] at this
  simpa using this

set_option maxRecDepth 100000 in
set_option maxHeartbeats 4000000 in
theorem Solve_no (A : Option Addr) (c : Nat) (n p q : Int) (l : List Tri) (w : World) (hr : RTri w w.heap.size A l) (hl : l.length ≤ 1000000) {z : Int} (hz : checkPs n l [p, q] = z) (h0 : z ≠ 0) :
    Calls Tryz.prog 12 #[.int .i64 n, .slice A l.length c, .int .i64 p, .int .i64 q] w fun e w' => e = .returned (.tuple #[.slice none 0 0, .bool false, .int .i64 z]) ∧ Below w.heap.size w w' := by
  refine (callsIn_wide (n := 6)).1 ?_
  have he : (z == 0) = false := by simpa using h0
  have he2 : (z != 0) = true := by simpa using h0
  have HZ := Lib.hid hz
  have HR := Lib.hid hr
  clear hr hz h0
  refine callsIn_of_wp_marks Tryz.func12 rfl trivial ?_ rfl
  simp only [Tryz.ntmps12, List.size_toArray, List.length_cons, List.length_nil, Nat.reduceAdd, Nat.reduceSub, Array.replicate_succ, Array.replicate_zero, List.push_toArray, List.append_toArray, List.nil_append, List.cons_append]
  gi_wp2
  have b0 := (((Box.new w 3 #[Value.int IntKind.i64 q]).alloc (Obj.cells #[Value.slice none 0 0] 22)).alloc (Obj.cells #[Value.bool false] 4)).alloc (Obj.cells #[Value.int IntKind.i64 0] 25)
  have b1 := ((Box.new (w.alloc (Obj.cells #[Value.int IntKind.i64 q] 3)) 22 #[Value.slice none 0 0]).alloc (Obj.cells #[Value.bool false] 4)).alloc (Obj.cells #[Value.int IntKind.i64 0] 25)
  have b2 := (Box.new ((w.alloc (Obj.cells #[Value.int IntKind.i64 q] 3)).alloc (Obj.cells #[Value.slice none 0 0] 22)) 4 #[Value.bool false]).alloc (Obj.cells #[Value.int IntKind.i64 0] 25)
  have b3 := Box.new (((w.alloc (Obj.cells #[Value.int IntKind.i64 q] 3)).alloc (Obj.cells #[Value.slice none 0 0] 22)).alloc (Obj.cells #[Value.bool false] 4)) 25 #[Value.int IntKind.i64 0]
  have hB0 : Below w.heap.size w ((((w.alloc (Obj.cells #[Value.int IntKind.i64 q] 3)).alloc (Obj.cells #[Value.slice none 0 0] 22)).alloc (Obj.cells #[Value.bool false] 4)).alloc (Obj.cells #[Value.int IntKind.i64 0] 25)) := ((((Below.refl _ w).alloc (Nat.le_refl _) _).alloc (by simp) _).alloc (by simp; omega) _).alloc (by simp; omega) _
  have hs0 : ((((w.alloc (Obj.cells #[Value.int IntKind.i64 q] 3)).alloc (Obj.cells #[Value.slice none 0 0] 22)).alloc (Obj.cells #[Value.bool false] 4)).alloc (Obj.cells #[Value.int IntKind.i64 0] 25)).heap.size = w.heap.size + 1 + 1 + 1 + 1 := by simp
  simp only [World.size_alloc] at b0 b1 b2 b3
  obtain ⟨W0, hW0⟩ : ∃ W0, (((w.alloc (Obj.cells #[Value.int IntKind.i64 q] 3)).alloc (Obj.cells #[Value.slice none 0 0] 22)).alloc (Obj.cells #[Value.bool false] 4)).alloc (Obj.cells #[Value.int IntKind.i64 0] 25) = W0 := ⟨_, rfl⟩
  rw [hW0] at b0 b1 b2 b3 hB0 hs0 ⊢
  rw [← hs0]
  obtain ⟨r8, h8⟩ : ∃ r8, w.heap.size + 1 = r8 := ⟨_, rfl⟩
  obtain ⟨r9, h9⟩ : ∃ r9, r8 + 1 = r9 := ⟨_, rfl⟩
  obtain ⟨r10, h10⟩ : ∃ r10, r9 + 1 = r10 := ⟨_, rfl⟩
  rw [h8, h9, h10] at hs0 b3
  rw [h8, h9] at b2
  rw [h8] at b1
  rw [h8, h9, h10]
  have H8 := Lib.hid h8
  have H9 := Lib.hid h9
  have H10 := Lib.hid h10
  have HC := Lib.hid (check_2 A n l p q c W0 (HR.out.up hB0) hl)
  have HB01 := Lib.hid b1
  have HB02 := Lib.hid b2
  have HB03 := Lib.hid b3
  have HBW := Lib.hid hB0
  clear hW0 h8 h9 h10 hs0 b0 b1 b2 b3 hB0
  refine ⟨trivial, (callsIn_wide.2 HC.out).mono ?_⟩
  rintro e w1 ⟨rfl, hb⟩
  rw [HZ.out]
  have HB1 := Lib.hid (HBW.out.trans (hb.mono HBW.out.size))
  have q1 := HB01.out.below hb HB01.out.lt
  have q2 := HB02.out.below hb HB02.out.lt
  have q3 := HB03.out.below hb HB03.out.lt
  have x8 := q1.cell 0
  have x9 := q2.cell 0
  have x10 := q3.cell 0
  have f8 := q1.free 0
  have f9 := q2.free 0
  have f10 := q3.free 0
  simp only [List.getElem?_toArray, List.getElem?_cons_zero] at x8 x9 x10
  have I8 := Lib.hid q1
  have I9 := Lib.hid q2
  have I10 := Lib.hid q3
  have hlt1 : r8 < r9 := by have := H9.out; omega
  have hlt2 : r9 < r10 := by have := H10.out; omega
  have hlt0 : w.heap.size ≤ r8 := by have := H8.out; omega
  clear hb HC q1 q2 q3 HB01 HB02 HB03
  gi_wp2_with fail
  have e8 := ((I8.out.put 0 (Value.slice none 0 0)).far (p := ⟨r9, 0, none⟩) (by show r8 ≠ r9; omega) (Value.bool false)).far (p := ⟨r10, 0, none⟩) (by show r8 ≠ r10; omega) (Value.int .i64 z)
  have e9 := ((I9.out.far (p := ⟨r8, 0, none⟩) (by show r9 ≠ r8; omega) (Value.slice none 0 0)).put 0 (Value.bool false)).far (p := ⟨r10, 0, none⟩) (by show r9 ≠ r10; omega) (Value.int .i64 z)
  have e10 := ((I10.out.far (p := ⟨r8, 0, none⟩) (by show r10 ≠ r8; omega) (Value.slice none 0 0)).far (p := ⟨r9, 0, none⟩) (by show r10 ≠ r9; omega) (Value.bool false)).put 0 (Value.int .i64 z)
  have hBV := ((HB1.out.setCell (p := ⟨r8, 0, none⟩) hlt0 (Value.slice none 0 0)).setCell (p := ⟨r9, 0, none⟩) (by show w.heap.size ≤ r9; omega) (Value.bool false)).setCell (p := ⟨r10, 0, none⟩) (by show w.heap.size ≤ r10; omega) (Value.int .i64 z)
  obtain ⟨V, hV⟩ : ∃ V, ((w1.setCell ⟨r8, 0, none⟩ (Value.slice none 0 0)).setCell ⟨r9, 0, none⟩ (Value.bool false)).setCell ⟨r10, 0, none⟩ (Value.int .i64 z) = V := ⟨_, rfl⟩
  rw [hV] at e8 e9 e10 hBV ⊢
  have t8 := e8.cell 0
  have t9 := e9.cell 0
  have t10 := e10.cell 0
  simp only [List.setIfInBounds_toArray, List.set_cons_zero, List.getElem?_toArray, List.getElem?_cons_zero] at t8 t9 t10
  exact ⟨.tuple #[.slice none 0 0, .bool false, .int .i64 z], by simp [results, Tryz.results12, go_sem, t8, t9, t10], rfl, hBV⟩
end Go.Proofs.YthbhengcinkepaaGreat
