/- The reference's function Powers: the places that hold 1. -/
import Derived.Test.YtpdgjjpfahobaaaRPoly
namespace Go.Proofs.Ytpdgjjpfahobaaa
open Go.RowKit Lamp

set_option maxRecDepth 100000 in
set_option maxHeartbeats 2000000 in
theorem Powers_any (g c : Nat) (l : List Nat) (w1 : World) (hl : l.length ≤ 100000) (hb : Box w1 g 3 (iC l)) :
    Calls Try.prog 47 #[.slice (some ⟨g, 0, none⟩) l.length c] w1 fun e w' => ∃ v, e = .returned v ∧ OwnB w' w1.heap.size v (natV (onesK l l.length)) ∧ Below w1.heap.size w1 w' := by
  obtain ⟨i0, hi, hz0, hz1, hz2⟩ := info_parts Try.info3
  have HR := Lib.hid hb
  clear hb
  go_enter Try.func47, Try.ntmps47
  go_wp2_with fail
  go_loopw [3, 4] (fun sv i wr => ∃ (j : Nat) (v : Value), v = sv ∧ i = .int .i64 j ∧ j ≤ l.length ∧ Hid (OwnB wr w1.heap.size v (natV (onesK l j))) ∧ Hid (Below w1.heap.size w1 wr)) (fun _ i _ => l.length - (intOf i).toNat)
  case atStart => exact ⟨0, _, rfl, rfl, by omega, Lib.hid (OwnB.nil_ _ _), Lib.hid (Below.refl _ _)⟩
  case round =>
    obtain ⟨j, v, rfl, rfl, hj, HO1, HB1⟩ := hrel
    have HOx := HO1
    have HBx := HB1
    clear HO1 HB1
    have hbs1 := HBx.out.size
    by_cases hlt : j < l.length
    · have hcx := (HR.out.below HBx.out HR.out.lt).cell j
      rw [iC_at _ _ hlt] at hcx
      obtain ⟨x, hx⟩ : ∃ x, l.getD j 0 = x := ⟨_, rfl⟩
      rw [hx] at hcx
      have HX := Lib.hid hx
      clear hx
      by_cases h1 : x = 1
      · subst h1
        have HOL := Lib.hid (onesK_len l j)
        have ho := HOx.out
        unfold OwnB at ho
        rw [natV_len] at ho
        have HO2 := Lib.hid ho
        have HN := Lib.hid (World.news_of_block (w := wr.alloc (Obj.cells #[Value.int .i64 (j : Int)] 3)) (cs := #[Value.int .i64 (j : Int)]) (t := 3) (fr := (0, 0)) (heap_alloc_new wr _))
        have HK1 := Lib.hid (show (onesK l j).length + 1 ≤ maxLen by have := HOL.out; unfold maxLen; omega)
        have HK2 := Lib.hid (show ((onesK l j).length + 1) * 8 ≤ 140737488355328 by have := HOL.out; omega)
        have HSZ := Lib.hid (show w1.heap.size ≤ (wr.alloc (Obj.cells #[Value.int .i64 (j : Int)] 3)).heap.size by simp; omega)
        clear ho
        go_wp2_with (at_builtin; refine wpList_append_own _ rfl _ _ 28 rfl w1.heap.size 3 i0 (.int .i64 0) 1 8 Try.underlying28 hi hz0 hz1 hz2 rfl (by decide) _ _ _ rfl (World.ownsRow.alloc HO2.out _) ⟨wr.heap.size, 0, none⟩ 1 1 [.int .i64 (j : Int)] rfl rfl HN.out (by simp [Value.oneCell']) HK1.out HK2.out HSZ.out ?_; intro v9 w9 hown9 hg9 _)
        have HE := Lib.hid (show onesK l (j + 1) = onesK l j ++ [j] by rw [onesK_succ, if_pos HX.out])
        have hsa : (wr.alloc (Obj.cells #[Value.int .i64 (j : Int)] 3)).heap.size = wr.heap.size + 1 := by simp
        have hblk := HOx.out.blk
        have HPN := Lib.hid (show OwnB w9 w1.heap.size v9 (natV (onesK l j ++ [j])) by
          unfold OwnB
          rw [natV_len, List.length_append, natV, List.map_append, List.map_append]
          exact hown9)
        have HBN := Lib.hid (show Below w1.heap.size w1 w9 from (HBx.out.alloc HBx.out.size _).grown hg9 (by rw [hsa]; omega) (fun j hj => (hblk j hj).1))
        clear hown9 hg9 hblk
        go_roundw
        case rel => exact ⟨j + 1, v9, rfl, by go_num, by omega, by rw [HE.out]; exact HPN, HBN⟩
        case measure => simp [intOf]; omega
      · have hx1 : ((x : Int) == 1) = false := by rw [beq_eq_false_iff_ne]; omega
        have HE := Lib.hid (show onesK l (j + 1) = onesK l j by rw [onesK_succ, if_neg (by rw [HX.out]; exact h1)])
        clear h1
        go_wp2_with fail
        go_roundw
        case rel => exact ⟨j + 1, v, rfl, by go_num, by omega, by rw [HE.out]; exact HOx, HBx⟩
        case measure => simp [intOf]; omega
    · obtain rfl : j = l.length := by omega
      go_wp2_with fail
      go_ret
      exact ⟨v, rfl, HOx.out, HBx.out⟩

/-- The reference's powers are the program's. -/
theorem ones_same (k : Nat) : onesK (partL (memberL k false) (k + 2) (k + 2)) (partL (memberL k false) (k + 2) (k + 2)).length = polyL k := by
  have hl : (memberL k false).length ≤ k := (memK_ok false k).1.2
  rw [partL_len]
  unfold polyL onesK
  rw [show k + 2 = (memberL k false).length + (k + 2 - (memberL k false).length) by omega, List.range_add, List.filter_append]
  have h2 : ((List.range (k + 2 - (memberL k false).length)).map fun x => (memberL k false).length + x).filter (fun i => decide ((partL (memberL k false) ((memberL k false).length + (k + 2 - (memberL k false).length)) ((memberL k false).length + (k + 2 - (memberL k false).length))).getD i 0 = 1)) = [] := by
    rw [List.filter_eq_nil_iff]
    intro i hi
    obtain ⟨x, hx, rfl⟩ := List.mem_map.1 hi
    have := List.mem_range.1 hx
    rw [partL_getD _ _ _ _ (by omega), if_pos (by omega), getD_out (by omega)]
    decide
  rw [h2, List.append_nil]
  refine List.filter_congr fun i hi => ?_
  have := List.mem_range.1 hi
  rw [partL_getD _ _ _ _ (by omega), if_pos (by omega)]
end Go.Proofs.Ytpdgjjpfahobaaa
