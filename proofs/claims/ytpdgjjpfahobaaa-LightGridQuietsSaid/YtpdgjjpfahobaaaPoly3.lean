/- The function Polynomial of package light. -/
import Derived.Test.YtpdgjjpfahobaaaPoly2
import Derived.Test.YtpdgjjpfahobaaaLig6
namespace Go.Proofs.Ytpdgjjpfahobaaa
open Go.RowKit Lamp

set_option maxRecDepth 100000 in
set_option maxHeartbeats 2000000 in
theorem Polynomial_ok (k : Nat) (w : World) (hk : k ≤ 200) :
    Calls Try.prog 46 #[.int .i64 k] w fun e w' => ∃ v, e = .returned (.tuple #[v, .int .i64 0]) ∧ OwnB w' w.heap.size v (natV (polyL k)) ∧ Below w.heap.size w w' := by
  have hk0 : ¬ (k : Int) < 0 := by omega
  have hk0' : decide ((k : Int) < 0) = false := by simp
  have hk2 : (k : Int) ≤ 200 := by omega
  have hok := memK_ok false k
  obtain ⟨l, hl⟩ : ∃ l, memberL k false = l := ⟨_, rfl⟩
  have HLE := Lib.hid hl
  have hll : l.length ≤ k := by rw [← hl]; exact hok.1.2
  have HBIT := Lib.hid (show ∀ x ∈ l, x < 2 by rw [← hl]; exact hok.2.2)
  have HP := Lib.hid (show polyL k = onesK l l.length by unfold polyL; rw [hl])
  obtain ⟨i0, hi, hz0, hz1, hz2⟩ := info_parts Try.info3
  clear hok hl
  go_enter Try.func46, Try.ntmps46
  go_wp2_with fail
  refine (member_any k false w (by omega)).mono ?_
  rintro e w1 ⟨g, c, rfl, hr, hb⟩
  rw [HLE.out] at hr ⊢
  have HR := Lib.hid hr
  have HB := Lib.hid hb
  clear hr hb
  go_wp2_with fail
  go_loopw [4, 16] (fun sv i wr => ∃ (j : Nat) (v : Value), v = sv ∧ i = .int .i64 j ∧ j ≤ l.length ∧ Hid (OwnB wr w1.heap.size v (natV (onesK l j))) ∧ Hid (Below w1.heap.size w1 wr)) (fun _ i _ => l.length - (intOf i).toNat)
  case atStart => exact ⟨0, _, rfl, rfl, by omega, Lib.hid (OwnB.nil_ _ _), Lib.hid (Below.refl _ _)⟩
  case round =>
    obtain ⟨j, v, rfl, rfl, hj, HO1, HB1⟩ := hrel
    have HOx := HO1
    have HBx := HB1
    clear HO1 HB1
    have hbs := HB.out.size
    have hbs1 := HBx.out.size
    by_cases hlt : j < l.length
    · obtain ⟨b', o', e', hb', hcx⟩ := (HR.out.up HBx.out).at_ hlt
      cases e'
      obtain ⟨x, hx⟩ : ∃ x, l.getD j 0 = x := ⟨_, rfl⟩
      rw [hx, Nat.zero_add] at hcx
      have HX := Lib.hid hx
      clear hx
      by_cases h1 : x = 1
      · subst h1
        have HOL := Lib.hid (onesK_len l j)
        have ho := HOx.out
        unfold OwnB at ho
        rw [natV_len] at ho
        have HO2 := Lib.hid ho
        have HN := Lib.hid (World.news_of_block (w := wr.alloc (Obj.cells #[Value.int .i64 (j : Int)] 3)) (cs := #[Value.int .i64 (j : Int)]) (t := 3) (fr := (0, 0)) (heap_alloc_new wr _))
        have HK1 := Lib.hid (show (onesK l j).length + 1 ≤ maxLen by have := HOL.out; unfold maxLen; omega)
        have HK2 := Lib.hid (show ((onesK l j).length + 1) * 8 ≤ 140737488355328 by have := HOL.out; omega)
        have HSZ := Lib.hid (show w1.heap.size ≤ (wr.alloc (Obj.cells #[Value.int .i64 (j : Int)] 3)).heap.size by simp; omega)
        clear ho
        go_wp2_with (at_builtin; refine wpList_append_own _ rfl _ _ 28 rfl w1.heap.size 3 i0 (.int .i64 0) 1 8 Try.underlying28 hi hz0 hz1 hz2 rfl (by decide) _ _ _ rfl (World.ownsRow.alloc HO2.out _) ⟨wr.heap.size, 0, none⟩ 1 1 [.int .i64 (j : Int)] rfl rfl HN.out (by simp [Value.oneCell']) HK1.out HK2.out HSZ.out ?_; intro v9 w9 hown9 hg9 _)
        have HE := Lib.hid (show onesK l (j + 1) = onesK l j ++ [j] by rw [onesK_succ, if_pos HX.out])
        have hsa : (wr.alloc (Obj.cells #[Value.int .i64 (j : Int)] 3)).heap.size = wr.heap.size + 1 := by simp
        have hblk := HOx.out.blk
        have HPN := Lib.hid (show OwnB w9 w1.heap.size v9 (natV (onesK l j ++ [j])) by
          unfold OwnB
          rw [natV_len, List.length_append, natV, List.map_append, List.map_append]
          exact hown9)
        have HBN := Lib.hid (show Below w1.heap.size w1 w9 from (HBx.out.alloc HBx.out.size _).grown hg9 (by rw [hsa]; omega) (fun j hj => (hblk j hj).1))
        clear hown9 hg9 hblk
        go_roundw
        case rel => exact ⟨j + 1, v9, rfl, by go_num, by omega, by rw [HE.out]; exact HPN, HBN⟩
        case measure => simp [intOf]; omega
      · have hx1 : ((x : Int) == 1) = false := by rw [beq_eq_false_iff_ne]; omega
        have HE := Lib.hid (show onesK l (j + 1) = onesK l j by rw [onesK_succ, if_neg (by rw [HX.out]; exact h1)])
        clear h1
        go_wp2_with fail
        go_roundw
        case rel => exact ⟨j + 1, v, rfl, by go_num, by omega, by rw [HE.out]; exact HOx, HBx⟩
        case measure => simp [intOf]; omega
    · obtain rfl : j = l.length := by omega
      go_wp2_with fail
      go_ret2
      exact ⟨v, rfl, by rw [HP.out]; exact ownsB_base HOx.out hbs, HB.out.trans (HBx.out.mono hbs)⟩
end Go.Proofs.Ytpdgjjpfahobaaa
