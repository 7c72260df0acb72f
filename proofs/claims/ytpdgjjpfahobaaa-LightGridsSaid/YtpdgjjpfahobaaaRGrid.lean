/- The reference's function Grid of chapter 4: the same edges. -/
import Derived.Test.YtpdgjjpfahobaaaGrid
namespace Go.Proofs.Ytpdgjjpfahobaaa
open Go.RowKit Lamp

set_option maxRecDepth 100000 in
set_option maxHeartbeats 4000000 in
theorem RGrid_ok (r c m : Nat) (w : World) (hr1 : 1 ≤ r) (hc1 : 1 ≤ c) (hr : r ≤ 16) (hc : c ≤ 16) (hm : m = r * c) (hm16 : m ≤ 16) :
    Calls Try.prog 43 #[.int .i64 r, .int .i64 c] w fun e w' => ∃ v, e = .returned (.tuple #[.int .i64 (m : Nat), v]) ∧ OwnE w' w.heap.size v (gridL r c) ∧ Below w.heap.size w w' := by
  have hrc : (r : Int) * (c : Int) = (m : Int) := by rw [hm]; simp
  have hm' : (m : Int) ≤ 16 := by omega
  have hc0 : (c : Int) ≠ 0 := by omega
  have HG := Lib.hid (show gridL r c = gridK r c m by unfold gridL; rw [hm])
  have HM := Lib.hid hm
  clear hm
  obtain ⟨i0, hi, hz0, hz1, hz2⟩ := info_parts Try.info41
  go_enter Try.func43, Try.ntmps43
  go_wp2_with fail
  go_loopw [6, 7] (fun sv i wr => ∃ (k : Nat) (v : Value), v = sv ∧ i = .int .i64 k ∧ k ≤ m ∧ Hid (OwnE wr w.heap.size v (gridK r c k)) ∧ Hid (Below w.heap.size w wr)) (fun _ i _ => m - (intOf i).toNat)
  case atStart => exact ⟨0, _, rfl, rfl, by omega, Lib.hid (OwnE.nil_ _ _), Lib.hid (Below.refl _ _)⟩
  case round =>
    obtain ⟨k, v, rfl, rfl, hk, HO1, HB1⟩ := hrel
    have HO := HO1
    have HB := HB1
    clear HO1 HB1
    have hbs := HB.out.size
    by_cases hlt : k < m
    · obtain ⟨l, hl⟩ : ∃ l, gridK r c k = l := ⟨_, rfl⟩
      have hlen := gridK_len r c k
      have HS := Lib.hid (show gridK r c (k + 1) = (gridK r c k ++ if k % c < c - 1 then [((k : Int), ((k + 1 : Nat) : Int))] else []) ++ if k / c < r - 1 then [((k : Int), ((k + c : Nat) : Int))] else [] from rfl)
      rw [hl] at HS hlen HO
      have hmod : (k : Int) % (c : Int) = ((k % c : Nat) : Int) := by simp
      have hdiv : (k : Int) / (c : Int) = ((k / c : Nat) : Int) := by simp
      have HDV := Lib.hid (show k / c < r - 1 ↔ k + c < m by
        rw [Nat.div_lt_iff_lt_mul (by omega), Nat.sub_mul, Nat.one_mul, HM.out]
        omega)
      obtain ⟨p, hp⟩ : ∃ p, k % c = p := ⟨_, rfl⟩
      obtain ⟨q, hq⟩ : ∃ q, k / c = q := ⟨_, rfl⟩
      rw [hp] at hmod HS
      rw [hq] at hdiv HS HDV
      have hq' : q ≤ 16 := by rw [← hq]; exact Nat.le_trans (Nat.div_le_self _ _) (by omega)
      have hp' : p ≤ 16 := by rw [← hp]; exact Nat.le_trans (Nat.mod_le _ _) (by omega)
      have hL1 : l.length + 1 ≤ maxLen ∧ (l.length + 1) * 16 ≤ 140737488355328 := ⟨by unfold maxLen; omega, by omega⟩
      have hL2 : l.length + 1 + 1 ≤ maxLen ∧ (l.length + 1 + 1) * 16 ≤ 140737488355328 := ⟨by unfold maxLen; omega, by omega⟩
      have HL1 := Lib.hid hL1
      have HL2 := Lib.hid hL2
      clear hL1 hL2 hl hp hq
      by_cases ha : p < c - 1 <;> by_cases hb : q < r - 1
      · rw [if_pos ha, if_pos hb] at HS
        have ha' : (p : Int) + 1 < (c : Int) := by omega
        have hb' : (k : Int) + (c : Int) < (m : Int) := by have := HDV.out.1 hb; omega
        clear ha hb
        go_wp2_with (first
          | (at_builtin; refine wpList_addE _ rfl _ _ rfl (World.ownsRow.alloc hown8 _) rfl w8.heap.size _ (k : Int) ((k : Int) + (c : Int)) rfl (Box.new _ _ _) (by simp; omega) ?_ ?_; (have hz8 := hg8.size; simp at hz8 ⊢; omega); intro v9 w9 hown9 hg9)
          | (at_builtin; refine wpList_addE _ rfl _ _ rfl (World.ownsRow.alloc HO.out _) rfl wr.heap.size _ (k : Int) ((k : Int) + 1) rfl (Box.new _ _ _) (by omega) ?_ ?_; (simp; omega); intro v8 w8 hown8 hg8))
        have HB8 := Lib.hid (show Below w.heap.size w w8 from (HB.out.alloc HB.out.size _).grown hg8 (by simp; have := HB.out.size; omega) (fun j hj => HO.out.blk j hj))
        have HB9 := Lib.hid (show Below w.heap.size w w9 from (HB8.out.alloc HB8.out.size _).grown hg9 (by simp; have := HB8.out.size; omega) (fun j hj => hown8.blk j hj))
        have HE := Lib.hid (show gridK r c (k + 1) = l ++ [((k : Int), (k : Int) + 1)] ++ [((k : Int), (k : Int) + (c : Int))] by rw [HS.out]; rfl)
        have HP := Lib.hid hown9
        clear hown8 hown9 hg8 hg9
        go_roundw
        case rel => exact ⟨k + 1, v9, rfl, by go_num, by omega, by rw [HE.out]; exact HP, HB9⟩
        case measure => simp [intOf]; omega
      · rw [if_pos ha, if_neg hb] at HS
        have ha' : (p : Int) + 1 < (c : Int) := by omega
        have hb' : ¬ (k : Int) + (c : Int) < (m : Int) := by intro h; exact hb (HDV.out.2 (by omega))
        clear ha hb
        go_wp2_with (at_builtin; refine wpList_addE _ rfl _ _ rfl (World.ownsRow.alloc HO.out _) rfl wr.heap.size _ (k : Int) ((k : Int) + 1) rfl (Box.new _ _ _) (by omega) ?_ ?_; (simp; omega); intro v8 w8 hown8 hg8)
        have HB8 := Lib.hid (show Below w.heap.size w w8 from (HB.out.alloc HB.out.size _).grown hg8 (by simp; have := HB.out.size; omega) (fun j hj => HO.out.blk j hj))
        have HE := Lib.hid (show gridK r c (k + 1) = l ++ [((k : Int), (k : Int) + 1)] by rw [HS.out]; simp)
        have HP := Lib.hid hown8
        clear hown8 hg8
        go_roundw
        case rel => exact ⟨k + 1, v8, rfl, by go_num, by omega, by rw [HE.out]; exact HP, HB8⟩
        case measure => simp [intOf]; omega
      · rw [if_neg ha, if_pos hb] at HS
        have ha' : ¬ (p : Int) + 1 < (c : Int) := by omega
        have hb' : (k : Int) + (c : Int) < (m : Int) := by have := HDV.out.1 hb; omega
        clear ha hb
        go_wp2_with (at_builtin; refine wpList_addE _ rfl _ _ rfl (World.ownsRow.alloc HO.out _) rfl wr.heap.size _ (k : Int) ((k : Int) + (c : Int)) rfl (Box.new _ _ _) (by omega) ?_ ?_; (simp; omega); intro v8 w8 hown8 hg8)
        have HB8 := Lib.hid (show Below w.heap.size w w8 from (HB.out.alloc HB.out.size _).grown hg8 (by simp; have := HB.out.size; omega) (fun j hj => HO.out.blk j hj))
        have HE := Lib.hid (show gridK r c (k + 1) = l ++ [((k : Int), (k : Int) + (c : Int))] by rw [HS.out]; simp)
        have HP := Lib.hid hown8
        clear hown8 hg8
        go_roundw
        case rel => exact ⟨k + 1, v8, rfl, by go_num, by omega, by rw [HE.out]; exact HP, HB8⟩
        case measure => simp [intOf]; omega
      · rw [if_neg ha, if_neg hb, List.append_nil, List.append_nil] at HS
        have ha' : ¬ (p : Int) + 1 < (c : Int) := by omega
        have hb' : ¬ (k : Int) + (c : Int) < (m : Int) := by intro h; exact hb (HDV.out.2 (by omega))
        clear ha hb
        go_wp2_with fail
        go_roundw
        case rel => exact ⟨k + 1, v, rfl, by go_num, by omega, by rw [HS.out]; exact HO, HB⟩
        case measure => simp [intOf]; omega
    · obtain rfl : k = m := by omega
      go_wp2_with fail
      go_ret2
      exact ⟨v, rfl, by rw [HG.out]; exact HO.out, HB.out⟩
end Go.Proofs.Ytpdgjjpfahobaaa
