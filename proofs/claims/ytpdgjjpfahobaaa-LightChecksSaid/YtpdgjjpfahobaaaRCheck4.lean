/- The reference's Check: it answers as the program's. -/
import Derived.Test.YtpdgjjpfahobaaaLig3
import Derived.Deep.QuietTactic
namespace Go.Proofs.Ytpdgjjpfahobaaa
open Go.RowKit Lamp

set_option maxRecDepth 100000 in
set_option maxHeartbeats 4000000 in
theorem RCheck4_any (A : Option Addr) (n : Int) (l : List (Int × Int)) (c : Nat) (w : World) (hr : REdges w w.heap.size A l) (hl : l.length ≤ 1000000) :
    Calls Try.prog 21 #[.int .i64 n, .slice A l.length c] w fun e w' => e = .returned (.int .i64 (checkE n l)) ∧ ∃ k, w' = w.drewN k := by
  have HR := Lib.hid hr
  clear hr
  go_enter Try.func21, Try.ntmps21
  by_cases hn1 : n < 1
  · have HE := Lib.hid (show checkE n l = 1 by unfold checkE; rw [if_pos (.inl hn1)])
    go_wp2_with fail
    go_ret
    exact ⟨ret_int HE.out.symm, 0, rfl⟩
  by_cases hn16 : 16 < n
  · have HE := Lib.hid (show checkE n l = 1 by unfold checkE; rw [if_pos (.inr hn16)])
    go_wp2_with fail
    go_ret
    exact ⟨ret_int HE.out.symm, 0, rfl⟩
  have HE := Lib.hid (show checkE n l = if goodK n l l.length = true then 0 else 40 by unfold checkE; rw [if_neg (by omega)])
  go_wp2_with fail
  go_loopw [5] (fun i wr => ∃ k : Nat, i = .int .i64 k ∧ k ≤ l.length ∧ Hid (goodK n l k = true) ∧ Hid (∃ m, w.drewN m = wr)) (fun i _ => l.length - (intOf i).toNat)
  case atStart => exact ⟨0, rfl, by omega, Lib.hid rfl, Lib.hid ⟨0, rfl⟩⟩
  case round =>
    obtain ⟨k, rfl, hk, HG1, HW1⟩ := hrel
    have HG := HG1
    obtain ⟨n0, hn0⟩ := HW1.out
    clear HG1 HW1
    subst hn0
    by_cases hlt : k < l.length
    · obtain ⟨b, o, x, y, hA, hb, hx, hc1, hc2⟩ := HR.out.at_ hlt
      subst hA
      have HXY := Lib.hid (show l.getD k (0, 0) = (x, y) by rw [List.getD_eq_getElem?_getD, hx]; rfl)
      have hlt' : (k : Int) < (l.length : Int) := by omega
      have HBAD := Lib.hid (fun (h : goodK n l (k + 1) = false) => show checkE n l = 40 by rw [HE.out, if_neg (by rw [goodK_le hlt h]; decide)])
      clear hx
      go_upto_region 6 with fail
      go_quiet (fail)
      go_upto_region 7 with fail
      have HND := Lib.hid (show (w.drewN n0).drewN nq = w.drewN (n0 + nq) from World.drewN_drewN _ _ _)
      by_cases h1 : x < 0
      · have HB1 := Lib.hid (HBAD.out (by rw [goodK, HXY.out, HG.out]; simp [edgeB]; omega))
        go_wp2_with fail
        go_ret
        exact ⟨ret_int HB1.out.symm, n0 + nq, by simp⟩
      by_cases h2 : y ≤ x
      · have HB1 := Lib.hid (HBAD.out (by rw [goodK, HXY.out, HG.out]; simp [edgeB]; omega))
        go_wp2_with fail
        go_ret
        exact ⟨ret_int HB1.out.symm, n0 + nq, by simp⟩
      by_cases h3 : n ≤ y
      · have HB1 := Lib.hid (HBAD.out (by rw [goodK, HXY.out, HG.out]; simp [edgeB]; omega))
        go_wp2_with fail
        go_ret
        exact ⟨ret_int HB1.out.symm, n0 + nq, by simp⟩
      have HED := Lib.hid (show edgeB n (x, y) = true by simp only [edgeB, Bool.and_eq_true, decide_eq_true_eq]; omega)
      cases k with
      | zero =>
        have HB1 := Lib.hid (show goodK n l (0 + 1) = true by rw [goodK, HXY.out, HG.out]; rw [HED.out]; rfl)
        go_wp2_with fail
        go_roundw
        case rel => exact ⟨0 + 1, by go_num, by omega, HB1, Lib.hid ⟨n0 + nq, by simp⟩⟩
        case measure => simp [intOf]; omega
      | succ j =>
        obtain ⟨b', o', px, py, hA, _, hpx, hp0, hp1⟩ := HR.out.at_ (k := j) (by omega)
        cases hA
        have HPX := Lib.hid (show l.getD (j + 1 - 1) (0, 0) = (px, py) by rw [Nat.add_sub_cancel, List.getD_eq_getElem?_getD, hpx]; rfl)
        have hj1 : ((j + 1 : Nat) : Int) - 1 = (j : Int) := by omega
        have hj2 : IntKind.i64.wrap (((j + 1 : Nat) : Int) - 1) = (j : Int) := by rw [hj1]; exact IntWalk.i64_in _ (by omega)
        have hj3 : (0 : Int) < ((j + 1 : Nat) : Int) := by omega
        have hj4 : (j : Int) < (l.length : Int) := by omega
        have hj5 : (0 : Int) ≤ (j : Int) := by omega
        clear hpx
        by_cases h4 : x < px
        · have HB1 := Lib.hid (HBAD.out (by rw [goodK, HXY.out, HG.out]; rw [HPX.out, HED.out]; simp [ltP]; omega))
          go_wp2_with fail
          go_ret
          exact ⟨ret_int HB1.out.symm, n0 + nq, by simp⟩
        by_cases h5 : px = x
        · have h5' : (px == x) = true := by simp [h5]
          by_cases h6 : y ≤ py
          · have HB1 := Lib.hid (HBAD.out (by rw [goodK, HXY.out, HG.out]; rw [HPX.out, HED.out]; simp [ltP]; omega))
            go_wp2_with fail
            go_ret
            exact ⟨ret_int HB1.out.symm, n0 + nq, by simp⟩
          · have HB1 := Lib.hid (show goodK n l ((j + 1) + 1) = true by rw [goodK, HXY.out, HG.out]; rw [HPX.out, HED.out]; simp [ltP]; omega)
            go_wp2_with fail
            go_roundw
            case rel => exact ⟨(j + 1) + 1, by go_num, by omega, HB1, Lib.hid ⟨n0 + nq, by simp⟩⟩
            case measure => simp [intOf]; omega
        · have h5' : (px == x) = false := by simpa using h5
          have HB1 := Lib.hid (show goodK n l ((j + 1) + 1) = true by rw [goodK, HXY.out, HG.out]; rw [HPX.out, HED.out]; simp [ltP]; omega)
          go_wp2_with fail
          go_roundw
          case rel => exact ⟨(j + 1) + 1, by go_num, by omega, HB1, Lib.hid ⟨n0 + nq, by simp⟩⟩
          case measure => simp [intOf]; omega
    · obtain rfl : k = l.length := by omega
      have HE1 := Lib.hid (show checkE n l = 0 by rw [HE.out, if_pos HG.out])
      go_wp2_with fail
      go_ret
      exact ⟨ret_int HE1.out.symm, n0, rfl⟩
end Go.Proofs.Ytpdgjjpfahobaaa
