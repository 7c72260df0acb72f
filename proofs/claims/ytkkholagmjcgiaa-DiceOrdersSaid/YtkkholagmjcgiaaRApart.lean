/- The function Apart of the reference: does no die share a side with another? -/
import Derived.Test.YtkkholagmjcgiaaRisesL
import Derived.Test.YtkkholagmjcgiaaBeats2
namespace Go.Proofs.Ytkkholagmjcgiaa
open Go.RowKit

/-- No two dice have results with equal sides. -/
def apB (ds : List (List Int)) : Bool := (List.range ds.length).all fun i => (List.range i).all fun k => decide (sameL (rollL [ds.getD i [], ds.getD k []] []) = 0)
theorem apB_true {ds : List (List Int)} (h : ∀ i k, k < i → i < ds.length → sameL (rollL [ds.getD i [], ds.getD k []] []) = 0) : apB ds = true := by
  unfold apB
  rw [List.all_eq_true]
  intro i hi
  rw [List.all_eq_true]
  intro k hk
  exact decide_eq_true (h i k (List.mem_range.1 hk) (List.mem_range.1 hi))
theorem apB_false {ds : List (List Int)} {i k : Nat} (hk : k < i) (hi : i < ds.length) (h : sameL (rollL [ds.getD i [], ds.getD k []] []) ≠ 0) : apB ds = false := by
  refine Bool.eq_false_iff.2 fun h2 => ?_
  unfold apB at h2
  rw [List.all_eq_true] at h2
  have h3 := h2 i (List.mem_range.2 hi)
  rw [List.all_eq_true] at h3
  exact h (of_decide_eq_true (h3 k (List.mem_range.2 hk)))

set_option maxRecDepth 100000 in
set_option maxHeartbeats 4000000 in
theorem RApart_any (A : Option Addr) (ds : List (List Int)) (c B : Nat) (w : World) (hd : RDice w B A ds) (h6 : ds.length ≤ 6) (h8 : ∀ d ∈ ds, d.length ≤ 8) :
    Calls Try.prog 53 #[.slice A ds.length c] w fun e w' => e = .returned (.bool (apB ds)) ∧ ∃ n, w' = w.drewN n := by
  have HD := Lib.hid hd
  have H8 := Lib.hid h8
  clear hd h8
  go_enter Try.func53, Try.ntmps53
  go_wp2_with fail
  go_loopg [3] ds.length (fun gg i wx => ∃ k : Nat, k + gg = ds.length ∧ i = .int .i64 k ∧ Hid (∀ x y, y < x → x < k → sameL (rollL [ds.getD x [], ds.getD y []] []) = 0) ∧ Hid (∃ n, w.drewN n = wx))
  case atStart => exact ⟨0, by omega, rfl, Lib.hid fun x y _ h => absurd h (Nat.not_lt_zero _), Lib.hid ⟨0, rfl⟩⟩
  case round =>
    obtain ⟨i, hi, rfl, HO1, HW1⟩ := hrel
    have HO := HO1
    have HW := HW1
    clear HO1 HW1
    cases gk with
    | zero =>
      obtain rfl : i = ds.length := by omega
      go_wp2_with fail
      go_ret
      obtain ⟨n, hn⟩ := HW.out
      exact ⟨ret_bool (apB_true fun x y h1 h2 => HO.out x y h1 h2).symm, n, hn.symm⟩
    | succ gg =>
      have hil : i < ds.length := by omega
      have hi1 : (i : Int) < (ds.length : Int) := by omega
      go_wp2_with fail
      go_loopg [4] i (fun gg k wx => ∃ j : Nat, j + gg = i ∧ k = .int .i64 j ∧ Hid (∀ y, y < j → sameL (rollL [ds.getD i [], ds.getD y []] []) = 0) ∧ Hid (∃ n, w.drewN n = wx))
      case atStart => exact ⟨0, by omega, rfl, Lib.hid fun y h => absurd h (Nat.not_lt_zero _), HW⟩
      case round =>
        obtain ⟨k, hk, rfl, HI1, HW3⟩ := hrel
        have HI := HI1
        have HW2 := HW3
        clear HI1 HW3
        cases gk with
        | zero =>
          obtain rfl : k = i := by omega
          go_wp2_with fail
          go_roundg gg
          case measure => omega
          case rel =>
            refine ⟨k + 1, by omega, by go_num, Lib.hid fun x y h1 h2 => ?_, HW2⟩
            rcases Nat.lt_or_ge x k with h3 | h3
            · exact HO.out x y h1 h3
            · obtain rfl : x = k := by omega
              exact HI.out y h1
        | succ gg2 =>
          have hki : k < i := by omega
          have hkl : k < ds.length := by omega
          obtain ⟨n, hn⟩ := HW2.out
          obtain ⟨b, o, a1, c1, d1, hA, hb, hx1, hc1, hd1, hr1⟩ := (HD.out.drewN n).at_ (k := i) hil
          subst hA
          obtain ⟨_, _, a2, c2, d2, hA, _, hx2, hc2, hd2, hr2⟩ := (HD.out.drewN n).at_ (k := k) hkl
          cases hA
          rw [hn] at hc1 hc2 hr1 hr2
          have hl1 : d1.length ≤ 8 := H8.out d1 (List.mem_of_getElem? hx1)
          have hl2 : d2.length ≤ 8 := H8.out d2 (List.mem_of_getElem? hx2)
          have HS := Lib.hid (show rollL [ds.getD i [], ds.getD k []] [] = rollL [d1, d2] [] by simp [List.getD, hx1, hx2])
          have HCB := Lib.hid (fun m => RCompare_any a1 a2 d1 d2 c1 c2 B (wr.drewN m) (hr1.drewN m) (hr2.drewN m) (by omega) (by omega))
          obtain ⟨M, hM⟩ : ∃ M, moreL (rollL [d1, d2] []) = M := ⟨_, rfl⟩
          obtain ⟨L, hL⟩ : ∃ L, lessL (rollL [d1, d2] []) = L := ⟨_, rfl⟩
          obtain ⟨s, hs⟩ : ∃ s, sameL (rollL [d1, d2] []) = s := ⟨_, rfl⟩
          rw [hM, hL, hs] at HCB
          have HSS := Lib.hid (show sameL (rollL [ds.getD i [], ds.getD k []] []) = s by rw [HS.out, hs])
          have hk1 : (k : Int) < (ds.length : Int) := by omega
          have hki1 : (k : Int) < (i : Int) := by omega
          clear hn hx1 hx2 hr1 hr2 hM hL hs HS hd1 hd2
          rcases Nat.eq_zero_or_pos s with h0 | h0
          · subst h0
            go_wp2_with fail
            go_quiet ((go_at_call 35; exact quiet_d0 (HCB.out _)))
            go_wp2_with fail
            go_roundg gg2
            case measure => omega
            case rel =>
              refine ⟨k + 1, by omega, by go_num, Lib.hid fun y hy => ?_, Lib.hid (drew_more HW2.out _)⟩
              rcases Nat.lt_or_ge y k with h3 | h3
              · exact HI.out y h3
              · obtain rfl : y = k := by omega
                exact HSS.out
          · have hs1 : (0 : Int) < (s : Int) := by omega
            have hs2 : decide ((0 : Int) < (s : Int)) = true := decide_eq_true hs1
            go_wp2_with fail
            go_quiet ((go_at_call 35; exact quiet_d0 (HCB.out _)))
            go_wp2_with fail
            go_ret
            refine ⟨ret_bool (apB_false hki hil (by rw [HSS.out]; omega)).symm, ?_⟩
            obtain ⟨n2, hn2⟩ := drew_more HW2.out _
            exact ⟨n2, hn2.symm⟩

end Go.Proofs.Ytkkholagmjcgiaa
