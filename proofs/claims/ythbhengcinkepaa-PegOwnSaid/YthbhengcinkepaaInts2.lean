/- The statements' function ints: whether two lists of integers are equal; it only reads. -/
import Derived.Test.YthbhengcinkepaaPg5
import Derived.Deep.LoopGhost
namespace Go.Proofs.Ythbhengcinkepaa
open Go.RowKit

theorem take_eq_step2 {a b : List Int} {k : Nat} {x y : Int} (ha : a[k]? = some x) (hb : b[k]? = some y) (h : a.take k = b.take k) : (a.take (k + 1) = b.take (k + 1)) ↔ x = y := by
  have h1 := List.getElem?_eq_some_iff.1 ha
  have h2 := List.getElem?_eq_some_iff.1 hb
  rw [List.take_succ_eq_append_getElem h1.1, List.take_succ_eq_append_getElem h2.1, h, h1.2, h2.2]
  simp

set_option maxHeartbeats 1000000 in
theorem ints2_any (A A2 : Option Addr) (a b : List Int) (c c2 B : Nat) (w : World) (ha : RInts w B A a) (hb : RInts w B A2 b) (_ : a.length ≤ 1000000) (hlb : b.length ≤ 1000000) :
    Calls Try.prog 30 #[.slice A a.length c, .slice A2 b.length c2] w fun e w' => e = .returned (.bool (decide (a = b))) ∧ ∃ n, w' = w.drewN n := by
  have HA := Lib.hid ha
  have HB := Lib.hid hb
  clear ha hb
  by_cases hl : a.length = b.length
  · have hlt : (((a.length : Int)) == (b.length : Int)) = true := by rw [hl]; simp
    have hln : (((a.length : Int)) != (b.length : Int)) = false := by rw [hl]; simp
    have HL := Lib.hid hl
    clear hl
    go_enter Try.func30, Try.ntmps30
    go_wp2_with fail
    go_loopg [5] a.length (fun g i wx => ∃ (k : Nat), k + g = a.length ∧ i = .int .i64 k ∧ Hid (a.take k = b.take k) ∧ Hid (∃ n, w.drewN n = wx))
    case atStart => exact ⟨0, by omega, rfl, Lib.hid rfl, Lib.hid ⟨0, rfl⟩⟩
    case round =>
      obtain ⟨k, hk, rfl, HF, HW⟩ := hrel
      have HF2 := HF
      obtain ⟨n0, hn0⟩ := HW.out
      clear HF HW
      subst hn0
      cases gk with
      | zero =>
        obtain rfl : k = a.length := by omega
        have HE := Lib.hid (show decide (a = b) = true by
          have h1 := HF2.out
          rw [List.take_length, List.take_of_length_le (by rw [HL.out]; exact Nat.le_refl _)] at h1
          simpa using h1)
        go_wp2_with fail
        go_ret
        exact ⟨ret_bool HE.out.symm, n0, rfl⟩
      | succ g =>
        obtain ⟨b1, o1, x, hA, hb1, hx, hcx⟩ := HA.out.at_ (k := k) (by omega)
        obtain ⟨b2, o2, y, hA2, hb2, hy, hcy⟩ := HB.out.at_ (k := k) (by rw [← HL.out]; omega)
        subst hA hA2
        have HS := Lib.hid (take_eq_step2 hx hy HF2.out)
        have hkl : (k : Int) < (a.length : Int) := by omega
        have hkl2 : (k : Int) < (b.length : Int) := by rw [← HL.out]; exact hkl
        have hk0 : (0 : Int) ≤ (k : Int) := by omega
        clear hx hy
        by_cases hxy : x = y
        · subst hxy
          have HS1 := Lib.hid (HS.out.2 rfl)
          go_wp2_with fail
          go_quiet (fail)
          go_wp2_with fail
          go_roundg g
          case measure => omega
          case rel => exact ⟨k + 1, by omega, by go_num, HS1, Lib.hid ⟨n0 + nq, by simp⟩⟩
        · have hne : (x == y) = false := by rw [beq_eq_false_iff_ne]; exact hxy
          have hne2 : (x != y) = true := by simp [bne, hne]
          have HE := Lib.hid (show decide (a = b) = false by
            rw [decide_eq_false_iff_not]
            rintro rfl
            exact hxy (HS.out.1 rfl))
          clear hxy
          go_wp2_with fail
          go_quiet (fail)
          go_wp2_with fail
          go_ret
          exact ⟨ret_bool HE.out.symm, n0 + nq, by simp⟩
  · have hlt : (((a.length : Int)) == (b.length : Int)) = false := by rw [beq_eq_false_iff_ne]; omega
    have hln : (((a.length : Int)) != (b.length : Int)) = true := by simp [bne, hlt]
    have HE := Lib.hid (show decide (a = b) = false by
      rw [decide_eq_false_iff_not]
      rintro rfl
      exact hl rfl)
    clear hl
    go_enter Try.func30, Try.ntmps30
    go_wp2_with fail
    go_ret
    exact ⟨ret_bool HE.out.symm, 0, rfl⟩

end Go.Proofs.Ythbhengcinkepaa
