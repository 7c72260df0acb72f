/- The reference's function Compare: in how many results of two lists the first shows more, less, and the same. -/
import Derived.Test.YtkkholagmjcgiaaCompare2
namespace Go.Proofs.Ytkkholagmjcgiaa
open Go.RowKit Go.Shelf

/-- The results with the first i numbers of a, and those of number i of a with the first k of b. -/
def part2 (a b : List Int) (i k : Nat) : List (List Int) := rollL [a.take i, b] [] ++ (b.take k).map fun t => [a.getD i 0, t]
theorem part2_zero (a b : List Int) : part2 a b 0 0 = [] := by simp [part2, rollL]
theorem part2_step {a b : List Int} {i k : Nat} {y : Int} (h : b[k]? = some y) : part2 a b i (k + 1) = part2 a b i k ++ [[a.getD i 0, y]] := by
  have hk := List.getElem?_eq_some_iff.1 h
  unfold part2
  rw [List.take_succ_eq_append_getElem hk.1, hk.2, List.map_append, List.append_assoc]
  rfl
theorem part2_row {a b : List Int} {i : Nat} {x : Int} (h : a[i]? = some x) : part2 a b i b.length = part2 a b (i + 1) 0 := by
  have hi := List.getElem?_eq_some_iff.1 h
  have hx : a.getD i 0 = x := by simp [List.getD, h]
  unfold part2
  rw [List.take_succ_eq_append_getElem hi.1, hi.2, hx, List.take_length, List.take_zero, List.map_nil, List.append_nil]
  simp [rollL, List.flatMap_append, List.map_eq_flatMap]
theorem part2_all (a b : List Int) : part2 a b a.length 0 = rollL [a, b] [] := by simp [part2]
theorem part2_len (a b : List Int) (i k : Nat) (ha : a.length ≤ 1000) (hb : b.length ≤ 1000) : (part2 a b i k).length ≤ 1001000 := by
  unfold part2
  rw [List.length_append, rollL_length]
  have h1 : (a.take i).length * b.length ≤ 1000 * 1000 := Nat.mul_le_mul (by simp; omega) hb
  simp at h1 ⊢
  omega

set_option maxRecDepth 100000 in
set_option maxHeartbeats 2000000 in
theorem RCompare_any (A1 A2 : Option Addr) (a b : List Int) (c1 c2 B : Nat) (w : World) (h1 : RInts w B A1 a) (h2 : RInts w B A2 b) (ha : a.length ≤ 1000) (hb : b.length ≤ 1000) :
    Calls Try.prog 35 #[.slice A1 a.length c1, .slice A2 b.length c2] w fun e w' => e = .returned (.tuple #[.int .i64 (moreL (rollL [a, b] [])), .int .i64 (lessL (rollL [a, b] [])), .int .i64 (sameL (rollL [a, b] []))]) ∧ ∃ n, w' = w.drewN n := by
  have H1 := Lib.hid h1
  have H2 := Lib.hid h2
  clear h1 h2
  go_enter Try.func35, Try.ntmps35
  go_wp2_with fail
  go_loopg [7, 8, 9, 10] a.length (fun g m l s i wx => ∃ k : Nat, k + g = a.length ∧ i = .int .i64 k ∧ m = .int .i64 (moreL (part2 a b k 0)) ∧ l = .int .i64 (lessL (part2 a b k 0)) ∧ s = .int .i64 (sameL (part2 a b k 0)) ∧ Hid (∃ n, w.drewN n = wx))
  case atStart => exact ⟨0, by omega, rfl, by rw [part2_zero]; rfl, by rw [part2_zero]; rfl, by rw [part2_zero]; rfl, Lib.hid ⟨0, rfl⟩⟩
  case round =>
    obtain ⟨i, hi, rfl, rfl, rfl, rfl, HW⟩ := hrel
    obtain ⟨n0, hn0⟩ := HW.out
    clear HW
    subst hn0
    cases gk with
    | zero =>
      obtain rfl : i = a.length := by omega
      rw [part2_all]
      go_wp2_with fail
      refine bodyPost_ret (v := .tuple #[.int .i64 (moreL (rollL [a, b] [])), .int .i64 (lessL (rollL [a, b] [])), .int .i64 (sameL (rollL [a, b] []))]) (by simp [results, Try.results35, go_sem]) rfl ⟨rfl, n0, rfl⟩
    | succ g =>
      obtain ⟨b1, o1, x, hA1, hb1, hx, hcx⟩ := H1.out.at_ (k := i) (by omega)
      subst hA1
      have HX := Lib.hid (show a.getD i 0 = x by simp [List.getD, hx])
      have HROW := Lib.hid (part2_row (b := b) hx)
      have hil : (i : Int) < (a.length : Int) := by omega
      have hi0 : (0 : Int) ≤ (i : Int) := by omega
      clear hx
      go_wp2_with fail
      go_loopg [7, 8, 9, 11] b.length (fun g m l s j wx => ∃ k : Nat, k + g = b.length ∧ j = .int .i64 k ∧ m = .int .i64 (moreL (part2 a b i k)) ∧ l = .int .i64 (lessL (part2 a b i k)) ∧ s = .int .i64 (sameL (part2 a b i k)) ∧ Hid (∃ n, w.drewN n = wx))
      case atStart => exact ⟨0, by omega, rfl, rfl, rfl, rfl, Lib.hid ⟨n0, rfl⟩⟩
      case round =>
        obtain ⟨k, hk, rfl, rfl, rfl, rfl, HW⟩ := hrel
        obtain ⟨n1, hn1⟩ := HW.out
        clear HW
        subst hn1
        cases gk with
        | zero =>
          obtain rfl : k = b.length := by omega
          rw [HROW.out]
          go_wp2_with fail
          go_roundg g
          case measure => omega
          case rel => exact ⟨i + 1, by omega, by go_num, rfl, rfl, rfl, Lib.hid ⟨n1, rfl⟩⟩
        | succ g1 =>
          obtain ⟨b2, o2, y, hA2, hb2, hy, hcy⟩ := H2.out.at_ (k := k) (by omega)
          subst hA2
          have HST := Lib.hid (part2_step (a := a) (i := i) hy)
          have hpl := part2_len a b i k ha hb
          have m0 : moreL (part2 a b i k) ≤ 1001000 := Nat.le_trans List.countP_le_length hpl
          have m1 : lessL (part2 a b i k) ≤ 1001000 := Nat.le_trans List.countP_le_length hpl
          have m2 : sameL (part2 a b i k) ≤ 1001000 := Nat.le_trans List.countP_le_length hpl
          have hkl : (k : Int) < (b.length : Int) := by omega
          have hk0 : (0 : Int) ≤ (k : Int) := by omega
          clear hy hpl
          by_cases g1' : y < x
          · have g2' : ¬ x < y := by omega
            have HS3 := Lib.hid (show moreL (part2 a b i (k + 1)) = moreL (part2 a b i k) + 1 ∧ lessL (part2 a b i (k + 1)) = lessL (part2 a b i k) ∧ sameL (part2 a b i (k + 1)) = sameL (part2 a b i k) by
              rw [HST.out, HX.out]
              simp [moreL, lessL, sameL, List.countP_append, g1', g2'])
            go_wp2_with fail
            go_quiet (fail)
            go_wp2_with fail
            go_roundg g1
            case measure => omega
            case rel => exact ⟨k + 1, by omega, by go_num, by rw [HS3.out.1]; go_num, by rw [HS3.out.2.1], by rw [HS3.out.2.2], Lib.hid ⟨n1 + nq, by simp⟩⟩
          · by_cases g2' : x < y
            · have HS3 := Lib.hid (show moreL (part2 a b i (k + 1)) = moreL (part2 a b i k) ∧ lessL (part2 a b i (k + 1)) = lessL (part2 a b i k) + 1 ∧ sameL (part2 a b i (k + 1)) = sameL (part2 a b i k) by
                rw [HST.out, HX.out]
                simp [moreL, lessL, sameL, List.countP_append, g1', g2'])
              go_wp2_with fail
              go_quiet (fail)
              go_wp2_with fail
              go_quiet (fail)
              go_wp2_with fail
              go_roundg g1
              case measure => omega
              case rel => exact ⟨k + 1, by omega, by go_num, by rw [HS3.out.1], by rw [HS3.out.2.1]; go_num, by rw [HS3.out.2.2], Lib.hid ⟨_, rfl⟩⟩
            · have HS3 := Lib.hid (show moreL (part2 a b i (k + 1)) = moreL (part2 a b i k) ∧ lessL (part2 a b i (k + 1)) = lessL (part2 a b i k) ∧ sameL (part2 a b i (k + 1)) = sameL (part2 a b i k) + 1 by
                rw [HST.out, HX.out]
                simp [moreL, lessL, sameL, List.countP_append, g1', g2'])
              go_wp2_with fail
              go_quiet (fail)
              go_wp2_with fail
              go_quiet (fail)
              go_wp2_with fail
              go_roundg g1
              case measure => omega
              case rel => exact ⟨k + 1, by omega, by go_num, by rw [HS3.out.1], by rw [HS3.out.2.1], by rw [HS3.out.2.2]; go_num, Lib.hid ⟨_, rfl⟩⟩

end Go.Proofs.Ytkkholagmjcgiaa
