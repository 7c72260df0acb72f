/- slices.Index and slices.Contains of a list of jumps (package peg). -/
import Derived.Test.YthbhengcinkepaaPg5
import Derived.Deep.QuietTactic
import Derived.Deep.LoopGhost
namespace Go.Proofs.Ythbhengcinkepaa
open Go.RowKit Lamp

set_option maxRecDepth 100000 in
set_option maxHeartbeats 2000000 in
theorem IndexJ_any (A : Option Addr) (c : Nat) (l : List Tri) (x y z : Int) (w : World) (hr : RTri w w.heap.size A l) (hl : l.length ≤ 1000000) :
    Calls Try.prog 105 #[.slice A l.length c, .agg #[.int .i64 x, .int .i64 y, .int .i64 z]] w fun e w' => ∃ k : Int, e = .returned (.int .i64 k) ∧ (0 ≤ k ↔ (x, y, z) ∈ l) ∧ Below w.heap.size w w' := by
  have HR := Lib.hid hr
  clear hr
  go_enter Try.func105, Try.ntmps105
  go_wp2_with fail
  have hbx := Box.new w 105 #[Value.int .i64 x, Value.int .i64 y, Value.int .i64 z]
  have hB := (Below.refl w.heap.size w).alloc (Nat.le_refl _) (Obj.cells #[Value.int .i64 x, Value.int .i64 y, Value.int .i64 z] 105)
  obtain ⟨W, hW⟩ : ∃ W, w.alloc (Obj.cells #[Value.int .i64 x, Value.int .i64 y, Value.int .i64 z] 105) = W := ⟨_, rfl⟩
  rw [hW] at hbx hB ⊢
  have x0 := hbx.cell 0
  have x1 := hbx.cell 1
  have x2 := hbx.cell 2
  simp only [List.getElem?_toArray, List.getElem?_cons_zero, List.getElem?_cons_succ] at x0 x1 x2
  have HB := Lib.hid hB
  have HRW := Lib.hid ((HR.out.below hB).more hB.size)
  clear hbx hB hW
  go_loopg [8] l.length (fun g i wx => ∃ (k : Nat), k + g = l.length ∧ i = .int .i64 k ∧ Hid ((x, y, z) ∉ l.take k) ∧ Hid (∃ n, W.drewN n = wx))
  case atStart => exact ⟨0, by omega, rfl, Lib.hid (by simp), Lib.hid ⟨0, rfl⟩⟩
  case round =>
    obtain ⟨k, hk, rfl, HN1, HW1⟩ := hrel
    have HN := HN1
    obtain ⟨n0, hn0⟩ := HW1.out
    clear HN1 HW1
    subst hn0
    cases gk with
    | zero =>
      obtain rfl : k = l.length := by omega
      have HF := Lib.hid (show (x, y, z) ∉ l by have h := HN.out; rwa [List.take_length] at h)
      go_wp2_with fail
      go_ret
      exact ⟨-1, rfl, ⟨fun h => by omega, fun h => absurd h HF.out⟩, below_drewN HB.out n0⟩
    | succ g =>
      obtain ⟨b, o, p, q, r, hA, hb, hx, hc0, hc1, hc2⟩ := HRW.out.at_ (k := k) (by omega)
      subst hA
      have hkl : (k : Int) < (l.length : Int) := by omega
      have HX := Lib.hid hx
      have hkk : k < l.length := by omega
      clear hx
      by_cases he : x = p ∧ y = q ∧ z = r
      · obtain ⟨rfl, rfl, rfl⟩ := he
        go_wp2_with fail
        go_quiet (fail)
        go_wp2_with fail
        go_ret
        exact ⟨k, rfl, ⟨fun _ => List.mem_of_getElem? HX.out, fun _ => by omega⟩, below_drewN (below_drewN HB.out n0) _⟩
      · have HNN := Lib.hid (show (x, y, z) ∉ l.take (k + 1) from fun h => by
          have h1 := List.getElem?_eq_some_iff.1 HX.out
          rw [List.take_succ_eq_append_getElem h1.1, List.mem_append, h1.2] at h
          rcases h with h | h
          · exact HN.out h
          · simp at h
            exact he h)
        by_cases h1 : x = p
        · subst h1
          by_cases h2 : y = q
          · subst h2
            have h3 : (z == r) = false := by simpa using he
            have h3' : ¬ z = r := by simpa using he
            clear he
            go_wp2_with fail
            go_quiet (fail)
            go_wp2_with fail
            go_roundg g
            case measure => omega
            case rel => exact ⟨k + 1, by omega, by go_num, HNN, Lib.hid ⟨n0 + nq, by simp⟩⟩
          · have h3 : (y == q) = false := by simpa using h2
            clear he
            go_wp2_with fail
            go_quiet (fail)
            go_wp2_with fail
            go_roundg g
            case measure => omega
            case rel => exact ⟨k + 1, by omega, by go_num, HNN, Lib.hid ⟨n0 + nq, by simp⟩⟩
        · have h3 : (x == p) = false := by simpa using h1
          clear he
          go_wp2_with fail
          go_quiet (fail)
          go_wp2_with fail
          go_roundg g
          case measure => omega
          case rel => exact ⟨k + 1, by omega, by go_num, HNN, Lib.hid ⟨n0 + nq, by simp⟩⟩
theorem ContainsJ_any (A : Option Addr) (c : Nat) (l : List Tri) (x y z : Int) (w : World) (hr : RTri w w.heap.size A l) (hl : l.length ≤ 1000000) :
    Calls Try.prog 63 #[.slice A l.length c, .agg #[.int .i64 x, .int .i64 y, .int .i64 z]] w fun e w' => e = .returned (.bool (decide ((x, y, z) ∈ l))) ∧ Below w.heap.size w w' := by
  have HI := Lib.hid (fun (w1 : World) (h : RTri w1 w1.heap.size A l) => IndexJ_any A c l x y z w1 h hl)
  have HB := Lib.hid ((Below.refl w.heap.size w).alloc (Nat.le_refl _) (Obj.cells #[Value.int .i64 x, Value.int .i64 y, Value.int .i64 z] 105))
  have HR := Lib.hid ((hr.below HB.out).more HB.out.size)
  clear hr
  go_enter Try.func63, Try.ntmps63
  go_wp2_with fail
  refine (HI.out _ HR.out).mono ?_
  rintro e w1 ⟨k, rfl, hk, hb⟩
  have HB1 := Lib.hid (HB.out.trans (hb.mono HB.out.size))
  have HK := Lib.hid hk
  clear hb hk
  by_cases h0 : 0 ≤ k
  · have HT := Lib.hid (show decide ((x, y, z) ∈ l) = true from decide_eq_true (HK.out.1 h0))
    go_wp2_with fail
    go_ret
    exact ⟨ret_bool HT.out.symm, HB1.out⟩
  · have HT := Lib.hid (show decide ((x, y, z) ∈ l) = false from decide_eq_false (fun h => h0 (HK.out.2 h)))
    go_wp2_with fail
    go_ret
    exact ⟨ret_bool (by rw [HT.out]; exact decide_eq_false (by omega)), HB1.out⟩
end Go.Proofs.Ythbhengcinkepaa
