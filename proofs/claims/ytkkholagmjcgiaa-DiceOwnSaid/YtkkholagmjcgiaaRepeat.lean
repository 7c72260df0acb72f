/- The library's Repeat at a row of one slice: a new row of copies of it. -/
import Derived.Test.YtkkholagmjcgiaaTab
import Derived.Test.YtkkholagmjcgiaaShelf2
import Derived.Laws.CopyOwn
import Derived.IntWalk

namespace Go.Proofs.Ytkkholagmjcgiaa
open Go.RowKit Go.Shelf

theorem Mul_one (n : Nat) (hn : n ≤ 1000) (w : World) :
    Calls Try.prog 108 #[.int .u64 1, .int .u64 (n : Int)] w fun e w' => e = .returned (.tuple #[.int .u64 0, .int .u64 (n : Int)]) ∧ w = w' := by
  refine (Try.bits_Mul 1 n (by omega) (by omega) w).mono fun e w' ⟨h1, h2⟩ => ⟨?_, h2.symm⟩
  rw [h1]
  have e1 : 1 * n / 18446744073709551616 = 0 := by omega
  have e2 : 1 * n % 18446744073709551616 = n := by omega
  rw [e1, e2]
  rfl

def repCells (n k : Nat) (v : Value) : List Value := List.replicate k v ++ List.replicate (n - k) (.slice none 0 0)
theorem make_rep (n : Nat) (hn : n ≤ 1000) (v : Value) : ∀ w : World, (Instr.makeSlice 22 (.int .i64 n) (.int .i64 n)).run Try.prog w = .ok (.slice (some ⟨w.heap.size, 0, none⟩) n n) (w.alloc (.cells (repCells n 0 v).toArray 36)) := by
  obtain ⟨i0, hi, hz0, hz1, hz2⟩ := info_parts (show (Try.prog.info? 36).map (fun i => (i.zero, i.size, i.bytes)) = some (some (.slice none 0 0), 1, 24) from by kernel_rfl)
  intro w
  have := run_make (P := Try.prog) w 22 36 i0 (.slice none 0 0) Try.underlying22 hi hz0 .i64 .i64 n n (by omega) (by omega) (by rw [hz2]; omega) (by omega)
  rw [hz1] at this
  have e : madeCells (Value.slice none 0 0).cells (n * 1) = (repCells n 0 v).toArray := by
    apply Array.ext_getElem?
    intro j
    by_cases hj : j < n
    · simp [madeCells, Value.cells, hj, Nat.mod_one, repCells]
    · simp [madeCells, repCells, hj]
  rw [Nat.mul_one] at e
  simpa [e] using this

set_option maxRecDepth 100000 in
set_option maxHeartbeats 2000000 in
theorem Repeat_any (g0 c0 n : Nat) (v : Value) (w : World) (hc : w.cell? ⟨g0, 0, none⟩ = some v) (hv : v.oneCell' = true) (hg0 : g0 < w.heap.size) (hn1 : 1 ≤ n) (hn : n ≤ 1000) :
    Calls Try.prog 94 #[.slice (some ⟨g0, 0, none⟩) 1 c0, .int .i64 n] w fun e w' => e = .returned (.slice (some ⟨w.heap.size, 0, none⟩) n n) ∧ Box w' w.heap.size 36 (List.replicate n v).toArray ∧ Below w.heap.size w w' := by
  have hsz1 : (Try.prog.info? 36).map (·.size) = some 1 := by kernel_rfl
  obtain ⟨w2, hcp, HG3, HB2⟩ : ∃ w2, (Builtin.copy_ #[22, 22] 3 #[.slice (some ⟨w.heap.size, 0, none⟩) n n, .slice (some ⟨g0, 0, none⟩) 1 c0]).run Try.prog (w.alloc (Obj.cells (repCells n 0 v).toArray 36)) = .ok (.int .i64 1) w2 ∧ Hid (Box w2 w.heap.size 36 (repCells n 1 v).toArray) ∧ Hid (Below w.heap.size w w2) := by
    have h1 := run_copy_row (P := Try.prog) (w.alloc (Obj.cells (repCells n 0 v).toArray 36)) 22 22 3 36 w.heap.size 0 n n ⟨g0, 0, none⟩ 1 c0 (repCells n 0 v).toArray 36 [v] Try.underlying22 hsz1 (Box.new _ _ _) (by simp [Nat.min_def]; omega) (fun j u hu => by
      cases j with
      | zero =>
        simp at hu
        subst hu
        exact (World.cell?_alloc_lt w _ ⟨g0, 0, none⟩ hg0).trans hc
      | succ j => simp at hu) (by simp [repCells]; omega) (by simpa using hv)
    refine ⟨_, h1, Lib.hid ?_, Lib.hid (below_setRow ((Below.refl _ w).alloc (Nat.le_refl _) _) (Nat.le_refl _) _)⟩
    have h2 := setRow_heap (w.alloc (Obj.cells (repCells n 0 v).toArray 36)) w.heap.size (repCells n 0 v).toArray ((repCells n 0 v).toArray.toList.take 0 ++ [v] ++ (repCells n 0 v).toArray.toList.drop (0 + [v].length)).toArray 36 (0, 0) (Box.new _ _ _)
    have e : ((repCells n 0 v).toArray.toList.take 0 ++ [v] ++ (repCells n 0 v).toArray.toList.drop (0 + [v].length)) = repCells n 1 v := by
      cases n with
      | zero => omega
      | succ n => simp [repCells, List.replicate_succ]
    rw [e] at h2 ⊢
    exact h2
  have hmk := make_rep n hn v
  have HM := Lib.hid (Mul_one n hn)
  have hni : (0 : Int) ≤ (n : Int) := by omega
  have hgt : ¬ (9223372036854775807 : Int) < (n : Int) := by omega
  clear hc
  go_enter Try.func94, Try.ntmps94
  go_wp2_with fail
  refine (HM.out _).mono ?_
  rintro e w' ⟨rfl, rfl⟩
  go_wp2_with fail
  clear hcp hmk
  go_loopg [8] n (fun g i wx => ∃ k : Nat, 1 ≤ k ∧ k ≤ n ∧ n ≤ k + g ∧ i = .int .i64 k ∧ Hid (Box wx w.heap.size 36 (repCells n k v).toArray) ∧ Hid (Below w.heap.size w wx))
  case atStart => exact ⟨1, by omega, hn1, by omega, rfl, HG3, HB2⟩
  case round =>
    clear HG3 HB2
    obtain ⟨k, hk1, hkn, hkg, rfl, HG, HB⟩ := hrel
    have HG2 := HG
    have HB2 := HB
    clear HG HB
    by_cases hlt : k < n
    · obtain ⟨m, hm⟩ : ∃ m, m = Nat.min k (n - k) := ⟨_, rfl⟩
      have hm1 : 1 ≤ m ∧ m ≤ k ∧ k + m ≤ n := by rw [hm]; show 1 ≤ min k (n - k) ∧ min k (n - k) ≤ k ∧ k + min k (n - k) ≤ n; omega
      obtain ⟨w3, hcp, HG3, HB3⟩ : ∃ w3, (Builtin.copy_ #[22, 22] 3 #[.slice (some ⟨w.heap.size, k, none⟩) (n - k) (n - k), .slice (some ⟨w.heap.size, 0, none⟩) k n]).run Try.prog wr.drew = .ok (.int .i64 (m : Int)) w3 ∧ Hid (Box w3 w.heap.size 36 (repCells n (k + m) v).toArray) ∧ Hid (Below w.heap.size w w3) := by
        have hb : Box wr.drew w.heap.size 36 (repCells n k v).toArray := HG2.out.drewN 1
        have h1 := run_copy_row (P := Try.prog) wr.drew 22 22 3 36 w.heap.size k (n - k) (n - k) ⟨w.heap.size, 0, none⟩ k n (repCells n k v).toArray 36 (List.replicate m v) Try.underlying22 hsz1 hb (by simp [hm]) (fun j u hu => by
          have hj : j < m := by have := (List.getElem?_eq_some_iff.1 hu).1; simpa using this
          have e : (⟨w.heap.size, 0, none⟩ : Addr).add j = ⟨w.heap.size, j, none⟩ := by cases j <;> simp [Addr.add]
          rw [e, hb.cell j]
          rw [List.getElem?_replicate, if_pos hj] at hu
          have hjk : j < k := by omega
          simp [repCells, List.getElem?_append, hjk, ← hu]) (by simp [repCells]; omega) (by intro x hx; have := List.eq_of_mem_replicate hx; rw [this]; exact hv)
        have e1 : goInt (List.replicate m v).length = .int .i64 (m : Int) := by simp [goInt]
        rw [e1] at h1
        refine ⟨_, h1, Lib.hid ?_, Lib.hid (below_setRow HB2.out.drew (Nat.le_refl _) _)⟩
        have h2 := setRow_heap wr.drew w.heap.size (repCells n k v).toArray ((repCells n k v).toArray.toList.take k ++ List.replicate m v ++ (repCells n k v).toArray.toList.drop (k + (List.replicate m v).length)).toArray 36 (0, 0) hb
        have e : ((repCells n k v).toArray.toList.take k ++ List.replicate m v ++ (repCells n k v).toArray.toList.drop (k + (List.replicate m v).length)) = repCells n (k + m) v := by
          apply List.ext_getElem?
          intro j
          simp only [repCells, List.length_replicate, List.append_assoc]
          by_cases h1 : j < k
          · simp [List.getElem?_append, h1, show j < k + m by omega]
          · by_cases h2 : j < k + m
            · simp [List.getElem?_append, h1, h2, show j - k < m by omega]
            · simp [List.getElem?_append, h1, h2, List.getElem?_replicate, List.getElem?_drop, show ¬ j - k < m by omega, show ¬ k + m + (j - k - m) < k by omega, show (k + m + (j - k - m) - k < n - k) = (j - (k + m) < n - (k + m)) by simp; omega]
        rw [e] at h2 ⊢
        exact h2
      have hkni : (k : Int) < (n : Int) := by omega
      have hk0 : (0 : Int) ≤ (k : Int) := by omega
      have hkn2 : (k : Int) ≤ (n : Int) := by omega
      have hne : ¬ k = n := by omega
      clear hm HG2 HB2
      go_wp2_with fail
      have hkw : IntKind.i64.wrap ((k : Int) + (m : Int)) = (k : Int) + (m : Int) := IntWalk.i64_in _ (by omega)
      go_region_held3 (fun _ => True ∧ True) (exact ⟨trivial, trivial⟩) (fail)
      go_wp2_with fail
      clear hkw
      go_roundg (gk - 1)
      case measure => omega
      case rel => exact ⟨k + m, by omega, by omega, by omega, by go_num, HG3, HB3⟩
    · obtain rfl : k = n := by omega
      have HE := Lib.hid (show repCells k k v = List.replicate k v by simp [repCells])
      go_wp2_with fail
      go_ret
      refine ⟨rfl, ?_, HB2.out⟩
      rw [← HE.out]
      exact HG2.out

end Go.Proofs.Ytkkholagmjcgiaa
