/- The function results of package dice, and what the iterator that it returns promises. -/
import Derived.Test.YtkkholagmjcgiaaRoll
import Derived.Laws.MakeOwn
import Derived.Laws.EntriesVeiled
namespace Go.Proofs.Ytkkholagmjcgiaa
open Go.RowKit Go.Shelf

theorem make_ints (n : Nat) (hn : n ≤ 1000000) : ∃ cs : Array Value, cs.size = n ∧ (∀ j, j < n → cs[j]? = some (.int .i64 0)) ∧ ∀ w : World, (Instr.makeSlice 36 (.int .i64 n) (.int .i64 n)).run Try.prog w = .ok (.slice (some ⟨w.heap.size, 0, none⟩) n n) (w.alloc (.cells cs 3)) := by
  obtain ⟨i0, hi, hz0, hz1, hz2⟩ := info_parts Try.info3
  refine ⟨madeCells (Value.int .i64 0).cells (n * 1), by rw [size_madeCells, Nat.mul_one], fun j hj => ?_, fun w => ?_⟩
  · simp [madeCells, Value.cells, hj, Nat.mod_one]
  · have := run_make (P := Try.prog) w 36 3 i0 (.int .i64 0) Try.underlying36 hi hz0 .i64 .i64 n n (by omega) (by omega) (by rw [hz2]; omega) (by omega)
    rw [hz1] at this
    simpa using this

set_option maxRecDepth 100000 in
set_option maxHeartbeats 2000000 in
theorem results_seq (Bd c : Nat) (A : Option Addr) (ds : List (List Int)) (D : Nat → Prop) (W1 : World) (hbd : Box W1 Bd 22 #[.slice A ds.length c]) (hrd : DiceD D W1 A ds) (hDd : D Bd) (hDs : ∀ b, D b → b < W1.heap.size) (hds : ∀ d ∈ ds, d.length ≤ 1000) (hn : ds.length ≤ 1000) :
    SeqNow Try.prog 96 #[.pointer (some ⟨Bd, 0, none⟩)] D (rollL ds []) W1 := by
  intro l J hJ0 hJ hY
  have c1 := hbd.cell 0
  simp only [List.getElem?_toArray, List.getElem?_cons_zero] at c1
  have HBD := Lib.hid hbd
  have HRD := Lib.hid hrd
  have HJ0 := Lib.hid hJ0
  have HJ := Lib.hid hJ
  have HY := Lib.hid hY
  have HDS := Lib.hid hDs
  have hlt := hbd.lt
  clear hbd hrd hJ0 hJ hY hDs
  obtain ⟨cs, hcs, _, hmk⟩ := make_ints ds.length (by omega)
  go_enter Try.func96, Try.ntmps96
  go_wp2_with fail
  have HC := Lib.hid (fun W4 hr hj => roll_any l Bd W1.heap.size (W1.heap.size + 1 + 1) (W1.heap.size + 1 + 1 + 1) (W1.heap.size + 1) c D A ds (rollL ds []) (fun b => D b ∨ (W1.heap.size ≤ b ∧ b < W1.heap.size + 4)) (J (W1.heap.size + 4))
    (fun pre W W' h hT => HJ.out _ pre W W' h (hT.imp fun i _ e => by omega)) (fun pre x v W h hnow hp => HY.out _ pre x v W h hnow hp)
    (fun b hb => .inl hb) (.inl hDd) (.inr (by omega)) (.inr (by omega)) (.inr (by omega)) (.inr (by omega)) (fun b hb => by have := HDS.out b hb; omega) hds hn ds.length [] [] W4 (by simp) hr hj (by simp))
  refine (HC.out _ ?_ ?_).mono ?_
  · refine ⟨?_, ?_, ?_, ?_, ?_, ?_⟩
    · exact (((HBD.out.alloc _).alloc _).alloc _).alloc _
    · exact (((Box.new W1 _ _).alloc _).alloc _).alloc _
    · have := Box.new ((W1.alloc (Obj.cells #[Value.func (Fn.yield l) #[] #[]] 78)).alloc (Obj.cells cs 3)) 36 #[.slice (some ⟨W1.heap.size + 1, 0, none⟩) ds.length ds.length]
      simp only [World.size_alloc] at this
      exact this.alloc _
    · have := Box.new (((W1.alloc (Obj.cells #[Value.func (Fn.yield l) #[] #[]] 78)).alloc (Obj.cells cs 3)).alloc (Obj.cells #[Value.slice (some ⟨W1.heap.size + 1, 0, none⟩) ds.length ds.length] 36)) 103 #[.func (.func 97) #[] #[.pointer (some ⟨Bd, 0, none⟩), .pointer (some ⟨W1.heap.size, 0, none⟩), .pointer (some ⟨W1.heap.size + 1 + 1, 0, none⟩), .pointer (some ⟨W1.heap.size + 1 + 1 + 1, 0, none⟩)]]
      simp only [World.size_alloc] at this
      exact this
    · exact HRD.out.turn (((((Turn.refl (fun _ => False) W1).alloc _).alloc _).alloc _).alloc _) (fun _ _ _ h => h)
    · refine ⟨cs, ?_, hcs, by simp⟩
      have := Box.new (W1.alloc (Obj.cells #[Value.func (Fn.yield l) #[] #[]] 78)) 3 cs
      simp only [World.size_alloc] at this
      exact (this.alloc _).alloc _
  · refine HJ0.out _ _ (((((Below.refl _ W1).alloc (Nat.le_refl _) _).alloc (by simp) _).alloc (by simp; omega) _).alloc (by simp; omega) _) (by omega) (by simp)
  · rintro e w5 ⟨rfl, hj5, _, _⟩
    go_wp2_with fail
    go_end0
    exact ⟨rfl, _, by simpa using hj5⟩

set_option maxHeartbeats 1000000 in
theorem results_any (A : Option Addr) (n c : Nat) (w : World) :
    Calls Try.prog 67 #[.slice A n c] w fun e w' => e = .returned (.func (.func 96) #[] #[.pointer (some ⟨w.heap.size, 0, none⟩)]) ∧ w.alloc (.cells #[.slice A n c] 22) = w' := by
  go_enter Try.func67, Try.ntmps67
  go_wp2_with fail
  go_ret
  exact ⟨rfl, rfl⟩

end Go.Proofs.Ytkkholagmjcgiaa
