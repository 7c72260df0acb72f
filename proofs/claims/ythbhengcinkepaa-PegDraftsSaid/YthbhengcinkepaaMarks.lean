/- A new array of 65536 bools, none of them set: what its making does. · A scope with a label, within a fence: the body runs, and no goto leaves it. -/
import Derived.Test.YthbhengcinkepaaSeqT
import Derived.Scope
namespace Go.Proofs.Ythbhengcinkepaa
open Go.RowKit Go.Shelf

def isF : Value → Bool
  | .bool false => true
  | _ => false
def allF : List Value → Nat → Bool
  | [], n => n == 0
  | v :: l, n => isF v && (match n with | 0 => false | k + 1 => allF l k)
def cellsOfZ : Option Value → List Value
  | some (.agg cs) => cs.toList
  | _ => []
def isAggZ : Option Value → Bool
  | some (.agg _) => true
  | _ => false
theorem isF_eq {v : Value} (h : isF v = true) : v = .bool false := by
  unfold isF at h
  split at h
  · rfl
  · cases h
theorem allF_eq : ∀ (l : List Value) (n : Nat), allF l n = true → l = List.replicate n (.bool false)
  | [], n, h => by
    have : n = 0 := by simpa [allF] using h
    rw [this]; rfl
  | v :: l, 0, h => by simp [allF] at h
  | v :: l, n + 1, h => by
    simp only [allF, Bool.and_eq_true] at h
    rw [isF_eq h.1, allF_eq l n h.2, List.replicate_succ]
set_option maxRecDepth 1000000 in
theorem marks_all : allF (cellsOfZ Try.t164.zero) 65536 = true := by kernel_rfl
theorem marks_agg : isAggZ Try.t164.zero = true := by kernel_rfl
theorem marks_info : Try.prog.info? 164 = some Try.t164 := by kernel_rfl
/-- Cells of an array of bools none of which is set. -/
def Unset (cs : Array Value) : Prop := cs.size = 65536 ∧ ∀ j, j < 65536 → cs[j]? = some (.bool false)
theorem marks_new : ∃ cs, Unset cs ∧ ∀ w, (Instr.alloc 164 true (.tuple #[])).run Try.prog w = .ok (.pointer (some ⟨w.heap.size, 0, none⟩)) (w.alloc (.cells cs 164)) := by
  have h1 := marks_all
  have h2 := marks_agg
  have h3 := marks_info
  generalize Try.t164 = i at h1 h2 h3
  obtain ⟨z, hz⟩ : ∃ z, i.zero = z := ⟨_, rfl⟩
  rw [hz] at h1 h2
  cases z with
  | none => cases h2
  | some z =>
    cases z with
    | agg cs =>
      have h4 : cs.toList = List.replicate 65536 (.bool false) := allF_eq _ _ h1
      refine ⟨cs, ⟨?_, fun j hj => ?_⟩, fun w => ?_⟩
      · rw [← Array.length_toList, h4, List.length_replicate]
      · rw [← Array.getElem?_toList, h4, List.getElem?_replicate, if_pos hj]
      · simp [Instr.alloc, zeroValue, typeInfo, h3, hz, newVar, newRow, go_sem, Value.cells]
    | _ => cases h2
theorem wpIn_alloc {F : Fence} {n : Nat} {P : Program} {id : Nat} {Q : Exit → Act → World → Prop} {a : Act} {w : World} (o : Oper) (t : TypeId) (ho : o.op = .alloc t) (hg : o.guard = none) (hab : o.about P w a.eval = none) {v : Value} {w' : World}
    (hr : (Instr.alloc t true (.tuple #[])).run P w = .ok v w') (hd : F.round = none) (h : Q .normal (a.put o.dst v) w') : (Code.region id #[o] false).wpIn F n P Q a w := by
  refine wpIn_region_lit (l := [o]) (wpListIn_plain hg fun K hK => ?_)
  have hK := hK _ _ (wpListIn_nil h)
  unfold Oper.wpIn
  refine ⟨(fun f hf => by rw [hab] at hf; cases hf), ?_⟩
  rw [hd, Oper.semAt_none]
  unfold execOp
  simp only [ho, hr, Sem.run_bind, Sem.run_pure, Result.andThen_ok]
  exact hK
theorem marks_under : Try.prog.underlying 164 = some (.array (Try.prog.arrayLen 164) (Try.prog.elem 164)) := by kernel_rfl
theorem marks_len : Try.prog.arrayLen 164 = 65536 := by kernel_rfl
theorem marks_elem (w : World) : (sizeOf (Try.prog.elem 164)).run Try.prog w = .ok 1 w := by kernel_rfl
/-- The place of a mark. -/
theorem marks_at (g j : Nat) (h : j < 65536) (w : World) : (Instr.indexAt 164 (.pointer (some ⟨g, 0, none⟩)) (.int .i64 (j : Int))).run Try.prog w = .ok (.pointer (some ⟨g, j, none⟩)) w := by
  have h1 := run_indexAt_array (P := Try.prog) w 164 ⟨g, 0, none⟩ .i64 (j : Int) marks_under
  rw [marks_elem, marks_len] at h1
  rw [h1, if_pos ⟨by omega, by omega⟩]
  have e : (⟨g, 0, none⟩ : Addr).add ((j : Int).toNat * 1) = ⟨g, j, none⟩ := by
    rw [Int.toNat_natCast, Nat.mul_one]
    cases j <;> simp [Addr.add]
  simp only [Result.andThen_ok, e]
end Go.Proofs.Ythbhengcinkepaa

namespace Go.Proofs.Ythbhengcinkepaa
open Go.RowKit Go.Shelf

theorem stepR_scope {P : Program} {b : Frame} {a : Act} {k : List Item} {cs : List Frame} {w : World} {c : Code} : step P (lone (b.atR a (.code (.scope c) :: k)) cs w) = .next (lone (b.atR a (.code c :: .inScope c :: k)) cs w) :=
  step_lone_go (by simp [stepG, stepG.exec, Frame.atR])
theorem stepR_inScope {P : Program} {b : Frame} {a : Act} {k : List Item} {cs : List Frame} {w : World} {c : Code} : step P (lone (b.atR a (.inScope c :: k)) cs w) = .next (lone (b.atR a k) cs w) :=
  step_lone_go (by simp [stepG, stepG.exec, Frame.atR])
theorem wpIn_scope {F : Fence} {n : Nat} {P : Program} {Q : Exit → Act → World → Prop} {a : Act} {w : World} {c : Code} (h : c.wpIn F n P (Exit.noGoto Q) a w) : (Code.scope c).wpIn F n P Q a w := by
  intro b k cs hro hb hr
  have h0 : (lone (b.atR a (.code (.scope c) :: k)) cs w).fenced P F := fenced_calm hb hr rfl
  obtain ⟨e, a₁, w₁, hq, harr⟩ := h b (.inScope c :: k) cs hro hb hr
  cases e with
  | normal => exact ⟨.normal, a₁, w₁, hq, .head h0 stepR_scope (StepsIn.trans harr (.one (fenced_calm hb hr rfl) stepR_inScope))⟩
  | exit id' =>
    have hx : exitTo id' (.inScope c :: k) = exitTo id' k := by simp [exitTo]
    exact ⟨.exit id', a₁, w₁, hq, fun k' hk => .head h0 stepR_scope (harr.1 k' (by rw [hx]; exact hk)),
      fun hr' hk => let ⟨k₁, h1, h2⟩ := harr.2 hr' (by rw [hx]; exact hk); ⟨k₁, h1, .head h0 stepR_scope h2⟩⟩
  | goto l => exact hq.elim
  | ret => exact ⟨_, a₁, w₁, hq, .of_steps (.one h0 stepR_scope) harr⟩
  | panic ch => exact ⟨_, a₁, w₁, hq, .of_steps (.one h0 stepR_scope) harr⟩
  | outgrown => exact ⟨_, a₁, w₁, hq, .of_steps (.one h0 stepR_scope) harr⟩
end Go.Proofs.Ythbhengcinkepaa
