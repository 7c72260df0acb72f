/- A map from positions to jumps. -/
import Derived.Test.YthbhengcinkepaaMap
import Derived.Test.YthbhengcinkepaaBoxes
import Derived.Test.YthbhengcinkepaaGameL
import Derived.Maps.OwnIn
namespace Go.Proofs.Ythbhengcinkepaa
open Go.RowKit Go.Maps Lamp

/-- How a jump reads as an element of a map. -/
def elemJ : Value → Option (DataW Tri × List MemPlace)
  | .agg cs => match cs.toList with
    | [.int .i64 a, .int .i64 b, .int .i64 c] => some (.held (a, b, c), [])
    | _ => none
  | _ => none
theorem elemJ_mk (a b c : Int) : elemJ (.agg #[.int .i64 a, .int .i64 b, .int .i64 c]) = some (.held (a, b, c), []) := by
  simp only [elemJ]
theorem elemJ_inv {v : Value} {z : DataW Tri × List MemPlace} (h : elemJ v = some z) : ∃ a b c, v = .agg #[.int .i64 a, .int .i64 b, .int .i64 c] ∧ z = (.held (a, b, c), []) := by
  unfold elemJ at h
  split at h
  · rename_i cs
    split at h
    · rename_i a b c e
      injection h with h
      have e2 : cs = #[Value.int .i64 a, .int .i64 b, .int .i64 c] := by rw [← Array.toList_inj, e]
      exact ⟨a, b, c, by rw [e2], h.symm⟩
    · cases h
  · cases h
theorem zeroJ (w : World) : (zeroValue 105).run Try.prog w = .ok (.agg #[.int .i64 0, .int .i64 0, .int .i64 0]) w := by kernel_rfl

/-- Block b is a map of at most n entries that reads as f, at positions. -/
def MapJ (w : World) (b n : Nat) (f : Nat → Tri) : Prop :=
  ∃ D : DataW Tri, w.ownsMap Try.prog 3 elemJ b n D ∧ ∀ x : Nat, x < 65536 → D.atKey (.int .i64 x) (.held ((0 : Int), (0 : Int), (0 : Int))) = .held (f x)
theorem w64N {x : Nat} (h : x < 65536) : W64 (x : Int) := by unfold W64; omega

section
variable {w w' : World} {b n : Nat} {f : Nat → Tri}
theorem MapJ.lt (h : MapJ w b n f) : b < w.heap.size := by
  obtain ⟨D, h, _⟩ := h; exact h.lt
theorem MapJ.kept {row : Option Nat} (h : MapJ w b n f) (hg : w.grownBy w' row) (hne : some b ≠ row) : MapJ w' b n f := by
  obtain ⟨D, h, h2⟩ := h; exact ⟨D, h.kept hg hne, h2⟩
theorem MapJ.same (h : MapJ w b n f) (he : w'.heap[b]? = w.heap[b]?) : MapJ w' b n f := by
  obtain ⟨D, ⟨es, clock, h1, h2⟩, h3⟩ := h
  exact ⟨D, ⟨es, clock, he.trans h1, h2⟩, h3⟩
theorem MapJ.turn {X : Nat → Prop} (h : MapJ w b n f) (hT : Turn X w w') (hx : ¬ X b) : MapJ w' b n f := h.same (hT.2 b h.lt hx)
theorem MapJ.below {B : Nat} (h : MapJ w b n f) (hb : Below B w w') (hB : b < B) : MapJ w' b n f := h.same (hb.block b hB)
theorem MapJ.alloc (h : MapJ w b n f) (o : Obj) : MapJ (w.alloc o) b n f := by
  obtain ⟨D, h, h2⟩ := h; exact ⟨D, h.alloc o, h2⟩
theorem MapJ.new (w : World) : MapJ (w.alloc (.map #[] 0)) w.heap.size 0 (fun _ => (0, 0, 0)) :=
  ⟨.map [], World.ownsMap_made _ _ _ _, fun _ _ => rfl⟩
theorem MapJ.congr {g : Nat → Tri} (h : MapJ w b n f) (hf : ∀ x, x < 65536 → f x = g x) : MapJ w b n g := by
  obtain ⟨D, h, h1⟩ := h
  exact ⟨D, h, fun x hx => by rw [h1 x hx, hf x hx]⟩
theorem MapJ.run (h : MapJ w b n f) {y : Nat} (hy : y < 65536) : (Instr.lookup 111 (.map (some b)) (.int .i64 y) false).run Try.prog w = .ok (.agg #[.int .i64 (f y).1, .int .i64 (f y).2.1, .int .i64 (f y).2.2]) w := by
  obtain ⟨D, h, h1⟩ := h
  obtain ⟨v, ps, hrun, hv⟩ := h.lookup lawI Try.underlying111 (zeroJ _) (zd := .held ((0 : Int), (0 : Int), (0 : Int))) (zp := []) (elemJ_mk 0 0 0) (keyI (w64N hy))
  obtain ⟨a, b, c, rfl, hx⟩ := elemJ_inv hv
  have e := h1 y hy
  have hx1 := congrArg Prod.fst hx
  have e3 := hx1.symm.trans e
  have e4 : ((a, b, c) : Tri) = f y := by simpa only [DataW.held.injEq] using e3
  rw [← e4]
  exact hrun
end

/-- The function with one value more. -/
def updJ (f : Nat → Tri) (x : Nat) (j : Tri) : Nat → Tri := fun y => if y = x then j else f y

/-- The store m[k] = j, within a fence. -/
theorem wpListIn_storeJ {F : Fence} {nF : Nat} (w : World) {ops : Array Oper} {rest : List Oper} {o : Oper} {a : Act} {Q : Exit → Act → World → Prop} {b n : Nat} {f : Nat → Tri} (hg : o.guard = none) (m x v : Operand) (hop : o.op = Op.mapUpdate 111 m x v) (hm : a.eval m = .map (some b)) (h : MapJ w b n f) (hn : n < 1000000000) (y : Nat) (j : Tri) (hx : a.eval x = .int .i64 y) (hv : a.eval v = .agg #[.int .i64 j.1, .int .i64 j.2.1, .int .i64 j.2.2]) (hy : y < 65536)
    (hK : ∀ w', MapJ w' b (n + 1) (updJ f y j) → w.grownBy w' (some b) → wpListIn F nF Try.prog ops Q rest (a.put o.dst undef) w') : wpListIn F nF Try.prog ops Q (o :: rest) a w := by
  obtain ⟨D, h, h1⟩ := h
  refine wpListIn_mapUpdate_own w hg m x v 111 hop 3 105 lawI Try.underlying111 _ b n D hm h (by unfold maxLen; omega) _ _ _ hx hv (keyI (w64N hy)) (.held j) [] (elemJ_mk _ _ _) fun w1 hown1 hgrow1 => ?_
  have hD : IsMap D := (h.canon lawI).elim fun es he => ⟨es, he.1⟩
  refine hK w1 ⟨_, hown1, fun z hz => ?_⟩ hgrow1
  by_cases e : z = y
  · subst e
    rw [Maps.atKey_put_same hD (by trivial)]
    simp [updJ]
  · rw [Maps.atKey_put_other (fun h => e (by injection h with _ h; omega)), h1 z hz]
    simp [updJ, e]
end Go.Proofs.Ythbhengcinkepaa
