/- Appends to a row of integers of one's own; a table of bools. -/
import Derived.Test.YthbhengcinkepaaPg4
import Derived.Maps.AppendAt
namespace Go.Proofs.Ythbhengcinkepaa
open Go.RowKit

theorem wpList_addI (w : World) {ops : Array Oper} {rest : List Oper} {o : Oper} {a : Act} {Q : Exit → Act → World → Prop} (hg : o.guard = none) (s x : Operand)
    (hop : o.op = Op.call { callee := Callee.builtin Builtin.append, args := #[s, x], argTypes := #[47, 47] }) {base : Nat} {v : Value} {zs : List Int} (h : OwnP 3 w base v zs) (hs : a.eval s = v)
    (ad c : Nat) (z : Int) (hx : a.eval x = .slice (some ⟨ad, 0, none⟩) 1 c) (hb : Box w ad 3 #[.int .i64 z]) (hl : zs.length ≤ 1000000) (hbase : base ≤ w.heap.size)
    (hK : ∀ (v' : Value) (w' : World), OwnP 3 w' base v' (zs ++ [z]) → w.grownBy w' v.ownBlock → (v'.ownBlock = v.ownBlock ∨ v'.ownBlock = some w.heap.size) → wpList Try.prog ops Q rest (a.put o.dst v') w') :
    wpList Try.prog ops Q (o :: rest) a w := by
  obtain ⟨i0, hi, hz0, hz1, hz2⟩ := info_parts (show (Try.prog.info? 3).map (fun i => (i.zero, i.size, i.bytes)) = some (some (.int .i64 0), 1, 8) from by kernel_rfl)
  refine wpList_append_own_at w hg s x 47 hop base 3 i0 (.int .i64 0) 1 8 Try.underlying47 hi hz0 hz1 hz2 rfl (by decide) v zs.length (zs.map (Value.int .i64)) hs h ⟨ad, 0, none⟩ 1 c [.int .i64 z] hx rfl (World.news_of_block (cs := #[.int .i64 z]) (t := 3) (fr := (0, 0)) hb) (by simp [Value.oneCell']) (by unfold maxLen; omega) (by omega) hbase fun v' w' h1 h2 _ h4 => ?_
  refine hK v' w' ?_ h2 h4
  unfold OwnP
  rw [List.map_append, List.length_append]
  exact h1

theorem Try.sizeInt (w : World) : (Go.sizeOf 3).run Try.prog w = .ok 1 w := by kernel_rfl
theorem run_appI0 {w : World} {base : Nat} {v : Value} {zs : List Int} (h : OwnP 3 w base v zs) (ty : TypeId) (c : Nat) : (Builtin.append_ #[47, 47] ty #[v, .slice none 0 c]).run Try.prog w = .ok v w := by
  have hz := Try.sizeInt
  rcases h.2 with ⟨rfl, _⟩ | ⟨g, cap, cur, rfl, _, _, hnc, _⟩
  · simp [Builtin.append_, run_underlying Try.underlying47, hz, Builtin.lenOf, Builtin.firstCells, Result.andThen, go_sem]
  · simp [Builtin.append_, run_underlying Try.underlying47, hz, Builtin.lenOf, Builtin.firstCells, Result.andThen, go_sem, hnc, storeCells]
/-- The append of a slice of integers that is only read. -/
theorem wpList_appI (w : World) {ops : Array Oper} {rest : List Oper} {o : Oper} {a : Act} {Q : Exit → Act → World → Prop} (hg : o.guard = none) (s x : Operand)
    (hop : o.op = Op.call { callee := Callee.builtin Builtin.append, args := #[s, x], argTypes := #[47, 47] }) {base : Nat} {v : Value} {zs : List Int} (h : OwnP 3 w base v zs) (hs : a.eval s = v)
    (A : Option Addr) (m : Nat) (ys : List Int) (c B : Nat) (hx : a.eval x = .slice A m c) (hm : m = ys.length) (hr : RInts w B A ys) (hl : zs.length + ys.length ≤ 1000000) (hbase : base ≤ w.heap.size)
    (hK : ∀ (v' : Value) (w' : World), OwnP 3 w' base v' (zs ++ ys) → w.grownBy w' v.ownBlock → (v'.ownBlock = v.ownBlock ∨ v'.ownBlock = some w.heap.size) → wpList Try.prog ops Q rest (a.put o.dst v') w') :
    wpList Try.prog ops Q (o :: rest) a w := by
  subst hm
  have hnone : ys = [] → A = none → wpList Try.prog ops Q (o :: rest) a w := fun e1 e2 => by
    subst e1 e2
    refine wpList_plain hg fun K hK2 => ?_
    have hrun := run_appI0 h o.type c
    have h2 := hK v w (by simpa using h) (World.grownBy.refl w _) (.inl rfl)
    unfold Oper.wp
    simp only [List.length_nil] at hx
    simp [execOp, hop, resolve, invoke, builtin, hs, hx, hrun, Result.andThen]
    exact hK2 _ _ h2
  have hsome : ∀ (ad : Addr), A = some ad → (∀ (j : Nat) (u : Value), (ys.map (Value.int .i64))[j]? = some u → w.cell? (ad.add j) = some u) → wpList Try.prog ops Q (o :: rest) a w := fun ad e hc => by
    subst e
    obtain ⟨i0, hi, hz0, hz1, hz2⟩ := info_parts (show (Try.prog.info? 3).map (fun i => (i.zero, i.size, i.bytes)) = some (some (.int .i64 0), 1, 8) from by kernel_rfl)
    refine wpList_append_own_at w hg s x 47 hop base 3 i0 (.int .i64 0) 1 8 Try.underlying47 hi hz0 hz1 hz2 rfl (by decide) v zs.length (zs.map (Value.int .i64)) hs h ad ys.length c (ys.map (Value.int .i64)) hx (by simp) hc
      (fun u hu => by obtain ⟨z, _, rfl⟩ := List.mem_map.1 hu; rfl) (by unfold maxLen; omega) (by omega) hbase fun v' w' h1 h2 _ h4 => ?_
    refine hK v' w' ?_ h2 h4
    unfold OwnP
    rw [List.map_append, List.length_append]
    exact h1
  cases hA : A with
  | none =>
    refine hnone ?_ hA
    cases ys with
    | nil => rfl
    | cons y ys =>
      obtain ⟨b, o', e, _⟩ := hr 0 (.int .i64 y) rfl
      rw [hA] at e
      cases e
  | some ad =>
    refine hsome ad hA fun j u hu => ?_
    rw [hA] at hr
    obtain ⟨b2, o2, e, _, hc⟩ := hr j u hu
    cases e
    rw [Go.WideShapes.add_plain]
    exact hc

/-- A row of bools: the function's values. -/
def boolC (n : Nat) (f : Nat → Bool) : Array Value := (Array.range n).map fun b => .bool (f b)
theorem boolC_at {n : Nat} {f : Nat → Bool} {b : Nat} (hb : b < n) : (boolC n f)[b]? = some (.bool (f b)) := by simp [boolC, hb]
theorem boolC_same {n : Nat} {f f' : Nat → Bool} (h : ∀ j, j < n → f j = f' j) : boolC n f = boolC n f' := by
  apply Array.ext_getElem?
  intro j
  by_cases hj : j < n
  · rw [boolC_at hj, boolC_at hj, h j hj]
  · simp [boolC, hj]
theorem boolC_put (n : Nat) (f : Nat → Bool) (b : Nat) (v : Bool) : (boolC n f).setIfInBounds b (.bool v) = boolC n fun y => if y = b then v else f y := by
  apply Array.ext_getElem?
  intro j
  by_cases hj : j < n
  · rw [boolC_at hj, Array.getElem?_setIfInBounds]
    by_cases hjb : b = j
    · subst hjb
      simp [boolC, hj]
    · rw [if_neg hjb, boolC_at hj, if_neg (Ne.symm hjb)]
  · simp [boolC, hj]
theorem make_bools (n : Nat) (hn : n ≤ 1000000) : ∀ w : World, (Instr.makeSlice 42 (.int .i64 n) (.int .i64 n)).run Try.prog w = .ok (.slice (some ⟨w.heap.size, 0, none⟩) n n) (w.alloc (.cells (boolC n fun _ => false) 4)) := by
  obtain ⟨i0, hi, hz0, hz1, hz2⟩ := info_parts (show (Try.prog.info? 4).map (fun i => (i.zero, i.size, i.bytes)) = some (some (.bool false), 1, 1) from by kernel_rfl)
  intro w
  have := run_make (P := Try.prog) w 42 4 i0 (.bool false) Try.underlying42 hi hz0 .i64 .i64 n n (by omega) (by omega) (by rw [hz2]; omega) (by omega)
  rw [hz1] at this
  have e : madeCells (Value.bool false).cells (n * 1) = boolC n fun _ => false := by
    apply Array.ext_getElem?
    intro j
    by_cases hj : j < n
    · rw [boolC_at hj]
      simp [madeCells, Value.cells, hj, Nat.mod_one]
    · simp [madeCells, boolC, hj]
  rw [Nat.mul_one] at e
  simpa [e] using this
end Go.Proofs.Ythbhengcinkepaa
