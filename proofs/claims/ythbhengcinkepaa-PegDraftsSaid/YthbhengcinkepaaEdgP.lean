/- Rows of pairs of integers in memory; opening an argument that is a plan. · An append of a slice of pairs to a row of pairs of one's own. · A block of pairs of integers, written cell by cell. -/
import Derived.Test.YthbhengcinkepaaOpenS
import Derived.Lib.SmallJoins
import Derived.Test.YthbhengcinkepaaAppT
import Derived.Laws.MakeOwn
namespace Go.Proofs.Ythbhengcinkepaa
open Go.ChangeShapes Go.WideShapes Go.ChangeAt Go.RowKit Go.Deep Go.WideMaps

/-- The pairs' numbers, one behind the other. -/
def edgeV (l : List (Int × Int)) : List Value := l.flatMap fun e => [Value.int .i64 e.1, Value.int .i64 e.2]
def REdges (w : World) (B : Nat) (A : Option Addr) (l : List (Int × Int)) : Prop := Lies w B A (edgeV l)
theorem edgeV_at (l : List (Int × Int)) (k : Nat) (e : Int × Int) (h : l[k]? = some e) : (edgeV l)[2 * k]? = some (Value.int .i64 e.1) ∧ (edgeV l)[2 * k + 1]? = some (Value.int .i64 e.2) := by
  induction l generalizing k with
  | nil => simp at h
  | cons a l ih =>
    cases k with
    | zero => simp at h; subst h; exact ⟨rfl, rfl⟩
    | succ k =>
      have h1 := ih k (by simpa using h)
      exact h1
theorem REdges.at_ {w : World} {B : Nat} {A : Option Addr} {l : List (Int × Int)} {k : Nat} (h : REdges w B A l) (hk : k < l.length) : ∃ b o x y, A = some ⟨b, o, none⟩ ∧ b < B ∧ l[k]? = some (x, y) ∧ w.cell? ⟨b, o + k * 2, none⟩ = some (.int .i64 x) ∧ w.cell? ⟨b, o + k * 2 + 1, none⟩ = some (.int .i64 y) := by
  have h0 : l[k]? = some l[k] := List.getElem?_eq_getElem hk
  obtain ⟨h1, h2⟩ := edgeV_at l k _ h0
  obtain ⟨b, o, e, hb, hc⟩ := h _ _ h1
  obtain ⟨b', o', e', _, hc'⟩ := h _ _ h2
  rw [e] at e'
  cases e'
  rw [Nat.mul_comm] at hc hc'
  exact ⟨b, o, _, _, e, hb, h0, hc, by rw [Nat.add_assoc]; exact hc'⟩
theorem REdges.keep {w w' : World} {B : Nat} {A : Option Addr} {l : List (Int × Int)} (h : REdges w B A l) (hb : Below B w w') : REdges w' B A l := Lies.below h hb

/-- A row of pairs of one's own, in memory from base on. -/
def OwnE (w : World) (base : Nat) (v : Value) (l : List (Int × Int)) : Prop := w.ownsRow base 41 2 v l.length (edgeV l)
theorem OwnE.nil_ (w : World) (base : Nat) : OwnE w base (.slice none 0 0) [] := ⟨by simp [edgeV], .inl ⟨rfl, rfl⟩⟩
theorem OwnE.blk {w : World} {base : Nat} {v : Value} {l : List (Int × Int)} (h : OwnE w base v l) : ∀ g, v.ownBlock = some g → base ≤ g := by
  intro g hg
  rcases h.2 with ⟨rfl, _⟩ | ⟨g', cap, cur, rfl, hb, _⟩
  · cases hg
  · have : g' = g := by simpa [Value.ownBlock] using hg
    subst this
    exact hb
theorem edgeV_snoc (l : List (Int × Int)) (x y : Int) : edgeV (l ++ [(x, y)]) = edgeV l ++ [Value.int .i64 x, Value.int .i64 y] := by simp [edgeV]
theorem edgeV_len (l : List (Int × Int)) : (edgeV l).length = l.length * 2 := by
  induction l with
  | nil => rfl
  | cons a l ih => simp [edgeV] at ih ⊢; omega
theorem OwnE.reads {w : World} {b : Nat} {v : Value} {l : List (Int × Int)} (h : OwnE w b v l) : ∃ A c, v = .slice A l.length c ∧ REdges w w.heap.size A l := by
  rcases h.2 with ⟨rfl, h1⟩ | ⟨g, cap, cur, e, hb, hh, h2, h3, h4⟩
  · exact ⟨none, 0, by rw [h1], fun j u hu => by rw [List.length_eq_zero_iff.1 h1] at hu; simp [edgeV] at hu⟩
  · refine ⟨_, cap, e, fun j u hu => ?_⟩
    have hbx : Box w g 41 cur := hh
    refine ⟨g, 0, rfl, hbx.lt, ?_⟩
    rw [Nat.zero_add, hbx.cell j]
    have hj : j < l.length * 2 := by
      have := (List.getElem?_eq_some_iff.1 hu).1
      rw [edgeV_len] at this
      exact this
    have h5 : (List.take (l.length * 2) cur.toList)[j]? = some u := by rw [h4.2]; exact hu
    rw [List.getElem?_take, if_pos hj] at h5
    simpa using h5


section
variable {H : Type} {enc : TypeId × Value → H} {W : World} {base : Nat} {v : Value} {d : DataW H} {p : List MemPlace}
set_option maxRecDepth 100000 in
/-- The cells of an element that is a pair. -/
theorem pair_cells {b : Nat} {sp : Nat → Bool} {held : Bool} {n : Nat} {a : Addr} {x : DataW H × List MemPlace} (h : (W.cells? b a 2).bind (DataW.trod enc Try.prog W b sp held n 41) = some x) :
    ∃ y z : Int, W.cell? (a.add 0) = some (.int .i64 y) ∧ W.cell? (a.add 1) = some (.int .i64 z) := by
  obtain ⟨cs, hc, ht⟩ := Option.bind_eq_some_iff.1 h
  obtain ⟨_, hl, hat⟩ := World.cells?_some hc
  obtain ⟨xs, m, _, _, _, hxl, hx⟩ := DataW.trod_array Try.underlying41 ht
  obtain ⟨c0, c1, rfl⟩ : ∃ c0 c1, cs = [c0, c1] := by
    match cs, hl with
    | [c0, c1], _ => exact ⟨c0, c1, rfl⟩
  have h0 := hx 0 (by decide)
  have h1 := hx 1 (by decide)
  rw [Try.cells3, List.getElem?_eq_getElem (by omega)] at h0 h1
  obtain ⟨y, ey, _⟩ := DataW.trod_int Try.underlying3 h0
  obtain ⟨z, ez, _⟩ := DataW.trod_int Try.underlying3 h1
  have ey' : c0 = .int .i64 y := by simpa using ey
  have ez' : c1 = .int .i64 z := by simpa using ez
  subst ey' ez'
  exact ⟨y, z, hat 0 (by decide), hat 1 (by decide)⟩

theorem lies_edges {w : World} {b off n : Nat} {y : Nat → Int × Int} (h : ∀ i, i < n → w.cell? ⟨b, off + i * 2, none⟩ = some (.int .i64 (y i).1) ∧ w.cell? ⟨b, off + i * 2 + 1, none⟩ = some (.int .i64 (y i).2)) :
    REdges w w.heap.size (some ⟨b, off, none⟩) ((List.range n).map y) := fun j u hu => by
  have hlen : (edgeV ((List.range n).map y)).length = n * 2 := by rw [edgeV_len]; simp
  have hj : j < n * 2 := by
    have := (List.getElem?_eq_some_iff.1 hu).1
    omega
  obtain ⟨k, hk, hkn⟩ : ∃ k, (j = 2 * k ∨ j = 2 * k + 1) ∧ k < n := ⟨j / 2, by omega, by omega⟩
  have hl : ((List.range n).map y)[k]? = some (y k) := by simp [hkn]
  obtain ⟨e0, e1⟩ := edgeV_at _ k _ hl
  obtain ⟨c0, c1⟩ := h k hkn
  rcases hk with rfl | rfl
  · rw [e0] at hu
    cases hu
    rw [Nat.mul_comm k 2] at c0
    exact ⟨b, off, rfl, World.block_lt_of_cell? w _ c0, c0⟩
  · rw [e1] at hu
    cases hu
    rw [Nat.mul_comm k 2, Nat.add_assoc] at c1
    exact ⟨b, off, rfl, World.block_lt_of_cell? w _ c1, c1⟩


set_option maxRecDepth 100000 in
/-- The cell of a slice of pairs. -/
theorem pairs_of {fuel : Nat} {cs : List Value} {x : DataW H × List MemPlace} (hf : DataW.trod enc Try.prog W 0 (fun _ => true) true fuel 68 cs = some x) :
    ∃ (A : Option Addr) (l : List (Int × Int)) (c : Nat), cs = [.slice A l.length c] ∧ l.length ≤ c ∧ l.length ≤ 9223372036854775807 ∧ REdges W W.heap.size A l := by
  rcases DataW.trod_slice Try.underlying68 hf with ⟨hcs, _⟩ | ⟨a, len', cap', elems, rest, n, _, hcs, _, _, hl, hm, hlen, hel, _, _⟩
  · exact ⟨none, [], 0, hcs, Nat.zero_le _, by simp, fun j u hu => by simp [edgeV] at hu⟩
  · rw [hcs]
    unfold maxLen at hm
    have each : ∀ i, i < len' → ∃ y : Int × Int, W.cell? ((a.add (i * 2)).add 0) = some (.int .i64 y.1) ∧ W.cell? ((a.add (i * 2)).add 1) = some (.int .i64 y.2) := by
      intro i hi
      have h1 := hel i hi
      rw [show Try.prog.cellsOf 41 = 2 by kernel_rfl, List.getElem?_eq_getElem (by omega)] at h1
      obtain ⟨y, z, hy, hz⟩ := pair_cells h1
      exact ⟨(y, z), hy, hz⟩
    obtain ⟨y, hy⟩ := choose_lt each
    obtain ⟨b, off, spot⟩ := a
    by_cases h0 : len' = 0
    · subst h0
      exact ⟨_, [], cap', rfl, Nat.zero_le _, by simp, fun j u hu => by simp [edgeV] at hu⟩
    · have hs := World.cell?_spot (hy 0 (by omega)).1
      have hspot : spot = none := by simpa [Addr.add] using hs
      subst hspot
      refine ⟨some ⟨b, off, none⟩, (List.range len').map y, cap', by simp, by simpa using hl, by simp; omega, lies_edges fun i hi => ?_⟩
      obtain ⟨c0, c1⟩ := hy i hi
      rw [add_plain, add_plain] at c0 c1
      exact ⟨by simpa using c0, c1⟩

set_option maxRecDepth 100000 in
/-- An argument that is a plan. -/
theorem open_draft (hv : Value.okWide Try.prog W .any base 73 v) (h : DataW.Trod enc Try.prog W 0 (fun _ => true) true 73 v d p) :
    ∃ (x y m : Int) (A : Option Addr) (l : List (Int × Int)) (c : Nat), v = .agg #[.int .i64 x, .int .i64 y, .int .i64 m, .slice A l.length c] ∧ l.length ≤ c ∧ l.length ≤ 9223372036854775807 ∧ REdges W W.heap.size A l := by
  obtain ⟨cs, rfl, hsz⟩ := okWide_struct Try.underlying73 hv
  obtain ⟨fuel, hf⟩ := h
  obtain ⟨y0, y1, y2, y3, n, _, hl, h0, h1, h2, h3⟩ := Go.Joins.trod_struct4 Try.underlying73 hf
  rw [show Try.prog.cellsOf 73 = 4 by kernel_rfl] at hsz
  obtain ⟨c0, c1, c2, c3, rfl⟩ := Go.Joins.array4 hsz
  simp only [Value.cells, Try.cells3, show Try.prog.cellsOf 68 = 1 by kernel_rfl] at h0 h1 h2 h3
  obtain ⟨x, ex, _⟩ := DataW.trod_int Try.underlying3 h0
  obtain ⟨y, ey, _⟩ := DataW.trod_int Try.underlying3 h1
  obtain ⟨m, em, _⟩ := DataW.trod_int Try.underlying3 h2
  obtain ⟨A, l, c, el, h4, h5, h6⟩ := pairs_of h3
  have ex' : c0 = .int .i64 x := by simpa using ex
  have ey' : c1 = .int .i64 y := by simpa using ey
  have em' : c2 = .int .i64 m := by simpa using em
  have el' : c3 = .slice A l.length c := by simpa using el
  subst ex' ey' em' el'
  exact ⟨x, y, m, A, l, c, rfl, h4, h5, h6⟩
end
theorem REdges.below {w w' : World} {B : Nat} {A : Option Addr} {l : List (Int × Int)} (h : REdges w B A l) (hb : Below B w w') : REdges w' B A l := Lies.below h hb
theorem REdges.more {w : World} {B B' : Nat} {A : Option Addr} {l : List (Int × Int)} (h : REdges w B A l) (hb : B ≤ B') : REdges w B' A l := Lies.more h hb
end Go.Proofs.Ythbhengcinkepaa

namespace Go.Proofs.Ythbhengcinkepaa
open Go.RowKit

theorem Try.infoE41 : (Try.prog.info? 41).map (fun i => (i.zero, i.size, i.bytes)) = some (some (.agg #[.int .i64 0, .int .i64 0]), 2, 16) := by kernel_rfl
theorem OwnE.caps {w : World} {base : Nat} {v : Value} {l : List (Int × Int)} (h : OwnE w base v l) : ∃ A c, v = .slice A l.length c ∧ l.length ≤ c ∧ REdges w w.heap.size A l ∧ ∀ b o, A = some ⟨b, o, none⟩ → base ≤ b ∧ b < w.heap.size ∧ o = 0 ∧ v.ownBlock = some b := by
  obtain ⟨A, c, e, hr⟩ := h.reads
  refine ⟨A, c, e, ?_, hr, ?_⟩
  · rcases h.2 with ⟨e2, h1⟩ | ⟨g, cap, cur, e2, _, _, h2, _⟩
    · omega
    · rw [e] at e2
      cases e2
      exact h2
  · intro b o hA
    rcases h.2 with ⟨e2, h1⟩ | ⟨g, cap, cur, e2, hb, hh, h2, _⟩
    · rw [e, hA] at e2
      cases e2
    · rw [e, hA] at e2
      cases e2
      exact ⟨hb, Box.lt hh, rfl, by rw [e, hA]; simp [Value.ownBlock]⟩
theorem OwnE.form {w : World} {base : Nat} {A : Option Addr} {n c : Nat} {l : List (Int × Int)} (h : OwnE w base (.slice A n c) l) : (A = none ∧ l = []) ∨ ∃ g, A = some ⟨g, 0, none⟩ ∧ base ≤ g ∧ g < w.heap.size := by
  rcases h.2 with ⟨e2, h1⟩ | ⟨g, cap, cur, e2, hb, hh, h2, _⟩
  · cases e2
    exact .inl ⟨rfl, List.eq_nil_of_length_eq_zero h1⟩
  · cases e2
    exact .inr ⟨g, rfl, hb, Box.lt hh⟩
theorem run_appE0 {w : World} {base : Nat} {v : Value} {l : List (Int × Int)} (h : OwnE w base v l) (ty : TypeId) (c : Nat) : (Builtin.append_ #[68, 68] ty #[v, .slice none 0 c]).run Try.prog w = .ok v w := by
  have hz := Try.sizeOf41
  rcases h.2 with ⟨rfl, _⟩ | ⟨g, cap, cur, rfl, _, _, hnc, _⟩
  · simp [Builtin.append_, run_underlying Try.underlying68, hz, Builtin.lenOf, Builtin.firstCells, Result.andThen, go_sem]
  · simp [Builtin.append_, run_underlying Try.underlying68, hz, Builtin.lenOf, Builtin.firstCells, Result.andThen, go_sem, hnc, storeCells]
theorem edgeV_app (l m : List (Int × Int)) : edgeV (l ++ m) = edgeV l ++ edgeV m := by simp [edgeV]

theorem wpList_appE (w : World) {ops : Array Oper} {rest : List Oper} {o : Oper} {a : Act} {Q : Exit → Act → World → Prop} (hg : o.guard = none) (s x : Operand)
    (hop : o.op = Op.call { callee := Callee.builtin Builtin.append, args := #[s, x], argTypes := #[68, 68] }) {base : Nat} {v : Value} {l : List (Int × Int)} (h : OwnE w base v l) (hs : a.eval s = v)
    (A : Option Addr) (m : Nat) (ys : List (Int × Int)) (c B : Nat) (hx : a.eval x = .slice A m c) (hm : m = ys.length) (hr : REdges w B A ys) (hl : l.length + ys.length ≤ 1000000) (hbase : base ≤ w.heap.size)
    (hK : ∀ (v' : Value) (w' : World), OwnE w' base v' (l ++ ys) → w.grownBy w' v.ownBlock → wpList Try.prog ops Q rest (a.put o.dst v') w') :
    wpList Try.prog ops Q (o :: rest) a w := by
  subst hm
  have hnone : ys = [] → A = none → wpList Try.prog ops Q (o :: rest) a w := fun e1 e2 => by
    subst e1 e2
    refine wpList_plain hg fun K hK2 => ?_
    have hrun := run_appE0 h o.type c
    have h2 := hK v w (by simpa using h) (World.grownBy.refl w _)
    unfold Oper.wp
    simp only [List.length_nil] at hx
    simp [execOp, hop, resolve, invoke, builtin, hs, hx, hrun, Result.andThen]
    exact hK2 _ _ h2
  have hsome : ∀ (ad : Addr), A = some ad → (∀ (j : Nat) (u : Value), (edgeV ys)[j]? = some u → w.cell? (ad.add j) = some u) → wpList Try.prog ops Q (o :: rest) a w := fun ad e hc => by
    subst e
    obtain ⟨i0, hi, hz0, hz1, hz2⟩ := info_parts Try.infoE41
    refine wpList_append_own w hg s x 68 hop base 41 i0 (.agg #[.int .i64 0, .int .i64 0]) 2 16 Try.underlying68 hi hz0 hz1 hz2 rfl (by decide) v l.length (edgeV l) hs h ad ys.length c (edgeV ys) hx (edgeV_len ys) hc
      (fun u hu => by
        simp only [edgeV, List.mem_flatMap] at hu
        obtain ⟨e, _, he⟩ := hu
        simp at he
        rcases he with rfl | rfl <;> rfl) (by unfold maxLen; omega) (by omega) hbase fun v' w' h1 h2 _ => ?_
    refine hK v' w' ?_ h2
    unfold OwnE
    rw [edgeV_app, List.length_append]
    exact h1
  cases hA : A with
  | none =>
    refine hnone ?_ hA
    rcases Nat.eq_zero_or_pos ys.length with h0 | h0
    · exact List.eq_nil_of_length_eq_zero h0
    · obtain ⟨b, o', _, _, e, _⟩ := hr.at_ (k := 0) h0
      rw [hA] at e
      cases e
  | some ad =>
    refine hsome ad hA fun j u hu => ?_
    rw [hA] at hr
    obtain ⟨b2, o2, e, _, hc⟩ := hr j u hu
    cases e
    rw [Go.WideShapes.add_plain]
    exact hc

/-- A list of pairs that has just been laid. -/
theorem OwnE.fresh (w : World) (base : Nat) (l : List (Int × Int)) (hb : base ≤ w.heap.size) (hl : l.length ≤ maxLen) : OwnE (w.alloc (Obj.cells (edgeV l).toArray 41)) base (.slice (some ⟨w.heap.size, 0, none⟩) l.length l.length) l := by
  refine ⟨edgeV_len l, .inr ⟨w.heap.size, l.length, (edgeV l).toArray, rfl, hb, heap_alloc_new w _, Nat.le_refl _, hl, by simp [edgeV_len], ?_⟩⟩
  rw [← edgeV_len, List.toList_toArray, List.take_length]

/-- The first k pairs of a row. -/
theorem edgeV_take (l : List (Int × Int)) (k : Nat) : edgeV (l.take k) = (edgeV l).take (k * 2) := by
  induction l generalizing k with
  | nil => simp [edgeV]
  | cons a l ih =>
    cases k with
    | zero => simp [edgeV]
    | succ k =>
      have h := ih k
      simp only [edgeV, List.take_succ_cons, List.flatMap_cons] at h ⊢
      rw [h, show (k + 1) * 2 = k * 2 + 1 + 1 by omega]
      simp
theorem REdges.take {w : World} {B : Nat} {A : Option Addr} {l : List (Int × Int)} (h : REdges w B A l) (k : Nat) : REdges w B A (l.take k) := fun j u hu => by
  rw [edgeV_take, List.getElem?_take] at hu
  split at hu
  · exact h j u hu
  · cases hu
theorem OwnE.more {w : World} {base base' : Nat} {v : Value} {l : List (Int × Int)} (h : OwnE w base v l) (hb : base' ≤ base) : OwnE w base' v l := by
  rcases h.2 with ⟨e, hl⟩ | ⟨g, cap, cur, rfl, hb0, hh, h2, h3, h4⟩
  · exact ⟨h.1, .inl ⟨e, hl⟩⟩
  · exact ⟨h.1, .inr ⟨g, cap, cur, rfl, by omega, hh, h2, h3, h4⟩⟩
theorem REdges.up' {w w' : World} {A : Option Addr} {l : List (Int × Int)} (h : REdges w w.heap.size A l) (hb : Below w.heap.size w w') : REdges w' w'.heap.size A l := (h.below hb).more hb.size
theorem REdges.drewN {w : World} {B : Nat} {A : Option Addr} {l : List (Int × Int)} (h : REdges w B A l) (n : Nat) : REdges (w.drewN n) B A l := Lies.drewN h n
end Go.Proofs.Ythbhengcinkepaa

namespace Go.Proofs.Ythbhengcinkepaa
open Go.RowKit

/-- The cells of a row of pairs. -/
def pairC (js : List (Int × Int)) : Array Value := (edgeV js).toArray
theorem pairC_at (js : List (Int × Int)) {i : Nat} (h : i < js.length) : (pairC js)[i * 2]? = some (.int .i64 (js.getD i (0, 0)).1) ∧ (pairC js)[i * 2 + 1]? = some (.int .i64 (js.getD i (0, 0)).2) := by
  have h1 := edgeV_at js i js[i] (List.getElem?_eq_getElem h)
  have e : js.getD i (0, 0) = js[i] := by rw [List.getD_eq_getElem?_getD, List.getElem?_eq_getElem h]; rfl
  unfold pairC
  rw [e, Nat.mul_comm i 2, List.getElem?_toArray, List.getElem?_toArray]
  exact h1
theorem edgeV_set (js : List (Int × Int)) (i : Nat) (x y : Int) : edgeV (js.set i (x, y)) = ((edgeV js).set (i * 2) (.int .i64 x)).set (i * 2 + 1) (.int .i64 y) := by
  induction js generalizing i with
  | nil => simp [edgeV]
  | cons a l ih =>
    cases i with
    | zero => simp [edgeV]
    | succ i =>
      have h := ih i
      simp only [edgeV] at h ⊢
      rw [List.set_cons_succ, List.flatMap_cons, List.flatMap_cons, h, show (i + 1) * 2 = i * 2 + 1 + 1 by omega]
      simp
theorem set_same {α : Type} {l : List α} {i : Nat} {v : α} (h : l[i]? = some v) : l.set i v = l := by
  obtain ⟨h1, h2⟩ := List.getElem?_eq_some_iff.1 h
  rw [← h2]
  exact List.set_getElem_self h1
theorem pairC_put0 (js : List (Int × Int)) {i : Nat} (h : i < js.length) (v : Int) : (pairC js).setIfInBounds (i * 2) (.int .i64 v) = pairC (js.set i (v, (js.getD i (0, 0)).2)) := by
  have h1 := (pairC_at js h).2
  unfold pairC at h1 ⊢
  rw [edgeV_set, List.setIfInBounds_toArray]
  congr 1
  symm
  refine set_same ?_
  rw [List.getElem?_set_ne (by omega)]
  simpa using h1
theorem pairC_put1 (js : List (Int × Int)) {i : Nat} (h : i < js.length) (v : Int) : (pairC js).setIfInBounds (i * 2 + 1) (.int .i64 v) = pairC (js.set i ((js.getD i (0, 0)).1, v)) := by
  have h1 := (pairC_at js h).1
  unfold pairC at h1 ⊢
  rw [edgeV_set, List.setIfInBounds_toArray]
  congr 1
  have h2 : (edgeV js).set (i * 2) (.int .i64 (js.getD i (0, 0)).1) = edgeV js := set_same (by simpa using h1)
  rw [h2]
theorem pairC_made (n : Nat) : madeCells #[Value.int .i64 0, Value.int .i64 0] (n * 2) = pairC (List.replicate n (0, 0)) := by
  have hl : (pairC (List.replicate n ((0 : Int), (0 : Int)))).size = n * 2 := by simp [pairC, edgeV_len]
  apply Array.ext
  · rw [hl]; simp [madeCells]
  intro j h1 h2
  rw [hl] at h2
  have h3 := pairC_at (List.replicate n ((0 : Int), (0 : Int))) (i := j / 2) (by simp; omega)
  have e : (List.replicate n ((0 : Int), (0 : Int))).getD (j / 2) (0, 0) = (0, 0) := by
    simp [List.getD_eq_getElem?_getD, show j / 2 < n by omega]
  rw [e] at h3
  have h4 : (pairC (List.replicate n ((0 : Int), (0 : Int))))[j]? = some (.int .i64 0) := by
    rcases Nat.mod_two_eq_zero_or_one j with h | h
    · have := h3.1; rw [show j / 2 * 2 = j by omega] at this; exact this
    · have := h3.2; rw [show j / 2 * 2 + 1 = j by omega] at this; exact this
  obtain ⟨h5, h6⟩ := Array.getElem?_eq_some_iff.1 h4
  rw [h6]
  rcases Nat.mod_two_eq_zero_or_one j with h | h
  · simp [madeCells, h]
  · simp [madeCells, h]
/-- Such a block as a row that is read. -/
theorem Box.edges {w : World} {g : Nat} {t : TypeId} {js : List (Int × Int)} (h : Box w g t (pairC js)) : REdges w w.heap.size (some ⟨g, 0, none⟩) js := fun j u hu => by
  refine ⟨g, 0, rfl, h.lt, ?_⟩
  rw [Nat.zero_add, h.cell j]
  unfold pairC
  rw [List.getElem?_toArray]
  exact hu
theorem make_ints1 (n : Nat) (hn : n ≤ 1000000) : ∀ w : World, (Instr.makeSlice 47 (.int .i64 n) (.int .i64 n)).run Try.prog w = .ok (.slice (some ⟨w.heap.size, 0, none⟩) n n) (w.alloc (.cells (madeCells (Value.int .i64 0).cells (n * 1)) 3)) := by
  obtain ⟨i0, hi, hz0, hz1, hz2⟩ := info_parts (show (Try.prog.info? 3).map (fun i => (i.zero, i.size, i.bytes)) = some (some (.int .i64 0), 1, 8) from by kernel_rfl)
  intro w
  have := run_make (P := Try.prog) w 47 3 i0 (.int .i64 0) Try.underlying47 hi hz0 .i64 .i64 n n (by omega) (by omega) (by rw [hz2]; omega) (by omega)
  rw [hz1] at this
  simpa using this
theorem make_pairs1 (n : Nat) (hn : n ≤ 1000000) : ∀ w : World, (Instr.makeSlice 68 (.int .i64 n) (.int .i64 n)).run Try.prog w = .ok (.slice (some ⟨w.heap.size, 0, none⟩) n n) (w.alloc (.cells (madeCells (Value.agg #[.int .i64 0, .int .i64 0]).cells (n * 2)) 41)) := by
  obtain ⟨i0, hi, hz0, hz1, hz2⟩ := info_parts (show (Try.prog.info? 41).map (fun i => (i.zero, i.size, i.bytes)) = some (some (.agg #[.int .i64 0, .int .i64 0]), 2, 16) from by kernel_rfl)
  intro w
  have := run_make (P := Try.prog) w 68 41 i0 (.agg #[.int .i64 0, .int .i64 0]) Try.underlying68 hi hz0 .i64 .i64 n n (by omega) (by omega) (by rw [hz2]; omega) (by omega)
  rw [hz1] at this
  simpa using this
end Go.Proofs.Ythbhengcinkepaa
