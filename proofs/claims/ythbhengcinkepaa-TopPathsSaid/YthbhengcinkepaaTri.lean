/- Rows of triples of integers in memory: read, and of one's own. -/
import Derived.Test.YthbhengcinkepaaMem
import Derived.Test.YthbhengcinkepaaBoxes
namespace Go.Proofs.Ythbhengcinkepaa
open Go.RowKit

/-- Three integers: a line of a board, or a jump. -/
abbrev Tri := Int × Int × Int
/-- The triples' numbers, one behind the other. -/
def triV (l : List Tri) : List Value := l.flatMap fun e => [Value.int .i64 e.1, Value.int .i64 e.2.1, Value.int .i64 e.2.2]
def RTri (w : World) (B : Nat) (A : Option Addr) (l : List Tri) : Prop := Lies w B A (triV l)
theorem triV_at (l : List Tri) (k : Nat) (e : Tri) (h : l[k]? = some e) : (triV l)[3 * k]? = some (Value.int .i64 e.1) ∧ (triV l)[3 * k + 1]? = some (Value.int .i64 e.2.1) ∧ (triV l)[3 * k + 2]? = some (Value.int .i64 e.2.2) := by
  induction l generalizing k with
  | nil => simp at h
  | cons a l ih =>
    cases k with
    | zero => simp at h; subst h; exact ⟨rfl, rfl, rfl⟩
    | succ k => exact ih k (by simpa using h)
theorem RTri.at_ {w : World} {B : Nat} {A : Option Addr} {l : List Tri} {k : Nat} (h : RTri w B A l) (hk : k < l.length) : ∃ b o x y z, A = some ⟨b, o, none⟩ ∧ b < B ∧ l[k]? = some (x, y, z) ∧ w.cell? ⟨b, o + k * 3, none⟩ = some (.int .i64 x) ∧ w.cell? ⟨b, o + k * 3 + 1, none⟩ = some (.int .i64 y) ∧ w.cell? ⟨b, o + k * 3 + 2, none⟩ = some (.int .i64 z) := by
  have h0 : l[k]? = some l[k] := List.getElem?_eq_getElem hk
  obtain ⟨h1, h2, h3⟩ := triV_at l k _ h0
  obtain ⟨b, o, e, hb, hc⟩ := h _ _ h1
  obtain ⟨b', o', e', _, hc'⟩ := h _ _ h2
  obtain ⟨b3, o3, e3, _, hc3⟩ := h _ _ h3
  rw [e] at e' e3
  cases e'
  cases e3
  rw [Nat.mul_comm] at hc hc' hc3
  exact ⟨b, o, _, _, _, e, hb, h0, hc, by rw [Nat.add_assoc]; exact hc', by rw [Nat.add_assoc]; exact hc3⟩
theorem RTri.below {w w' : World} {B : Nat} {A : Option Addr} {l : List Tri} (h : RTri w B A l) (hb : Below B w w') : RTri w' B A l := Lies.below h hb
theorem RTri.more {w : World} {B B' : Nat} {A : Option Addr} {l : List Tri} (h : RTri w B A l) (hb : B ≤ B') : RTri w B' A l := Lies.more h hb
theorem RTri.drewN {w : World} {B : Nat} {A : Option Addr} {l : List Tri} (h : RTri w B A l) (n : Nat) : RTri (w.drewN n) B A l := Lies.drewN h n
theorem RTri.nil_ {w : World} {B : Nat} {A : Option Addr} : RTri w B A [] := Lies.nil_

/-- A row of triples of one's own (of elements of type t), in memory from base on. -/
def OwnT (t : TypeId) (w : World) (base : Nat) (v : Value) (l : List Tri) : Prop := w.ownsRow base t 3 v l.length (triV l)
section
variable {t : TypeId} {w w' : World} {base : Nat} {v : Value} {l : List Tri}
theorem OwnT.nil_ (t : TypeId) (w : World) (base : Nat) : OwnT t w base (.slice none 0 0) [] := ⟨by simp [triV], .inl ⟨rfl, rfl⟩⟩
theorem OwnT.blk (h : OwnT t w base v l) : ∀ g, v.ownBlock = some g → base ≤ g ∧ g < w.heap.size ∧ ∃ cur, Box w g t cur := by
  intro g hg
  rcases h.2 with ⟨rfl, _⟩ | ⟨g', cap, cur, rfl, hb, hh, _⟩
  · cases hg
  · have : g' = g := by simpa [Value.ownBlock] using hg
    subst this
    exact ⟨hb, Box.lt hh, cur, hh⟩
theorem OwnT.alloc (h : OwnT t w base v l) (o : Obj) : OwnT t (w.alloc o) base v l := World.ownsRow.alloc h o
theorem OwnT.drewN (h : OwnT t w base v l) (n : Nat) : OwnT t (w.drewN n) base v l := h
theorem OwnT.turn {X : Nat → Prop} (h : OwnT t w base v l) (hT : Turn X w w') (hx : ∀ g, v.ownBlock = some g → ¬ X g) : OwnT t w' base v l := by
  rcases h.2 with ⟨e, hl⟩ | ⟨g, cap, cur, rfl, hb, hh, h2, h3, h4⟩
  · exact ⟨h.1, .inl ⟨e, hl⟩⟩
  · exact ⟨h.1, .inr ⟨g, cap, cur, rfl, hb, Box.turn hh hT (hx g (by simp [Value.ownBlock])), h2, h3, h4⟩⟩
theorem OwnT.below {B : Nat} (h : OwnT t w base v l) (hb : Below B w w') (hB : ∀ g, v.ownBlock = some g → g < B) : OwnT t w' base v l := by
  rcases h.2 with ⟨e, hl⟩ | ⟨g, cap, cur, rfl, hb0, hh, h2, h3, h4⟩
  · exact ⟨h.1, .inl ⟨e, hl⟩⟩
  · exact ⟨h.1, .inr ⟨g, cap, cur, rfl, hb0, Box.below hh hb (hB g (by simp [Value.ownBlock])), h2, h3, h4⟩⟩
theorem OwnT.far (h : OwnT t w base v l) {g : Nat} {t' : TypeId} {cs : Array Value} (hb : Box w g t' cs) (ht : t' ≠ t) (j : Nat) (u : Value) : OwnT t (w.setCell ⟨g, j, none⟩ u) base v l := by
  refine World.ownsRow.kept h (row := some g) ?_ ?_
  · exact ⟨rfl, rfl, rfl, by simp, fun i hi hne => heap_setCell_other w _ i u (fun e => hne (by rw [e]))⟩
  · refine .inr fun e => ?_
    obtain ⟨_, _, cur, hc⟩ := h.blk g e
    exact hb.ne hc ht rfl
theorem OwnT.more {base' : Nat} (h : OwnT t w base v l) (hb : base' ≤ base) : OwnT t w base' v l := by
  rcases h.2 with ⟨e, hl⟩ | ⟨g, cap, cur, rfl, hb0, hh, h2, h3, h4⟩
  · exact ⟨h.1, .inl ⟨e, hl⟩⟩
  · exact ⟨h.1, .inr ⟨g, cap, cur, rfl, by omega, hh, h2, h3, h4⟩⟩
theorem triV_snoc (l : List Tri) (x : Tri) : triV (l ++ [x]) = triV l ++ [Value.int .i64 x.1, Value.int .i64 x.2.1, Value.int .i64 x.2.2] := by simp [triV]
theorem triV_len (l : List Tri) : (triV l).length = l.length * 3 := by
  induction l with
  | nil => rfl
  | cons a l ih => simp [triV] at ih ⊢; omega
theorem OwnT.reads (h : OwnT t w base v l) : ∃ A c, v = .slice A l.length c ∧ RTri w w.heap.size A l := by
  rcases h.2 with ⟨rfl, h1⟩ | ⟨g, cap, cur, e, hb, hh, h2, h3, h4⟩
  · exact ⟨none, 0, by rw [h1], fun j u hu => by rw [List.length_eq_zero_iff.1 h1] at hu; simp [triV] at hu⟩
  · refine ⟨_, cap, e, fun j u hu => ?_⟩
    have hbx : Box w g t cur := hh
    refine ⟨g, 0, rfl, hbx.lt, ?_⟩
    rw [Nat.zero_add, hbx.cell j]
    have hj : j < l.length * 3 := by
      have := (List.getElem?_eq_some_iff.1 hu).1
      rw [triV_len] at this
      exact this
    have h5 : (List.take (l.length * 3) cur.toList)[j]? = some u := by rw [h4.2]; exact hu
    rw [List.getElem?_take, if_pos hj] at h5
    simpa using h5
theorem OwnT.add {x : Tri} (h : w.ownsRow base t 3 v (l.length + 1) (triV l ++ [Value.int .i64 x.1, Value.int .i64 x.2.1, Value.int .i64 x.2.2])) : OwnT t w base v (l ++ [x]) := by
  unfold OwnT
  rw [List.length_append, triV_snoc]
  exact h
end

theorem Try.info30 : (Try.prog.info? 30).map (fun i => (i.zero, i.size, i.bytes)) = some (some (.agg #[.int .i64 0, .int .i64 0, .int .i64 0]), 3, 24) := by kernel_rfl

/-- The append of one triple to a row of one's own. -/
theorem wpList_addT (w : World) {ops : Array Oper} {rest : List Oper} {o : Oper} {a : Act} {Q : Exit → Act → World → Prop} (hg : o.guard = none) (s x : Operand)
    (hop : o.op = Op.call { callee := Callee.builtin Builtin.append, args := #[s, x], argTypes := #[22, 22] }) {base : Nat} {v : Value} {l : List Tri} (h : OwnT 30 w base v l) (hs : a.eval s = v)
    (ad c : Nat) (p q r : Int) (hx : a.eval x = .slice (some ⟨ad, 0, none⟩) 1 c) (hb : Box w ad 30 #[.int .i64 p, .int .i64 q, .int .i64 r]) (hl : l.length ≤ 1000000) (hbase : base ≤ w.heap.size)
    (hK : ∀ (v' : Value) (w' : World), OwnT 30 w' base v' (l ++ [(p, q, r)]) → w.grownBy w' v.ownBlock → wpList Try.prog ops Q rest (a.put o.dst v') w') :
    wpList Try.prog ops Q (o :: rest) a w := by
  obtain ⟨i0, hi, hz0, hz1, hz2⟩ := info_parts Try.info30
  refine wpList_append_own w hg s x 22 hop base 30 i0 (.agg #[.int .i64 0, .int .i64 0, .int .i64 0]) 3 24 Try.underlying22 hi hz0 hz1 hz2 rfl (by decide) v l.length (triV l) hs h ⟨ad, 0, none⟩ 1 c [.int .i64 p, .int .i64 q, .int .i64 r] hx rfl (World.news_of_block (cs := #[.int .i64 p, .int .i64 q, .int .i64 r]) (t := 30) (fr := (0, 0)) hb) (by simp [Value.oneCell']) (by unfold maxLen; omega) (by omega) hbase ?_
  intro v' w' h1 h2 _
  exact hK v' w' (OwnT.add h1) h2
end Go.Proofs.Ythbhengcinkepaa
