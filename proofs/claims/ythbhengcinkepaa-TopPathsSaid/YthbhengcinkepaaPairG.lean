/- The function Grid of package light. -/
import Derived.Test.YthbhengcinkepaaLig6
namespace Go.Proofs.Ythbhengcinkepaa.Lig
open Go.RowKit Lamp

/-- A row of pairs of one's own, in memory from base on. -/
def OwnE (w : World) (base : Nat) (v : Value) (l : List (Int × Int)) : Prop := w.ownsRow base 41 2 v l.length (edgeV l)
theorem OwnE.nil_ (w : World) (base : Nat) : OwnE w base (.slice none 0 0) [] := ⟨by simp [edgeV], .inl ⟨rfl, rfl⟩⟩
theorem OwnE.blk {w : World} {base : Nat} {v : Value} {l : List (Int × Int)} (h : OwnE w base v l) : ∀ g, v.ownBlock = some g → base ≤ g := by
  intro g hg
  rcases h.2 with ⟨rfl, _⟩ | ⟨g', cap, cur, rfl, hb, _⟩
  · cases hg
  · have : g' = g := by simpa [Value.ownBlock] using hg
    subst this
    exact hb
theorem edgeV_snoc (l : List (Int × Int)) (x y : Int) : edgeV (l ++ [(x, y)]) = edgeV l ++ [Value.int .i64 x, Value.int .i64 y] := by simp [edgeV]
theorem edgeV_len (l : List (Int × Int)) : (edgeV l).length = l.length * 2 := by
  induction l with
  | nil => rfl
  | cons a l ih => simp [edgeV] at ih ⊢; omega
theorem OwnE.reads {w : World} {b : Nat} {v : Value} {l : List (Int × Int)} (h : OwnE w b v l) : ∃ A c, v = .slice A l.length c ∧ REdges w w.heap.size A l := by
  rcases h.2 with ⟨rfl, h1⟩ | ⟨g, cap, cur, e, hb, hh, h2, h3, h4⟩
  · exact ⟨none, 0, by rw [h1], fun j u hu => by rw [List.length_eq_zero_iff.1 h1] at hu; simp [edgeV] at hu⟩
  · refine ⟨_, cap, e, fun j u hu => ?_⟩
    have hbx : Box w g 41 cur := hh
    refine ⟨g, 0, rfl, hbx.lt, ?_⟩
    rw [Nat.zero_add, hbx.cell j]
    have hj : j < l.length * 2 := by
      have := (List.getElem?_eq_some_iff.1 hu).1
      rw [edgeV_len] at this
      exact this
    have h5 : (List.take (l.length * 2) cur.toList)[j]? = some u := by rw [h4.2]; exact hu
    rw [List.getElem?_take, if_pos hj] at h5
    simpa using h5

/-- The edges of a grid, of the first k lamps. -/
def gridK (r c : Nat) : Nat → List (Int × Int)
  | 0 => []
  | k + 1 => (gridK r c k ++ if k % c < c - 1 then [((k : Int), ((k + 1 : Nat) : Int))] else []) ++ if k / c < r - 1 then [((k : Int), ((k + c : Nat) : Int))] else []
def gridL (r c : Nat) : List (Int × Int) := gridK r c (r * c)
theorem gridK_len (r c k : Nat) : (gridK r c k).length ≤ 2 * k := by
  induction k with
  | zero => simp [gridK]
  | succ k ih =>
    unfold gridK
    rw [List.length_append, List.length_append]
    split <;> split <;> simp <;> omega

theorem Try.info41 : (Try.prog.info? 41).map (fun i => (i.zero, i.size, i.bytes)) = some (some (.agg #[.int .i64 0, .int .i64 0]), 2, 16) := by kernel_rfl

/-- What appending one pair leaves. -/
theorem OwnE.add {w9 : World} {base : Nat} {v9 : Value} {l : List (Int × Int)} {x y : Int} (h : w9.ownsRow base 41 2 v9 (l.length + 1) (edgeV l ++ [Value.int .i64 x, Value.int .i64 y])) : OwnE w9 base v9 (l ++ [(x, y)]) := by
  unfold OwnE
  rw [List.length_append, edgeV_snoc]
  exact h

/-- The append of one pair to a row of one's own. -/
theorem wpList_addE (w : World) {ops : Array Oper} {rest : List Oper} {o : Oper} {a : Act} {Q : Exit → Act → World → Prop} (hg : o.guard = none) (s x : Operand)
    (hop : o.op = Op.call { callee := Callee.builtin Builtin.append, args := #[s, x], argTypes := #[68, 68] }) {base : Nat} {v : Value} {l : List (Int × Int)} (h : OwnE w base v l) (hs : a.eval s = v)
    (ad c : Nat) (p q : Int) (hx : a.eval x = .slice (some ⟨ad, 0, none⟩) 1 c) (hb : Box w ad 41 #[.int .i64 p, .int .i64 q]) (hl : l.length ≤ 1000000) (hbase : base ≤ w.heap.size)
    (hK : ∀ (v' : Value) (w' : World), OwnE w' base v' (l ++ [(p, q)]) → w.grownBy w' v.ownBlock → wpList Try.prog ops Q rest (a.put o.dst v') w') :
    wpList Try.prog ops Q (o :: rest) a w := by
  obtain ⟨i0, hi, hz0, hz1, hz2⟩ := info_parts Try.info41
  refine wpList_append_own w hg s x 68 hop base 41 i0 (.agg #[.int .i64 0, .int .i64 0]) 2 16 Try.underlying68 hi hz0 hz1 hz2 rfl (by decide) v l.length (edgeV l) hs h ⟨ad, 0, none⟩ 1 c [.int .i64 p, .int .i64 q] hx rfl (World.news_of_block (cs := #[.int .i64 p, .int .i64 q]) (t := 41) (fr := (0, 0)) hb) (by simp [Value.oneCell']) (by unfold maxLen; omega) (by omega) hbase ?_
  intro v' w' h1 h2 _
  exact hK v' w' (OwnE.add h1) h2

end Go.Proofs.Ythbhengcinkepaa.Lig
