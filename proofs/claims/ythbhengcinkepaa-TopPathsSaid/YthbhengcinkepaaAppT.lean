/- Numbers brought below a limit, as the statements do it. · An append of a slice of triples to a row of triples of one's own. -/
import Derived.Test.YthbhengcinkepaaMem
import Derived.IntWalk
import Derived.Test.YthbhengcinkepaaTri
import Derived.Test.YthbhengcinkepaaOpen
namespace Go.Proofs.Ythbhengcinkepaa

/-- A number brought below m, as the statements do it. -/
def remN (x : Int) (m : Nat) : Nat := (IntKind.u64.wrap x % (m : Int)).toNat
theorem remN_lt (x : Int) {m : Nat} (h : 1 ≤ m) : remN x m < m := by
  have h1 := Int.emod_nonneg (IntKind.u64.wrap x) (b := (m : Int)) (by omega)
  have h2 := Int.emod_lt_of_pos (IntKind.u64.wrap x) (b := (m : Int)) (by omega)
  unfold remN; omega
theorem remN_tmod (x : Int) {m : Nat} (h : 1 ≤ m) : (IntKind.u64.wrap x).tmod (m : Int) = ((remN x m : Nat) : Int) := by
  have h0 : 0 ≤ IntKind.u64.wrap x := by
    simp only [IntKind.wrap, IntKind.signed, Bool.false_and, Bool.false_eq_true, if_false]
    exact Int.emod_nonneg _ (by decide)
  have h1 := Int.emod_nonneg (IntKind.u64.wrap x) (b := (m : Int)) (by omega)
  rw [Int.tmod_eq_emod_of_nonneg h0]
  unfold remN; omega
theorem rem_i64 (x : Int) {m : Nat} (h1 : 1 ≤ m) (hm : m ≤ 65536) : IntKind.i64.wrap ((IntKind.u64.wrap x).tmod (m : Int)) = ((remN x m : Nat) : Int) := by
  rw [remN_tmod x h1]; have := remN_lt x h1; exact IntWalk.i64_in _ (by omega)
end Go.Proofs.Ythbhengcinkepaa

namespace Go.Proofs.Ythbhengcinkepaa
open Go.RowKit

theorem OwnT.caps {t : TypeId} {w : World} {base : Nat} {v : Value} {l : List Tri} (h : OwnT t w base v l) : ∃ A c, v = .slice A l.length c ∧ l.length ≤ c ∧ RTri w w.heap.size A l ∧ ∀ b o, A = some ⟨b, o, none⟩ → base ≤ b ∧ b < w.heap.size ∧ o = 0 ∧ v.ownBlock = some b := by
  obtain ⟨A, c, e, hr⟩ := h.reads
  refine ⟨A, c, e, ?_, hr, ?_⟩
  · rcases h.2 with ⟨e2, h1⟩ | ⟨g, cap, cur, e2, _, _, h2, _⟩
    · omega
    · rw [e] at e2
      cases e2
      exact h2
  · intro b o hA
    rcases h.2 with ⟨e2, h1⟩ | ⟨g, cap, cur, e2, hb, hh, h2, _⟩
    · rw [e, hA] at e2
      cases e2
    · rw [e, hA] at e2
      cases e2
      exact ⟨hb, Box.lt hh, rfl, by rw [e, hA]; simp [Value.ownBlock]⟩
theorem OwnT.form {t : TypeId} {w : World} {base : Nat} {A : Option Addr} {n c : Nat} {l : List Tri} (h : OwnT t w base (.slice A n c) l) : (A = none ∧ l = []) ∨ ∃ g, A = some ⟨g, 0, none⟩ ∧ base ≤ g ∧ g < w.heap.size := by
  rcases h.2 with ⟨e2, h1⟩ | ⟨g, cap, cur, e2, hb, hh, h2, _⟩
  · cases e2
    exact .inl ⟨rfl, List.eq_nil_of_length_eq_zero h1⟩
  · cases e2
    exact .inr ⟨g, rfl, hb, Box.lt hh⟩
theorem run_appT0 {w : World} {base : Nat} {v : Value} {l : List Tri} (h : OwnT 30 w base v l) (ty : TypeId) (c : Nat) : (Builtin.append_ #[22, 22] ty #[v, .slice none 0 c]).run Try.prog w = .ok v w := by
  have hz := Try.sizeOf30
  rcases h.2 with ⟨rfl, _⟩ | ⟨g, cap, cur, rfl, _, _, hnc, _⟩
  · simp [Builtin.append_, run_underlying Try.underlying22, hz, Builtin.lenOf, Builtin.firstCells, Result.andThen, go_sem]
  · simp [Builtin.append_, run_underlying Try.underlying22, hz, Builtin.lenOf, Builtin.firstCells, Result.andThen, go_sem, hnc, storeCells]
theorem triV_app (l m : List Tri) : triV (l ++ m) = triV l ++ triV m := by simp [triV]

theorem wpList_appT (w : World) {ops : Array Oper} {rest : List Oper} {o : Oper} {a : Act} {Q : Exit → Act → World → Prop} (hg : o.guard = none) (s x : Operand)
    (hop : o.op = Op.call { callee := Callee.builtin Builtin.append, args := #[s, x], argTypes := #[22, 22] }) {base : Nat} {v : Value} {l : List Tri} (h : OwnT 30 w base v l) (hs : a.eval s = v)
    (A : Option Addr) (m : Nat) (ys : List Tri) (c B : Nat) (hx : a.eval x = .slice A m c) (hm : m = ys.length) (hr : RTri w B A ys) (hl : l.length + ys.length ≤ 1000000) (hbase : base ≤ w.heap.size)
    (hK : ∀ (v' : Value) (w' : World), OwnT 30 w' base v' (l ++ ys) → w.grownBy w' v.ownBlock → wpList Try.prog ops Q rest (a.put o.dst v') w') :
    wpList Try.prog ops Q (o :: rest) a w := by
  subst hm
  have hnone : ys = [] → A = none → wpList Try.prog ops Q (o :: rest) a w := fun e1 e2 => by
    subst e1 e2
    refine wpList_plain hg fun K hK2 => ?_
    have hrun := run_appT0 h o.type c
    have h2 := hK v w (by simpa using h) (World.grownBy.refl w _)
    unfold Oper.wp
    simp only [List.length_nil] at hx
    simp [execOp, hop, resolve, invoke, builtin, hs, hx, hrun, Result.andThen]
    exact hK2 _ _ h2
  have hsome : ∀ (ad : Addr), A = some ad → (∀ (j : Nat) (u : Value), (triV ys)[j]? = some u → w.cell? (ad.add j) = some u) → wpList Try.prog ops Q (o :: rest) a w := fun ad e hc => by
    subst e
    obtain ⟨i0, hi, hz0, hz1, hz2⟩ := info_parts Try.info30
    refine wpList_append_own w hg s x 22 hop base 30 i0 (.agg #[.int .i64 0, .int .i64 0, .int .i64 0]) 3 24 Try.underlying22 hi hz0 hz1 hz2 rfl (by decide) v l.length (triV l) hs h ad ys.length c (triV ys) hx (triV_len ys) hc
      (fun u hu => by
        simp only [triV, List.mem_flatMap] at hu
        obtain ⟨e, _, he⟩ := hu
        simp at he
        rcases he with rfl | rfl | rfl <;> rfl) (by unfold maxLen; omega) (by omega) hbase fun v' w' h1 h2 _ => ?_
    refine hK v' w' ?_ h2
    unfold OwnT
    rw [triV_app, List.length_append]
    exact h1
  cases hA : A with
  | none =>
    refine hnone ?_ hA
    rcases Nat.eq_zero_or_pos ys.length with h0 | h0
    · exact List.eq_nil_of_length_eq_zero h0
    · obtain ⟨b, o', _, _, _, e, _⟩ := hr.at_ (k := 0) h0
      rw [hA] at e
      cases e
  | some ad =>
    refine hsome ad hA fun j u hu => ?_
    rw [hA] at hr
    obtain ⟨b2, o2, e, _, hc⟩ := hr j u hu
    cases e
    rw [Go.WideShapes.add_plain]
    exact hc

/-- A list of triples that has just been laid. -/
theorem OwnT.fresh (t : TypeId) (w : World) (base : Nat) (l : List Tri) (hb : base ≤ w.heap.size) (hl : l.length ≤ maxLen) : OwnT t (w.alloc (Obj.cells (triV l).toArray t)) base (.slice (some ⟨w.heap.size, 0, none⟩) l.length l.length) l := by
  refine ⟨triV_len l, .inr ⟨w.heap.size, l.length, (triV l).toArray, rfl, hb, heap_alloc_new w _, Nat.le_refl _, hl, by simp [triV_len], ?_⟩⟩
  rw [← triV_len, List.toList_toArray, List.take_length]

/-- The first k triples of a row, and those from k on. -/
theorem triV_take (l : List Tri) (k : Nat) : triV (l.take k) = (triV l).take (k * 3) := by
  induction l generalizing k with
  | nil => simp [triV]
  | cons a l ih =>
    cases k with
    | zero => simp [triV]
    | succ k =>
      have h := ih k
      simp only [triV, List.take_succ_cons, List.flatMap_cons] at h ⊢
      rw [h, show (k + 1) * 3 = k * 3 + 1 + 1 + 1 by omega]
      simp
theorem triV_drop (l : List Tri) (k : Nat) : triV (l.drop k) = (triV l).drop (k * 3) := by
  induction l generalizing k with
  | nil => simp [triV]
  | cons a l ih =>
    cases k with
    | zero => simp [triV]
    | succ k =>
      have h := ih k
      simp only [triV, List.drop_succ_cons, List.flatMap_cons] at h ⊢
      rw [h, show (k + 1) * 3 = k * 3 + 1 + 1 + 1 by omega]
      simp
theorem RTri.take {w : World} {B : Nat} {A : Option Addr} {l : List Tri} (h : RTri w B A l) (k : Nat) : RTri w B A (l.take k) := fun j u hu => by
  rw [triV_take, List.getElem?_take] at hu
  split at hu
  · exact h j u hu
  · cases hu
theorem RTri.drop {w : World} {B b o : Nat} {l : List Tri} (h : RTri w B (some ⟨b, o, none⟩) l) (k : Nat) : RTri w B (some ⟨b, o + k * 3, none⟩) (l.drop k) := fun j u hu => by
  rw [triV_drop, List.getElem?_drop] at hu
  obtain ⟨b2, o2, e, hb, hc⟩ := h _ u hu
  cases e
  exact ⟨b, o + k * 3, rfl, hb, by rw [Nat.add_assoc]; exact hc⟩
theorem RTri.dropIf {w : World} {B b c j : Nat} {l : List Tri} (h : RTri w B (some ⟨b, 0, none⟩) l) (hc : l.length ≤ c) : RTri w B (if c = j then some ⟨b, 0, none⟩ else some ⟨b, j * 3, none⟩) (l.drop j) := by
  by_cases e : c = j
  · rw [List.drop_eq_nil_of_le (by omega)]
    exact RTri.nil_
  · rw [if_neg e]
    have h2 := h.drop j
    rw [Nat.zero_add] at h2
    exact h2
end Go.Proofs.Ythbhengcinkepaa
