/- The statements' function die: a copy of the first nine numbers of a list, in memory of its own. · The append of some integers, wherever they lie, to a row of one's own, nil let in. -/
import Derived.Test.YtkkholagmjcgiaaRingOf
namespace Go.Proofs.Ytkkholagmjcgiaa
open Go.RowKit

theorem ownsRow_base {w : World} {base base' n sz : Nat} {e : TypeId} {v : Value} {xs : List Value} (h : w.ownsRow base e sz v n xs) (hb : base' ≤ base) : w.ownsRow base' e sz v n xs := by
  rcases h.2 with ⟨e1, hn⟩ | ⟨g, cap, cur, e1, hb2, hh⟩
  · exact ⟨h.1, .inl ⟨e1, hn⟩⟩
  · exact ⟨h.1, .inr ⟨g, cap, cur, e1, by omega, hh⟩⟩
/-- An append of nothing to nil. -/
theorem run_append_none (A : Option Addr) (c : Nat) (w : World) : (Builtin.append_ #[36, 36] 36 #[.slice none 0 0, .slice A 0 c]).run Try.prog w = .ok (.slice none 0 0) w := by
  have hz := Try.sizeOf3
  cases A <;> simp [Builtin.append_, run_underlying Try.underlying36, hz, Builtin.lenOf, Builtin.firstCells, Result.andThen, go_sem]

set_option maxRecDepth 100000 in
set_option maxHeartbeats 1000000 in
theorem die_any (A : Option Addr) (l : List Int) (c : Nat) (w : World) (hr : RInts w w.heap.size A l) (hc : l.length ≤ c) (hm : l.length ≤ 9223372036854775807) :
    Calls Try.prog 32 #[.slice A l.length c] w fun e w' => ∃ v, e = .returned v ∧ OwnV w' v (l.take 9) ∧ (∀ b, v.ownBlock = some b → w.heap.size ≤ b) ∧ Below w.heap.size w w' := by
  rcases Nat.eq_zero_or_pos l.length with h0 | hpos
  · have hl := List.length_eq_zero_iff.1 h0
    subst hl
    have hci : (0 : Int) ≤ (c : Int) := by omega
    have hmin : min (0 : Int) 9 = 0 := by decide
    have hap := run_append_none A c w
    clear hr
    simp only [List.length_nil]
    go_enter Try.func32, Try.ntmps32
    cases A with
    | none =>
      go_wp2_with fail
      go_ret
      exact ⟨_, rfl, OwnV.nil_ _, (fun b hb => by cases hb), Below.refl _ _⟩
    | some a =>
      go_wp2_with fail
      go_ret
      exact ⟨_, rfl, OwnV.nil_ _, (fun b hb => by cases hb), Below.refl _ _⟩
  · obtain ⟨b, o, x, hA, hb, _, _⟩ := hr.at_ (k := 0) hpos
    subst hA
    obtain ⟨i0, hi, hz0, hz1, hz2⟩ := info_parts Try.info3
    obtain ⟨m, hmn⟩ : ∃ m, m = min l.length 9 := ⟨_, rfl⟩
    have HN := Lib.hid (show ∀ (j : Nat) (u : Value), ((l.take 9).map (Value.int .i64))[j]? = some u → w.cell? ((⟨b, o, none⟩ : Addr).add j) = some u from fun j u hu => by
      rw [List.map_take, List.getElem?_take] at hu
      split at hu
      · obtain ⟨b2, o2, e, _, hc2⟩ := hr j u hu
        cases e
        have e2 : (⟨b, o, none⟩ : Addr).add j = ⟨b, o + j, none⟩ := by cases j <;> simp [Addr.add]
        rw [e2]
        exact hc2
      · cases hu)
    have HL := Lib.hid (show ((l.take 9).map (Value.int .i64)).length = m * 1 by simp [hmn]; omega)
    have HO := Lib.hid (show ∀ u ∈ (l.take 9).map (Value.int .i64), u.oneCell' = true from fun u hu => by
      obtain ⟨z, _, rfl⟩ := List.mem_map.1 hu
      rfl)
    have HT := Lib.hid (show (l.take 9).length = m by simp [hmn]; omega)
    have hm9 : m ≤ 9 ∧ m ≤ l.length ∧ 1 ≤ m := by omega
    have hk1 : 0 + m ≤ maxLen := by unfold maxLen; omega
    have hk2 : (0 + m) * 8 ≤ 140737488355328 := by omega
    have H0 := Lib.hid (show w.ownsRow w.heap.size 3 1 (.slice none 0 0) 0 [] from ⟨by simp, .inl ⟨rfl, rfl⟩⟩)
    have hmi : (0 : Int) ≤ (m : Int) := by omega
    have hmc : (m : Int) ≤ (c : Int) := by omega
    have hmin : min (l.length : Int) 9 = (m : Int) := by omega
    clear hr hmn
    go_enter Try.func32, Try.ntmps32
    go_wp2_with (first
      | (at_builtin; refine wpList_append_own _ rfl _ _ 36 rfl w.heap.size 3 i0 (.int .i64 0) 1 8 Try.underlying36 hi hz0 hz1 hz2 rfl (by decide) _ _ _ rfl H0.out ⟨b, o, none⟩ m c ((l.take 9).map (Value.int .i64)) rfl HL.out HN.out HO.out hk1 hk2 (Nat.le_refl _) ?_; intro v9 w9 hown9 hg9 _))
    go_ret
    refine ⟨v9, rfl, ?_, ?_, ?_⟩
    · have h1 := ownsRow_base hown9 (Nat.zero_le _)
      unfold OwnV
      rw [HT.out]
      simpa using h1
    · intro g hg
      rcases hown9.2 with ⟨h1, _⟩ | ⟨g', cap, cur, e, hb2, _⟩
      · subst h1
        cases hg
      · subst e
        have e2 : g' = g := by simpa [Value.ownBlock] using hg
        omega
    · exact (Below.refl _ w).grown hg9 (Nat.le_refl _) (fun k hk => by cases hk)

end Go.Proofs.Ytkkholagmjcgiaa

namespace Go.Proofs.Ytkkholagmjcgiaa
open Go.RowKit

theorem run_appV0 {w : World} {v : Value} {zs : List Int} (h : OwnV w v zs) (ty : TypeId) (c : Nat) : (Builtin.append_ #[36, 36] ty #[v, .slice none 0 c]).run Try.prog w = .ok v w := by
  have hz := Try.sizeOf3
  rcases h.2 with ⟨rfl, _⟩ | ⟨g, cap, cur, rfl, _, _, hnc, _⟩
  · simp [Builtin.append_, run_underlying Try.underlying36, hz, Builtin.lenOf, Builtin.firstCells, Result.andThen, go_sem]
  · simp [Builtin.append_, run_underlying Try.underlying36, hz, Builtin.lenOf, Builtin.firstCells, Result.andThen, go_sem, hnc, storeCells]

theorem rints_cells {w : World} {B b o : Nat} {ys : List Int} (h : RInts w B (some ⟨b, o, none⟩) ys) : ∀ (j : Nat) (u : Value), (ys.map (Value.int .i64))[j]? = some u → w.cell? ((⟨b, o, none⟩ : Addr).add j) = some u := fun j u hu => by
  obtain ⟨b2, o2, e, _, hc⟩ := h j u hu
  cases e
  rw [Go.WideShapes.add_plain]
  exact hc

theorem wpList_appV (w : World) {ops : Array Oper} {rest : List Oper} {o : Oper} {a : Act} {Q : Exit → Act → World → Prop} (hg : o.guard = none) (s x : Operand)
    (hop : o.op = Op.call { callee := Callee.builtin Builtin.append, args := #[s, x], argTypes := #[36, 36] }) {v : Value} {zs : List Int} (h : OwnV w v zs) (hs : a.eval s = v)
    (A : Option Addr) (m : Nat) (ys : List Int) (c B : Nat) (hx : a.eval x = .slice A m c) (hm : m = ys.length) (hr : RInts w B A ys) (hl : zs.length + ys.length ≤ 1000000)
    (hK : ∀ (v' : Value) (w' : World), OwnV w' v' (zs ++ ys) → w.grownBy w' v.ownBlock → (v'.ownBlock = v.ownBlock ∨ v'.ownBlock = some w.heap.size) → wpList Try.prog ops Q rest (a.put o.dst v') w') :
    wpList Try.prog ops Q (o :: rest) a w := by
  subst hm
  have hnone : ys = [] → A = none → wpList Try.prog ops Q (o :: rest) a w := fun e1 e2 => by
    subst e1 e2
    refine wpList_plain hg fun K hK2 => ?_
    have hrun := run_appV0 h o.type c
    have h2 := hK v w (by simpa using h) (World.grownBy.refl w _) (.inl rfl)
    unfold Oper.wp
    simp only [List.length_nil] at hx
    simp [execOp, hop, resolve, invoke, builtin, hs, hx, hrun, Result.andThen]
    exact hK2 _ _ h2
  have hsome : ∀ (ad : Addr), A = some ad → (∀ (j : Nat) (u : Value), (ys.map (Value.int .i64))[j]? = some u → w.cell? (ad.add j) = some u) → wpList Try.prog ops Q (o :: rest) a w := fun ad e hc => by
    subst e
    obtain ⟨i0, hi, hz0, hz1, hz2⟩ := info_parts Try.info3
    have hb8 := len8 hl
    refine wpList_append_own_at w hg s x 36 hop 0 3 i0 (.int .i64 0) 1 8 Try.underlying36 hi hz0 hz1 hz2 rfl (by omega) v zs.length (zs.map (Value.int .i64)) hs h ad ys.length c (ys.map (Value.int .i64)) hx (by simp) hc
      (fun u hu => by obtain ⟨z, _, rfl⟩ := List.mem_map.1 hu; rfl) (by unfold maxLen; omega) hb8 (Nat.zero_le _) fun v' w' h1 h2 _ h4 => ?_
    refine hK v' w' ?_ h2 h4
    unfold OwnV
    rw [List.map_append, List.length_append]
    exact h1
  cases hA : A with
  | none =>
    refine hnone ?_ hA
    rcases Nat.eq_zero_or_pos ys.length with h0 | h0
    · exact List.eq_nil_of_length_eq_zero h0
    · obtain ⟨b, o', u, e, _⟩ := hr.at_ (k := 0) h0
      rw [hA] at e
      cases e
  | some ad =>
    refine hsome ad hA fun j u hu => ?_
    rw [hA] at hr
    obtain ⟨b2, o2, e, _, hc⟩ := hr j u hu
    cases e
    rw [Go.WideShapes.add_plain]
    exact hc

/-- The end of such a row, read from a place on. -/
theorem OwnR.ends {w : World} {g k : Nat} {zs : List Int} (h : OwnR w g k zs) (n : Nat) : RInts w w.heap.size (some ⟨g, n, none⟩) (zs.drop n) := fun j u hu => by
  rw [List.getElem?_map, List.getElem?_drop] at hu
  obtain ⟨x, hx, rfl⟩ := Option.map_eq_some_iff.1 hu
  exact ⟨g, n, rfl, h.lt, h.at_ hx⟩
/-- A row of one's own, nil let in, as a slice that is read. -/
theorem OwnV.reads {w : World} {v : Value} {zs : List Int} (h : OwnV w v zs) : ∃ A c, v = .slice A zs.length c ∧ zs.length ≤ c ∧ c ≤ maxLen ∧ RInts w w.heap.size A zs := by
  rcases Nat.eq_zero_or_pos zs.length with h0 | h0
  · rcases h.2 with ⟨e1, hn⟩ | ⟨g, cap, cur, e1, hb, hh, h1, h2, h3, h4⟩
    · refine ⟨none, 0, ?_, by omega, Nat.zero_le _, ?_⟩
      · rw [e1, h0]
      · rw [List.eq_nil_of_length_eq_zero h0]
        exact RInts.nil_
    · refine ⟨_, cap, e1, h1, h2, ?_⟩
      rw [List.eq_nil_of_length_eq_zero h0]
      exact RInts.nil_
  · obtain ⟨g, k, e, ho⟩ := h.form h0
    obtain ⟨cur, _, _, h1, h2, _⟩ := ho.box
    exact ⟨_, k, e, h1, h2, ho.reads⟩
theorem OwnV.grown_far {w w' : World} {v : Value} {zs : List Int} (h : OwnV w v zs) {row : Option Nat} (hg : w.grownBy w' row) (hne : ∀ g, v.ownBlock = some g → row ≠ some g) : OwnV w' v zs :=
  h.same fun g hv => hg.block g (h.blk g hv).1 (fun e => hne g hv e.symm)

end Go.Proofs.Ytkkholagmjcgiaa
