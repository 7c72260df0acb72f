/- The statements' function own: a copy of the first 130 edges, in memory of its own. -/
import Derived.Test.YtpdgjjpfahobaaaGrid
namespace Go.Proofs.Ytpdgjjpfahobaaa
open Go.RowKit Lamp

theorem edgeV_take (l : List (Int × Int)) (k : Nat) : edgeV (l.take k) = (edgeV l).take (k * 2) := by
  induction l generalizing k with
  | nil => simp [edgeV]
  | cons a l ih =>
    cases k with
    | zero => simp [edgeV]
    | succ k =>
      have h := ih k
      simp only [edgeV, List.take_succ_cons, List.flatMap_cons] at h ⊢
      rw [h, show (k + 1) * 2 = k * 2 + 1 + 1 by omega]
      simp
theorem OwnE.caps {w : World} {b : Nat} {v : Value} {l : List (Int × Int)} (h : OwnE w b v l) : ∃ A c, v = .slice A l.length c ∧ l.length ≤ c ∧ REdges w w.heap.size A l := by
  obtain ⟨A, c, e, hr⟩ := h.reads
  refine ⟨A, c, e, ?_, hr⟩
  rcases h.2 with ⟨e2, h1⟩ | ⟨g, cap, cur, e2, _, _, h2, _⟩
  · omega
  · rw [e] at e2
    cases e2
    exact h2
/-- An append of no edges to nil. -/
theorem run_append_noneE (A : Option Addr) (c : Nat) (w : World) : (Builtin.append_ #[22, 22] 22 #[.slice none 0 0, .slice A 0 c]).run Try.prog w = .ok (.slice none 0 0) w := by
  have hz := Try.sizeOf41
  cases A <;> simp [Builtin.append_, run_underlying Try.underlying22, hz, Builtin.lenOf, Builtin.firstCells, Result.andThen, go_sem]

set_option maxRecDepth 100000 in
set_option maxHeartbeats 1000000 in
theorem own4_any (A : Option Addr) (l : List (Int × Int)) (c : Nat) (w : World) (hr : REdges w w.heap.size A l) (hc : l.length ≤ c) (hm : l.length ≤ 9223372036854775807) :
    Calls Try.prog 20 #[.slice A l.length c] w fun e w' => ∃ v, e = .returned v ∧ OwnE w' w.heap.size v (l.take 130) ∧ Below w.heap.size w w' := by
  rcases Nat.eq_zero_or_pos l.length with h0 | hpos
  · have hl := List.length_eq_zero_iff.1 h0
    subst hl
    have hci : (0 : Int) ≤ (c : Int) := by omega
    have hmin : min (0 : Int) 130 = 0 := by decide
    have hap := run_append_noneE A c w
    clear hr
    simp only [List.length_nil]
    go_enter Try.func20, Try.ntmps20
    cases A with
    | none =>
      go_wp2_with fail
      go_ret
      exact ⟨_, rfl, OwnE.nil_ _ _, Below.refl _ _⟩
    | some a =>
      go_wp2_with fail
      go_ret
      exact ⟨_, rfl, OwnE.nil_ _ _, Below.refl _ _⟩
  · obtain ⟨b, o, x, y, hA, hb, _, _, _⟩ := hr.at_ (k := 0) hpos
    subst hA
    obtain ⟨i0, hi, hz0, hz1, hz2⟩ := info_parts Try.info41
    obtain ⟨m, hmn⟩ : ∃ m, m = min l.length 130 := ⟨_, rfl⟩
    have HN := Lib.hid (show ∀ (j : Nat) (u : Value), (edgeV (l.take 130))[j]? = some u → w.cell? ((⟨b, o, none⟩ : Addr).add j) = some u from fun j u hu => by
      rw [edgeV_take, List.getElem?_take] at hu
      split at hu
      · obtain ⟨b2, o2, e, _, hc2⟩ := hr j u hu
        cases e
        have e2 : (⟨b, o, none⟩ : Addr).add j = ⟨b, o + j, none⟩ := by cases j <;> simp [Addr.add]
        rw [e2]
        exact hc2
      · cases hu)
    have HTL := Lib.hid (show (l.take 130).length = m by simp [hmn]; omega)
    have HL := Lib.hid (show (edgeV (l.take 130)).length = m * 2 by rw [edgeV_len, HTL.out])
    have HO := Lib.hid (show ∀ u ∈ edgeV (l.take 130), u.oneCell' = true from fun u hu => by
      simp only [edgeV, List.mem_flatMap] at hu
      obtain ⟨e, _, he⟩ := hu
      simp at he
      rcases he with rfl | rfl <;> rfl)
    have hm9 : m ≤ 130 ∧ m ≤ l.length ∧ 1 ≤ m := by omega
    have hk1 : 0 + m ≤ maxLen := by unfold maxLen; omega
    have hk2 : (0 + m) * 16 ≤ 140737488355328 := by omega
    have H0 := Lib.hid (show w.ownsRow w.heap.size 41 2 (.slice none 0 0) 0 [] from ⟨by simp, .inl ⟨rfl, rfl⟩⟩)
    have hmi : (0 : Int) ≤ (m : Int) := by omega
    have hmc : (m : Int) ≤ (c : Int) := by omega
    have hmin : min (l.length : Int) 130 = (m : Int) := by omega
    clear hr hmn
    go_enter Try.func20, Try.ntmps20
    go_wp2_with (first
      | (at_builtin; refine wpList_append_own _ rfl _ _ 22 rfl w.heap.size 41 i0 (.agg #[.int .i64 0, .int .i64 0]) 2 16 Try.underlying22 hi hz0 hz1 hz2 rfl (by decide) _ _ _ rfl H0.out ⟨b, o, none⟩ m c (edgeV (l.take 130)) rfl HL.out HN.out HO.out hk1 hk2 (Nat.le_refl _) ?_; intro v9 w9 hown9 hg9 _))
    go_ret
    refine ⟨v9, rfl, ?_, ?_⟩
    · unfold OwnE
      rw [HTL.out]
      simpa using hown9
    · exact (Below.refl _ w).grown hg9 (Nat.le_refl _) (fun k hk => by cases hk)
end Go.Proofs.Ytpdgjjpfahobaaa
