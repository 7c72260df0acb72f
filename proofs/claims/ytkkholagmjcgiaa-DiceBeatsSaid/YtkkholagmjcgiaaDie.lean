/- The statements' function die: a copy of the first nine numbers of a list, in memory of its own. -/
import Derived.Test.YtkkholagmjcgiaaRingOf
namespace Go.Proofs.Ytkkholagmjcgiaa
open Go.RowKit

theorem ownsRow_base {w : World} {base base' n sz : Nat} {e : TypeId} {v : Value} {xs : List Value} (h : w.ownsRow base e sz v n xs) (hb : base' ≤ base) : w.ownsRow base' e sz v n xs := by
  rcases h.2 with ⟨e1, hn⟩ | ⟨g, cap, cur, e1, hb2, hh⟩
  · exact ⟨h.1, .inl ⟨e1, hn⟩⟩
  · exact ⟨h.1, .inr ⟨g, cap, cur, e1, by omega, hh⟩⟩
/-- An append of nothing to nil. -/
theorem run_append_none (A : Option Addr) (c : Nat) (w : World) : (Builtin.append_ #[36, 36] 36 #[.slice none 0 0, .slice A 0 c]).run Try.prog w = .ok (.slice none 0 0) w := by
  have hz := Try.sizeOf3
  cases A <;> simp [Builtin.append_, run_underlying Try.underlying36, hz, Builtin.lenOf, Builtin.firstCells, Result.andThen, go_sem]

set_option maxRecDepth 100000 in
set_option maxHeartbeats 1000000 in
theorem die_any (A : Option Addr) (l : List Int) (c : Nat) (w : World) (hr : RInts w w.heap.size A l) (hc : l.length ≤ c) (hm : l.length ≤ 9223372036854775807) :
    Calls Try.prog 32 #[.slice A l.length c] w fun e w' => ∃ v, e = .returned v ∧ OwnV w' v (l.take 9) ∧ (∀ b, v.ownBlock = some b → w.heap.size ≤ b) ∧ Below w.heap.size w w' := by
  rcases Nat.eq_zero_or_pos l.length with h0 | hpos
  · have hl := List.length_eq_zero_iff.1 h0
    subst hl
    have hci : (0 : Int) ≤ (c : Int) := by omega
    have hmin : min (0 : Int) 9 = 0 := by decide
    have hap := run_append_none A c w
    clear hr
    simp only [List.length_nil]
    go_enter Try.func32, Try.ntmps32
    cases A with
    | none =>
      go_wp2_with fail
      go_ret
      exact ⟨_, rfl, OwnV.nil_ _, (fun b hb => by cases hb), Below.refl _ _⟩
    | some a =>
      go_wp2_with fail
      go_ret
      exact ⟨_, rfl, OwnV.nil_ _, (fun b hb => by cases hb), Below.refl _ _⟩
  · obtain ⟨b, o, x, hA, hb, _, _⟩ := hr.at_ (k := 0) hpos
    subst hA
    obtain ⟨i0, hi, hz0, hz1, hz2⟩ := info_parts Try.info3
    obtain ⟨m, hmn⟩ : ∃ m, m = min l.length 9 := ⟨_, rfl⟩
    have HN := Lib.hid (show ∀ (j : Nat) (u : Value), ((l.take 9).map (Value.int .i64))[j]? = some u → w.cell? ((⟨b, o, none⟩ : Addr).add j) = some u from fun j u hu => by
      rw [List.map_take, List.getElem?_take] at hu
      split at hu
      · obtain ⟨b2, o2, e, _, hc2⟩ := hr j u hu
        cases e
        have e2 : (⟨b, o, none⟩ : Addr).add j = ⟨b, o + j, none⟩ := by cases j <;> simp [Addr.add]
        rw [e2]
        exact hc2
      · cases hu)
    have HL := Lib.hid (show ((l.take 9).map (Value.int .i64)).length = m * 1 by simp [hmn]; omega)
    have HO := Lib.hid (show ∀ u ∈ (l.take 9).map (Value.int .i64), u.oneCell' = true from fun u hu => by
      obtain ⟨z, _, rfl⟩ := List.mem_map.1 hu
      rfl)
    have HT := Lib.hid (show (l.take 9).length = m by simp [hmn]; omega)
    have hm9 : m ≤ 9 ∧ m ≤ l.length ∧ 1 ≤ m := by omega
    have hk1 : 0 + m ≤ maxLen := by unfold maxLen; omega
    have hk2 : (0 + m) * 8 ≤ 140737488355328 := by omega
    have H0 := Lib.hid (show w.ownsRow w.heap.size 3 1 (.slice none 0 0) 0 [] from ⟨by simp, .inl ⟨rfl, rfl⟩⟩)
    have hmi : (0 : Int) ≤ (m : Int) := by omega
    have hmc : (m : Int) ≤ (c : Int) := by omega
    have hmin : min (l.length : Int) 9 = (m : Int) := by omega
    clear hr hmn
    go_enter Try.func32, Try.ntmps32
    go_wp2_with (first
      | (at_builtin; refine wpList_append_own _ rfl _ _ 36 rfl w.heap.size 3 i0 (.int .i64 0) 1 8 Try.underlying36 hi hz0 hz1 hz2 rfl (by decide) _ _ _ rfl H0.out ⟨b, o, none⟩ m c ((l.take 9).map (Value.int .i64)) rfl HL.out HN.out HO.out hk1 hk2 (Nat.le_refl _) ?_; intro v9 w9 hown9 hg9 _))
    go_ret
    refine ⟨v9, rfl, ?_, ?_, ?_⟩
    · have h1 := ownsRow_base hown9 (Nat.zero_le _)
      unfold OwnV
      rw [HT.out]
      simpa using h1
    · intro g hg
      rcases hown9.2 with ⟨h1, _⟩ | ⟨g', cap, cur, e, hb2, _⟩
      · subst h1
        cases hg
      · subst e
        have e2 : g' = g := by simpa [Value.ownBlock] using hg
        omega
    · exact (Below.refl _ w).grown hg9 (Nat.le_refl _) (fun k hk => by cases hk)

end Go.Proofs.Ytkkholagmjcgiaa
