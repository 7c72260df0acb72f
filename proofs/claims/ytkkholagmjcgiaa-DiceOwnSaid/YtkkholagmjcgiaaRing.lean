/- The functions Ring, Rank and Beats of package dice, at dice. -/
import Derived.Test.YtkkholagmjcgiaaBeats
import Derived.Test.YtkkholagmjcgiaaRingOf
import Derived.Test.YtkkholagmjcgiaaResults
namespace Go.Proofs.Ytkkholagmjcgiaa
open Go.RowKit Go.Shelf

theorem rankL_spec (t : List (List Bool)) : ∀ (k : Nat) (r l : List Int), l.length ≤ k → pick t (rankL t k r l).2 = none ∧ (∀ x ∈ (rankL t k r l).2, x ∈ l) ∧ (rankL t k r l).1.length + (rankL t k r l).2.length = r.length + l.length
  | 0, r, l, h => by
    have : l = [] := List.length_eq_zero_iff.1 (by omega)
    subst this
    simp [rankL, pick]
  | k + 1, r, l, h => by
    cases hp : pick t l with
    | none => simp only [rankL, hp]; exact ⟨trivial, fun x h => h, trivial⟩
    | some i =>
      obtain ⟨hil, _⟩ := List.findIdx?_eq_some_iff_getElem.1 hp
      simp only [rankL, hp]
      have hel : (l.eraseIdx i).length = l.length - 1 := by rw [List.length_eraseIdx, if_pos hil]
      obtain ⟨h1, h2, h3⟩ := rankL_spec t k (r ++ [l.getD i 0]) (l.eraseIdx i) (by omega)
      exact ⟨h1, fun x hx => List.mem_of_mem_eraseIdx (h2 x hx), by rw [h3]; simp; omega⟩
theorem pick_win {t : List (List Bool)} {left : List Int} (h : pick t left = none) : ∀ d ∈ left, winnerL t left d ∈ left := fun d hd => by
  have h1 := List.findIdx?_eq_none_iff.1 h d hd
  have h2 : ¬ winnerL t left d < 0 := by simpa using h1
  unfold winnerL at h2 ⊢
  cases hf : left.find? fun o => hit t o d with
  | none => rw [hf] at h2; simp at h2
  | some o => exact List.mem_of_find?_eq_some hf

/-- The dice that are left, and those that have been taken away. -/
def tbl (ds : List (List Int)) : List (List Bool) := tabL ds.length (bt ds)
def leftL (ds : List (List Int)) : List Int := (rankL (tbl ds) ds.length [] (evK ds.length)).2
def rankedL (ds : List (List Int)) : List Int := (rankL (tbl ds) ds.length [] (evK ds.length)).1
theorem leftL_spec (ds : List (List Int)) : (∀ d ∈ leftL ds, winnerL (tbl ds) (leftL ds) d ∈ leftL ds) ∧ Inds (leftL ds) ds.length ∧ (rankedL ds).length + (leftL ds).length = ds.length := by
  obtain ⟨h1, h2, h3⟩ := rankL_spec (tbl ds) ds.length [] (evK ds.length) (by simp [evK])
  exact ⟨pick_win h1, fun x hx => mem_evK.1 (h2 x hx), by unfold rankedL leftL; rw [h3]; simp [evK]⟩

theorem keepC2 {w W w' : World} {B : Nat} (h : Below B w W) (hs : B ≤ W.heap.size) (hb : Below W.heap.size W w') : Below B w w' := h.trans (hb.mono hs)
theorem Below.drewN_ {B : Nat} {a w : World} (h : Below B a w) (n : Nat) : Below B a (w.drewN n) := ⟨h.os, h.tape, h.output, h.size, h.block⟩

set_option maxHeartbeats 1000000 in
theorem Ring_any (A : Option Addr) (ds : List (List Int)) (c : Nat) (w : World) (hr : RDice w w.heap.size A ds) (hd : AreDice ds) :
    Calls Try.prog 28 #[.slice A ds.length c] w fun e w' => (leftL ds = [] ∧ e = .returned (.tuple #[.slice none 0 0, .bool false, .int .i64 0]) ∨ leftL ds ≠ [] ∧ ∃ A3 c3, e = .returned (.tuple #[.slice A3 (ringL (tbl ds) (leftL ds) ds.length).length c3, .bool true, .int .i64 0]) ∧ RInts w' w'.heap.size A3 (ringL (tbl ds) (leftL ds) ds.length)) ∧ Below w.heap.size w w' := by
  have h6 := hd.len
  have hp := hd.pos
  have HC := Lib.hid (check_any A ds c _ w hr (by omega) (fun d h => by have := (hd.die d h).ok.1; omega))
  have HZ := Lib.hid (checkL_zero hd)
  have HBT := Lib.hid (fun n => beats_any A ds c (w.drewN n) (hr.drewN n) h6 (fun d h => (hd.die d h).ok.1))
  have HSP := Lib.hid (leftL_spec ds)
  clear hr hd
  go_enter Try.func28, Try.ntmps28
  go_wp2_with fail
  refine HC.out.mono ?_
  rintro e w' ⟨rfl, n, rfl⟩
  rw [HZ.out]
  go_wp2_with fail
  refine (HBT.out n).mono ?_
  rintro e w1 ⟨T, g, rfl, htab, hb1⟩
  have hb1 : Below w.heap.size w w1 := ⟨hb1.os, hb1.tape, hb1.output, hb1.size, hb1.block⟩
  have HTB := Lib.hid (rank_any (some ⟨T, 0, none⟩) (tbl ds) ds.length ds.length w1 htab.reads (tabL_square _ _) hp (by omega))
  have HTAB := Lib.hid htab
  have HB1 := Lib.hid hb1
  clear htab hb1
  go_wp2_with fail
  refine HTB.out.mono ?_
  rintro e w2 ⟨v1, v2, rfl, ho1, ho2, hb2⟩
  have HB2 := Lib.hid (keepC2 HB1.out HB1.out.size hb2)
  have HRT := Lib.hid ((HTAB.out.below hb2 (Nat.le_refl _)).reads)
  have ho2 : OwnV w2 v2 (leftL ds) := ho2
  have HO2 := Lib.hid ho2
  clear hb2 ho1 ho2
  by_cases hle : leftL ds = []
  · obtain ⟨rfl, _⟩ | ⟨g2, k2, rfl, _⟩ := HO2.out.cells
    · go_wp2_with fail
      refine bodyPost_ret (v := .tuple #[.slice none 0 0, .bool false, .int .i64 0]) (by simp [results, Try.results28, go_sem]) rfl ⟨.inl ⟨hle, rfl⟩, HB2.out⟩
    · have hl0 : (leftL ds).length = 0 := by rw [hle]; rfl
      rw [hl0]
      go_wp2_with fail
      refine bodyPost_ret (v := .tuple #[.slice none 0 0, .bool false, .int .i64 0]) (by simp [results, Try.results28, go_sem]) rfl ⟨.inl ⟨hle, rfl⟩, HB2.out⟩
  · have hpos : 1 ≤ (leftL ds).length := by
      rcases Nat.eq_zero_or_pos (leftL ds).length with h | h
      · exact absurd (List.length_eq_zero_iff.1 h) hle
      · exact h
    have HLE := Lib.hid hle
    obtain ⟨g2, k2, rfl, ho⟩ := HO2.out.form hpos
    have HRO := Lib.hid (ringOf_any (some ⟨T, 0, none⟩) (some ⟨g2, 0, none⟩) (tbl ds) (leftL ds) ds.length k2 ds.length w2 HRT.out ho.reads (tabL_square _ _) HSP.out.2.1 hpos HSP.out.1 (by omega) (by have := HSP.out.2.2; omega))
    have hne : (((leftL ds).length : Int) == 0) = false := by rw [beq_eq_false_iff_ne]; omega
    clear ho hle
    go_wp2_with fail
    refine HRO.out.mono ?_
    rintro e w3 ⟨A3, c3, rfl, hri, hb3⟩
    have HRI := Lib.hid hri
    have HB3 := Lib.hid (keepC2 HB2.out HB2.out.size hb3)
    clear hri hb3
    go_wp2_with fail
    refine bodyPost_ret (v := .tuple #[.slice A3 (ringL (tbl ds) (leftL ds) ds.length).length c3, .bool true, .int .i64 0]) (by simp [results, Try.results28, go_sem]) rfl ⟨.inr ⟨HLE.out, A3, c3, rfl, HRI.out⟩, HB3.out⟩

end Go.Proofs.Ytkkholagmjcgiaa
