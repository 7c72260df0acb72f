/- The jumps that can be made, put one by one into their places: the list is that of the sorted jumps. No program is spoken of. -/
import Derived.Test.YthbhengcinkepaaPg10
import Derived.Test.YthbhengcinkepaaGameL
namespace Go.Proofs.Ythbhengcinkepaa
open Go.RowKit Lamp

/-- A list of triples that doesn't fall. -/
def UpT (l : List Tri) : Prop := l.Pairwise fun a b => ltT b a = false
theorem ltT_trans' {a b c : Tri} (h1 : ltT b a = false) (h2 : ltT c b = false) : ltT c a = false := by
  rw [ltT_no] at *
  omega
theorem UpT.put {l : List Tri} {x : Tri} {k : Nat} (h : UpT l) (hk : k ≤ l.length) (h1 : ∀ i, i < k → ltT (l.getD i (0, 0, 0)) x = true) (h2 : k < l.length → ltT (l.getD k (0, 0, 0)) x = false) : UpT (l.take k ++ [x] ++ l.drop k) := by
  have hl : UpT (l.take k ++ l.drop k) := by rw [List.take_append_drop]; exact h
  unfold UpT at hl ⊢
  rw [List.pairwise_append] at hl
  obtain ⟨hl1, hl2, hl3⟩ := hl
  have ha : ∀ a ∈ l.take k, ltT x a = false := by
    intro a ha
    obtain ⟨i, hi, rfl⟩ := List.getElem_of_mem ha
    rw [List.length_take] at hi
    have := h1 i (by omega)
    rw [List.getD_eq_getElem?_getD, List.getElem?_eq_getElem (by omega)] at this
    rw [List.getElem_take]
    simp only [Option.getD_some] at this
    rw [ltT_iff] at this
    rw [ltT_no]
    omega
  have hb : ∀ b ∈ l.drop k, ltT b x = false := by
    intro b hb
    by_cases hk2 : k < l.length
    · have h3 := h2 hk2
      rw [List.getD_eq_getElem?_getD, List.getElem?_eq_getElem hk2] at h3
      simp only [Option.getD_some] at h3
      rw [List.drop_eq_getElem_cons hk2, List.mem_cons] at hb
      rcases hb with rfl | hb
      · exact h3
      · rw [List.drop_eq_getElem_cons hk2, List.pairwise_cons] at hl2
        exact ltT_trans' h3 (hl2.1 b hb)
    · rw [List.drop_eq_nil_of_le (by omega)] at hb
      cases hb
  rw [List.append_assoc, List.pairwise_append]
  refine ⟨hl1, ?_, ?_⟩
  · rw [List.singleton_append, List.pairwise_cons]
    exact ⟨hb, hl2⟩
  · intro a haa b hbb
    rw [List.singleton_append, List.mem_cons] at hbb
    rcases hbb with rfl | hbb
    · exact ha a haa
    · exact hl3 a haa b hbb
theorem put_perm (l : List Tri) (x : Tri) (k : Nat) : (l.take k ++ [x] ++ l.drop k).Perm (l ++ [x]) := by
  rw [List.append_assoc, List.singleton_append]
  refine List.perm_middle.trans ?_
  rw [List.take_append_drop]
  exact (List.perm_append_singleton x l).symm
theorem jumpsL_up (l : List Tri) : UpT (jumpsL l) := by
  unfold UpT jumpsL
  have h := List.pairwise_mergeSort (le := fun x y => !ltT y x) (fun a b c h1 h2 => by
    simp only [Bool.not_eq_true'] at h1 h2 ⊢
    exact ltT_trans' h1 h2) (fun a b => by
    cases h1 : ltT b a <;> cases h2 : ltT a b <;> simp
    rw [ltT_iff] at h1 h2
    omega) (bothL l)
  exact h.imp fun h => by simpa using h
/-- The jumps that can be made, in their order, are those of the sorted list. -/
theorem jumps_are {l : List Tri} {P : Tri → Bool} {out : List Tri} (hu : UpT out) (hp : out.Perm ((bothL l).filter P)) : out = (jumpsL l).filter P := by
  refine List.Perm.eq_of_pairwise (le := fun a b => ltT b a = false) ?_ hu ((jumpsL_up l).sublist List.filter_sublist) (hp.trans ((List.mergeSort_perm _ _).filter _).symm)
  intro a b _ _ h1 h2
  exact ltT_total a b (by rw [ltOf_cmp]; exact h2) (by rw [ltOf_cmp]; exact h1)
end Go.Proofs.Ythbhengcinkepaa
