/- slices.Sorted of maps.Keys, at a map from int to int64 that is not nil: a new slice that holds its keys, each once, rising. -/
import Derived.Test.YtkkholagmjcgiaaMap
import Derived.Test.YtkkholagmjcgiaaRow
namespace Go.Proofs.Ytkkholagmjcgiaa
open Go.RowKit Go.Maps Go.Sort Go.Shelf

theorem own_reads {w : World} {base n : Nat} {e : TypeId} {v : Value} {zs : List Int} (h : w.ownsRow base e 1 v n (zs.map (Value.int .i64))) :
    ∃ A c, v = .slice A zs.length c ∧ zs.length ≤ c ∧ RInts w w.heap.size A zs := by
  have hl : zs.length = n := by have := h.1; simpa using this
  rcases h.2 with ⟨rfl, hn⟩ | ⟨g, cap, cur, rfl, hg, hh, hc, hm, hsz, hx⟩
  · obtain rfl : zs = [] := List.eq_nil_of_length_eq_zero (by omega)
    exact ⟨none, 0, rfl, by simp, RInts.nil_⟩
  · refine ⟨_, cap, by rw [hl], by omega, fun j u hu => ⟨g, 0, rfl, ?_, ?_⟩⟩
    · rcases Nat.lt_or_ge g w.heap.size with hlt | hge
      · exact hlt
      · rw [Array.getElem?_eq_none hge] at hh; cases hh
    · have hj : j < n * 1 := by
        have := (List.getElem?_eq_some_iff.1 hu).1
        simp at this
        omega
      have := h.cellAt j hj
      simpa using this.trans hu

theorem mem_keys {w : World} {b n : Nat} {D : DataW Unit} (h : w.ownsMap Try.prog 3 (plainElem Try.prog 2) b n D) : (intKeys D).Nodup ∧ (∀ x ∈ intKeys D, W64 x) ∧ ∀ x, x ∈ intKeys D ↔ Maps.has D (.int .i64 x) = true := by
  have hwf := intKeys_wf h Try.underlying3
  obtain ⟨es, hD, hpw, _⟩ := h.entries lawI
  obtain ⟨es', hD', hko⟩ := h.keysOf
  obtain rfl : es = es' := by rw [hD] at hD'; simpa using hD'
  subst hD
  have hk : ∀ p ∈ es, ∃ x, p.1 = .int .i64 x := fun p hp => by
    obtain ⟨v, hv⟩ := hko p hp
    obtain ⟨x, _, hx, _⟩ := Maps.keyOf_i64 Try.underlying3 hv
    exact ⟨x, hx⟩
  refine ⟨?_, fun x hx => W64.of (hwf x hx), fun x => ?_⟩
  · simp only [intKeys]
    rw [List.nodup_iff_pairwise_ne, List.pairwise_map]
    refine hpw.imp_of_mem ?_
    intro p q hp hq hne e
    obtain ⟨x, hx⟩ := hk p hp
    obtain ⟨y, hy⟩ := hk q hq
    rw [hx, hy] at hne e
    have e2 : x = y := e
    exact hne (by rw [e2])
  · rw [Maps.has_eq, List.any_eq_true]
    simp only [intKeys, List.mem_map]
    constructor
    · rintro ⟨p, hp, e⟩
      obtain ⟨y, hy⟩ := hk p hp
      refine ⟨p, hp, ?_⟩
      rw [hy] at e ⊢
      rw [same_int]
      exact decide_eq_true e
    · rintro ⟨p, hp, e⟩
      obtain ⟨y, hy⟩ := hk p hp
      refine ⟨p, hp, ?_⟩
      rw [hy] at e ⊢
      rw [same_int] at e
      exact of_decide_eq_true e

theorem sortsA (m : Nat) : AnyZI.SortsIn Try.prog Try.sortedA_ren Fence.wide m :=
  ⟨fun blk off cap ss W hH hblk hsz => callsIn_wide.2 (AnyM.slices_Sort_int Try.sortA blk off cap ss W hH hblk hsz),
   fun p cap W => callsIn_wide.2 (AnyM.slices_Sort_int_none Try.sortA p cap W)⟩

theorem Keys_any (mb : Option Nat) (w : World) :
    Calls Try.prog 60 #[.map mb] w fun e w' => e = .returned (.func (.func 84) #[] #[.pointer (some ⟨w.heap.size, 0, none⟩)]) ∧ w' = w.alloc (.cells #[.map mb] 80) :=
  (callsIn_wide (n := 5)).1 (AnyZI.keys_in Try.keysA Fence.wide 5 trivial rfl mb w)

theorem Sorted_any (B b n : Nat) (f : Int → Int) (S : Int → Bool) (w : World) (hB : B < w.heap.size) (hc : w.cell? ⟨B, 0, none⟩ = some (.map (some b))) (h : MapF w b n f S) (hn : n ≤ 1000000000) :
    Calls Try.prog 59 #[.func (.func 84) #[] #[.pointer (some ⟨B, 0, none⟩)]] w fun e w' => ∃ (A : Option Addr) (c : Nat) (zs : List Int), e = .returned (.slice A zs.length c) ∧ zs.length ≤ c ∧
      RInts w' w'.heap.size A zs ∧ zs.Pairwise (· < ·) ∧ (∀ x ∈ zs, W64 x) ∧ (∀ x, W64 x → (x ∈ zs ↔ S x = true)) ∧ zs.length ≤ n ∧ Below w.heap.size w w' ∧ (1 ≤ zs.length → ∃ g, A = some ⟨g, 0, none⟩ ∧ w.heap.size ≤ g ∧ OwnR w' g c zs) := by
  obtain ⟨D, hown, h1, h2⟩ := h
  have hsz := size_le_of_owns hown
  have hseq : SeqGives Fence.wide 2 Try.prog 84 #[.pointer (some ⟨B, 0, none⟩)] encZ (fun ss => ss.Perm (intKeys D)) (Maps.size D) w :=
    AnyZI.keys_gives (ρ := Try.keysA_ren) { Try.keysA with } Fence.wide _ trivial rfl (by omega) B b n D _ hB hc hown
  have cS := AnyZI.sorted_in Try.sortedA Fence.wide 5 trivial trivial trivial trivial rfl (by omega) (sortsA _) (enters_of Try.func83 (by kernel_rfl) rfl) 84 #[.pointer (some ⟨B, 0, none⟩)] trivial
    (enters_of Try.func84 (by kernel_rfl) rfl) _ _ (by unfold maxLen; omega) (by omega) _ hseq
  refine ((callsIn_wide (n := 5)).1 cS).mono ?_
  rintro e w' ⟨v, ss, rfl, hp, hrow, _, hb⟩
  obtain ⟨hnd, hw, hm⟩ := mem_keys hown
  have hperm : (ss.mergeSort leI).Perm ss := List.mergeSort_perm ss leI
  have hlen : (ss.mergeSort leI).length = ss.length := hperm.length_eq
  have hmem : ∀ x, x ∈ ss.mergeSort leI ↔ x ∈ intKeys D := fun x => (hperm.trans hp).mem_iff
  obtain ⟨A, c, rfl, hcap, hr⟩ := own_reads hrow
  refine ⟨A, c, ss.mergeSort leI, rfl, hcap, hr, ?_, fun x hx => hw x ((hmem x).1 hx), fun x hx => by rw [hmem, hm, h2 x hx], ?_, hb, fun hpos => ?_⟩
  · have hs : (ss.mergeSort leI).Pairwise (fun a b => leI a b = true) :=
      List.pairwise_mergeSort (fun a b c h1 h2 => by simp only [leI, decide_eq_true_eq] at *; omega) (fun a b => by simp only [leI, Bool.or_eq_true, decide_eq_true_eq]; omega) ss
    have hnd2 : (ss.mergeSort leI).Nodup := ((hperm.trans hp).nodup_iff).2 hnd
    rw [List.nodup_iff_pairwise_ne] at hnd2
    refine (hs.and hnd2).imp ?_
    rintro a b ⟨h1, h2⟩
    simp only [leI, decide_eq_true_eq] at h1
    omega
  · rw [hlen, hp.length_eq]
    obtain ⟨es, hD, _⟩ := hown.entries lawI
    subst hD
    simpa [intKeys, Maps.size_eq] using hsz
  · obtain ⟨g, k, e, hg, ho⟩ := OwnR.of_own hrow hpos
    cases e
    exact ⟨g, rfl, hg, ho⟩

end Go.Proofs.Ytkkholagmjcgiaa
