/- Games as plain mathematics: what the search by breadth finds is what games lead to, and going back by the last jumps makes a game. No program is spoken of. -/
import Derived.Test.YthbhengcinkepaaBfsL
namespace Go.Proofs.Ythbhengcinkepaa
open Lamp

/-- A game: jumps one after the other, each of which can be made. -/
inductive Game (all : List Tri) : Nat → List Tri → Nat → Prop
  | nil (p : Nat) : Game all p [] p
  | cons {p q : Nat} {j : Tri} {g : List Tri} : j ∈ all → canJ j p = true → Game all (fromJ j p) g q → Game all p (j :: g) q
theorem Game.append {all : List Tri} {p q r : Nat} {g h : List Tri} (hg : Game all p g q) (hh : Game all q h r) : Game all p (g ++ h) r := by
  induction hg with
  | nil p => exact hh
  | cons h1 h2 _ ih => exact .cons h1 h2 (ih hh)
theorem Game.snoc {all : List Tri} {p q : Nat} {g : List Tri} {j : Tri} (hg : Game all p g q) (h1 : j ∈ all) (h2 : canJ j q = true) : Game all p (g ++ [j]) (fromJ j q) := hg.append (.cons h1 h2 (.nil _))

/-- Each position that is found, but the first one, was reached by a jump from one that was found before it. -/
def Linked (all : List Tri) (p : Nat) (Q : List (Nat × Tri)) : Prop :=
  ∀ k e, Q[k]? = some e → (k = 0 ∧ e = (p, (0, 0, 0))) ∨ ∃ k' u j', k' < k ∧ Q[k']? = some (u, j') ∧ e.2 ∈ all ∧ canJ e.2 u = true ∧ e.1 = fromJ e.2 u
theorem Linked.addJ {all : List Tri} {p u : Nat} {Q : List (Nat × Tri)} {j : Tri} (h : Linked all p Q) (hu : ∃ j', (u, j') ∈ Q) (hj : j ∈ all) (hc : canJ j u = true) : Linked all p (addJ u Q j) := by
  unfold Go.Proofs.Ythbhengcinkepaa.addJ
  split
  · exact h
  · intro k e he
    rcases Nat.lt_or_ge k Q.length with hk | hk
    · rw [List.getElem?_append_left hk] at he
      rcases h k e he with h1 | ⟨k', u', j', h1, h2, h3⟩
      · exact .inl h1
      · refine .inr ⟨k', u', j', h1, ?_, h3⟩
        rw [List.getElem?_append_left (by omega)]; exact h2
    · rw [List.getElem?_append_right hk] at he
      have hk0 : k - Q.length = 0 := by
        have := (List.getElem?_eq_some_iff.1 he).1
        simp at this; omega
      rw [hk0] at he
      have he : e = (fromJ j u, j) := by simpa using he.symm
      subst he
      obtain ⟨j', hj'⟩ := hu
      obtain ⟨k', hk'⟩ := List.getElem?_of_mem hj'
      have hlt := (List.getElem?_eq_some_iff.1 hk').1
      exact .inr ⟨k', u, j', by omega, by rw [List.getElem?_append_left hlt]; exact hk', hj, hc, rfl⟩
theorem Linked.addP {all : List Tri} {p u : Nat} : ∀ (js : List Tri) {Q : List (Nat × Tri)}, Linked all p Q → (∃ j', (u, j') ∈ Q) → (∀ j ∈ js, j ∈ all ∧ canJ j u = true) → Linked all p (addP u Q js)
  | [], _, h, _, _ => h
  | j :: js, Q, h, hu, hj => Linked.addP js (h.addJ hu (hj j (by simp)).1 (hj j (by simp)).2) (by
      obtain ⟨j', hj'⟩ := hu
      exact ⟨j', (addJ_pre u Q j).subset hj'⟩) fun k hk => hj k (by simp [hk])
theorem bfsK_linked (all : List Tri) (p : Nat) : ∀ i, Linked all p (bfsK all p i)
  | 0 => fun k e he => by
    rw [bfsK] at he
    cases k with
    | zero => exact .inl ⟨rfl, by simpa using he.symm⟩
    | succ k => simp at he
  | i + 1 => by
    have ih := bfsK_linked all p i
    rw [bfsK]
    split
    · exact ih
    · rename_i e he
      exact ih.addP _ ⟨e.2, List.mem_of_getElem? he⟩ fun j hj => by
        rw [List.mem_filter] at hj
        exact hj
theorem Linked.initial {all : List Tri} {p : Nat} {Q R : List (Nat × Tri)} (h : Linked all p Q) (hR : R <+: Q) : Linked all p R := by
  obtain ⟨S, rfl⟩ := hR
  intro k e he
  have hk := (List.getElem?_eq_some_iff.1 he).1
  rcases h k e (by rw [List.getElem?_append_left hk]; exact he) with h1 | ⟨k', u, j', h1, h2, h3⟩
  · exact .inl h1
  · exact .inr ⟨k', u, j', h1, by rw [List.getElem?_append_left (by omega)] at h2; exact h2, h3⟩
/-- To each position that is found a game leads. -/
theorem Linked.game {all : List Tri} {p : Nat} {Q : List (Nat × Tri)} (h : Linked all p Q) : ∀ (k : Nat) (e : Nat × Tri), Q[k]? = some e → ∃ g, Game all p g e.1 := by
  intro k
  induction k using Nat.strongRecOn with
  | _ k ih =>
    intro e he
    rcases h k e he with ⟨_, rfl⟩ | ⟨k', u, j', h1, h2, h3, h4, h5⟩
    · exact ⟨[], .nil _⟩
    · obtain ⟨g, hg⟩ := ih k' h1 _ h2
      exact ⟨g ++ [e.2], by rw [h5]; exact hg.snoc h3 h4⟩

section
variable {n : Nat} {all : List Tri} {p : Nat} (hn : n ≤ 16) (hall : ∀ j ∈ all, TriOk n j) (hp : p < 2 ^ n)
include hn hall hp
theorem game_found {q : Nat} {g : List Tri} (_hg : Game all p g q) : ∀ (r : Nat), (∃ k, (r, k) ∈ reachL all p) → ∀ g' q', Game all r g' q' → ∃ k, (q', k) ∈ reachL all p := by
  intro r hr g' q' hg'
  induction hg' with
  | nil p => exact hr
  | cons h1 h2 _ ih =>
    obtain ⟨k, hk⟩ := hr
    exact ih (reachL_closed hn hall hp hk h1 h2)
/-- The search finds just what games lead to. -/
theorem reachL_iff (q : Nat) : hasQ (reachL all p) q = true ↔ ∃ g, Game all p g q := by
  rw [hasQ_iff]
  constructor
  · rintro ⟨k, hk⟩
    obtain ⟨i, hi⟩ := List.getElem?_of_mem hk
    exact (bfsK_linked all p 65536).game i _ hi
  · rintro ⟨g, hg⟩
    refine game_found hn hall hp hg p ⟨(0, 0, 0), ?_⟩ g q hg
    exact (bfsK_mono all p (i := 0) (k := 65536) (by omega)).subset (by simp [bfsK])
end

/-- The last jump to a position among those found. -/
def lastQ (Q : List (Nat × Tri)) (x : Nat) : Tri := ((Q.find? fun e => e.1 == x).map (·.2)).getD (0, 0, 0)
theorem lastQ_at {Q : List (Nat × Tri)} (ho : Once Q) {k : Nat} {e : Nat × Tri} (he : Q[k]? = some e) : lastQ Q e.1 = e.2 := by
  have hf : Q.find? (fun f => f.1 == e.1) = some e := by
    rw [List.find?_eq_some_iff_getElem]
    refine ⟨by simp, k, (List.getElem?_eq_some_iff.1 he).1, (List.getElem?_eq_some_iff.1 he).2, fun j hj => ?_⟩
    have hk := (List.getElem?_eq_some_iff.1 he).1
    have h1 := (List.getElem?_eq_some_iff.1 he).2
    have h2 := (List.pairwise_iff_getElem.1 ho) j k (by simp; omega) (by simpa using hk) hj
    simp only [List.getElem_map, h1] at h2
    simpa using h2
  unfold lastQ
  rw [hf]
  rfl
theorem TriOk.nonzero {n : Nat} {j : Tri} (h : TriOk n j) : j ≠ (0, 0, 0) := by
  rintro rfl
  exact h.2.2.2.2.2.2.1 rfl
theorem fromJ_back (j : Tri) (p : Nat) : fromJ j (fromJ j p) = p := by
  unfold fromJ
  rw [Nat.xor_assoc, Nat.xor_self, Nat.xor_zero]
end Go.Proofs.Ythbhengcinkepaa
