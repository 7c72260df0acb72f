/- Jumps and positions as plain mathematics, and the search by breadth: which positions it finds, in which order, with the last jump to each. No program is spoken of. · Games as plain mathematics: what the search by breadth finds is what games lead to, and going back by the last jumps makes a game. No program is spoken of. · Jumps by bits; going back: a game from p to q is, read backwards, one between the holes without pegs. No program is spoken of. · Games played, their lengths, and what the search finds as rising lists. No program is spoken of. -/
import Derived.Test.YthbhengcinkepaaTri
import Derived.Test.YthbhengcinkepaaLampL
import Derived.Test.YthbhengcinkepaaLampS
namespace Go.Proofs.Ythbhengcinkepaa
open Lamp

def bitN (x : Int) : Nat := 2 ^ x.toNat
/-- The pegs that a jump takes out of their holes; all of its holes. -/
def takenM (j : Tri) : Nat := bitN j.1 ||| bitN j.2.1
def holesM (j : Tri) : Nat := takenM j ||| bitN j.2.2
def canJ (j : Tri) (p : Nat) : Bool := p &&& holesM j == takenM j
def fromJ (j : Tri) (p : Nat) : Nat := p ^^^ holesM j

/-- Is a position among those found? -/
def hasQ (Q : List (Nat × Tri)) (x : Nat) : Bool := Q.any fun e => e.1 == x
theorem hasQ_iff {Q : List (Nat × Tri)} {x : Nat} : hasQ Q x = true ↔ ∃ j, (x, j) ∈ Q := by
  unfold hasQ
  rw [List.any_eq_true]
  constructor
  · rintro ⟨⟨y, j⟩, h1, h2⟩
    have : y = x := by simpa using h2
    subst this
    exact ⟨j, h1⟩
  · rintro ⟨j, h⟩
    exact ⟨_, h, by simp⟩
theorem hasQ_app (Q R : List (Nat × Tri)) (x : Nat) : hasQ (Q ++ R) x = (hasQ Q x || hasQ R x) := by simp [hasQ]

/-- What a jump from u adds. -/
def addJ (u : Nat) (Q : List (Nat × Tri)) (j : Tri) : List (Nat × Tri) := if hasQ Q (fromJ j u) = true then Q else Q ++ [(fromJ j u, j)]
/-- What several jumps from u add. -/
def addP (u : Nat) (Q : List (Nat × Tri)) (js : List Tri) : List (Nat × Tri) := js.foldl (addJ u) Q
/-- What is found when the first positions, so many, have been gone through. -/
def bfsK (all : List Tri) (p : Nat) : Nat → List (Nat × Tri)
  | 0 => [(p, (0, 0, 0))]
  | i + 1 => match (bfsK all p i)[i]? with
    | none => bfsK all p i
    | some e => addP e.1 (bfsK all p i) (all.filter fun j => canJ j e.1)
/-- What is found at last. -/
def reachL (all : List Tri) (p : Nat) : List (Nat × Tri) := bfsK all p 65536

theorem addP_snoc (u : Nat) (Q : List (Nat × Tri)) (js : List Tri) (j : Tri) : addP u Q (js ++ [j]) = addJ u (addP u Q js) j := by simp [addP]
theorem addJ_pre (u : Nat) (Q : List (Nat × Tri)) (j : Tri) : Q <+: addJ u Q j := by
  unfold addJ
  split
  · exact List.prefix_refl _
  · exact List.prefix_append _ _
theorem addP_pre (u : Nat) (js : List Tri) : ∀ Q, Q <+: addP u Q js := by
  induction js with
  | nil => exact fun Q => List.prefix_refl _
  | cons j js ih => exact fun Q => (addJ_pre u Q j).trans (ih _)
theorem addP_mono (u : Nat) (Q : List (Nat × Tri)) {a b : List Tri} (h : a <+: b) : addP u Q a <+: addP u Q b := by
  obtain ⟨c, rfl⟩ := h
  unfold addP
  rw [List.foldl_append]
  exact addP_pre u c _
theorem bfsK_pre (all : List Tri) (p i : Nat) : bfsK all p i <+: bfsK all p (i + 1) := by
  rw [bfsK]
  split
  · exact List.prefix_refl _
  · exact addP_pre _ _ _
theorem bfsK_mono (all : List Tri) (p : Nat) {i k : Nat} (h : i ≤ k) : bfsK all p i <+: bfsK all p k := by
  induction k with
  | zero => obtain rfl : i = 0 := by omega
            exact List.prefix_refl _
  | succ k ih =>
    rcases Nat.lt_or_ge i (k + 1) with h1 | h1
    · exact (ih (by omega)).trans (bfsK_pre all p k)
    · obtain rfl : i = k + 1 := by omega
      exact List.prefix_refl _
theorem bfsK_end {all : List Tri} {p i : Nat} (h : (bfsK all p i).length ≤ i) : ∀ k, i ≤ k → bfsK all p k = bfsK all p i := by
  intro k hk
  induction k with
  | zero => obtain rfl : i = 0 := by omega
            rfl
  | succ k ih =>
    rcases Nat.lt_or_ge i (k + 1) with h1 | h1
    · have e := ih (by omega)
      rw [bfsK, List.getElem?_eq_none (by rw [e]; omega), e]
    · obtain rfl : i = k + 1 := by omega
      rfl
theorem bfsK_pos (all : List Tri) (p i : Nat) : 1 ≤ (bfsK all p i).length := (bfsK_mono all p (Nat.zero_le i)).length_le

/-- Positions that are found are found once. -/
def Once (Q : List (Nat × Tri)) : Prop := (Q.map fun e => e.1).Nodup
theorem Once.addJ {u : Nat} {Q : List (Nat × Tri)} (h : Once Q) (j : Tri) : Once (addJ u Q j) := by
  unfold Go.Proofs.Ythbhengcinkepaa.addJ
  split
  · exact h
  · rename_i hn
    unfold Once
    rw [List.map_append, List.nodup_append]
    refine ⟨h, by simp, fun a ha b hb => ?_⟩
    rintro rfl
    apply hn
    rw [List.mem_map] at ha
    obtain ⟨⟨y, k⟩, h1, h2⟩ := ha
    simp only at h2
    simp only [List.map_cons, List.map_nil, List.mem_singleton] at hb
    rw [hasQ_iff]
    exact ⟨k, by rw [← hb, ← h2]; exact h1⟩
theorem Once.addP {u : Nat} (js : List Tri) : ∀ {Q : List (Nat × Tri)}, Once Q → Once (addP u Q js) := by
  induction js with
  | nil => exact fun h => h
  | cons j js ih => exact fun h => ih (h.addJ j)
theorem bfsK_once (all : List Tri) (p i : Nat) : Once (bfsK all p i) := by
  induction i with
  | zero => simp [Once, bfsK]
  | succ i ih =>
    rw [bfsK]
    split
    · exact ih
    · exact ih.addP _

/-- A property that the first position has, and that jumps keep. -/
theorem addJ_keeps {P : Nat × Tri → Prop} {u : Nat} {Q : List (Nat × Tri)} {j : Tri} (h : ∀ e ∈ Q, P e) (hj : P (fromJ j u, j)) : ∀ e ∈ addJ u Q j, P e := by
  unfold addJ
  split
  · exact h
  · intro e he
    rw [List.mem_append, List.mem_singleton] at he
    rcases he with he | rfl
    · exact h e he
    · exact hj
theorem addP_keeps {P : Nat × Tri → Prop} {u : Nat} : ∀ (js : List Tri) (Q : List (Nat × Tri)), (∀ e ∈ Q, P e) → (∀ j ∈ js, P (fromJ j u, j)) → ∀ e ∈ addP u Q js, P e
  | [], _, h, _ => h
  | j :: js, Q, h, hj => addP_keeps js (addJ u Q j) (addJ_keeps h (hj j (by simp))) fun k hk => hj k (by simp [hk])
theorem bfsK_keeps {P : Nat × Tri → Prop} {all : List Tri} {p : Nat} (h0 : P (p, (0, 0, 0))) (hj : ∀ e, P e → ∀ j ∈ all, canJ j e.1 = true → P (fromJ j e.1, j)) : ∀ i, ∀ e ∈ bfsK all p i, P e
  | 0 => fun e he => by
    have : e = (p, (0, 0, 0)) := by simpa [bfsK] using he
    rw [this]; exact h0
  | i + 1 => by
    have ih := bfsK_keeps h0 hj i
    rw [bfsK]
    split
    · exact ih
    · rename_i e he
      refine addP_keeps _ _ ih fun j hj' => ?_
      rw [List.mem_filter] at hj'
      exact hj e (ih e (List.mem_of_getElem? he)) j hj'.1 hj'.2

theorem nodup_lt : ∀ (n : Nat) (l : List Nat), l.Nodup → (∀ x ∈ l, x < n) → l.length ≤ n
  | 0, l, _, h => by
    cases l with
    | nil => simp
    | cons a l => exact absurd (h a (by simp)) (Nat.not_lt_zero _)
  | n + 1, l, hd, h => by
    have h1 : (l.erase n).length ≤ n := nodup_lt n _ (hd.erase n) fun x hx => by
      have h2 := h x (List.mem_of_mem_erase hx)
      have h3 : x ≠ n := fun e => by
        subst e
        exact (List.Nodup.mem_erase_iff hd).1 hx |>.1 rfl
      omega
    by_cases hm : n ∈ l
    · rw [List.length_erase_of_mem hm] at h1; omega
    · rw [List.erase_of_not_mem hm] at h1; omega

/-- Jumps of a board of n holes. -/
def TriOk (n : Nat) (j : Tri) : Prop := 0 ≤ j.1 ∧ j.1 < n ∧ 0 ≤ j.2.1 ∧ j.2.1 < n ∧ 0 ≤ j.2.2 ∧ j.2.2 < n ∧ j.1 ≠ j.2.1 ∧ j.1 ≠ j.2.2 ∧ j.2.1 ≠ j.2.2
theorem bitN_lt {n : Nat} {x : Int} (h0 : 0 ≤ x) (h : x < n) : bitN x < 2 ^ n := Nat.pow_lt_pow_right (by decide) (by omega)
theorem takenM_lt {n : Nat} {j : Tri} (h : TriOk n j) : takenM j < 2 ^ n := Nat.or_lt_two_pow (bitN_lt h.1 h.2.1) (bitN_lt h.2.2.1 h.2.2.2.1)
theorem holesM_lt {n : Nat} {j : Tri} (h : TriOk n j) : holesM j < 2 ^ n := Nat.or_lt_two_pow (takenM_lt h) (bitN_lt h.2.2.2.2.1 h.2.2.2.2.2.1)

section
variable {n : Nat} {all : List Tri} {p : Nat} (hn : n ≤ 16) (hall : ∀ j ∈ all, TriOk n j) (hp : p < 2 ^ n)
include hall hp
theorem bfsK_lt (i : Nat) : ∀ e ∈ bfsK all p i, e.1 < 2 ^ n :=
  bfsK_keeps (P := fun e => e.1 < 2 ^ n) hp (fun _ he j hj _ => Nat.xor_lt_two_pow he (holesM_lt (hall j hj))) i
theorem bfsK_len (i : Nat) : (bfsK all p i).length ≤ 2 ^ n := by
  have h := nodup_lt (2 ^ n) ((bfsK all p i).map fun (e : Nat × Tri) => e.1) (bfsK_once all p i) fun x hx => by
    rw [List.mem_map] at hx
    obtain ⟨e, he, rfl⟩ := hx
    exact bfsK_lt hall hp i e he
  simpa using h
include hn
theorem reachL_end {i : Nat} (h : (bfsK all p i).length ≤ i) : bfsK all p i = reachL all p := by
  unfold reachL
  have h1 := bfsK_len hall hp i
  have h2 : (2:Nat) ^ n ≤ 65536 := Nat.pow_le_pow_right (n := 2) (by decide) hn
  have h3 : (bfsK all p (bfsK all p i).length).length ≤ (bfsK all p i).length := (bfsK_mono all p h).length_le
  rcases Nat.lt_or_ge i 65536 with h4 | h4
  · exact (bfsK_end h 65536 (by omega)).symm
  · have h5 : bfsK all p i = bfsK all p (bfsK all p i).length := bfsK_end h3 i h
    have h6 : bfsK all p 65536 = bfsK all p (bfsK all p i).length := bfsK_end h3 65536 (by omega)
    rw [h6]; exact h5
theorem reachL_stays : (reachL all p).length ≤ 65536 := by
  have h1 := bfsK_len hall hp 65536
  have h2 : (2:Nat) ^ n ≤ 65536 := Nat.pow_le_pow_right (n := 2) (by decide) hn
  exact Nat.le_trans h1 h2
/-- Where a jump leads from what is found is found. -/
theorem reachL_closed {u : Nat} {k j : Tri} (hu : (u, k) ∈ reachL all p) (hj : j ∈ all) (hc : canJ j u = true) : ∃ k', (fromJ j u, k') ∈ reachL all p := by
  obtain ⟨i, hi⟩ := List.getElem?_of_mem hu
  have hlt : i < (reachL all p).length := (List.getElem?_eq_some_iff.1 hi).1
  have h65 := reachL_stays hn hall hp
  by_cases hlen : i < (bfsK all p i).length
  · have he : (bfsK all p i)[i]? = some (u, k) := by
      have h1 := (bfsK_mono all p (i := i) (k := 65536) (by omega))
      obtain ⟨r, hr⟩ := h1
      have h2 : (reachL all p)[i]? = (bfsK all p i)[i]? := by
        unfold reachL
        rw [← hr, List.getElem?_append_left hlen]
      rw [← h2]; exact hi
    have h3 : hasQ (bfsK all p (i + 1)) (fromJ j u) = true := by
      rw [bfsK, he]
      simp only
      obtain ⟨a, b, hab⟩ := List.append_of_mem (List.mem_filter.2 ⟨hj, hc⟩ : j ∈ all.filter fun j => canJ j u)
      rw [hab]
      have h4 : addP u (bfsK all p i) (a ++ [j]) <+: addP u (bfsK all p i) (a ++ j :: b) := addP_mono u _ ⟨b, by simp⟩
      have h5 : hasQ (addP u (bfsK all p i) (a ++ [j])) (fromJ j u) = true := by
        rw [addP_snoc]
        unfold addJ
        split
        · assumption
        · rw [hasQ_app]; simp [hasQ]
      obtain ⟨k', hk'⟩ := hasQ_iff.1 h5
      exact hasQ_iff.2 ⟨k', h4.subset hk'⟩
    obtain ⟨k', hk'⟩ := hasQ_iff.1 h3
    exact ⟨k', (bfsK_mono all p (i := i + 1) (k := 65536) (by omega)).subset hk'⟩
  · have := reachL_end hn hall hp (i := i) (by omega)
    rw [this] at hlen
    omega
end
end Go.Proofs.Ythbhengcinkepaa

namespace Go.Proofs.Ythbhengcinkepaa
open Lamp

/-- A game: jumps one after the other, each of which can be made. -/
inductive Game (all : List Tri) : Nat → List Tri → Nat → Prop
  | nil (p : Nat) : Game all p [] p
  | cons {p q : Nat} {j : Tri} {g : List Tri} : j ∈ all → canJ j p = true → Game all (fromJ j p) g q → Game all p (j :: g) q
theorem Game.append {all : List Tri} {p q r : Nat} {g h : List Tri} (hg : Game all p g q) (hh : Game all q h r) : Game all p (g ++ h) r := by
  induction hg with
  | nil p => exact hh
  | cons h1 h2 _ ih => exact .cons h1 h2 (ih hh)
theorem Game.snoc {all : List Tri} {p q : Nat} {g : List Tri} {j : Tri} (hg : Game all p g q) (h1 : j ∈ all) (h2 : canJ j q = true) : Game all p (g ++ [j]) (fromJ j q) := hg.append (.cons h1 h2 (.nil _))

/-- Each position that is found, but the first one, was reached by a jump from one that was found before it. -/
def Linked (all : List Tri) (p : Nat) (Q : List (Nat × Tri)) : Prop :=
  ∀ k e, Q[k]? = some e → (k = 0 ∧ e = (p, (0, 0, 0))) ∨ ∃ k' u j', k' < k ∧ Q[k']? = some (u, j') ∧ e.2 ∈ all ∧ canJ e.2 u = true ∧ e.1 = fromJ e.2 u
theorem Linked.addJ {all : List Tri} {p u : Nat} {Q : List (Nat × Tri)} {j : Tri} (h : Linked all p Q) (hu : ∃ j', (u, j') ∈ Q) (hj : j ∈ all) (hc : canJ j u = true) : Linked all p (addJ u Q j) := by
  unfold Go.Proofs.Ythbhengcinkepaa.addJ
  split
  · exact h
  · intro k e he
    rcases Nat.lt_or_ge k Q.length with hk | hk
    · rw [List.getElem?_append_left hk] at he
      rcases h k e he with h1 | ⟨k', u', j', h1, h2, h3⟩
      · exact .inl h1
      · refine .inr ⟨k', u', j', h1, ?_, h3⟩
        rw [List.getElem?_append_left (by omega)]; exact h2
    · rw [List.getElem?_append_right hk] at he
      have hk0 : k - Q.length = 0 := by
        have := (List.getElem?_eq_some_iff.1 he).1
        simp at this; omega
      rw [hk0] at he
      have he : e = (fromJ j u, j) := by simpa using he.symm
      subst he
      obtain ⟨j', hj'⟩ := hu
      obtain ⟨k', hk'⟩ := List.getElem?_of_mem hj'
      have hlt := (List.getElem?_eq_some_iff.1 hk').1
      exact .inr ⟨k', u, j', by omega, by rw [List.getElem?_append_left hlt]; exact hk', hj, hc, rfl⟩
theorem Linked.addP {all : List Tri} {p u : Nat} : ∀ (js : List Tri) {Q : List (Nat × Tri)}, Linked all p Q → (∃ j', (u, j') ∈ Q) → (∀ j ∈ js, j ∈ all ∧ canJ j u = true) → Linked all p (addP u Q js)
  | [], _, h, _, _ => h
  | j :: js, Q, h, hu, hj => Linked.addP js (h.addJ hu (hj j (by simp)).1 (hj j (by simp)).2) (by
      obtain ⟨j', hj'⟩ := hu
      exact ⟨j', (addJ_pre u Q j).subset hj'⟩) fun k hk => hj k (by simp [hk])
theorem bfsK_linked (all : List Tri) (p : Nat) : ∀ i, Linked all p (bfsK all p i)
  | 0 => fun k e he => by
    rw [bfsK] at he
    cases k with
    | zero => exact .inl ⟨rfl, by simpa using he.symm⟩
    | succ k => simp at he
  | i + 1 => by
    have ih := bfsK_linked all p i
    rw [bfsK]
    split
    · exact ih
    · rename_i e he
      exact ih.addP _ ⟨e.2, List.mem_of_getElem? he⟩ fun j hj => by
        rw [List.mem_filter] at hj
        exact hj
theorem Linked.initial {all : List Tri} {p : Nat} {Q R : List (Nat × Tri)} (h : Linked all p Q) (hR : R <+: Q) : Linked all p R := by
  obtain ⟨S, rfl⟩ := hR
  intro k e he
  have hk := (List.getElem?_eq_some_iff.1 he).1
  rcases h k e (by rw [List.getElem?_append_left hk]; exact he) with h1 | ⟨k', u, j', h1, h2, h3⟩
  · exact .inl h1
  · exact .inr ⟨k', u, j', h1, by rw [List.getElem?_append_left (by omega)] at h2; exact h2, h3⟩
/-- To each position that is found a game leads. -/
theorem Linked.game {all : List Tri} {p : Nat} {Q : List (Nat × Tri)} (h : Linked all p Q) : ∀ (k : Nat) (e : Nat × Tri), Q[k]? = some e → ∃ g, Game all p g e.1 := by
  intro k
  induction k using Nat.strongRecOn with
  | _ k ih =>
    intro e he
    rcases h k e he with ⟨_, rfl⟩ | ⟨k', u, j', h1, h2, h3, h4, h5⟩
    · exact ⟨[], .nil _⟩
    · obtain ⟨g, hg⟩ := ih k' h1 _ h2
      exact ⟨g ++ [e.2], by rw [h5]; exact hg.snoc h3 h4⟩

section
variable {n : Nat} {all : List Tri} {p : Nat} (hn : n ≤ 16) (hall : ∀ j ∈ all, TriOk n j) (hp : p < 2 ^ n)
include hn hall hp
theorem game_found {q : Nat} {g : List Tri} (_hg : Game all p g q) : ∀ (r : Nat), (∃ k, (r, k) ∈ reachL all p) → ∀ g' q', Game all r g' q' → ∃ k, (q', k) ∈ reachL all p := by
  intro r hr g' q' hg'
  induction hg' with
  | nil p => exact hr
  | cons h1 h2 _ ih =>
    obtain ⟨k, hk⟩ := hr
    exact ih (reachL_closed hn hall hp hk h1 h2)
/-- The search finds just what games lead to. -/
theorem reachL_iff (q : Nat) : hasQ (reachL all p) q = true ↔ ∃ g, Game all p g q := by
  rw [hasQ_iff]
  constructor
  · rintro ⟨k, hk⟩
    obtain ⟨i, hi⟩ := List.getElem?_of_mem hk
    exact (bfsK_linked all p 65536).game i _ hi
  · rintro ⟨g, hg⟩
    refine game_found hn hall hp hg p ⟨(0, 0, 0), ?_⟩ g q hg
    exact (bfsK_mono all p (i := 0) (k := 65536) (by omega)).subset (by simp [bfsK])
end

/-- The last jump to a position among those found. -/
def lastQ (Q : List (Nat × Tri)) (x : Nat) : Tri := ((Q.find? fun e => e.1 == x).map (·.2)).getD (0, 0, 0)
theorem lastQ_at {Q : List (Nat × Tri)} (ho : Once Q) {k : Nat} {e : Nat × Tri} (he : Q[k]? = some e) : lastQ Q e.1 = e.2 := by
  have hf : Q.find? (fun f => f.1 == e.1) = some e := by
    rw [List.find?_eq_some_iff_getElem]
    refine ⟨by simp, k, (List.getElem?_eq_some_iff.1 he).1, (List.getElem?_eq_some_iff.1 he).2, fun j hj => ?_⟩
    have hk := (List.getElem?_eq_some_iff.1 he).1
    have h1 := (List.getElem?_eq_some_iff.1 he).2
    have h2 := (List.pairwise_iff_getElem.1 ho) j k (by simp; omega) (by simpa using hk) hj
    simp only [List.getElem_map, h1] at h2
    simpa using h2
  unfold lastQ
  rw [hf]
  rfl
theorem TriOk.nonzero {n : Nat} {j : Tri} (h : TriOk n j) : j ≠ (0, 0, 0) := by
  rintro rfl
  exact h.2.2.2.2.2.2.1 rfl
theorem fromJ_back (j : Tri) (p : Nat) : fromJ j (fromJ j p) = p := by
  unfold fromJ
  rw [Nat.xor_assoc, Nat.xor_self, Nat.xor_zero]
end Go.Proofs.Ythbhengcinkepaa

namespace Go.Proofs.Ythbhengcinkepaa
open Lamp

theorem bitN_nat (a : Nat) : bitN (a : Int) = 2 ^ a := by simp [bitN]
theorem takenM_bit (a b i : Nat) (c : Int) : (takenM ((a : Int), (b : Int), c)).testBit i = (decide (a = i) || decide (b = i)) := by
  unfold takenM
  simp only [bitN_nat]
  rw [Nat.testBit_or, Nat.testBit_two_pow, Nat.testBit_two_pow]
theorem holesM_bit (a b c i : Nat) : (holesM ((a : Int), (b : Int), (c : Int))).testBit i = (decide (a = i) || decide (b = i) || decide (c = i)) := by
  unfold holesM
  rw [Nat.testBit_or, takenM_bit]
  simp only [bitN_nat]
  rw [Nat.testBit_two_pow]
theorem canJ_bits {a b c : Nat} (p : Nat) (hac : a ≠ c) (hbc : b ≠ c) : canJ ((a : Int), (b : Int), (c : Int)) p = (p.testBit a && p.testBit b && !p.testBit c) := by
  unfold canJ
  rw [Bool.eq_iff_iff, beq_iff_eq]
  constructor
  · intro h
    have hb : ∀ i, (p.testBit i && (decide (a = i) || decide (b = i) || decide (c = i))) = (decide (a = i) || decide (b = i)) := fun i => by
      rw [← holesM_bit, ← Nat.testBit_and, h, takenM_bit]
    have h1 := hb a
    have h2 := hb b
    have h3 := hb c
    simp at h1 h2
    have h4 : p.testBit c = false := by
      rw [decide_eq_false hac, decide_eq_false hbc] at h3
      simpa using h3
    simp [h1, h2, h4]
  · intro h
    simp only [Bool.and_eq_true, Bool.not_eq_true'] at h
    obtain ⟨⟨h1, h2⟩, h3⟩ := h
    refine Nat.eq_of_testBit_eq fun i => ?_
    rw [Nat.testBit_and, holesM_bit, takenM_bit]
    by_cases e1 : a = i
    · subst e1; simp [h1]
    · by_cases e2 : b = i
      · subst e2; simp [h2]
      · by_cases e3 : c = i
        · subst e3; simp [h3, e1, e2]
        · simp [e1, e2, e3]
theorem full_bit (n i : Nat) : (2 ^ n - 1).testBit i = decide (i < n) := Nat.testBit_two_pow_sub_one n i
theorem comp_lt {n p : Nat} (hp : p < 2 ^ n) : (2 ^ n - 1) ^^^ p < 2 ^ n := Nat.xor_lt_two_pow (by have := Nat.two_pow_pos n; omega) hp
theorem comp_comp (n p : Nat) : (2 ^ n - 1) ^^^ ((2 ^ n - 1) ^^^ p) = p := by rw [← Nat.xor_assoc, Nat.xor_self, Nat.zero_xor]
theorem TriOk.nats {n : Nat} {j : Tri} (h : TriOk n j) : ∃ a b c : Nat, j = ((a : Int), (b : Int), (c : Int)) ∧ a < n ∧ b < n ∧ c < n ∧ a ≠ b ∧ a ≠ c ∧ b ≠ c := by
  obtain ⟨x, y, z⟩ := j
  obtain ⟨h1, h2, h3, h4, h5, h6, h7, h8, h9⟩ := h
  dsimp only at h1 h2 h3 h4 h5 h6 h7 h8 h9
  exact ⟨x.toNat, y.toNat, z.toNat, by simp only [Prod.mk.injEq]; omega, by omega, by omega, by omega, by omega, by omega, by omega⟩
theorem canJ_back {n : Nat} {j : Tri} {p : Nat} (hj : TriOk n j) (h : canJ j p = true) : canJ j ((2 ^ n - 1) ^^^ fromJ j p) = true ∧ fromJ j ((2 ^ n - 1) ^^^ fromJ j p) = (2 ^ n - 1) ^^^ p := by
  constructor
  · obtain ⟨a, b, c, rfl, ha, hb, hc, hab, hac, hbc⟩ := hj.nats
    rw [canJ_bits p hac hbc] at h
    simp only [Bool.and_eq_true, Bool.not_eq_true'] at h
    obtain ⟨⟨h1, h2⟩, h3⟩ := h
    rw [canJ_bits _ hac hbc]
    unfold fromJ
    simp only [Nat.testBit_xor, full_bit, holesM_bit, h1, h2, h3, ha, hb, hc]
    simp
  · unfold fromJ
    rw [Nat.xor_assoc, Nat.xor_assoc p, Nat.xor_self, Nat.xor_zero]
theorem Game.back {n : Nat} {all : List Tri} {p q : Nat} {g : List Tri} (hall : ∀ j ∈ all, TriOk n j) (hg : Game all p g q) : Game all ((2 ^ n - 1) ^^^ q) g.reverse ((2 ^ n - 1) ^^^ p) := by
  induction hg with
  | nil p => exact .nil _
  | cons h1 h2 _ ih =>
    rw [List.reverse_cons]
    obtain ⟨h3, h4⟩ := canJ_back (hall _ h1) h2
    rw [← h4]
    exact ih.snoc h1 h3
/-- There is a game from p to q just if there is one from the holes without a peg in q to those without a peg in p. -/
theorem game_back {n : Nat} {all : List Tri} {p q : Nat} (hall : ∀ j ∈ all, TriOk n j) : (∃ g, Game all p g q) ↔ ∃ g, Game all ((2 ^ n - 1) ^^^ q) g ((2 ^ n - 1) ^^^ p) := by
  constructor
  · rintro ⟨g, hg⟩
    exact ⟨_, hg.back hall⟩
  · rintro ⟨g, hg⟩
    have := hg.back hall
    rw [comp_comp, comp_comp] at this
    exact ⟨_, this⟩

theorem sumB_pick (x a k : Nat) (ha : a < k) : sumB (fun i => x.testBit i && decide (a = i)) k = x.testBit a := by
  rw [sumB_one _ a k ha fun i _ hi => by simp [Ne.symm hi]]
  simp
theorem ip_holes {a b c : Nat} (x : Nat) (ha : a < 16) (hb : b < 16) (hc : c < 16) (hab : a ≠ b) (hac : a ≠ c) (hbc : b ≠ c) : ip x (holesM ((a : Int), (b : Int), (c : Int))) = ((x.testBit a).xor (x.testBit b)).xor (x.testBit c) := by
  unfold ip
  rw [sumB_congr (g := fun i => ((x.testBit i && decide (a = i)).xor (x.testBit i && decide (b = i))).xor (x.testBit i && decide (c = i)))]
  · rw [sumB_xor, sumB_xor, sumB_pick x a 16 ha, sumB_pick x b 16 hb, sumB_pick x c 16 hc]
  · intro i _
    rw [holesM_bit]
    cases x.testBit i
    · rfl
    · by_cases e1 : a = i
      · have e2 : b ≠ i := by omega
        have e3 : c ≠ i := by omega
        simp [e1, e2, e3]
      · by_cases e2 : b = i
        · have e3 : c ≠ i := by omega
          simp [e1, e2, e3]
        · simp [e1, e2]
/-- A line's holes in a set, counted. -/
theorem rule_par {a b c : Nat} (x : Nat) (ha : a < 16) (hb : b < 16) (hc : c < 16) (hab : a ≠ b) (hac : a ≠ c) (hbc : b ≠ c) : ip x (holesM ((a : Int), (b : Int), (c : Int))) = decide ((x / 2 ^ a + x / 2 ^ b + x / 2 ^ c) % 2 = 1) := by
  rw [ip_holes x ha hb hc hab hac hbc]
  simp only [Nat.testBit_eq_decide_div_mod_eq]
  rw [Bool.eq_iff_iff]
  have h1 := Nat.mod_two_eq_zero_or_one (x / 2 ^ a)
  have h2 := Nat.mod_two_eq_zero_or_one (x / 2 ^ b)
  have h3 := Nat.mod_two_eq_zero_or_one (x / 2 ^ c)
  generalize x / 2 ^ a = u at *
  generalize x / 2 ^ b = v at *
  generalize x / 2 ^ c = t at *
  rcases h1 with h1 | h1 <;> rcases h2 with h2 | h2 <;> rcases h3 with h3 | h3 <;> simp [h1, h2, h3] <;> omega
end Go.Proofs.Ythbhengcinkepaa

namespace Go.Proofs.Ythbhengcinkepaa
open Lamp

/-- Turning one bit changes the number of bits by one. -/
theorem popK_turn (x i : Nat) : ∀ k, popK (x ^^^ 2 ^ i) k + (if i < k then (x.testBit i).toNat else 0) = popK x k + (if i < k then (!x.testBit i).toNat else 0)
  | 0 => by simp [popK]
  | k + 1 => by
    have ih := popK_turn x i k
    rw [popK, popK, ← Nat.toNat_testBit, ← Nat.toNat_testBit, Nat.testBit_xor, Nat.testBit_two_pow]
    by_cases e : i = k
    · subst e
      rw [if_neg (Nat.lt_irrefl _), if_neg (Nat.lt_irrefl _)] at ih
      rw [if_pos (Nat.lt_succ_self _), if_pos (Nat.lt_succ_self _)]
      cases x.testBit i <;> simp <;> omega
    · by_cases h : i < k
      · rw [if_pos h, if_pos h] at ih
        rw [if_pos (by omega), if_pos (by omega)]
        simp [e]; omega
      · rw [if_neg h, if_neg h] at ih
        rw [if_neg (by omega), if_neg (by omega)]
        simp [e]; omega
theorem popc_less {x i : Nat} (hi : i < 16) (h : x.testBit i = true) : popc (x ^^^ 2 ^ i) + 1 = popc x := by
  have := popK_turn x i 16
  rw [if_pos hi, if_pos hi, h] at this
  unfold popc
  simpa using this
theorem popc_more {x i : Nat} (hi : i < 16) (h : x.testBit i = false) : popc (x ^^^ 2 ^ i) = popc x + 1 := by
  have := popK_turn x i 16
  rw [if_pos hi, if_pos hi, h] at this
  unfold popc
  simpa using this
/-- A jump takes one peg away. -/
theorem popc_jump {n : Nat} {j : Tri} {p : Nat} (hn : n ≤ 16) (hj : TriOk n j) (h : canJ j p = true) : popc (fromJ j p) + 1 = popc p := by
  obtain ⟨a, b, c, rfl, ha, hb, hc, hab, hac, hbc⟩ := hj.nats
  rw [canJ_bits p hac hbc] at h
  simp only [Bool.and_eq_true, Bool.not_eq_true'] at h
  obtain ⟨⟨h1, h2⟩, h3⟩ := h
  have e : fromJ ((a : Int), (b : Int), (c : Int)) p = ((p ^^^ 2 ^ a) ^^^ 2 ^ b) ^^^ 2 ^ c := by
    refine Nat.eq_of_testBit_eq fun i => ?_
    unfold fromJ
    simp only [Nat.testBit_xor, Nat.testBit_two_pow, holesM_bit]
    by_cases e1 : a = i
    · subst e1; simp [Ne.symm hab, Ne.symm hac]
    · by_cases e2 : b = i
      · subst e2; simp [hab, Ne.symm hbc]
      · by_cases e3 : c = i
        · subst e3; simp [hac, hbc]
        · simp [e1, e2, e3]
  have t2 : (p ^^^ 2 ^ a).testBit b = true := by rw [Nat.testBit_xor, Nat.testBit_two_pow, h2]; simp [hab]
  have t3 : ((p ^^^ 2 ^ a) ^^^ 2 ^ b).testBit c = false := by simp [Nat.testBit_xor, h3, hac, hbc]
  have q1 := popc_less (by omega : a < 16) h1
  have q2 := popc_less (by omega : b < 16) t2
  have q3 := popc_more (by omega : c < 16) t3
  rw [e]
  omega
theorem Game.size {n : Nat} {all : List Tri} {p q : Nat} {g : List Tri} (hn : n ≤ 16) (hall : ∀ j ∈ all, TriOk n j) (hg : Game all p g q) : popc q + g.length = popc p := by
  induction hg with
  | nil p => simp
  | cons h1 h2 _ ih =>
    have := popc_jump hn (hall _ h1) h2
    simp only [List.length_cons]
    omega
theorem popc_16 (x : Nat) : popc x ≤ 16 := by
  have h : ∀ k, popK x k ≤ k := fun k => by
    induction k with
    | zero => exact Nat.le_refl _
    | succ k ih =>
      rw [popK]
      have := Nat.mod_lt (x / 2 ^ k) (by decide : 2 > 0)
      omega
  exact h 16
theorem Game.short {n : Nat} {all : List Tri} {p q : Nat} {g : List Tri} (hn : n ≤ 16) (hall : ∀ j ∈ all, TriOk n j) (hg : Game all p g q) : g.length ≤ 16 := by
  have h1 := hg.size hn hall
  have h2 := popc_16 p
  omega
theorem Game.stays {n : Nat} {all : List Tri} {p q : Nat} {g : List Tri} (hall : ∀ j ∈ all, TriOk n j) (hg : Game all p g q) (hp : p < 2 ^ n) : q < 2 ^ n := by
  induction hg with
  | nil p => exact hp
  | cons h1 _ _ ih => exact ih (Nat.xor_lt_two_pow hp (holesM_lt (hall _ h1)))

/-- The position after jumps, if they can be made. -/
def playL (all : List Tri) : Nat → List Tri → Option Nat
  | p, [] => some p
  | p, j :: g => if decide (j ∈ all) && canJ j p then playL all (fromJ j p) g else none
theorem playL_game {all : List Tri} : ∀ (g : List Tri) (p q : Nat), playL all p g = some q ↔ Game all p g q
  | [], p, q => by
    constructor
    · intro h
      obtain rfl : p = q := by simpa [playL] using h
      exact .nil _
    · intro h
      cases h
      rfl
  | j :: g, p, q => by
    constructor
    · intro h
      unfold playL at h
      split at h
      · rename_i hc
        simp only [Bool.and_eq_true, decide_eq_true_eq] at hc
        exact .cons hc.1 hc.2 ((playL_game g _ q).1 h)
      · cases h
    · intro h
      cases h with
      | cons h1 h2 h3 =>
        unfold playL
        rw [if_pos (by simp [h1, h2])]
        exact (playL_game g _ q).2 h3
/-- The first k jumps can be made, and lead to that position. -/
def Upto (all : List Tri) (p : Nat) (g : List Tri) (k q : Nat) : Prop := playL all p (g.take k) = some q
theorem Upto.start (all : List Tri) (p : Nat) (g : List Tri) : Upto all p g 0 p := by simp [Upto, playL]
theorem playL_app {all : List Tri} : ∀ (g h : List Tri) (p : Nat), playL all p (g ++ h) = (playL all p g).bind fun q => playL all q h
  | [], h, p => by simp [playL]
  | j :: g, h, p => by
    simp only [List.cons_append, playL]
    split
    · exact playL_app g h _
    · rfl
theorem Upto.next {all : List Tri} {p k q : Nat} {g : List Tri} {j : Tri} (h : Upto all p g k q) (hj : g[k]? = some j) (h1 : j ∈ all) (h2 : canJ j q = true) : Upto all p g (k + 1) (fromJ j q) := by
  have h3 := List.getElem?_eq_some_iff.1 hj
  unfold Upto at h ⊢
  rw [List.take_succ_eq_append_getElem h3.1, h3.2, playL_app, h]
  simp [playL, h1, h2]
theorem Upto.stop {all : List Tri} {p k q : Nat} {g : List Tri} {j : Tri} (h : Upto all p g k q) (hj : g[k]? = some j) (h1 : ¬ (j ∈ all ∧ canJ j q = true)) : playL all p g = none := by
  have h3 := List.getElem?_eq_some_iff.1 hj
  have e : g = g.take k ++ (j :: g.drop (k + 1)) := by
    have h4 := List.take_append_drop k g
    rw [List.drop_eq_getElem_cons h3.1, h3.2] at h4
    exact h4.symm
  unfold Upto at h
  rw [e, playL_app, h]
  have : ¬ (decide (j ∈ all) && canJ j q) = true := by
    simp only [Bool.and_eq_true, decide_eq_true_eq]
    exact h1
  simp only [Option.bind_some, playL]
  rw [if_neg this]
theorem Upto.end_ {all : List Tri} {p q : Nat} {g : List Tri} (h : Upto all p g g.length q) : playL all p g = some q := by
  unfold Upto at h
  rwa [List.take_length] at h
theorem Upto.lt {n : Nat} {all : List Tri} {p k q : Nat} {g : List Tri} (h : Upto all p g k q) (hall : ∀ j ∈ all, TriOk n j) (hp : p < 2 ^ n) : q < 2 ^ n :=
  ((playL_game _ _ _).1 h).stays hall hp

/-- The positions below P that are found, rising. -/
def foundL (Q : List (Nat × Tri)) (P : Nat) : List Nat := (List.range P).filter (hasQ Q)
theorem foundL_succ (Q : List (Nat × Tri)) (k : Nat) : foundL Q (k + 1) = if hasQ Q k = true then foundL Q k ++ [k] else foundL Q k := by
  unfold foundL
  rw [List.range_succ, List.filter_append]
  by_cases h : hasQ Q k = true
  · simp [h]
  · simp [h]
theorem foundL_len (Q : List (Nat × Tri)) (k : Nat) : (foundL Q k).length ≤ k := by
  unfold foundL
  have := List.length_filter_le (hasQ Q) (List.range k)
  simpa using this
theorem found_perm {Q : List (Nat × Tri)} {P : Nat} (ho : Once Q) (hl : ∀ e ∈ Q, e.1 < P) : (Q.map fun e => e.1).Perm (foundL Q P) := by
  refine (List.perm_ext_iff_of_nodup ho (List.nodup_range.filter _)).2 fun a => ?_
  rw [List.mem_filter, List.mem_range, hasQ_iff, List.mem_map]
  constructor
  · rintro ⟨⟨x, j⟩, h1, rfl⟩
    exact ⟨hl _ h1, j, h1⟩
  · rintro ⟨_, j, h⟩
    exact ⟨(a, j), h, rfl⟩
theorem fewest_found {Q : List (Nat × Tri)} {P : Nat} (n : Nat) (ho : Once Q) (hl : ∀ e ∈ Q, e.1 < P) : (Q.map fun e => popc e.1).foldl min n = ((foundL Q P).map popc).foldl min n := by
  have h : (Q.map fun e => popc e.1) = (Q.map fun e => e.1).map popc := by rw [List.map_map]; rfl
  rw [h]
  exact ((found_perm ho hl).map popc).foldl_eq' (fun x _ y _ z => by omega) n
theorem sorted_found {Q : List (Nat × Tri)} {P : Nat} (ho : Once Q) (hl : ∀ e ∈ Q, e.1 < P) : (((Q.map fun e => e.1).map fun (x : Nat) => (x : Int)).mergeSort fun x y => decide (x ≤ y)) = (foundL Q P).map fun (x : Nat) => (x : Int) := by
  refine List.Perm.eq_of_pairwise (le := fun a b : Int => a ≤ b) (fun a b _ _ h1 h2 => by omega) ?_ ?_ ((List.mergeSort_perm _ _).trans ((found_perm ho hl).map _))
  · have h := List.pairwise_mergeSort (le := fun x y : Int => decide (x ≤ y)) (fun a b c h1 h2 => by
      simp only [decide_eq_true_eq] at h1 h2 ⊢
      omega) (fun a b => by
      simp only [Bool.or_eq_true, decide_eq_true_eq]
      omega) ((Q.map fun e => e.1).map fun (x : Nat) => (x : Int))
    exact h.imp fun h => by simpa using h
  · unfold foundL
    rw [List.pairwise_map]
    refine List.Pairwise.imp (R := fun a b : Nat => a < b) (fun h => by omega) ?_
    exact (List.pairwise_lt_range).filter _

/-- The next position but one, round the board: how far it is to p. -/
theorem turn_near {p q P : Nat} (hp : p < P) (hq : q < P) (hne : q ≠ p) : (q + 1) % P < P ∧ (p + P - (q + 1) % P) % P < (p + P - q) % P := by
  have h1 : (q + 1) % P = if q + 1 = P then 0 else q + 1 := by
    split
    · rename_i h; rw [h, Nat.mod_self]
    · exact Nat.mod_eq_of_lt (by omega)
  have e : ∀ r, r < P → (p + P - r) % P = if r ≤ p then p - r else p + P - r := fun r hr => by
    split
    · rw [show p + P - r = (p - r) + P by omega, Nat.add_mod_right]
      exact Nat.mod_eq_of_lt (by omega)
    · exact Nat.mod_eq_of_lt (by omega)
  have h2 : (q + 1) % P < P := Nat.mod_lt _ (by omega)
  refine ⟨h2, ?_⟩
  rw [e _ h2, e _ hq, h1]
  repeat' split
  all_goals omega
end Go.Proofs.Ythbhengcinkepaa
