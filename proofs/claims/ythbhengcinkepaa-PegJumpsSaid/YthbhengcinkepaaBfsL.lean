/- Jumps and positions as plain mathematics, and the search by breadth: which positions it finds, in which order, with the last jump to each. No program is spoken of. -/
import Derived.Test.YthbhengcinkepaaTri
import Derived.Test.YthbhengcinkepaaLampL
namespace Go.Proofs.Ythbhengcinkepaa
open Lamp

def bitN (x : Int) : Nat := 2 ^ x.toNat
/-- The pegs that a jump takes out of their holes; all of its holes. -/
def takenM (j : Tri) : Nat := bitN j.1 ||| bitN j.2.1
def holesM (j : Tri) : Nat := takenM j ||| bitN j.2.2
def canJ (j : Tri) (p : Nat) : Bool := p &&& holesM j == takenM j
def fromJ (j : Tri) (p : Nat) : Nat := p ^^^ holesM j

/-- Is a position among those found? -/
def hasQ (Q : List (Nat × Tri)) (x : Nat) : Bool := Q.any fun e => e.1 == x
theorem hasQ_iff {Q : List (Nat × Tri)} {x : Nat} : hasQ Q x = true ↔ ∃ j, (x, j) ∈ Q := by
  unfold hasQ
  rw [List.any_eq_true]
  constructor
  · rintro ⟨⟨y, j⟩, h1, h2⟩
    have : y = x := by simpa using h2
    subst this
    exact ⟨j, h1⟩
  · rintro ⟨j, h⟩
    exact ⟨_, h, by simp⟩
theorem hasQ_app (Q R : List (Nat × Tri)) (x : Nat) : hasQ (Q ++ R) x = (hasQ Q x || hasQ R x) := by simp [hasQ]

/-- What a jump from u adds. -/
def addJ (u : Nat) (Q : List (Nat × Tri)) (j : Tri) : List (Nat × Tri) := if hasQ Q (fromJ j u) = true then Q else Q ++ [(fromJ j u, j)]
/-- What several jumps from u add. -/
def addP (u : Nat) (Q : List (Nat × Tri)) (js : List Tri) : List (Nat × Tri) := js.foldl (addJ u) Q
/-- What is found when the first positions, so many, have been gone through. -/
def bfsK (all : List Tri) (p : Nat) : Nat → List (Nat × Tri)
  | 0 => [(p, (0, 0, 0))]
  | i + 1 => match (bfsK all p i)[i]? with
    | none => bfsK all p i
    | some e => addP e.1 (bfsK all p i) (all.filter fun j => canJ j e.1)
/-- What is found at last. -/
def reachL (all : List Tri) (p : Nat) : List (Nat × Tri) := bfsK all p 65536

theorem addP_snoc (u : Nat) (Q : List (Nat × Tri)) (js : List Tri) (j : Tri) : addP u Q (js ++ [j]) = addJ u (addP u Q js) j := by simp [addP]
theorem addJ_pre (u : Nat) (Q : List (Nat × Tri)) (j : Tri) : Q <+: addJ u Q j := by
  unfold addJ
  split
  · exact List.prefix_refl _
  · exact List.prefix_append _ _
theorem addP_pre (u : Nat) (js : List Tri) : ∀ Q, Q <+: addP u Q js := by
  induction js with
  | nil => exact fun Q => List.prefix_refl _
  | cons j js ih => exact fun Q => (addJ_pre u Q j).trans (ih _)
theorem addP_mono (u : Nat) (Q : List (Nat × Tri)) {a b : List Tri} (h : a <+: b) : addP u Q a <+: addP u Q b := by
  obtain ⟨c, rfl⟩ := h
  unfold addP
  rw [List.foldl_append]
  exact addP_pre u c _
theorem bfsK_pre (all : List Tri) (p i : Nat) : bfsK all p i <+: bfsK all p (i + 1) := by
  rw [bfsK]
  split
  · exact List.prefix_refl _
  · exact addP_pre _ _ _
theorem bfsK_mono (all : List Tri) (p : Nat) {i k : Nat} (h : i ≤ k) : bfsK all p i <+: bfsK all p k := by
  induction k with
  | zero => obtain rfl : i = 0 := by omega
            exact List.prefix_refl _
  | succ k ih =>
    rcases Nat.lt_or_ge i (k + 1) with h1 | h1
    · exact (ih (by omega)).trans (bfsK_pre all p k)
    · obtain rfl : i = k + 1 := by omega
      exact List.prefix_refl _
theorem bfsK_end {all : List Tri} {p i : Nat} (h : (bfsK all p i).length ≤ i) : ∀ k, i ≤ k → bfsK all p k = bfsK all p i := by
  intro k hk
  induction k with
  | zero => obtain rfl : i = 0 := by omega
            rfl
  | succ k ih =>
    rcases Nat.lt_or_ge i (k + 1) with h1 | h1
    · have e := ih (by omega)
      rw [bfsK, List.getElem?_eq_none (by rw [e]; omega), e]
    · obtain rfl : i = k + 1 := by omega
      rfl
theorem bfsK_pos (all : List Tri) (p i : Nat) : 1 ≤ (bfsK all p i).length := (bfsK_mono all p (Nat.zero_le i)).length_le

/-- Positions that are found are found once. -/
def Once (Q : List (Nat × Tri)) : Prop := (Q.map fun e => e.1).Nodup
theorem Once.addJ {u : Nat} {Q : List (Nat × Tri)} (h : Once Q) (j : Tri) : Once (addJ u Q j) := by
  unfold Go.Proofs.Ythbhengcinkepaa.addJ
  split
  · exact h
  · rename_i hn
    unfold Once
    rw [List.map_append, List.nodup_append]
    refine ⟨h, by simp, fun a ha b hb => ?_⟩
    rintro rfl
    apply hn
    rw [List.mem_map] at ha
    obtain ⟨⟨y, k⟩, h1, h2⟩ := ha
    simp only at h2
    simp only [List.map_cons, List.map_nil, List.mem_singleton] at hb
    rw [hasQ_iff]
    exact ⟨k, by rw [← hb, ← h2]; exact h1⟩
theorem Once.addP {u : Nat} (js : List Tri) : ∀ {Q : List (Nat × Tri)}, Once Q → Once (addP u Q js) := by
  induction js with
  | nil => exact fun h => h
  | cons j js ih => exact fun h => ih (h.addJ j)
theorem bfsK_once (all : List Tri) (p i : Nat) : Once (bfsK all p i) := by
  induction i with
  | zero => simp [Once, bfsK]
  | succ i ih =>
    rw [bfsK]
    split
    · exact ih
    · exact ih.addP _

/-- A property that the first position has, and that jumps keep. -/
theorem addJ_keeps {P : Nat × Tri → Prop} {u : Nat} {Q : List (Nat × Tri)} {j : Tri} (h : ∀ e ∈ Q, P e) (hj : P (fromJ j u, j)) : ∀ e ∈ addJ u Q j, P e := by
  unfold addJ
  split
  · exact h
  · intro e he
    rw [List.mem_append, List.mem_singleton] at he
    rcases he with he | rfl
    · exact h e he
    · exact hj
theorem addP_keeps {P : Nat × Tri → Prop} {u : Nat} : ∀ (js : List Tri) (Q : List (Nat × Tri)), (∀ e ∈ Q, P e) → (∀ j ∈ js, P (fromJ j u, j)) → ∀ e ∈ addP u Q js, P e
  | [], _, h, _ => h
  | j :: js, Q, h, hj => addP_keeps js (addJ u Q j) (addJ_keeps h (hj j (by simp))) fun k hk => hj k (by simp [hk])
theorem bfsK_keeps {P : Nat × Tri → Prop} {all : List Tri} {p : Nat} (h0 : P (p, (0, 0, 0))) (hj : ∀ e, P e → ∀ j ∈ all, canJ j e.1 = true → P (fromJ j e.1, j)) : ∀ i, ∀ e ∈ bfsK all p i, P e
  | 0 => fun e he => by
    have : e = (p, (0, 0, 0)) := by simpa [bfsK] using he
    rw [this]; exact h0
  | i + 1 => by
    have ih := bfsK_keeps h0 hj i
    rw [bfsK]
    split
    · exact ih
    · rename_i e he
      refine addP_keeps _ _ ih fun j hj' => ?_
      rw [List.mem_filter] at hj'
      exact hj e (ih e (List.mem_of_getElem? he)) j hj'.1 hj'.2

theorem nodup_lt : ∀ (n : Nat) (l : List Nat), l.Nodup → (∀ x ∈ l, x < n) → l.length ≤ n
  | 0, l, _, h => by
    cases l with
    | nil => simp
    | cons a l => exact absurd (h a (by simp)) (Nat.not_lt_zero _)
  | n + 1, l, hd, h => by
    have h1 : (l.erase n).length ≤ n := nodup_lt n _ (hd.erase n) fun x hx => by
      have h2 := h x (List.mem_of_mem_erase hx)
      have h3 : x ≠ n := fun e => by
        subst e
        exact (List.Nodup.mem_erase_iff hd).1 hx |>.1 rfl
      omega
    by_cases hm : n ∈ l
    · rw [List.length_erase_of_mem hm] at h1; omega
    · rw [List.erase_of_not_mem hm] at h1; omega

/-- Jumps of a board of n holes. -/
def TriOk (n : Nat) (j : Tri) : Prop := 0 ≤ j.1 ∧ j.1 < n ∧ 0 ≤ j.2.1 ∧ j.2.1 < n ∧ 0 ≤ j.2.2 ∧ j.2.2 < n ∧ j.1 ≠ j.2.1 ∧ j.1 ≠ j.2.2 ∧ j.2.1 ≠ j.2.2
theorem bitN_lt {n : Nat} {x : Int} (h0 : 0 ≤ x) (h : x < n) : bitN x < 2 ^ n := Nat.pow_lt_pow_right (by decide) (by omega)
theorem takenM_lt {n : Nat} {j : Tri} (h : TriOk n j) : takenM j < 2 ^ n := Nat.or_lt_two_pow (bitN_lt h.1 h.2.1) (bitN_lt h.2.2.1 h.2.2.2.1)
theorem holesM_lt {n : Nat} {j : Tri} (h : TriOk n j) : holesM j < 2 ^ n := Nat.or_lt_two_pow (takenM_lt h) (bitN_lt h.2.2.2.2.1 h.2.2.2.2.2.1)

section
variable {n : Nat} {all : List Tri} {p : Nat} (hn : n ≤ 16) (hall : ∀ j ∈ all, TriOk n j) (hp : p < 2 ^ n)
include hall hp
theorem bfsK_lt (i : Nat) : ∀ e ∈ bfsK all p i, e.1 < 2 ^ n :=
  bfsK_keeps (P := fun e => e.1 < 2 ^ n) hp (fun _ he j hj _ => Nat.xor_lt_two_pow he (holesM_lt (hall j hj))) i
theorem bfsK_len (i : Nat) : (bfsK all p i).length ≤ 2 ^ n := by
  have h := nodup_lt (2 ^ n) ((bfsK all p i).map fun (e : Nat × Tri) => e.1) (bfsK_once all p i) fun x hx => by
    rw [List.mem_map] at hx
    obtain ⟨e, he, rfl⟩ := hx
    exact bfsK_lt hall hp i e he
  simpa using h
include hn
theorem reachL_end {i : Nat} (h : (bfsK all p i).length ≤ i) : bfsK all p i = reachL all p := by
  unfold reachL
  have h1 := bfsK_len hall hp i
  have h2 : (2:Nat) ^ n ≤ 65536 := Nat.pow_le_pow_right (n := 2) (by decide) hn
  have h3 : (bfsK all p (bfsK all p i).length).length ≤ (bfsK all p i).length := (bfsK_mono all p h).length_le
  rcases Nat.lt_or_ge i 65536 with h4 | h4
  · exact (bfsK_end h 65536 (by omega)).symm
  · have h5 : bfsK all p i = bfsK all p (bfsK all p i).length := bfsK_end h3 i h
    have h6 : bfsK all p 65536 = bfsK all p (bfsK all p i).length := bfsK_end h3 65536 (by omega)
    rw [h6]; exact h5
theorem reachL_stays : (reachL all p).length ≤ 65536 := by
  have h1 := bfsK_len hall hp 65536
  have h2 : (2:Nat) ^ n ≤ 65536 := Nat.pow_le_pow_right (n := 2) (by decide) hn
  exact Nat.le_trans h1 h2
/-- Where a jump leads from what is found is found. -/
theorem reachL_closed {u : Nat} {k j : Tri} (hu : (u, k) ∈ reachL all p) (hj : j ∈ all) (hc : canJ j u = true) : ∃ k', (fromJ j u, k') ∈ reachL all p := by
  obtain ⟨i, hi⟩ := List.getElem?_of_mem hu
  have hlt : i < (reachL all p).length := (List.getElem?_eq_some_iff.1 hi).1
  have h65 := reachL_stays hn hall hp
  by_cases hlen : i < (bfsK all p i).length
  · have he : (bfsK all p i)[i]? = some (u, k) := by
      have h1 := (bfsK_mono all p (i := i) (k := 65536) (by omega))
      obtain ⟨r, hr⟩ := h1
      have h2 : (reachL all p)[i]? = (bfsK all p i)[i]? := by
        unfold reachL
        rw [← hr, List.getElem?_append_left hlen]
      rw [← h2]; exact hi
    have h3 : hasQ (bfsK all p (i + 1)) (fromJ j u) = true := by
      rw [bfsK, he]
      simp only
      obtain ⟨a, b, hab⟩ := List.append_of_mem (List.mem_filter.2 ⟨hj, hc⟩ : j ∈ all.filter fun j => canJ j u)
      rw [hab]
      have h4 : addP u (bfsK all p i) (a ++ [j]) <+: addP u (bfsK all p i) (a ++ j :: b) := addP_mono u _ ⟨b, by simp⟩
      have h5 : hasQ (addP u (bfsK all p i) (a ++ [j])) (fromJ j u) = true := by
        rw [addP_snoc]
        unfold addJ
        split
        · assumption
        · rw [hasQ_app]; simp [hasQ]
      obtain ⟨k', hk'⟩ := hasQ_iff.1 h5
      exact hasQ_iff.2 ⟨k', h4.subset hk'⟩
    obtain ⟨k', hk'⟩ := hasQ_iff.1 h3
    exact ⟨k', (bfsK_mono all p (i := i + 1) (k := 65536) (by omega)).subset hk'⟩
  · have := reachL_end hn hall hp (i := i) (by omega)
    rw [this] at hlen
    omega
end
end Go.Proofs.Ythbhengcinkepaa
