/- Words for memory: a list of values lies at an address below a block; a slice of integers, a list of dice. No program is spoken of; each word is kept where the cells below the block are kept. -/
import Derived.Test.YtkkholagmjcgiaaBase
namespace Go.Proofs.Ytkkholagmjcgiaa
open Go.RowKit

/-- The values lie one behind the other from the address on, in a block below B. (Of no values nothing is said.) -/
def Lies (w : World) (B : Nat) (A : Option Addr) (xs : List Value) : Prop :=
  ∀ (j : Nat) (u : Value), xs[j]? = some u → ∃ b o, A = some ⟨b, o, none⟩ ∧ b < B ∧ w.cell? ⟨b, o + j, none⟩ = some u

section
variable {w w' : World} {B B' : Nat} {A : Option Addr} {xs : List Value}
theorem Lies.nil_ : Lies w B A [] := fun j u h => by simp at h
theorem Lies.keep (h : Lies w B A xs) (hk : ∀ b o, b < B → w'.cell? ⟨b, o, none⟩ = w.cell? ⟨b, o, none⟩) : Lies w' B A xs := fun j u hu => by
  obtain ⟨b, o, e, hb, hc⟩ := h j u hu
  exact ⟨b, o, e, hb, (hk b _ hb).trans hc⟩
theorem Lies.more (h : Lies w B A xs) (hB : B ≤ B') : Lies w B' A xs := fun j u hu => by
  obtain ⟨b, o, e, hb, hc⟩ := h j u hu
  exact ⟨b, o, e, by omega, hc⟩
theorem Lies.below (h : Lies w B A xs) (hb : Below B w w') : Lies w' B A xs := h.keep fun b o hlt => hb.cell (p := ⟨b, o, none⟩) hlt
theorem Lies.drewN (h : Lies w B A xs) (n : Nat) : Lies (w.drewN n) B A xs := h.keep fun b o _ => by simp
theorem Lies.at_ {k : Nat} (h : Lies w B A xs) (hk : k < xs.length) : ∃ b o u, A = some ⟨b, o, none⟩ ∧ b < B ∧ xs[k]? = some u ∧ w.cell? ⟨b, o + k, none⟩ = some u := by
  obtain ⟨b, o, e, hb, hc⟩ := h k _ (List.getElem?_eq_getElem hk)
  exact ⟨b, o, _, e, hb, List.getElem?_eq_getElem hk, hc⟩
end

/-- The integers lie there. -/
def RInts (w : World) (B : Nat) (A : Option Addr) (zs : List Int) : Prop := Lies w B A (zs.map (Value.int .i64))
/-- A slice value that reads as the list of integers. -/
def RDie (w : World) (B : Nat) (v : Value) (d : List Int) : Prop := ∃ a c, v = .slice a d.length c ∧ d.length ≤ c ∧ RInts w B a d
/-- A list of slices that read as the lists. -/
def RDice (w : World) (B : Nat) (A : Option Addr) (ds : List (List Int)) : Prop :=
  ∃ vs : List Value, vs.length = ds.length ∧ Lies w B A vs ∧ ∀ (i : Nat) (v : Value) (d : List Int), vs[i]? = some v → ds[i]? = some d → RDie w B v d

section
variable {w w' : World} {B B' : Nat} {A : Option Addr} {zs : List Int} {ds : List (List Int)}
theorem RInts.nil_ : RInts w B A [] := Lies.nil_
theorem RInts.keep (h : RInts w B A zs) (hk : ∀ b o, b < B → w'.cell? ⟨b, o, none⟩ = w.cell? ⟨b, o, none⟩) : RInts w' B A zs := Lies.keep h hk
theorem RInts.more (h : RInts w B A zs) (hB : B ≤ B') : RInts w B' A zs := Lies.more h hB
theorem RInts.below (h : RInts w B A zs) (hb : Below B w w') : RInts w' B A zs := Lies.below h hb
theorem RInts.drewN (h : RInts w B A zs) (n : Nat) : RInts (w.drewN n) B A zs := Lies.drewN h n
theorem RInts.at_ {k : Nat} (h : RInts w B A zs) (hk : k < zs.length) : ∃ b o x, A = some ⟨b, o, none⟩ ∧ b < B ∧ zs[k]? = some x ∧ w.cell? ⟨b, o + k, none⟩ = some (.int .i64 x) := by
  obtain ⟨b, o, u, e, hb, hu, hc⟩ := Lies.at_ (k := k) h (by simpa using hk)
  rw [List.getElem?_map] at hu
  obtain ⟨x, hx, rfl⟩ := Option.map_eq_some_iff.1 hu
  exact ⟨b, o, x, e, hb, hx, hc⟩
theorem RDie.keep {v : Value} {d : List Int} (h : RDie w B v d) (hk : ∀ b o, b < B → w'.cell? ⟨b, o, none⟩ = w.cell? ⟨b, o, none⟩) : RDie w' B v d := by
  obtain ⟨a, c, e, hc, hr⟩ := h
  exact ⟨a, c, e, hc, hr.keep hk⟩
theorem RDie.more {v : Value} {d : List Int} (h : RDie w B v d) (hB : B ≤ B') : RDie w B' v d := by
  obtain ⟨a, c, e, hc, hr⟩ := h
  exact ⟨a, c, e, hc, hr.more hB⟩
theorem RDice.nil_ : RDice w B A [] := ⟨[], rfl, Lies.nil_, fun i v d h => by simp at h⟩
theorem RDice.keep (h : RDice w B A ds) (hk : ∀ b o, b < B → w'.cell? ⟨b, o, none⟩ = w.cell? ⟨b, o, none⟩) : RDice w' B A ds := by
  obtain ⟨vs, hl, hv, hd⟩ := h
  exact ⟨vs, hl, hv.keep hk, fun i v d h1 h2 => (hd i v d h1 h2).keep hk⟩
theorem RDice.more (h : RDice w B A ds) (hB : B ≤ B') : RDice w B' A ds := by
  obtain ⟨vs, hl, hv, hd⟩ := h
  exact ⟨vs, hl, hv.more hB, fun i v d h1 h2 => (hd i v d h1 h2).more hB⟩
theorem RDice.below (h : RDice w B A ds) (hb : Below B w w') : RDice w' B A ds := h.keep fun b o hlt => hb.cell (p := ⟨b, o, none⟩) hlt
theorem RDice.drewN (h : RDice w B A ds) (n : Nat) : RDice (w.drewN n) B A ds := h.keep fun b o _ => by simp
theorem RDice.at_ {k : Nat} (h : RDice w B A ds) (hk : k < ds.length) : ∃ b o a c d, A = some ⟨b, o, none⟩ ∧ b < B ∧ ds[k]? = some d ∧ w.cell? ⟨b, o + k, none⟩ = some (.slice a d.length c) ∧ d.length ≤ c ∧ RInts w B a d := by
  obtain ⟨vs, hl, hv, hd⟩ := h
  obtain ⟨b, o, u, e, hb, hu, hc⟩ := hv.at_ (k := k) (by omega)
  obtain ⟨a, c, rfl, hlc, hr⟩ := hd k u _ hu (List.getElem?_eq_getElem hk)
  exact ⟨b, o, a, c, _, e, hb, List.getElem?_eq_getElem hk, hc, hlc, hr⟩
end

end Go.Proofs.Ytkkholagmjcgiaa
