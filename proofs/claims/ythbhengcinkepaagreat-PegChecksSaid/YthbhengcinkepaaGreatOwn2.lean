/- The law's own (package peg): a copy of lines, at most 41; and blocks of a known size. -/
import Derived.Test.YthbhengcinkepaaGreatOpenT
import Derived.Test.YthbhengcinkepaaGreatAppT
import Derived.Test.YthbhengcinkepaaGreatPg4
namespace Go.Proofs.YthbhengcinkepaaGreat
open Go.RowKit

set_option maxHeartbeats 2000000 in
theorem own2_any (A : Option Addr) (c : Nat) (l : List Tri) (w : World) (hr : RTri w w.heap.size A l) (hc : l.length ≤ c) (hl : l.length ≤ 9223372036854775807) :
    Calls Tryz.prog 6 #[.slice A l.length c] w fun e w' => ∃ v, e = .returned v ∧ OwnT 56 w' w.heap.size v (l.take 41) ∧ Below w.heap.size w w' := by
  obtain ⟨m, hm⟩ : ∃ m, min l.length 41 = m := ⟨_, rfl⟩
  have hmi : min (l.length : Int) 41 = (m : Int) := by omega
  have hm0 : (0 : Int) ≤ (m : Int) := by omega
  have hmc : (m : Int) ≤ (c : Int) := by omega
  have hml : (m : Int) ≤ (l.length : Int) := by omega
  have hgl : m = (l.take 41).length := by rw [List.length_take]; omega
  have HG := Lib.hid (hr.take 41)
  obtain ⟨G, hG⟩ : ∃ G, l.take 41 = G := ⟨_, rfl⟩
  rw [hG] at HG hgl
  rw [hG]
  have HL := Lib.hid hgl
  have hG41 : G.length ≤ 41 := by omega
  clear hr hm hG hgl
  cases A with
  | none =>
    go_enter Tryz.func6, Tryz.ntmps6
    go_wp2_with (at_builtin; refine wpList_appT _ rfl _ _ rfl (OwnT.nil_ 56 w w.heap.size) rfl none _ G c w.heap.size rfl HL.out HG.out (by simp; omega) (Nat.le_refl _) ?_; intro v4 w4 ho4 hg4)
    go_ret
    exact ⟨v4, rfl, ho4, (Below.refl w.heap.size w).grown hg4 (Nat.le_refl _) (fun k hk => by cases hk)⟩
  | some ad =>
    go_enter Tryz.func6, Tryz.ntmps6
    go_wp2_with (at_builtin; refine wpList_appT _ rfl _ _ rfl (OwnT.nil_ 56 w w.heap.size) rfl (some ad) _ G c w.heap.size rfl HL.out HG.out (by simp; omega) (Nat.le_refl _) ?_; intro v4 w4 ho4 hg4)
    go_ret
    exact ⟨v4, rfl, ho4, (Below.refl w.heap.size w).grown hg4 (Nat.le_refl _) (fun k hk => by cases hk)⟩

/-- Block g holds at least so many cells of that type. -/
def SzB (w : World) (g : Nat) (T : TypeId) (n : Nat) : Prop := ∃ cs, Box w g T cs ∧ n ≤ cs.size
section
variable {w w' : World} {g n : Nat} {T : TypeId}
theorem SzB.set (h : SzB w g T n) (b i : Nat) (u : Value) : SzB (w.setCell ⟨b, i, none⟩ u) g T n := by
  obtain ⟨cs, h1, h2⟩ := h
  by_cases e : g = b
  · subst e
    exact ⟨_, h1.put i u, by simpa using h2⟩
  · exact ⟨cs, h1.far (p := ⟨b, i, none⟩) e u, h2⟩
theorem SzB.cell (h : SzB w g T n) {i : Nat} (hi : i < n) : (∃ u, w.cell? ⟨g, i, none⟩ = some u) ∧ w.frozen? ⟨g, i, none⟩ = false := by
  obtain ⟨cs, h1, h2⟩ := h
  exact ⟨⟨_, (h1.cell i).trans (Array.getElem?_eq_getElem (by omega))⟩, h1.free i⟩
theorem SzB.lt (h : SzB w g T n) : g < w.heap.size := by
  obtain ⟨cs, h1, _⟩ := h
  exact h1.lt
theorem SzB.below {B : Nat} (h : SzB w g T n) (hb : Below B w w') (hg : g < B) : SzB w' g T n := by
  obtain ⟨cs, h1, h2⟩ := h
  exact ⟨cs, h1.below hb hg, h2⟩
theorem SzB.alloc (h : SzB w g T n) (o : Obj) : SzB (w.alloc o) g T n := by
  obtain ⟨cs, h1, h2⟩ := h
  exact ⟨cs, h1.alloc o, h2⟩
end
/-- A row that may be written, in blocks from lim on. -/
def RowV (T : TypeId) (sz lim : Nat) (w : World) (A : Option Addr) (n : Nat) : Prop := 0 < n → ∃ g, A = some ⟨g, 0, none⟩ ∧ lim ≤ g ∧ SzB w g T (n * sz)
section
variable {w w' : World} {A : Option Addr} {sz lim n : Nat} {T : TypeId}
theorem RowV.set (h : RowV T sz lim w A n) (b i : Nat) (u : Value) : RowV T sz lim (w.setCell ⟨b, i, none⟩ u) A n := fun h0 => by
  obtain ⟨g, h1, h2, h3⟩ := h h0
  exact ⟨g, h1, h2, h3.set b i u⟩
theorem RowV.below (h : RowV T sz lim w A n) (hb : Below w.heap.size w w') : RowV T sz lim w' A n := fun h0 => by
  obtain ⟨g, h1, h2, h3⟩ := h h0
  exact ⟨g, h1, h2, h3.below hb h3.lt⟩
theorem RowV.alloc (h : RowV T sz lim w A n) (o : Obj) : RowV T sz lim (w.alloc o) A n := fun h0 => by
  obtain ⟨g, h1, h2, h3⟩ := h h0
  exact ⟨g, h1, h2, h3.alloc o⟩
theorem OwnT.rowV {base m c : Nat} {l : List Tri} (h : OwnT T w base (.slice A m c) l) (hb : lim ≤ base) : RowV T 3 lim w A l.length := fun h0 => by
  rcases h.2 with ⟨e, h1⟩ | ⟨g, cap, cur, e, h1, hh, h2, h3, h4⟩
  · omega
  · cases e
    refine ⟨g, rfl, by omega, cur, hh, ?_⟩
    rw [h4.1]
    exact Nat.mul_le_mul_right 3 h2
theorem OwnP.rowV {base m c : Nat} {l : List Int} (h : OwnP T w base (.slice A m c) l) (hb : lim ≤ base) : RowV T 1 lim w A l.length := fun h0 => by
  rcases h.2 with ⟨e, h1⟩ | ⟨g, cap, cur, e, h1, hh, h2, h3, h4⟩
  · omega
  · cases e
    refine ⟨g, rfl, by omega, cur, hh, ?_⟩
    rw [h4.1]
    exact Nat.mul_le_mul_right 1 h2
end
end Go.Proofs.YthbhengcinkepaaGreat
