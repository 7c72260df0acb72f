/- Twins are dice, twins of one another, and the dice themselves are among them: mathematics. No program is spoken of. -/
import Derived.Test.YtkkholagmjcgiaaRPairs2
import Derived.Test.YtkkholagmjcgiaaRGrown
import Derived.Test.YtkkholagmjcgiaaSame2
namespace Go.Proofs.Ytkkholagmjcgiaa
open Go.RowKit Go.Maps

theorem die_of_two {n : Nat} {x0 : Int} {C : List Int} (h1 : 1 ≤ n) (h8 : n ≤ 8) (h0 : 0 ≤ x0) (hl : C.length = n) (ha : Asc C) (h60 : ∀ x ∈ C, x ≤ 60) (hh : C.headD 0 = x0) : IsDie C :=
  ⟨⟨by omega, fun u hu => ⟨by have := heads_le ha hu; omega, h60 u hu⟩⟩, by omega, sortB_of ha⟩
section
variable {a b : List Int} {p : List Int × List Int}
theorem twins_two (ha : IsDie a) (hb : IsDie b) (hp : p ∈ twinsL a b) : Two a.length b.length (waysF [a, b]) p.1 p.2 ∧ p.1.headD 0 = a.headD 0 ∧ p.2.headD 0 = b.headD 0 := by
  obtain ⟨h1, h2⟩ := ((twins_all ha hb).mem p).1 hp
  exact ⟨h1, h2.head (by simp), h2.swap.head (by simp)⟩
theorem twins_dice (ha : IsDie a) (hb : IsDie b) (hp : p ∈ twinsL a b) : IsDie p.1 ∧ IsDie p.2 := by
  obtain ⟨h1, e1, e2⟩ := twins_two ha hb hp
  exact ⟨die_of_two ha.ne ha.ok.1 (ha.ok.2 _ (head_mem ha.ne)).1 h1.n h1.ac h1.lc e1, die_of_two hb.ne hb.ok.1 (hb.ok.2 _ (head_mem hb.ne)).1 h1.m h1.ad h1.ld e2⟩
theorem twins_ways (ha : IsDie a) (hb : IsDie b) (hp : p ∈ twinsL a b) : waysF [p.1, p.2] = waysF [a, b] :=
  funext fun y => (ways_cp _ _ y).trans ((twins_two ha hb hp).1.w y)
theorem twins_twins (ha : IsDie a) (hb : IsDie b) (hp : p ∈ twinsL a b) : twinsL p.1 p.2 = twinsL a b := by
  obtain ⟨h1, e1, e2⟩ := twins_two ha hb hp
  obtain ⟨d1, d2⟩ := twins_dice ha hb hp
  have h := twins_all d1 d2
  rw [h1.n, h1.m, twins_ways ha hb hp, e1, e2] at h
  exact h.unique (twins_all ha hb)
theorem take_one : ∀ {l : List Int}, 1 ≤ l.length → l.take 1 = [l.headD 0]
  | [], h => by simp at h
  | x :: l, _ => by simp
theorem twins_self (ha : IsDie a) (hb : IsDie b) : (a, b) ∈ twinsL a b :=
  ((twins_all ha hb).mem (a, b)).2 ⟨⟨rfl, rfl, asc_of ha, asc_of hb, fun x hx => (ha.ok.2 x hx).2, fun x hx => (hb.ok.2 x hx).2, fun y => (ways_cp a b y).symm⟩, take_one ha.ne, take_one hb.ne⟩
theorem twins_same (ha : IsDie a) (hb : IsDie b) (hp : p ∈ twinsL a b) : sameB [a, b] [p.1, p.2] = true :=
  (sameB_iff (areTwo ha hb) (areTwo (twins_dice ha hb hp).1 (twins_dice ha hb hp).2)).2 fun x _ => by rw [twins_ways ha hb hp]
theorem twins_len (ha : IsDie a) (hb : IsDie b) (hp : p ∈ twinsL a b) : p.1.length = a.length ∧ p.2.length = b.length := ⟨(twins_two ha hb hp).1.n, (twins_two ha hb hp).1.m⟩
end

end Go.Proofs.Ytkkholagmjcgiaa
