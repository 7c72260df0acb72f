/- The plain search of twins finds just the two dice that go on from two that are begun and show each sum as often as is asked, in rising order: mathematics. No program is spoken of. -/
import Derived.Test.YtkkholagmjcgiaaTwinsL
import Derived.Test.YtkkholagmjcgiaaTwins
namespace Go.Proofs.Ytkkholagmjcgiaa
open Go.RowKit Go.Maps

theorem PairsIn.gst {n m : Nat} {c0 d0 : Int} {f : Int → Int} {S : Int → Bool} {ks : List Int} (h : PairsIn n m c0 d0 f S ks) : GSt n m f ks 0 [c0] [d0] (tk f c0 [d0]) := by
  have hcd := h.cd
  have hlow : ∀ y, tk f c0 [d0] y ≠ 0 → c0 + d0 ≤ y := fun y hy => (h.kr y (h.inv.key y hy)).1
  refine ⟨h.inv, ⟨fun y => ?_, List.pairwise_singleton _ _, List.pairwise_singleton _ _, fun x hx y hy => ?_, fun x hx y hy => ?_⟩, h.rise⟩
  · rw [tk_eq]
    simp [cp]
  · rw [List.mem_singleton.1 hx]
    exact hlow y hy
  · rw [List.mem_singleton.1 hx]
    exact hlow y hy
/-- What a search of twins is asked for. -/
structure AllTwo (n m : Nat) (W : Int → Int) (c0 d0 : Int) (F : List (List Int × List Int)) : Prop where
  rise : RiseP F
  mem : ∀ p, p ∈ F ↔ Two n m W p.1 p.2 ∧ Ext [c0] [d0] p.1 p.2
theorem AllTwo.unique {n m : Nat} {W : Int → Int} {c0 d0 : Int} {F G : List (List Int × List Int)} (h : AllTwo n m W c0 d0 F) (h2 : AllTwo n m W c0 d0 G) : F = G :=
  RiseP.unique h.rise h2.rise fun p => (h.mem p).trans (h2.mem p).symm
theorem PairsIn.all {n m : Nat} {c0 d0 : Int} {f : Int → Int} {S : Int → Bool} {ks : List Int} (h : PairsIn n m c0 d0 f S ks) : AllTwo n m f c0 d0 (pairsL n m c0 d0 f ks) := by
  have hnm := h.nm
  refine ⟨growL_rise 15 n m f ks 0 (-1) [c0] [d0] _ h.gst (by omega) (by simp; omega), fun p => ?_⟩
  refine (growL_mem 15 n m f ks 0 (-1) [c0] [d0] _ h.gst (by omega) (by simp; omega) p).trans ?_
  exact ⟨fun h => ⟨h.1, h.2.1⟩, fun h => ⟨h.1, h.2, fun _ _ e => by omega⟩⟩
theorem twins_all {a b : List Int} (ha : IsDie a) (hb : IsDie b) : AllTwo a.length b.length (waysF [a, b]) (a.headD 0) (b.headD 0) (twinsL a b) := (twinIn ha hb).all

end Go.Proofs.Ytkkholagmjcgiaa
