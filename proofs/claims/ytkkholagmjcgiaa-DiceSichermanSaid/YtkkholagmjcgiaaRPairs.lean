/- Words for lists of pairs that are read. · The law's function pairs: of two lists that read as the same list of pairs it answers true. -/
import Derived.Test.YtkkholagmjcgiaaPairs
import Derived.Test.YtkkholagmjcgiaaInts
import Derived.Test.YtkkholagmjcgiaaSums
import Derived.Test.YtkkholagmjcgiaaRing
namespace Go.Proofs.Ytkkholagmjcgiaa
open Go.RowKit Go.Shelf

/-- A list of pairs of slices reads as the list. -/
def RPairs (w : World) (B : Nat) (A : Option Addr) (F : List (List Int × List Int)) : Prop :=
  ∀ (i : Nat) (q : List Int × List Int), F[i]? = some q → ∃ g ax cx ay cy, A = some ⟨g, 0, none⟩ ∧ g < B ∧ w.cell? ⟨g, i * 2, none⟩ = some (.slice ax q.1.length cx) ∧ w.cell? ⟨g, i * 2 + 1, none⟩ = some (.slice ay q.2.length cy) ∧
    q.1.length ≤ cx ∧ q.2.length ≤ cy ∧ RInts w B ax q.1 ∧ RInts w B ay q.2
theorem RPairs.below {w w' : World} {B : Nat} {A : Option Addr} {F : List (List Int × List Int)} (h : RPairs w B A F) (hb : Below B w w') : RPairs w' B A F := fun i q hq => by
  obtain ⟨g, ax, cx, ay, cy, e, hg, h1, h2, h3, h4, h5, h6⟩ := h i q hq
  exact ⟨g, ax, cx, ay, cy, e, hg, (hb.cell (p := ⟨g, i * 2, none⟩) hg).trans h1, (hb.cell (p := ⟨g, i * 2 + 1, none⟩) hg).trans h2, h3, h4, h5.below hb, h6.below hb⟩
theorem RPairs.more {w : World} {B B' : Nat} {A : Option Addr} {F : List (List Int × List Int)} (h : RPairs w B A F) (hB : B ≤ B') : RPairs w B' A F := fun i q hq => by
  obtain ⟨g, ax, cx, ay, cy, e, hg, h1, h2, h3, h4, h5, h6⟩ := h i q hq
  exact ⟨g, ax, cx, ay, cy, e, by omega, h1, h2, h3, h4, h5.more hB, h6.more hB⟩

theorem OutOk.reads {Z : Nat → Prop} {w : World} {fv : Value} {F : List (List Int × List Int)} (h : OutOk Z w fv F) (hpos : 1 ≤ F.length) : ∃ g k, fv = .slice (some ⟨g, 0, none⟩) F.length k ∧ RPairs w w.heap.size (some ⟨g, 0, none⟩) F := by
  obtain ⟨vs, hl, h1, _, h3⟩ := h
  obtain ⟨g, k, e, _, hg, hc⟩ := own2_cells h1 hpos
  refine ⟨g, k, e, fun i q hq => ?_⟩
  have hi : i < vs.length := by rw [hl]; exact (List.getElem?_eq_some_iff.1 hq).1
  have hp : vs[i]? = some vs[i] := List.getElem?_eq_getElem hi
  obtain ⟨c1, c2⟩ := h3 i _ q hp hq
  obtain ⟨g1, k1, e1, _, o1⟩ := c1
  obtain ⟨g2, k2, e2, _, o2⟩ := c2
  obtain ⟨f1, f2⟩ := flat2 (fun p : Value × Value => p.1) (fun p => p.2) vs i _ hp
  exact ⟨g, some ⟨g1, 0, none⟩, k1, some ⟨g2, 0, none⟩, k2, rfl, hg, by rw [hc _ _ f1, e1], by rw [hc _ _ f2, e2], o1.cap, o2.cap, o1.reads, o2.reads⟩

end Go.Proofs.Ytkkholagmjcgiaa

namespace Go.Proofs.Ytkkholagmjcgiaa
open Go.RowKit

theorem RPairs.drewN {w : World} {B : Nat} {A : Option Addr} {F : List (List Int × List Int)} (h : RPairs w B A F) (n : Nat) : RPairs (w.drewN n) B A F := h.below (Below.drewN_ (Below.refl B w) n)

set_option maxRecDepth 100000 in
set_option maxHeartbeats 2000000 in
theorem pairs_same (A1 A2 : Option Addr) (F : List (List Int × List Int)) (c1 c2 B : Nat) (w : World) (h1 : RPairs w B A1 F) (h2 : RPairs w B A2 F) (h8 : ∀ p ∈ F, p.1.length ≤ 8 ∧ p.2.length ≤ 8) (hF : F.length ≤ 100000) :
    Calls Try.prog 46 #[.slice A1 F.length c1, .slice A2 F.length c2] w fun e w' => e = .returned (.bool true) ∧ ∃ n, w' = w.drewN n := by
  have H1 := Lib.hid (fun n : Nat => h1.drewN n)
  have H2 := Lib.hid (fun n : Nat => h2.drewN n)
  have H8 := Lib.hid h8
  have hln : (((F.length : Int)) != (F.length : Int)) = false := by simp
  clear h1 h2 h8
  go_enter Try.func46, Try.ntmps46
  go_wp2_with fail
  go_loopg [5] F.length (fun g i wx => ∃ (k : Nat), k + g = F.length ∧ i = .int .i64 k ∧ Hid (∃ n, w.drewN n = wx))
  case atStart => exact ⟨0, by omega, rfl, Lib.hid ⟨0, rfl⟩⟩
  case round =>
    obtain ⟨k, hk, rfl, HW⟩ := hrel
    have HR1 := Lib.hid (show RPairs wr B A1 F by obtain ⟨n0, hn0⟩ := HW.out; rw [← hn0]; exact H1.out n0)
    have HR2 := Lib.hid (show RPairs wr B A2 F by obtain ⟨n0, hn0⟩ := HW.out; rw [← hn0]; exact H2.out n0)
    cases gk with
    | zero =>
      obtain rfl : k = F.length := by omega
      go_wp2_with fail
      go_ret
      obtain ⟨n0, hn0⟩ := HW.out
      exact ⟨rfl, n0, hn0.symm⟩
    | succ g =>
      obtain ⟨q, hq⟩ : ∃ q, F[k]? = some q := ⟨_, List.getElem?_eq_getElem (by omega)⟩
      obtain ⟨g1, ax, cx, ay, cy, e1, hg1, hcx, hcy, _, _, rx, ry⟩ := HR1.out k q hq
      obtain ⟨g2, ax2, cx2, ay2, cy2, e2, hg2, hcx2, hcy2, _, _, rx2, ry2⟩ := HR2.out k q hq
      subst e1 e2
      have hl8 := H8.out q (List.mem_of_getElem? hq)
      have HI1 := Lib.hid (fun n => ints_any ax ax2 q.1 q.1 cx cx2 B (wr.drewN n) (rx.drewN n) (rx2.drewN n) (by omega) (by omega))
      have HI2 := Lib.hid (fun n => ints_any ay ay2 q.2 q.2 cy cy2 B (wr.drewN n) (ry.drewN n) (ry2.drewN n) (by omega) (by omega))
      rw [decide_eq_true (rfl : q.1 = q.1)] at HI1
      rw [decide_eq_true (rfl : q.2 = q.2)] at HI2
      have hkl : (k : Int) < (F.length : Int) := by omega
      have hk0 : (0 : Int) ≤ (k : Int) := by omega
      clear hq hl8 rx ry rx2 ry2 hg1 hg2
      go_wp2_with fail
      go_quiet ((first | (go_at_call 55; with_reducible exact quiet_d0 (HI1.out _)) | (go_at_call 55; with_reducible exact quiet_d0 (HI2.out _))))
      go_wp2_with fail
      go_roundg g
      case measure => omega
      case rel => exact ⟨k + 1, by omega, by go_num, Lib.hid (by obtain ⟨n0, hn0⟩ := HW.out; exact ⟨n0 + nq, by rw [← hn0]; simp⟩)⟩

end Go.Proofs.Ytkkholagmjcgiaa
