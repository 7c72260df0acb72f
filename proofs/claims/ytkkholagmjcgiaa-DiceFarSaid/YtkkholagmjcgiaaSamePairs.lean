/- The law's function pairs: of two lists that read as the same list of pairs it answers true. -/
import Derived.Test.YtkkholagmjcgiaaRPairs
import Derived.Test.YtkkholagmjcgiaaRing
namespace Go.Proofs.Ytkkholagmjcgiaa
open Go.RowKit

theorem RPairs.drewN {w : World} {B : Nat} {A : Option Addr} {F : List (List Int × List Int)} (h : RPairs w B A F) (n : Nat) : RPairs (w.drewN n) B A F := h.below (Below.drewN_ (Below.refl B w) n)

set_option maxRecDepth 100000 in
set_option maxHeartbeats 2000000 in
theorem pairs_same (A1 A2 : Option Addr) (F : List (List Int × List Int)) (c1 c2 B : Nat) (w : World) (h1 : RPairs w B A1 F) (h2 : RPairs w B A2 F) (h8 : ∀ p ∈ F, p.1.length ≤ 8 ∧ p.2.length ≤ 8) (hF : F.length ≤ 100000) :
    Calls Try.prog 46 #[.slice A1 F.length c1, .slice A2 F.length c2] w fun e w' => e = .returned (.bool true) ∧ ∃ n, w' = w.drewN n := by
  have H1 := Lib.hid (fun n : Nat => h1.drewN n)
  have H2 := Lib.hid (fun n : Nat => h2.drewN n)
  have H8 := Lib.hid h8
  have hln : (((F.length : Int)) != (F.length : Int)) = false := by simp
  clear h1 h2 h8
  go_enter Try.func46, Try.ntmps46
  go_wp2_with fail
  go_loopg [5] F.length (fun g i wx => ∃ (k : Nat), k + g = F.length ∧ i = .int .i64 k ∧ Hid (∃ n, w.drewN n = wx))
  case atStart => exact ⟨0, by omega, rfl, Lib.hid ⟨0, rfl⟩⟩
  case round =>
    obtain ⟨k, hk, rfl, HW⟩ := hrel
    have HR1 := Lib.hid (show RPairs wr B A1 F by obtain ⟨n0, hn0⟩ := HW.out; rw [← hn0]; exact H1.out n0)
    have HR2 := Lib.hid (show RPairs wr B A2 F by obtain ⟨n0, hn0⟩ := HW.out; rw [← hn0]; exact H2.out n0)
    cases gk with
    | zero =>
      obtain rfl : k = F.length := by omega
      go_wp2_with fail
      go_ret
      obtain ⟨n0, hn0⟩ := HW.out
      exact ⟨rfl, n0, hn0.symm⟩
    | succ g =>
      obtain ⟨q, hq⟩ : ∃ q, F[k]? = some q := ⟨_, List.getElem?_eq_getElem (by omega)⟩
      obtain ⟨g1, ax, cx, ay, cy, e1, hg1, hcx, hcy, _, _, rx, ry⟩ := HR1.out k q hq
      obtain ⟨g2, ax2, cx2, ay2, cy2, e2, hg2, hcx2, hcy2, _, _, rx2, ry2⟩ := HR2.out k q hq
      subst e1 e2
      have hl8 := H8.out q (List.mem_of_getElem? hq)
      have HI1 := Lib.hid (fun n => ints_any ax ax2 q.1 q.1 cx cx2 B (wr.drewN n) (rx.drewN n) (rx2.drewN n) (by omega) (by omega))
      have HI2 := Lib.hid (fun n => ints_any ay ay2 q.2 q.2 cy cy2 B (wr.drewN n) (ry.drewN n) (ry2.drewN n) (by omega) (by omega))
      rw [decide_eq_true (rfl : q.1 = q.1)] at HI1
      rw [decide_eq_true (rfl : q.2 = q.2)] at HI2
      have hkl : (k : Int) < (F.length : Int) := by omega
      have hk0 : (0 : Int) ≤ (k : Int) := by omega
      clear hq hl8 rx ry rx2 ry2 hg1 hg2
      go_wp2_with fail
      go_quiet ((first | (go_at_call 55; with_reducible exact quiet_d0 (HI1.out _)) | (go_at_call 55; with_reducible exact quiet_d0 (HI2.out _))))
      go_wp2_with fail
      go_roundg g
      case measure => omega
      case rel => exact ⟨k + 1, by omega, by go_num, Lib.hid (by obtain ⟨n0, hn0⟩ := HW.out; exact ⟨n0 + nq, by rw [← hn0]; simp⟩)⟩

end Go.Proofs.Ytkkholagmjcgiaa
