/- The functions rises and repeats of package dice: they only read. -/
import Derived.Test.YtkkholagmjcgiaaRingOf
import Derived.Test.YtkkholagmjcgiaaCheck
import Derived.IntWalk
namespace Go.Proofs.Ytkkholagmjcgiaa
open Go.RowKit

theorem Contains_r (b o i c : Nat) (zs : List Int) (x : Int) (B : Nat) (w : World) (h : RInts w B (some ⟨b, o, none⟩) zs) (hi : i ≤ zs.length) (hl : zs.length ≤ 1000000) :
    Calls Try.prog 90 #[.slice (some ⟨b, o, none⟩) i c, .int .i64 x] w fun e w' => e = .returned (.bool ((zs.take i).contains x)) ∧ w = w' := by
  refine (Try.slices_Contains_int b o i c zs x w hi (by omega) (fun j hj => ?_)).mono fun e w' ⟨h1, h2⟩ => ⟨h1, h2.symm⟩
  obtain ⟨b2, o2, y, e, _, hy, hc⟩ := h.at_ hj
  cases e
  rw [hc]
  simp [List.getD, hy]

/-- Whether some number of a list has come before. -/
def repsTo (l : List Int) (k : Nat) : Bool := (List.range k).any fun i => (l.take i).contains (l.getD i 0)
def repeatsL (l : List Int) : Bool := repsTo l l.length
theorem repsTo_succ (l : List Int) (k : Nat) : repsTo l (k + 1) = (repsTo l k || (l.take k).contains (l.getD k 0)) := by
  simp [repsTo, List.range_succ]
theorem repsTo_mono {l : List Int} {k : Nat} (h : repsTo l k = true) : ∀ j, repsTo l (k + j) = true
  | 0 => h
  | j + 1 => by rw [← Nat.add_assoc, repsTo_succ, repsTo_mono h j]; rfl

set_option maxHeartbeats 1000000 in
theorem repeats_any (A : Option Addr) (l : List Int) (c B : Nat) (w : World) (hr : RInts w B A l) (hl : l.length ≤ 1000) (hc : l.length ≤ c) :
    Calls Try.prog 95 #[.slice A l.length c] w fun e w' => e = .returned (.bool (repeatsL l)) ∧ w = w' := by
  have HR := Lib.hid hr
  clear hr
  go_enter Try.func95, Try.ntmps95
  go_wp2_with fail
  go_loopg [7] l.length (fun g i wx => ∃ k : Nat, k + g = l.length ∧ i = .int .i64 k ∧ Hid (repsTo l k = false) ∧ w = wx)
  case atStart => exact ⟨0, by omega, rfl, Lib.hid rfl, rfl⟩
  case round =>
    obtain ⟨k, hk, rfl, HF, rfl⟩ := hrel
    have HF2 := HF
    clear HF
    cases gk with
    | zero =>
      obtain rfl : k = l.length := by omega
      go_wp2_with fail
      go_ret
      exact ⟨ret_bool (by unfold repeatsL; rw [HF2.out]), rfl⟩
    | succ g =>
      obtain ⟨b, o, x, hA, hb, hx, hcx⟩ := HR.out.at_ (k := k) (by omega)
      subst hA
      have HC := Lib.hid (Contains_r b o k c l x B w HR.out (by omega) (by omega))
      have hkl : (k : Int) < (l.length : Int) := by omega
      have hkc : (k : Int) ≤ (c : Int) := by omega
      have HS := Lib.hid (show repsTo l (k + 1) = (l.take k).contains x by rw [repsTo_succ, HF2.out]; simp [List.getD, hx])
      have HKL := Lib.hid (show k + 1 ≤ l.length by omega)
      clear hx
      cases hcon : (l.take k).contains x with
      | true =>
        have HCON := Lib.hid hcon
        clear hcon
        go_wp2_with fail
        refine HC.out.mono ?_
        rintro e w' ⟨rfl, rfl⟩
        rw [HCON.out]
        go_wp2_with fail
        go_ret
        refine ⟨ret_bool ?_, rfl⟩
        have h1 := repsTo_mono (HS.out.trans HCON.out) (l.length - (k + 1))
        rw [show k + 1 + (l.length - (k + 1)) = l.length by have := HKL.out; omega] at h1
        exact h1.symm
      | false =>
        have HCON := Lib.hid hcon
        clear hcon
        go_wp2_with fail
        refine HC.out.mono ?_
        rintro e w' ⟨rfl, rfl⟩
        rw [HCON.out]
        go_wp2_with fail
        go_roundg g
        case measure => omega
        case rel => exact ⟨k + 1, by omega, by go_num, Lib.hid (HS.out.trans HCON.out), rfl⟩

/-- Whether the numbers of a result rise in an order of the indices. -/
def risesTo (r o : List Int) (k : Nat) : Bool := (List.range k).all fun i => decide (r.getD (o.getD i 0).toNat 0 < r.getD (o.getD (i + 1) 0).toNat 0)
def risesL (r o : List Int) : Bool := risesTo r o (o.length - 1)
theorem risesTo_succ (r o : List Int) (k : Nat) : risesTo r o (k + 1) = (risesTo r o k && decide (r.getD (o.getD k 0).toNat 0 < r.getD (o.getD (k + 1) 0).toNat 0)) := by
  simp [risesTo, List.range_succ]
theorem risesTo_not {r o : List Int} {k : Nat} (h : risesTo r o k = false) : ∀ j, risesTo r o (k + j) = false
  | 0 => h
  | j + 1 => by rw [← Nat.add_assoc, risesTo_succ, risesTo_not h j]; rfl

set_option maxHeartbeats 1000000 in
theorem rises_any (A A2 : Option Addr) (r o : List Int) (c c2 B : Nat) (w : World) (hr : RInts w B A r) (ho : RInts w B A2 o) (hin : Inds o r.length) (hl : o.length ≤ 1000) (_ : r.length ≤ 1000) :
    Calls Try.prog 68 #[.slice A r.length c, .slice A2 o.length c2] w fun e w' => e = .returned (.bool (risesL r o)) ∧ ∃ n, w' = w.drewN n := by
  have HR := Lib.hid hr
  have HO := Lib.hid ho
  have HIN := Lib.hid hin
  clear hr ho hin
  go_enter Try.func68, Try.ntmps68
  go_wp2_with fail
  go_loopg [5] o.length (fun g i wx => ∃ (k : Nat), k + g = o.length ∧ i = .int .i64 ((k : Int) + 1) ∧ Hid (risesTo r o k = true) ∧ Hid (∃ n, w.drewN n = wx))
  case atStart => exact ⟨0, by omega, rfl, Lib.hid rfl, Lib.hid ⟨0, rfl⟩⟩
  case round =>
    obtain ⟨k, hk, rfl, HF, HW⟩ := hrel
    have HF2 := HF
    obtain ⟨n0, hn0⟩ := HW.out
    clear HF HW
    subst hn0
    by_cases hlt : k + 1 < o.length
    · obtain ⟨g, rfl⟩ : ∃ g, gk = g + 1 := ⟨gk - 1, by omega⟩
      have ho1 := HO.out
      have hr1 := HR.out
      obtain ⟨b, oo, x, hA2, hb, hx, hcx⟩ := ho1.at_ (k := k) (by omega)
      obtain ⟨b', oo', y, hA2', _, hy, hcy⟩ := ho1.at_ (k := k + 1) (by omega)
      subst hA2
      cases hA2'
      have hxi := HIN.out x (List.mem_of_getElem? hx)
      have hyi := HIN.out y (List.mem_of_getElem? hy)
      obtain ⟨xn, rfl⟩ := Int.eq_ofNat_of_zero_le hxi.1
      obtain ⟨yn, rfl⟩ := Int.eq_ofNat_of_zero_le hyi.1
      obtain ⟨b2, o2, u, hA, hb2, hu, hcu⟩ := hr1.at_ (k := xn) (by omega)
      obtain ⟨_, _, v, hA', _, hv, hcv⟩ := hr1.at_ (k := yn) (by omega)
      subst hA
      cases hA'
      have HS := Lib.hid (show risesTo r o (k + 1) = decide (u < v) by rw [risesTo_succ, HF2.out]; simp [List.getD, hx, hy, hu, hv])
      have hxl : (xn : Int) < (r.length : Int) := by omega
      have hyl : (yn : Int) < (r.length : Int) := by omega
      have hkl : (k : Int) < (o.length : Int) := by omega
      have hkl2 : (k : Int) + 1 < (o.length : Int) := by omega
      have hcy2 : w.cell? ⟨b, oo + k + 1, none⟩ = some (.int .i64 (yn : Int)) := hcy
      have HKL := Lib.hid (show k + 1 ≤ o.length - 1 by omega)
      clear hx hy hu hv hxi hyi ho1 hr1
      have HW := Lib.hid (show ∃ n, w.drewN n = (w.drewN n0) from ⟨n0, rfl⟩)
      have hk0 : (0 : Int) ≤ (k : Int) := by omega
      have hk1 : (0 : Int) ≤ (k : Int) + 1 := by omega
      have hx0 : (0 : Int) ≤ (xn : Int) := by omega
      have hy0 : (0 : Int) ≤ (yn : Int) := by omega
      have ht1 : (k : Int).toNat = k := by omega
      have ht2 : ((k : Int) + 1).toNat = k + 1 := by omega
      by_cases huv : u < v
      · have HUV := Lib.hid huv
        have huv2 : ¬ v ≤ u := by omega
        clear huv
        go_wp2_with fail
        have hwk : IntKind.i64.wrap (k : Int) = (k : Int) := IntWalk.i64_in _ (by omega)
        go_quiet (fail)
        clear hwk ht1 ht2
        go_wp2_with fail
        go_roundg g
        case measure => omega
        case rel => exact ⟨k + 1, by omega, by go_num, Lib.hid (HS.out.trans (decide_eq_true HUV.out)), Lib.hid ⟨n0 + nq, by simp⟩⟩
      · have HUV := Lib.hid huv
        have huv2 : v ≤ u := by omega
        clear huv
        go_wp2_with fail
        have hwk : IntKind.i64.wrap (k : Int) = (k : Int) := IntWalk.i64_in _ (by omega)
        go_quiet (fail)
        clear hwk ht1 ht2
        go_wp2_with fail
        go_ret
        refine ⟨ret_bool ?_, n0 + nq, by simp⟩
        have h1 := risesTo_not (HS.out.trans (decide_eq_false (Int.not_lt.2 HUV.out))) (o.length - 1 - (k + 1))
        rw [show k + 1 + (o.length - 1 - (k + 1)) = o.length - 1 by have := HKL.out; omega] at h1
        exact h1.symm
    · have hkl : ¬ ((k : Int) + 1 < (o.length : Int)) := by omega
      have HE := Lib.hid (show risesL r o = true by
        unfold risesL
        by_cases e : o.length - 1 = k
        · rw [e]; exact HF2.out
        · cases h0 : risesTo r o (o.length - 1) with
          | true => rfl
          | false =>
            have h1 := risesTo_not h0 (k - (o.length - 1))
            rw [show o.length - 1 + (k - (o.length - 1)) = k by omega, HF2.out] at h1
            cases h1)
      go_wp2_with fail
      go_ret
      exact ⟨ret_bool HE.out.symm, n0, rfl⟩

end Go.Proofs.Ytkkholagmjcgiaa
