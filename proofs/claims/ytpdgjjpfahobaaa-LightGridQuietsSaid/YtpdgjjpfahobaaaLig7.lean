/- Refute and IsRefutation of package light, at graphs and sets. -/
import Derived.Test.YtpdgjjpfahobaaaLig6
namespace Go.Proofs.Ytpdgjjpfahobaaa
open Go.RowKit Lamp

set_option maxHeartbeats 1000000 in
theorem Refute_ok (A : Option Addr) (n t : Nat) (l : List (Int × Int)) (c : Nat) (own : Bool) (w : World) (h : Gr w A n l) (ht : t < 2 ^ n) :
    Calls Try.prog 30 #[.int .i64 n, .slice A l.length c, .bool own, .int .i64 t] w fun e w' => e = .returned (.tuple #[.int .i64 ((refuteL (quietL (grL n l own)) t).2 : Nat), .bool (refuteL (quietL (grL n l own)) t).1, .int .i64 0]) ∧ Below w.heap.size w w' := by
  have H := Lib.hid h
  have HC := Lib.hid (h.check (xs := [t]) (by simpa using ht))
  have ht16 : t < 65536 := Nat.lt_of_lt_of_le ht (pow_split h.most)
  have HK := Lib.hid (check1 A n t l c w h.reads h.len)
  obtain ⟨b, x, hbx⟩ : ∃ b x, refuteL (quietL (grL n l own)) t = (b, x) := ⟨_, _, rfl⟩
  have HBX := Lib.hid (show foundV (refuteL (quietL ((graphL n l own).take n)) t) = .agg #[.bool b, .int .i64 (x : Nat)] by
    have h1 : refuteL (quietL ((graphL n l own).take n)) t = (b, x) := hbx
    rw [h1]; rfl)
  rw [hbx]
  clear h ht hbx
  go_enter Try.func30, Try.ntmps30
  go_wp2_with fail
  refine HK.out.mono ?_
  rintro e w1 ⟨rfl, hb1⟩
  have HB1 := Lib.hid hb1
  rw [show checkS n l [(t : Int)] = 0 from HC.out]
  clear hb1
  go_wp2_with fail
  refine ((H.out.up HB1.out).graphOf c own).mono ?_
  rintro e w2 ⟨rfl, hb2⟩
  have HB2 := Lib.hid (HB1.out.trans (hb2.mono HB1.out.size))
  clear hb2
  go_wp2_with fail
  refine (refute_any n t (graphL n l own) w2 (graphL_len n l own) H.out.most (H.out.lt own) ht16).mono ?_
  rintro e w3 ⟨rfl, hb3⟩
  have HB3 := Lib.hid (HB2.out.trans (hb3.mono HB2.out.size))
  rw [HBX.out]
  clear hb3
  go_wp2_with fail
  go_quiet (fail)
  go_wp2_with fail
  go_ret3
  exact ⟨rfl, below_drewN (HB3.out.alloc HB3.out.size _) _⟩

/-- Whether a set is quiet and has an odd number of lamps of the target. -/
def isRefL (sw : List Nat) (t q : Nat) : Bool := decide (comb q sw = 0) && oddB (q &&& t)
set_option maxHeartbeats 1000000 in
theorem IsRefutation_ok (A : Option Addr) (n t q : Nat) (l : List (Int × Int)) (c : Nat) (own : Bool) (w : World) (h : Gr w A n l) (ht : t < 2 ^ n) (hq : q < 2 ^ n) :
    Calls Try.prog 31 #[.int .i64 n, .slice A l.length c, .bool own, .int .i64 t, .int .i64 q] w fun e w' => e = .returned (.tuple #[.bool (isRefL (grL n l own) t q), .int .i64 0]) ∧ Below w.heap.size w w' := by
  have H := Lib.hid h
  have HC := Lib.hid (h.check (xs := [t, q]) (by intro x hx; simp at hx; rcases hx with rfl | rfl <;> assumption))
  have ht16 : t < 65536 := Nat.lt_of_lt_of_le ht (pow_split h.most)
  have hq16 : q < 65536 := Nat.lt_of_lt_of_le hq (pow_split h.most)
  have HK := Lib.hid (check2 A n t q l c w h.reads h.len)
  obtain ⟨z, hz⟩ : ∃ z, comb q (grL n l own) = z := ⟨_, rfl⟩
  obtain ⟨b, hb⟩ : ∃ b, oddB (q &&& t) = b := ⟨_, rfl⟩
  have HB := Lib.hid hb
  have HAND := Lib.hid (i64_and q t (by omega) (by omega))
  have HANL := Lib.hid (show q &&& t < 65536 from Nat.lt_of_le_of_lt Nat.and_le_left hq16)
  have HE := Lib.hid (show isRefL (grL n l own) t q = (decide (z = 0) && b) by unfold isRefL; rw [hz, hb])
  have HEF := Lib.hid (fun (W : World) => (effect_any n q (graphL n l own) W (graphL_len n l own) h.most (h.lt own) hq16 : Calls _ _ _ _ _))
  have HZ := Lib.hid (show comb q ((graphL n l own).take n) = z from hz)
  clear h ht hq hz hb
  by_cases h0 : z = 0
  · subst h0
    go_enter Try.func31, Try.ntmps31
    go_wp2_with fail
    refine HK.out.mono ?_
    rintro e w1 ⟨rfl, hb1⟩
    have HB1 := Lib.hid hb1
    rw [show checkS n l [(t : Int), (q : Int)] = 0 from HC.out]
    clear hb1
    go_wp2_with fail
    refine ((H.out.up HB1.out).graphOf c own).mono ?_
    rintro e w2 ⟨rfl, hb2⟩
    have HB2 := Lib.hid (HB1.out.trans (hb2.mono HB1.out.size))
    clear hb2
    go_wp2_with fail
    refine (HEF.out w2).mono ?_
    rintro e w3 ⟨rfl, hb3⟩
    have HB3 := Lib.hid (HB2.out.trans (hb3.mono HB2.out.size))
    rw [HZ.out]
    clear hb3
    go_wp2_with fail
    refine (isOdd_of _ _ HAND.out HANL.out HB.out).mono ?_
    rintro e w4 ⟨rfl, rfl⟩
    go_wp2_with fail
    go_ret2
    exact ⟨by rw [HE.out]; rfl, HB3.out⟩
  · have hz0 : ((z : Int) == 0) = false := by rw [beq_eq_false_iff_ne]; omega
    have HZ0 := Lib.hid h0
    clear h0
    go_enter Try.func31, Try.ntmps31
    go_wp2_with fail
    refine HK.out.mono ?_
    rintro e w1 ⟨rfl, hb1⟩
    have HB1 := Lib.hid hb1
    rw [show checkS n l [(t : Int), (q : Int)] = 0 from HC.out]
    clear hb1
    go_wp2_with fail
    refine ((H.out.up HB1.out).graphOf c own).mono ?_
    rintro e w2 ⟨rfl, hb2⟩
    have HB2 := Lib.hid (HB1.out.trans (hb2.mono HB1.out.size))
    clear hb2
    go_wp2_with fail
    refine (HEF.out w2).mono ?_
    rintro e w3 ⟨rfl, hb3⟩
    have HB3 := Lib.hid (HB2.out.trans (hb3.mono HB2.out.size))
    rw [HZ.out]
    clear hb3
    go_wp2_with fail
    go_ret2
    exact ⟨by rw [HE.out, decide_eq_false HZ0.out]; rfl, HB3.out⟩

end Go.Proofs.Ytpdgjjpfahobaaa
