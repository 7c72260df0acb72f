/- IsPagoda of package peg. -/
import Derived.Test.YthbhengcinkepaaPg6
namespace Go.Proofs.Ythbhengcinkepaa
open Go.RowKit Lamp

theorem areW_ok {n : Int} {zs : List Int} (h : areW n zs = true) : (zs.length : Int) = n ∧ zs.any badW = false := by
  unfold areW at h
  rw [Bool.and_eq_true, decide_eq_true_eq] at h
  exact ⟨h.1, by simpa using h.2⟩

set_option maxHeartbeats 2000000 in
theorem IsPagoda_ok (A A2 : Option Addr) (n c c2 m : Nat) (l : List Tri) (zs : List Int) (w : World) (hr : RTri w w.heap.size A l) (hw : RInts w w.heap.size A2 zs) (hc : checkT n l = 0) (hm : m = zs.length) (hz : areW n zs = true) :
    Calls Try.prog 35 #[.int .i64 n, .slice A l.length c, .slice A2 m c2] w fun e w' => e = .returned (.tuple #[.bool (pagodaB l zs), .int .i64 0]) ∧ Below w.heap.size w w' := by
  obtain ⟨hn1, hn16, hl, hg⟩ := checkT_zero hc
  obtain ⟨hzl, hzb⟩ := areW_ok hz
  have HC := Lib.hid (Check_any A n l c w hr (by omega))
  have HR := Lib.hid hr
  have HW := Lib.hid hw
  have HZ := Lib.hid hc
  have HA := Lib.hid hz
  have HM := Lib.hid hm
  have HOK := Lib.hid (goodT_ok hg)
  have HZL := Lib.hid hzl
  have HZB := Lib.hid hzb
  clear hr hw hc hm hz hg hzl hzb
  go_enter Try.func35, Try.ntmps35
  go_wp2_with fail
  refine HC.out.mono ?_
  rintro e w1 ⟨rfl, hb⟩
  rw [HZ.out]
  have HB := Lib.hid hb
  have HAW := Lib.hid (areWeights_any A2 n zs m c2 w1.heap.size w1 HM.out ((HW.out.below hb).more hb.size) (by have := HZL.out; omega))
  have HIP := Lib.hid (isPagoda_any A A2 n c c2 m l zs w1 ((HR.out.below hb).more hb.size) ((HW.out.below hb).more hb.size) hl (by omega) HOK.out HM.out (by have := HZL.out; omega) HZB.out)
  clear hb HC
  go_wp2_with fail
  refine HAW.out.mono ?_
  rintro e w2 ⟨rfl, rfl⟩
  rw [HA.out]
  clear HAW
  go_wp2_with fail
  refine HIP.out.mono ?_
  rintro e w2 ⟨rfl, hb2⟩
  have HB2 := Lib.hid (HB.out.trans (hb2.mono HB.out.size))
  clear hb2
  go_wp2_with fail
  go_ret2
  exact ⟨rfl, HB2.out⟩

theorem IsPagoda_w (A A2 : Option Addr) (n c c2 m : Nat) (l : List Tri) (zs : List Int) (w : World) (hr : RTri w w.heap.size A l) (hw : RInts w w.heap.size A2 zs) (hc : checkT n l = 0) (hm : m = zs.length) (hl : zs.length ≤ 1000000) (hz : areW n zs = false) :
    Calls Try.prog 35 #[.int .i64 n, .slice A l.length c, .slice A2 m c2] w fun e w' => e = .returned (.tuple #[.bool false, .int .i64 1]) ∧ Below w.heap.size w w' := by
  obtain ⟨hn1, hn16, hll, hg⟩ := checkT_zero hc
  have HC := Lib.hid (Check_any A n l c w hr (by omega))
  have HW := Lib.hid hw
  have HZ := Lib.hid hc
  have HA := Lib.hid hz
  have HM := Lib.hid hm
  clear hr hw hc hm hz hg
  go_enter Try.func35, Try.ntmps35
  go_wp2_with fail
  refine HC.out.mono ?_
  rintro e w1 ⟨rfl, hb⟩
  rw [HZ.out]
  have HB := Lib.hid hb
  have HAW := Lib.hid (areWeights_any A2 n zs m c2 w1.heap.size w1 HM.out ((HW.out.below hb).more hb.size) hl)
  clear hb HC
  go_wp2_with fail
  refine HAW.out.mono ?_
  rintro e w2 ⟨rfl, rfl⟩
  rw [HA.out]
  clear HAW
  go_wp2_with fail
  go_ret2
  exact ⟨rfl, HB.out⟩

theorem IsPagoda_bad (A A2 : Option Addr) (c c2 m : Nat) (n : Int) (l : List Tri) (w : World) (hr : RTri w w.heap.size A l) (hl : l.length ≤ 1000000) (hc : checkT n l ≠ 0) :
    Calls Try.prog 35 #[.int .i64 n, .slice A l.length c, .slice A2 m c2] w fun e w' => e = .returned (.tuple #[.bool false, .int .i64 (checkT n l)]) ∧ Below w.heap.size w w' := by
  have HC := Lib.hid (Check_any A n l c w hr hl)
  have he : (checkT n l == 0) = false := by simpa using hc
  have he2 : (checkT n l != 0) = true := by simpa using hc
  clear hr hc
  go_enter Try.func35, Try.ntmps35
  go_wp2_with fail
  refine HC.out.mono ?_
  rintro e w1 ⟨rfl, hb⟩
  have HB := Lib.hid hb
  clear hb
  go_wp2_with fail
  go_ret2
  exact ⟨rfl, HB.out⟩
end Go.Proofs.Ythbhengcinkepaa
