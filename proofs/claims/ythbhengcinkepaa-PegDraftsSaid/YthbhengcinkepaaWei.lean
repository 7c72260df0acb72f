/- Refutes of package peg; the reference's Weights, Pagoda, sum and Refutes. -/
import Derived.Test.YthbhengcinkepaaPg14
import Derived.Test.YthbhengcinkepaaWeiL
import Derived.Test.YthbhengcinkepaaRCheck2
namespace Go.Proofs.Ythbhengcinkepaa
open Go.RowKit Lamp

theorem hasPeg_any (p h : Nat) (w : World) (hp : p < 65536) (hh : h < 16) :
    Calls Try.prog 118 #[.int .i64 p, .int .i64 h] w fun e w' => e = .returned (.bool (p.testBit h)) ∧ w = w' := by
  have HB := Lib.hid (bit_test p h (by omega))
  have HM : min h 64 = h := by omega
  rw [HM] at HB
  go_enter Try.func118, Try.ntmps118
  go_wp2_with fail
  go_ret
  exact ⟨ret_bool HB.out, rfl⟩
theorem hasPeg_of {p h : Nat} {b : Bool} (w : World) (hp : p < 65536) (hh : h < 16) (hb : p.testBit h = b) :
    Calls Try.prog 118 #[.int .i64 p, .int .i64 h] w fun e w' => e = .returned (.bool b) ∧ w = w' := by rw [← hb]; exact hasPeg_any p h w hp hh

theorem getD_some {zs : List Int} {k : Nat} {z : Int} (h : zs[k]? = some z) : zs.getD k 0 = z := by rw [List.getD_eq_getElem?_getD, h]; rfl

set_option maxRecDepth 100000 in
set_option maxHeartbeats 2000000 in
theorem weigh_any (A : Option Addr) (m c p B : Nat) (zs : List Int) (w : World) (hr : RInts w B A zs) (hm : m = zs.length) (hl : zs.length ≤ 16) (hb : zs.any badW = false) (hp : p < 65536) :
    Calls Try.prog 75 #[.slice A m c, .int .i64 p] w fun e w' => e = .returned (.int .i64 (sumW zs p zs.length)) ∧ w = w' := by
  subst hm
  have HR := Lib.hid hr
  have HIN := Lib.hid (fun k => sumW_in hb p k)
  have HW := Lib.hid (fun k => badW_in hb k)
  have HSU := Lib.hid (fun k => show sumW zs p (k + 1) = sumW zs p k + (if p.testBit k = true then zs.getD k 0 else 0) from rfl)
  have HS0 := Lib.hid (show sumW zs p 0 = 0 from rfl)
  obtain ⟨S, hS⟩ : ∃ S, sumW zs p = S := ⟨_, rfl⟩
  rw [hS] at HIN HSU HS0 ⊢
  clear hr hb hS
  go_enter Try.func75, Try.ntmps75
  go_wp2_with fail
  go_loopg [5, 10] zs.length (fun g s i ws => ∃ (k : Nat) (t : Int), k + g = zs.length ∧ s = .int .i64 t ∧ i = .int .i64 k ∧ Hid (S k = t) ∧ Hid (w = ws))
  case atStart => exact ⟨0, 0, by omega, rfl, rfl, HS0, Lib.hid rfl⟩
  case round =>
    obtain ⟨k, t, hk, rfl, rfl, HT1, HW1⟩ := hrel
    have HT := HT1
    have hw1 := HW1.out
    clear HT1 HW1
    subst hw1
    cases gk with
    | zero =>
      obtain rfl : k = zs.length := by omega
      have hge : ¬ (zs.length : Int) < (zs.length : Int) := by omega
      have hgd : decide ((zs.length : Int) < (zs.length : Int)) = false := decide_eq_false hge
      go_wp2_with fail
      go_ret
      exact ⟨ret_int HT.out.symm, rfl⟩
    | succ g =>
      have hkl : k < zs.length := by omega
      have hkl' : (k : Int) < (zs.length : Int) := by omega
      obtain ⟨b, o, z, hA, hbB, hz, hc⟩ := HR.out.at_ hkl
      subst hA
      have hin := HIN.out k
      have hzw := HW.out k
      rw [getD_some hz] at hzw
      rw [HT.out] at hin
      have HZ := Lib.hid (getD_some hz)
      have hwr : wrap64 (t + z) = t + z := w64 (by omega)
      have hwr2 : IntKind.i64.wrap (t + z) = t + z := IntWalk.i64_in _ (by omega)
      clear hz
      cases hbit : p.testBit k with
      | true =>
        have HN := Lib.hid (show S (k + 1) = t + z by rw [HSU.out, HT.out, HZ.out, hbit, if_pos rfl])
        have HPG := Lib.hid (fun w9 => hasPeg_of w9 hp (by omega) hbit)
        clear hbit
        go_wp2_with (go_at_call 118; refine (HPG.out _).mono ?_; rintro e w' ⟨rfl, rfl⟩)
        go_roundg g
        case measure => omega
        case rel => exact ⟨k + 1, t + z, by omega, rfl, by go_num, HN, Lib.hid rfl⟩
      | false =>
        have HN := Lib.hid (show S (k + 1) = t by rw [HSU.out, HT.out, hbit, if_neg (by simp)]; omega)
        have HPG := Lib.hid (fun w9 => hasPeg_of w9 hp (by omega) hbit)
        clear hbit
        go_wp2_with (go_at_call 118; refine (HPG.out _).mono ?_; rintro e w' ⟨rfl, rfl⟩)
        go_roundg g
        case measure => omega
        case rel => exact ⟨k + 1, t, by omega, rfl, by go_num, HN, Lib.hid rfl⟩

set_option maxRecDepth 100000 in
set_option maxHeartbeats 2000000 in
theorem Rsum_any (A : Option Addr) (m c p B : Nat) (zs : List Int) (w : World) (hr : RInts w B A zs) (hm : m = zs.length) (hl : zs.length ≤ 16) (hb : zs.any badW = false) (_hp : p < 65536) :
    Calls Try.prog 76 #[.slice A m c, .int .i64 p] w fun e w' => e = .returned (.int .i64 (sumW zs p zs.length)) ∧ ∃ n, w' = w.drewN n := by
  subst hm
  have HR := Lib.hid hr
  have HIN := Lib.hid (fun k => sumW_in hb p k)
  have HW := Lib.hid (fun k => badW_in hb k)
  have HSU := Lib.hid (fun k => show sumW zs p (k + 1) = sumW zs p k + (if p.testBit k = true then zs.getD k 0 else 0) from rfl)
  have HS0 := Lib.hid (show sumW zs p 0 = 0 from rfl)
  obtain ⟨S, hS⟩ : ∃ S, sumW zs p = S := ⟨_, rfl⟩
  rw [hS] at HIN HSU HS0 ⊢
  clear hr hb hS
  go_enter Try.func76, Try.ntmps76
  go_wp2_with fail
  go_loopg [5, 6] zs.length (fun g s i ws => ∃ (k : Nat) (t : Int), k + g = zs.length ∧ s = .int .i64 t ∧ i = .int .i64 k ∧ Hid (S k = t) ∧ Hid (∃ n, w.drewN n = ws))
  case atStart => exact ⟨0, 0, by omega, rfl, rfl, HS0, Lib.hid ⟨0, rfl⟩⟩
  case round =>
    obtain ⟨k, t, hk, rfl, rfl, HT1, HW1⟩ := hrel
    have HT := HT1
    obtain ⟨n0, hn0⟩ := HW1.out
    clear HT1 HW1
    subst hn0
    cases gk with
    | zero =>
      obtain rfl : k = zs.length := by omega
      have hge : ¬ (zs.length : Int) < (zs.length : Int) := by omega
      have hgd : decide ((zs.length : Int) < (zs.length : Int)) = false := decide_eq_false hge
      go_wp2_with fail
      go_ret
      exact ⟨ret_int HT.out.symm, n0, rfl⟩
    | succ g =>
      have hkl : k < zs.length := by omega
      have hkl' : (k : Int) < (zs.length : Int) := by omega
      obtain ⟨b, o, z, hA, hbB, hz, hc⟩ := HR.out.at_ hkl
      subst hA
      have hin := HIN.out k
      have hzw := HW.out k
      rw [getD_some hz] at hzw
      rw [HT.out] at hin
      have HZ := Lib.hid (getD_some hz)
      have hbt : p.testBit k = decide (p / 2 ^ k % 2 = 1) := Nat.testBit_eq_decide_div_mod_eq
      obtain ⟨d, hd⟩ : ∃ d, p / 2 ^ k = d := ⟨_, rfl⟩
      have hdi : (p : Int) / 2 ^ k = (d : Int) := by rw [← hd]; simp
      rw [hd] at hbt
      have hb0 : (0 : Int) ≤ (k : Int) := by omega
      clear hz hd
      by_cases h1 : d % 2 = 1
      · have HN := Lib.hid (show S (k + 1) = t + z by rw [HSU.out, HT.out, HZ.out, hbt, if_pos (decide_eq_true h1)])
        have e1 : (d : Int).tmod 2 = 1 := by rw [Int.tmod_eq_emod_of_nonneg (by omega)]; omega
        have e2 : (d : Int) % 2 = 1 := by omega
        have hwz : wrap64 (1 * z) = z := by rw [Int.one_mul]; exact w64 (by omega)
        have hwz2 : IntKind.i64.wrap (1 * z) = z := by rw [Int.one_mul]; exact IntWalk.i64_in _ (by omega)
        have hwz3 : IntKind.i64.wrap z = z := IntWalk.i64_in _ (by omega)
        have hwr : wrap64 (t + z) = t + z := w64 (by omega)
        have hwr2 : IntKind.i64.wrap (t + z) = t + z := IntWalk.i64_in _ (by omega)
        clear h1 hbt
        go_wp2_with fail
        go_quiet (fail)
        go_wp2_with fail
        go_roundg g
        case measure => omega
        case rel => exact ⟨k + 1, t + z, by omega, rfl, by go_num, HN, Lib.hid ⟨n0 + nq, by simp⟩⟩
      · have HN := Lib.hid (show S (k + 1) = t by rw [HSU.out, HT.out, hbt, if_neg (by simpa using h1)]; omega)
        have e1 : (d : Int).tmod 2 = 0 := by rw [Int.tmod_eq_emod_of_nonneg (by omega)]; omega
        have e2 : (d : Int) % 2 = 0 := by omega
        have hwz : wrap64 (0 * z) = 0 := by rw [Int.zero_mul]; exact w64 (by omega)
        have hwz2 : IntKind.i64.wrap (0 * z) = 0 := by rw [Int.zero_mul]; exact IntWalk.i64_in _ (by omega)
        have hwr : wrap64 (t + 0) = t := by rw [Int.add_zero]; exact w64 (by omega)
        have hwr2 : IntKind.i64.wrap (t + 0) = t := by rw [Int.add_zero]; exact IntWalk.i64_in _ (by omega)
        have hwr3 : IntKind.i64.wrap t = t := IntWalk.i64_in _ (by omega)
        clear h1 hbt
        go_wp2_with fail
        go_quiet (fail)
        go_wp2_with fail
        go_roundg g
        case measure => omega
        case rel => exact ⟨k + 1, t, by omega, rfl, by go_num, HN, Lib.hid ⟨n0 + nq, by simp⟩⟩

set_option maxHeartbeats 2000000 in
theorem Refutes_ok (A A2 : Option Addr) (n p q c c2 m : Nat) (l : List Tri) (zs : List Int) (w : World) (hr : RTri w w.heap.size A l) (hw : RInts w w.heap.size A2 zs) (hc : checkT n l = 0) (hp : p < 2 ^ n) (hq : q < 2 ^ n) (hm : m = zs.length) (hz : areW n zs = true) :
    Calls Try.prog 36 #[.int .i64 n, .slice A l.length c, .int .i64 p, .int .i64 q, .slice A2 m c2] w fun e w' => e = .returned (.tuple #[.bool (refutesB l zs p q), .int .i64 0]) ∧ Below w.heap.size w w' := by
  obtain ⟨hn1, hn16, hl, hg⟩ := checkT_zero hc
  obtain ⟨hzl, hzb⟩ := areW_ok hz
  have hn : n ≤ 16 := by omega
  have h16 := Nat.pow_le_pow_right (n := 2) (by decide) hn
  have HC := Lib.hid (check_2 A n l p q c w hr (by omega))
  have HZ := Lib.hid (show checkPs n l [(p : Int), (q : Int)] = 0 from checkPs_ok (xs := [p, q]) hc (by simp; exact ⟨hp, hq⟩))
  have HAW := Lib.hid (fun (w1 : World) (h : RInts w1 w1.heap.size A2 zs) => areWeights_any A2 n zs m c2 w1.heap.size w1 hm h (by omega))
  have HIP := Lib.hid (fun (w1 : World) (h1 : RTri w1 w1.heap.size A l) (h : RInts w1 w1.heap.size A2 zs) => isPagoda_any A A2 n c c2 m l zs w1 h1 h hl hn (goodT_ok hg) hm (by omega) hzb)
  have HWP := Lib.hid (fun (w1 : World) (h : RInts w1 w1.heap.size A2 zs) => weigh_any A2 m c2 p w1.heap.size zs w1 h hm (by omega) hzb (Nat.lt_of_lt_of_le hp h16))
  have HWQ := Lib.hid (fun (w1 : World) (h : RInts w1 w1.heap.size A2 zs) => weigh_any A2 m c2 q w1.heap.size zs w1 h hm (by omega) hzb (Nat.lt_of_lt_of_le hq h16))
  have HD := Lib.hid (show refutesB l zs p q = (pagodaB l zs && decide (sumW zs p zs.length < sumW zs q zs.length)) from rfl)
  rw [hz] at HAW
  have HR := Lib.hid hr
  have HW := Lib.hid hw
  obtain ⟨R, hR⟩ : ∃ R, refutesB l zs p q = R := ⟨_, rfl⟩
  obtain ⟨sp, hsp⟩ : ∃ t, sumW zs p zs.length = t := ⟨_, rfl⟩
  obtain ⟨sq, hsq⟩ : ∃ t, sumW zs q zs.length = t := ⟨_, rfl⟩
  obtain ⟨P, hP⟩ : ∃ P, pagodaB l zs = P := ⟨_, rfl⟩
  rw [hR, hsp, hsq, hP] at HD
  rw [hsp] at HWP
  rw [hsq] at HWQ
  rw [hP] at HIP
  rw [hR]
  clear hr hw hc hm hz hg hzl hzb hR hsp hsq hP hp hq h16
  go_enter Try.func36, Try.ntmps36
  go_wp2_with fail
  refine HC.out.mono ?_
  rintro e w1 ⟨rfl, hb⟩
  rw [HZ.out]
  have HB := Lib.hid hb
  have HR1 := Lib.hid (HR.out.up hb)
  have HW1 := Lib.hid ((HW.out.below hb).more hb.size)
  clear hb HC
  go_wp2_with fail
  refine (HAW.out w1 HW1.out).mono ?_
  rintro e w2 ⟨rfl, rfl⟩
  go_wp2_with fail
  refine (HIP.out w1 HR1.out HW1.out).mono ?_
  rintro e w2 ⟨rfl, hb2⟩
  have HB2 := Lib.hid (HB.out.trans (hb2.mono HB.out.size))
  have HW2 := Lib.hid ((HW1.out.below hb2).more hb2.size)
  clear hb2
  cases P with
  | false =>
    have HE := Lib.hid (show R = false by rw [HD.out]; rfl)
    go_wp2_with fail
    go_ret2
    exact ⟨by rw [HE.out]; rfl, HB2.out⟩
  | true =>
    go_wp2_with (first | (go_at_call 75; with_reducible refine (HWQ.out _ HW2.out).mono ?_; rintro e w' ⟨rfl, rfl⟩) | (go_at_call 75; with_reducible refine (HWP.out _ HW2.out).mono ?_; rintro e w' ⟨rfl, rfl⟩))
    go_ret2
    exact ⟨by rw [HD.out]; rfl, HB2.out⟩

theorem Refutes_w (A A2 : Option Addr) (n p q c c2 m : Nat) (l : List Tri) (zs : List Int) (w : World) (hr : RTri w w.heap.size A l) (hw : RInts w w.heap.size A2 zs) (hc : checkT n l = 0) (hp : p < 2 ^ n) (hq : q < 2 ^ n) (hm : m = zs.length) (hl : zs.length ≤ 1000000) (hz : areW n zs = false) :
    Calls Try.prog 36 #[.int .i64 n, .slice A l.length c, .int .i64 p, .int .i64 q, .slice A2 m c2] w fun e w' => e = .returned (.tuple #[.bool false, .int .i64 1]) ∧ Below w.heap.size w w' := by
  obtain ⟨hn1, hn16, hll, hg⟩ := checkT_zero hc
  have HC := Lib.hid (check_2 A n l p q c w hr (by omega))
  have HZ := Lib.hid (show checkPs n l [(p : Int), (q : Int)] = 0 from checkPs_ok (xs := [p, q]) hc (by simp; exact ⟨hp, hq⟩))
  have HAW := Lib.hid (fun (w1 : World) (h : RInts w1 w1.heap.size A2 zs) => areWeights_any A2 n zs m c2 w1.heap.size w1 hm h hl)
  rw [hz] at HAW
  have HW := Lib.hid hw
  clear hr hw hc hm hz hg hp hq
  go_enter Try.func36, Try.ntmps36
  go_wp2_with fail
  refine HC.out.mono ?_
  rintro e w1 ⟨rfl, hb⟩
  rw [HZ.out]
  have HB := Lib.hid hb
  have HW1 := Lib.hid ((HW.out.below hb).more hb.size)
  clear hb HC
  go_wp2_with fail
  refine (HAW.out w1 HW1.out).mono ?_
  rintro e w2 ⟨rfl, rfl⟩
  go_wp2_with fail
  go_ret2
  exact ⟨rfl, HB.out⟩

set_option maxRecDepth 100000 in
set_option maxHeartbeats 2000000 in
theorem RWeights_any (A : Option Addr) (n : Int) (m c B : Nat) (zs : List Int) (w : World) (hr : RInts w B A zs) (hm : m = zs.length) (hl : zs.length ≤ 1000000) :
    Calls Try.prog 37 #[.int .i64 n, .slice A m c] w fun e w' => e = .returned (.bool (areW n zs)) ∧ w = w' := by
  subst hm
  have HR := Lib.hid hr
  have HD := Lib.hid (show areW n zs = (decide ((zs.length : Int) = n) && !zs.any badW) from rfl)
  obtain ⟨R, hR⟩ : ∃ R, areW n zs = R := ⟨_, rfl⟩
  rw [hR] at HD
  rw [hR]
  clear hr hR
  go_enter Try.func37, Try.ntmps37
  go_wp2_with fail
  go_loopg [5] zs.length (fun g i ws => ∃ k : Nat, k + g = zs.length ∧ i = .int .i64 k ∧ Hid ((zs.take k).any badW = false) ∧ Hid (w = ws))
  case atStart => exact ⟨0, by omega, rfl, Lib.hid rfl, Lib.hid rfl⟩
  case round =>
    obtain ⟨k, hk, rfl, HN1, HW1⟩ := hrel
    have HN := HN1
    have hw1 := HW1.out
    clear HN1 HW1
    subst hw1
    cases gk with
    | zero =>
      obtain rfl : k = zs.length := by omega
      have HA := Lib.hid (show zs.any badW = false by have h := HN.out; rwa [List.take_length] at h)
      have hge : ¬ (zs.length : Int) < (zs.length : Int) := by omega
      have hgd : decide ((zs.length : Int) < (zs.length : Int)) = false := decide_eq_false hge
      have HE := Lib.hid (show R = ((zs.length : Int) == n) by rw [HD.out, HA.out, Bool.not_false, Bool.and_true, Bool.eq_iff_iff]; simp)
      go_wp2_with fail
      go_ret
      exact ⟨ret_bool HE.out.symm, rfl⟩
    | succ g =>
      have hkl : k < zs.length := by omega
      have hkl' : (k : Int) < (zs.length : Int) := by omega
      obtain ⟨b, o, z, hA, hbB, hz, hc⟩ := HR.out.at_ hkl
      subst hA
      have HZ := Lib.hid hz
      clear hz
      by_cases h1 : z < -1000000
      · have HE := Lib.hid (show R = false by rw [HD.out, any_yes HZ.out (by unfold badW; simp [h1])]; simp)
        go_wp2_with fail
        go_ret
        exact ⟨ret_bool HE.out.symm, rfl⟩
      · by_cases h2 : 1000000 < z
        · have HE := Lib.hid (show R = false by rw [HD.out, any_yes HZ.out (by unfold badW; simp [h2])]; simp)
          go_wp2_with fail
          go_ret
          exact ⟨ret_bool HE.out.symm, rfl⟩
        · have HNN := Lib.hid (show (zs.take (k + 1)).any badW = false by rw [any_next HZ.out, HN.out]; unfold badW; simp [h1, h2])
          go_wp2_with fail
          go_roundg g
          case measure => omega
          case rel => exact ⟨k + 1, by omega, by go_num, HNN, Lib.hid rfl⟩

set_option maxRecDepth 100000 in
set_option maxHeartbeats 4000000 in
theorem RPagoda_any (A A2 : Option Addr) (n c c2 m : Nat) (l : List Tri) (zs : List Int) (w : World) (hr : RTri w w.heap.size A l) (hw : RInts w w.heap.size A2 zs) (hl : l.length ≤ 40) (hn : n ≤ 16) (hok : LinesOk n l) (hm : m = zs.length) (hz : zs.length = n) (hb : zs.any badW = false) :
    Calls Try.prog 38 #[.slice A l.length c, .slice A2 m c2] w fun e w' => e = .returned (.bool (pagodaB l zs)) ∧ ∃ n, w' = w.drewN n := by
  subst hm
  have HR := Lib.hid hr
  have HW := Lib.hid hw
  have HK := Lib.hid hok
  have HBD := Lib.hid (fun k => badW_in hb k)
  have HNX := Lib.hid (fun k e (h : l[k]? = some e) => pagodaB_next (zs := zs) h)
  have HNO := Lib.hid (fun k e (h : l[k]? = some e) (h2 : lightB zs e = false) => pagodaB_not h h2)
  have HAL := Lib.hid (show pagodaB (l.take l.length) zs = pagodaB l zs by rw [List.take_length])
  have HS0 := Lib.hid (show pagodaB (l.take 0) zs = true from rfl)
  have HZ := Lib.hid hz
  obtain ⟨R, hR⟩ : ∃ R, pagodaB l zs = R := ⟨_, rfl⟩
  rw [hR] at HNO HAL
  rw [hR]
  clear hr hw hok hb hR hz
  go_enter Try.func38, Try.ntmps38
  go_wp2_with fail
  go_loopg [5] l.length (fun g i ws => ∃ k : Nat, k + g = l.length ∧ i = .int .i64 k ∧ Hid (pagodaB (l.take k) zs = true) ∧ Hid (∃ n, w.drewN n = ws))
  case atStart => exact ⟨0, by omega, rfl, HS0, Lib.hid ⟨0, rfl⟩⟩
  case round =>
    obtain ⟨k, hk, rfl, HP1, HW1⟩ := hrel
    have HP := HP1
    obtain ⟨n0, hn0⟩ := HW1.out
    clear HP1 HW1
    subst hn0
    cases gk with
    | zero =>
      obtain rfl : k = l.length := by omega
      have hge : ¬ (l.length : Int) < (l.length : Int) := by omega
      have hgd : decide ((l.length : Int) < (l.length : Int)) = false := decide_eq_false hge
      have HE := Lib.hid (show R = true by rw [← HAL.out]; exact HP.out)
      go_wp2_with fail
      go_ret
      exact ⟨ret_bool HE.out.symm, n0, rfl⟩
    | succ g =>
      have hkl : k < l.length := by omega
      have hkl' : (k : Int) < (l.length : Int) := by omega
      obtain ⟨b, o, x, y, z, hA, hbb, hx, p0, p1, p2⟩ := HR.out.at_ hkl
      subst hA
      have htri := HK.out _ (List.mem_of_getElem? hx)
      obtain ⟨a1, a2, a3, he, _, _, _⟩ := htri.nat hn
      cases he
      obtain ⟨_, g1, _, g2, _, g3, _⟩ := htri
      simp only at g1 g2 g3
      have g1 : a1 < zs.length := by have := HZ.out; omega
      have g2 : a2 < zs.length := by have := HZ.out; omega
      have g3 : a3 < zs.length := by have := HZ.out; omega
      have hi1 : (a1 : Int) < (zs.length : Int) := by omega
      have hi2 : (a2 : Int) < (zs.length : Int) := by omega
      have hi3 : (a3 : Int) < (zs.length : Int) := by omega
      have HLB := Lib.hid (show lightB zs ((a1 : Int), (a2 : Int), (a3 : Int)) = (decide (zs.getD a3 0 ≤ zs.getD a1 0 + zs.getD a2 0) && decide (zs.getD a1 0 ≤ zs.getD a3 0 + zs.getD a2 0)) from rfl)
      have hq1 := HBD.out a1
      have hq2 := HBD.out a2
      have hq3 := HBD.out a3
      obtain ⟨b2, o2, w1, hA1, hb1, hz1, c1⟩ := HW.out.at_ g1
      obtain ⟨b3, o3, w2, hA2, hb2, hz2, c2⟩ := HW.out.at_ g2
      obtain ⟨b4, o4, w3, hA3, hb3, hz3, c3⟩ := HW.out.at_ g3
      subst hA1
      cases hA2
      cases hA3
      rw [getD_some hz1, getD_some hz2, getD_some hz3] at HLB
      rw [getD_some hz1] at hq1
      rw [getD_some hz2] at hq2
      rw [getD_some hz3] at hq3
      have HX := Lib.hid hx
      have hs1 : IntKind.i64.wrap (w1 + w2) = w1 + w2 := IntWalk.i64_in _ (by omega)
      have hs2 : IntKind.i64.wrap (w3 + w2) = w3 + w2 := IntWalk.i64_in _ (by omega)
      have hs3 : wrap64 (w1 + w2) = w1 + w2 := w64 (by omega)
      have hs4 : wrap64 (w3 + w2) = w3 + w2 := w64 (by omega)
      clear hx hz1 hz2 hz3
      by_cases h1 : w1 + w2 < w3
      · have HE := Lib.hid (show R = false from HNO.out k _ HX.out (by rw [HLB.out, decide_eq_false (by omega)]; rfl))
        go_wp2_with fail
        go_quiet (fail)
        go_wp2_with fail
        go_ret
        exact ⟨ret_bool HE.out.symm, n0 + nq, by simp⟩
      · by_cases h2 : w3 + w2 < w1
        · have HE := Lib.hid (show R = false from HNO.out k _ HX.out (by rw [HLB.out, decide_eq_false (p := w1 ≤ w3 + w2) (by omega)]; simp))
          go_wp2_with fail
          go_quiet (fail)
          go_wp2_with fail
          go_ret
          exact ⟨ret_bool HE.out.symm, n0 + nq, by simp⟩
        · have HN := Lib.hid (show pagodaB (l.take (k + 1)) zs = true by rw [HNX.out k _ HX.out, HP.out, HLB.out, decide_eq_true (by omega), decide_eq_true (by omega)]; rfl)
          go_wp2_with fail
          go_quiet (fail)
          go_wp2_with fail
          go_roundg g
          case measure => omega
          case rel => exact ⟨k + 1, by omega, by go_num, HN, Lib.hid ⟨n0 + nq, by simp⟩⟩

set_option maxHeartbeats 2000000 in
theorem RRefutes_any (A A2 : Option Addr) (n p q c c2 m : Nat) (l : List Tri) (zs : List Int) (w : World) (hr : RTri w w.heap.size A l) (hw : RInts w w.heap.size A2 zs) (hl : l.length ≤ 40) (hn : n ≤ 16) (hok : LinesOk n l) (hm : m = zs.length) (hz : zs.length = n) (hb : zs.any badW = false) (hp : p < 2 ^ n) (hq : q < 2 ^ n) :
    Calls Try.prog 39 #[.slice A l.length c, .int .i64 p, .int .i64 q, .slice A2 m c2] w fun e w' => e = .returned (.bool (refutesB l zs p q)) ∧ ∃ n, w' = w.drewN n := by
  have h16 := Nat.pow_le_pow_right (n := 2) (by decide) hn
  have HIP := Lib.hid (RPagoda_any A A2 n c c2 m l zs w hr hw hl hn hok hm hz hb)
  have HWP := Lib.hid (fun (k : Nat) => Rsum_any A2 m c2 p w.heap.size zs (w.drewN k) (show RInts (w.drewN k) w.heap.size A2 zs from hw) hm (by omega) hb (Nat.lt_of_lt_of_le hp h16))
  have HWQ := Lib.hid (fun (k : Nat) => Rsum_any A2 m c2 q w.heap.size zs (w.drewN k) (show RInts (w.drewN k) w.heap.size A2 zs from hw) hm (by omega) hb (Nat.lt_of_lt_of_le hq h16))
  have HD := Lib.hid (show refutesB l zs p q = (pagodaB l zs && decide (sumW zs p zs.length < sumW zs q zs.length)) from rfl)
  obtain ⟨R, hR⟩ : ∃ R, refutesB l zs p q = R := ⟨_, rfl⟩
  obtain ⟨sp, hsp⟩ : ∃ t, sumW zs p zs.length = t := ⟨_, rfl⟩
  obtain ⟨sq, hsq⟩ : ∃ t, sumW zs q zs.length = t := ⟨_, rfl⟩
  obtain ⟨P, hP⟩ : ∃ P, pagodaB l zs = P := ⟨_, rfl⟩
  rw [hR, hsp, hsq, hP] at HD
  rw [hsp] at HWP
  rw [hsq] at HWQ
  rw [hP] at HIP
  rw [hR]
  clear hr hw hm hz hb hok hR hsp hsq hP hp hq h16
  go_enter Try.func39, Try.ntmps39
  go_wp2_with fail
  refine HIP.out.mono ?_
  rintro e w2 ⟨rfl, n2, rfl⟩
  cases P with
  | false =>
    have HE := Lib.hid (show R = false by rw [HD.out]; rfl)
    go_wp2_with fail
    go_ret
    exact ⟨ret_bool HE.out.symm, n2, rfl⟩
  | true =>
    go_wp2_with fail
    refine (HWQ.out _).mono ?_
    rintro e w3 ⟨rfl, n3, rfl⟩
    rw [World.drewN_drewN]
    go_wp2_with fail
    refine (HWP.out _).mono ?_
    rintro e w4 ⟨rfl, n4, rfl⟩
    rw [World.drewN_drewN]
    go_wp2_with fail
    go_ret
    exact ⟨ret_bool (by rw [HD.out]; rfl), _, rfl⟩
end Go.Proofs.Ythbhengcinkepaa
