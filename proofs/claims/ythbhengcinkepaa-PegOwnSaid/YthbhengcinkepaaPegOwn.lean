/- For every integer n, list of triples of integers l and integer p of: the function PegOwn answers true: results are new memory, and no function changes its arguments. No conditions. -/
import Derived.Test.YthbhengcinkepaaOwn2
import Derived.Test.YthbhengcinkepaaPg20
import Derived.Test.YthbhengcinkepaaPg21
import Derived.Test.YthbhengcinkepaaTameT
import Derived.Test.YthbhengcinkepaaJmp
import Derived.Test.YthbhengcinkepaaEqT
import Derived.Test.YthbhengcinkepaaRRules2
import Derived.Test.YthbhengcinkepaaInts2
namespace Go.Proofs.Ythbhengcinkepaa
open Go.ChangeShapes Go.WideShapes Go.ChangeAt Go.RowKit Go.WideMaps Lamp

set_option maxRecDepth 100000 in
set_option maxHeartbeats 8000000 in
theorem pown_any (a0 : Int) (A : Option Addr) (l : List Tri) (c : Nat) (y : Int) (w : World) (hr : RTri w w.heap.size A l) (hl : l.length ≤ 9223372036854775807) :
    Calls Try.prog 14 #[.int .i64 a0, .slice A l.length c, .int .i64 y] w fun e w' => e = .returned (.bool true) ∧ Below w.heap.size w w' := by
  have hm := remN_lt a0 (m := 10) (by decide)
  obtain ⟨n, hn⟩ : ∃ n, 1 + remN a0 10 = n := ⟨_, rfl⟩
  have hn1 : 1 ≤ n := by omega
  have hn16 : n ≤ 16 := by omega
  have HT := Lib.hid (fun (w1 : World) (h : RTri w1 w1.heap.size A l) => tameT_any A a0 l c 10 12 w1 h hl (by decide) (by decide) (by decide))
  rw [hn] at HT
  have hpw := pow_split hn16
  have hp0 := Nat.two_pow_pos n
  have hpi : (2 : Int) ^ n = ((2 ^ n : Nat) : Int) := by simp
  have hr2 := rem_i64 y hp0 hpw
  have hl2 := remN_lt y hp0
  obtain ⟨p, hp⟩ : ∃ p, remN y (2 ^ n) = p := ⟨_, rfl⟩
  rw [hp] at hr2 hl2
  have HP := Lib.hid hl2
  obtain ⟨P, hP⟩ : ∃ P, 2 ^ n = P := ⟨_, rfl⟩
  rw [hP] at hpw hp0 hpi hr2
  have hPw : IntKind.u64.wrap (P : Int) = (P : Int) := u64_in (by omega) (by omega)
  have hP0 : ((P : Int) = 0) = False := by simp; omega
  have HR0 := Lib.hid hr
  have hn16i : (n : Int) ≤ 16 := by omega
  clear hr hl hm hn hp hP hl2
  go_enter Try.func14, Try.ntmps14
  go_wp2_with fail
  refine (HT.out _ HR0.out).mono ?_
  rintro e w1 ⟨v1, rfl, L, hc, hLK, ho, hb⟩
  obtain ⟨A1, c1, rfl, hc1, hrd, -⟩ := ho.caps
  have HC := Lib.hid hc
  have HB1 := Lib.hid hb
  have HR1 := Lib.hid hrd
  clear hc hb hrd ho HT HR0
  go_wp2_with fail
  refine (own2_any A1 c1 L w1 HR1.out hc1 (by omega)).mono ?_
  rintro e w2 ⟨v2, rfl, ho2, hb2⟩
  rw [List.take_of_length_le (by omega)] at ho2
  obtain ⟨A2, c2, rfl, hrd2⟩ := ho2.reads
  have HR2 := Lib.hid (HR1.out.up hb2)
  have HC2 := Lib.hid hrd2
  have HB2 := Lib.hid (HB1.out.trans (hb2.mono HB1.out.size))
  clear hb2 hrd2 ho2 HB1 HR1
  obtain ⟨hn1', _, hlL, hg⟩ := checkT_zero HC.out
  have hok := jumpsL_ok (goodT_ok hg)
  have HF80 := Lib.hid (show ((jumpsL L).filter fun j => canJ j p).length ≤ 80 by
    have h1 := List.length_filter_le (fun j => canJ j p) (jumpsL L)
    rw [jumpsL_len] at h1
    omega)
  have HZL := Lib.hid (show (sortedP (reachL (jumpsL L) p)).length ≤ 65536 by
    have h1 := reachL_stays hn16 hok HP.out
    simp [sortedP, natV, posL]
    exact h1)
  have HRL := Lib.hid (show (natV (rulesL n (eqsL L))).length ≤ 16 from by rw [natV_len]; exact Nat.le_trans (basisK_len _ _ _) hn16)
  have HJO := Lib.hid (fun (w8 : World) (h : RTri w8 w8.heap.size A1 L) => Jumps_ok A1 c1 n p L w8 h HC.out HP.out)
  have HRO := Lib.hid (fun (w8 : World) (h : RTri w8 w8.heap.size A1 L) => Rules_ok A1 c1 n L w8 h HC.out)
  have HSO := Lib.hid (fun (w8 : World) (h : RTri w8 w8.heap.size A1 L) => Reached_ok A1 c1 n p L w8 h HC.out HP.out)
  have HRR := Lib.hid (fun (w8 : World) (h : RTri w8 w8.heap.size A2 L) => RRules2_any A2 c2 n L w8 h HC.out)
  obtain ⟨F, hF⟩ : ∃ F, ((jumpsL L).filter fun j => canJ j p) = F := ⟨_, rfl⟩
  obtain ⟨R, hR⟩ : ∃ R, natV (rulesL n (eqsL L)) = R := ⟨_, rfl⟩
  obtain ⟨Z, hZ⟩ : ∃ Z, sortedP (reachL (jumpsL L) p) = Z := ⟨_, rfl⟩
  rw [hF] at HF80 HJO
  rw [hR] at HRL HRO HRR
  rw [hZ] at HZL HSO
  clear hF hR hZ hg hok
  go_wp2_with fail
  refine (HJO.out w2 HR2.out).mono ?_
  rintro e w3 ⟨v3, rfl, ho3, hb3⟩
  obtain ⟨Aj, cj, rfl, hrj⟩ := ho3.reads
  have HVJ3 := Lib.hid (ho3.rowV (lim := w2.heap.size) (Nat.le_refl _))
  have HBO3 := Lib.hid hb3
  have HR3 := Lib.hid (HR2.out.up hb3)
  clear ho3 hb3 hrj HJO
  go_wp2_with fail
  refine (HRO.out w3 HR3.out).mono ?_
  rintro e w4 ⟨v4, rfl, ho4, hb4⟩
  obtain ⟨Ar, cr, rfl, hrr⟩ := ho4.reads
  have HVR4 := Lib.hid (ho4.rowV (lim := w2.heap.size) HBO3.out.size)
  have HVJ4 := Lib.hid (HVJ3.out.below hb4)
  have HBO4 := Lib.hid (HBO3.out.trans (hb4.mono HBO3.out.size))
  have HR4 := Lib.hid (HR3.out.up hb4)
  clear ho4 hb4 hrr HVJ3 HBO3 HR3
  go_wp2_with fail
  refine (HSO.out w4 HR4.out).mono ?_
  rintro e w5 ⟨v5, rfl, ho5, hb5⟩
  obtain ⟨As, cs, rfl, hrs⟩ := ho5.reads
  have HVS5 := Lib.hid (ho5.rowV (lim := w2.heap.size) HBO4.out.size)
  have HVR5 := Lib.hid (HVR4.out.below hb5)
  have HVJ5 := Lib.hid (HVJ4.out.below hb5)
  have HBO5 := Lib.hid (HBO4.out.trans (hb5.mono HBO4.out.size))
  clear ho5 hb5 hrs HVR4 HVJ4 HBO4 HR4 HSO
  go_wp2_with fail
  have hF80 := HF80.out
  have hR16 := HRL.out
  have hZ6 := HZL.out
  go_loopg [15] F.length (fun g iv ws => ∃ k : Nat, k + g = F.length ∧ iv = .int .i64 k ∧ Hid (RowV 30 3 w2.heap.size ws Aj F.length) ∧ Hid (RowV 3 1 w2.heap.size ws Ar R.length) ∧ Hid (RowV 3 1 w2.heap.size ws As Z.length) ∧ Hid (Below w2.heap.size w2 ws))
  case atStart => exact ⟨0, by omega, rfl, HVJ5, HVR5, HVS5, HBO5⟩
  case round =>
    clear HVJ5 HVR5 HVS5 HBO5
    obtain ⟨k, hk, rfl, HVJ1, HVR1, HVS1, HBO1⟩ := hrel
    have HVJ := HVJ1
    have HVR0 := HVR1
    have HVS0 := HVS1
    have HBO0 := HBO1
    clear HVJ1 HVR1 HVS1 HBO1
    cases gk with
    | succ g =>
      have hkl : k < F.length := by omega
      have hkl' : (k : Int) < (F.length : Int) := by omega
      obtain ⟨gb, hA, hlim, hsz⟩ := HVJ.out (by omega)
      obtain ⟨⟨u0, hc0⟩, hf0⟩ := hsz.cell (i := k * 3) (by omega)
      obtain ⟨⟨u1, hc1'⟩, hf1⟩ := hsz.cell (i := k * 3 + 1) (by omega)
      obtain ⟨⟨u2, hc2'⟩, hf2⟩ := hsz.cell (i := k * 3 + 2) (by omega)
      have HVJ3 := Lib.hid (((HVJ.out.set gb (k * 3) (.int .i64 (-1))).set gb (k * 3 + 1) (.int .i64 (-1))).set gb (k * 3 + 2) (.int .i64 (-1)))
      have HVR3 := Lib.hid (((HVR0.out.set gb (k * 3) (.int .i64 (-1))).set gb (k * 3 + 1) (.int .i64 (-1))).set gb (k * 3 + 2) (.int .i64 (-1)))
      have HVS3 := Lib.hid (((HVS0.out.set gb (k * 3) (.int .i64 (-1))).set gb (k * 3 + 1) (.int .i64 (-1))).set gb (k * 3 + 2) (.int .i64 (-1)))
      have HBO3 := Lib.hid (((HBO0.out.setCell (p := ⟨gb, k * 3, none⟩) hlim (.int .i64 (-1))).setCell (p := ⟨gb, k * 3 + 1, none⟩) hlim (.int .i64 (-1))).setCell (p := ⟨gb, k * 3 + 2, none⟩) hlim (.int .i64 (-1)))
      subst hA
      clear hsz
      go_wp2_with fail
      go_roundg g
      case measure => omega
      case rel => exact ⟨k + 1, by omega, by go_num, HVJ3, HVR3, HVS3, HBO3⟩
    | zero =>
      obtain rfl : k = F.length := by omega
      have hge : ¬ (F.length : Int) < (F.length : Int) := by omega
      have hgd : decide ((F.length : Int) < (F.length : Int)) = false := decide_eq_false hge
      clear HVJ
      go_wp2_with fail
      have HD0 := Lib.hid (Box.new wr 47 #[.slice Ar R.length cr, .slice As Z.length cs])
      have HVR9 := Lib.hid (HVR0.out.alloc (Obj.cells #[.slice Ar R.length cr, .slice As Z.length cs] 47))
      have HVS9 := Lib.hid (HVS0.out.alloc (Obj.cells #[.slice Ar R.length cr, .slice As Z.length cs] 47))
      have HBO9 := Lib.hid (HBO0.out.alloc HBO0.out.size (Obj.cells #[.slice Ar R.length cr, .slice As Z.length cs] 47))
      obtain ⟨D, hD⟩ : ∃ D, wr.heap.size = D := ⟨_, rfl⟩
      rw [hD] at HD0 ⊢
      clear HVR0 HVS0 HBO0 hD
      go_loopg [17] 2 (fun g iv ws => ∃ rd : Nat, rd + g = 2 ∧ iv = .int .i64 rd ∧ Hid (RowV 3 1 w2.heap.size ws Ar R.length) ∧ Hid (RowV 3 1 w2.heap.size ws As Z.length) ∧ Hid (Box ws D 47 #[.slice Ar R.length cr, .slice As Z.length cs]) ∧ Hid (Below w2.heap.size w2 ws))
      case atStart => exact ⟨0, by omega, rfl, HVR9, HVS9, HD0, HBO9⟩
      case round =>
        clear HVR9 HVS9 HD0 HBO9
        obtain ⟨rd, hrd, rfl, HVR1, HVS1, HD1, HBO1⟩ := hrel
        have HVR := HVR1
        have HVS := HVS1
        have HD := HD1
        have HBO := HBO1
        clear HVR1 HVS1 HD1 HBO1
        cases gk with
        | zero =>
          obtain rfl : rd = 2 := by omega
          have HRW := Lib.hid (HR2.out.up HBO.out)
          have HCW := Lib.hid (HC2.out.up HBO.out)
          have HBW := Lib.hid (HB2.out.trans (HBO.out.mono HB2.out.size))
          clear HVR HVS HD
          go_wp2_with fail
          refine (HRO.out wr HRW.out).mono ?_
          rintro e w6 ⟨v6, rfl, ho6, hb6⟩
          obtain ⟨A6, c6, rfl, hr6⟩ := ho6.reads
          have HV6 := Lib.hid hr6
          have HR6 := Lib.hid (HRW.out.up hb6)
          have HC6 := Lib.hid (HCW.out.up hb6)
          have HB6 := Lib.hid (HBW.out.trans (hb6.mono HBW.out.size))
          clear ho6 hr6 hb6 HRW HCW HBW HRO
          go_wp2_with fail
          refine (HRR.out w6 HC6.out).mono ?_
          rintro e w7 ⟨v7, rfl, ho7, hb7⟩
          obtain ⟨A7, c7, rfl, hr7⟩ := ho7.reads
          have HV7 := Lib.hid hr7
          have HV67 := Lib.hid ((HV6.out.below hb7).more hb7.size)
          have HR7 := Lib.hid (HR6.out.up hb7)
          have HC7 := Lib.hid (HC6.out.up hb7)
          have HB7 := Lib.hid (HB6.out.trans (hb7.mono HB6.out.size))
          have hLL : ((L.length : Int) != (L.length : Int)) = false := by simp
          clear ho7 hr7 hb7 HV6 HR6 HC6 HB6 HRR
          go_wp2_with fail
          refine (ints2_any A6 A7 R R c6 c7 w7.heap.size w7 HV67.out HV7.out (by omega) (by omega)).mono ?_
          rintro e w8 ⟨rfl, n8, rfl⟩
          rw [show decide (R = R) = true by simp]
          have HB8 := Lib.hid (below_drewN HB7.out n8)
          have HR8 := Lib.hid (show RTri (w7.drewN n8) (w7.drewN n8).heap.size A1 L from HR7.out.drewN n8)
          have HC8 := Lib.hid (show RTri (w7.drewN n8) (w7.drewN n8).heap.size A2 L from HC7.out.drewN n8)
          obtain ⟨w8, hw8⟩ : ∃ w8, w7.drewN n8 = w8 := ⟨_, rfl⟩
          rw [hw8] at HB8 HR8 HC8 ⊢
          clear hw8 HV67 HV7 HR7 HC7 HB7
          go_wp2_with fail
          go_loopg [21] L.length (fun g i ws => ∃ k : Nat, k + g = L.length ∧ i = .int .i64 k ∧ Hid (∃ n, w8.drewN n = ws))
          case atStart => exact ⟨0, by omega, rfl, Lib.hid ⟨0, rfl⟩⟩
          case round =>
            obtain ⟨k, hk, rfl, HW1⟩ := hrel
            obtain ⟨n0, hn0⟩ := HW1.out
            clear HW1
            subst hn0
            cases gk with
            | zero =>
              obtain rfl : k = L.length := by omega
              have hge : ¬ (L.length : Int) < (L.length : Int) := by omega
              have hgd : decide ((L.length : Int) < (L.length : Int)) = false := decide_eq_false hge
              go_wp2_with fail
              refine (awake2_any _).mono ?_
              rintro e w9 ⟨rfl, hb9⟩
              have HB9 := Lib.hid (HB8.out.trans (((below_drewN (Below.refl _ w8) n0).trans hb9).mono HB8.out.size))
              go_wp2_with fail
              go_ret
              exact ⟨rfl, HB9.out⟩
            | succ g =>
              have hkl : k < L.length := by omega
              have hkl' : (k : Int) < (L.length : Int) := by omega
              obtain ⟨b, o, x, y, z, hA, hb, hx, p0, p1, p2⟩ := HR8.out.at_ hkl
              obtain ⟨b', o', x', y', z', hA', hb', hx', q0, q1, q2⟩ := HC8.out.at_ hkl
              rw [hx] at hx'
              cases hx'
              subst hA hA'
              have heq := eqT_same x y z
              clear hx
              go_wp2_with fail
              go_quiet (fail)
              go_wp2_with fail
              go_roundg g
              case measure => omega
              case rel => exact ⟨k + 1, by omega, by go_num, Lib.hid ⟨n0 + nq, by simp⟩⟩
        | succ g =>
          have d0 := HD.out.cell 0
          have d1 := HD.out.cell 1
          simp only [List.getElem?_toArray, List.getElem?_cons_zero, List.getElem?_cons_succ] at d0 d1
          rcases (show rd = 0 ∨ rd = 1 by omega) with rfl | rfl
          · skip
            go_wp2_with fail
            go_loopg [18] R.length (fun gi iv ws => ∃ k : Nat, k + gi = R.length ∧ iv = .int .i64 k ∧ Hid (RowV 3 1 w2.heap.size ws Ar R.length) ∧ Hid (RowV 3 1 w2.heap.size ws As Z.length) ∧ Hid (Box ws D 47 #[.slice Ar R.length cr, .slice As Z.length cs]) ∧ Hid (Below w2.heap.size w2 ws))
            case atStart => exact ⟨0, by omega, rfl, HVR, HVS, HD, HBO⟩
            case round =>
              obtain ⟨k, hk, rfl, HVR1, HVS1, HD1, HBI1⟩ := hrel
              have HVR2 := HVR1
              have HVS2 := HVS1
              have HD2 := HD1
              have HBI := HBI1
              clear HVR1 HVS1 HD1 HBI1
              have d0 := HD2.out.cell 0
              have d1 := HD2.out.cell 1
              simp only [List.getElem?_toArray, List.getElem?_cons_zero, List.getElem?_cons_succ] at d0 d1
              cases gk with
              | zero =>
                obtain rfl : k = R.length := by omega
                have hge : ¬ (R.length : Int) < (R.length : Int) := by omega
                have hgd : decide ((R.length : Int) < (R.length : Int)) = false := decide_eq_false hge
                go_wp2_with fail
                go_roundg g
                case measure => omega
                case rel => exact ⟨1, by omega, rfl, HVR2, HVS2, HD2, HBI⟩
              | succ gi =>
                have hkl : k < R.length := by omega
                have hkl' : (k : Int) < (R.length : Int) := by omega
                obtain ⟨gb, hA, hlim, hsz⟩ := HVR2.out (by omega)
                obtain ⟨⟨u, hcu⟩, hfu⟩ := hsz.cell (i := k) (by omega)
                have hDb := HD2.out
                obtain ⟨cs9, hbx9, _⟩ := hsz
                have hne : gb ≠ D := hbx9.ne hDb (by decide)
                have HVR3 := Lib.hid (HVR2.out.set gb k (.int .i64 (-1)))
                have HVS3 := Lib.hid (HVS2.out.set gb k (.int .i64 (-1)))
                have HD3 := Lib.hid (hDb.far (p := ⟨gb, k, none⟩) (Ne.symm hne) (.int .i64 (-1)))
                have HBI3 := Lib.hid (HBI.out.setCell (p := ⟨gb, k, none⟩) hlim (.int .i64 (-1)))
                subst hA
                clear hbx9 hDb hne
                go_wp2_with fail
                go_roundg gi
                case measure => omega
                case rel => exact ⟨k + 1, by omega, by go_num, HVR3, HVS3, HD3, HBI3⟩
          · skip
            go_wp2_with fail
            go_loopg [18] Z.length (fun gi iv ws => ∃ k : Nat, k + gi = Z.length ∧ iv = .int .i64 k ∧ Hid (RowV 3 1 w2.heap.size ws Ar R.length) ∧ Hid (RowV 3 1 w2.heap.size ws As Z.length) ∧ Hid (Box ws D 47 #[.slice Ar R.length cr, .slice As Z.length cs]) ∧ Hid (Below w2.heap.size w2 ws))
            case atStart => exact ⟨0, by omega, rfl, HVR, HVS, HD, HBO⟩
            case round =>
              obtain ⟨k, hk, rfl, HVR1, HVS1, HD1, HBI1⟩ := hrel
              have HVR2 := HVR1
              have HVS2 := HVS1
              have HD2 := HD1
              have HBI := HBI1
              clear HVR1 HVS1 HD1 HBI1
              have d0 := HD2.out.cell 0
              have d1 := HD2.out.cell 1
              simp only [List.getElem?_toArray, List.getElem?_cons_zero, List.getElem?_cons_succ] at d0 d1
              cases gk with
              | zero =>
                obtain rfl : k = Z.length := by omega
                have hge : ¬ (Z.length : Int) < (Z.length : Int) := by omega
                have hgd : decide ((Z.length : Int) < (Z.length : Int)) = false := decide_eq_false hge
                go_wp2_with fail
                go_roundg g
                case measure => omega
                case rel => exact ⟨2, by omega, rfl, HVR2, HVS2, HD2, HBI⟩
              | succ gi =>
                have hkl : k < Z.length := by omega
                have hkl' : (k : Int) < (Z.length : Int) := by omega
                obtain ⟨gb, hA, hlim, hsz⟩ := HVS2.out (by omega)
                obtain ⟨⟨u, hcu⟩, hfu⟩ := hsz.cell (i := k) (by omega)
                have hDb := HD2.out
                obtain ⟨cs9, hbx9, _⟩ := hsz
                have hne : gb ≠ D := hbx9.ne hDb (by decide)
                have HVR3 := Lib.hid (HVR2.out.set gb k (.int .i64 (-1)))
                have HVS3 := Lib.hid (HVS2.out.set gb k (.int .i64 (-1)))
                have HD3 := Lib.hid (hDb.far (p := ⟨gb, k, none⟩) (Ne.symm hne) (.int .i64 (-1)))
                have HBI3 := Lib.hid (HBI.out.setCell (p := ⟨gb, k, none⟩) hlim (.int .i64 (-1)))
                subst hA
                clear hbx9 hDb hne
                go_wp2_with fail
                go_roundg gi
                case measure => omega
                case rel => exact ⟨k + 1, by omega, by go_num, HVR3, HVS3, HD3, HBI3⟩
set_option maxRecDepth 100000 in
theorem pown_row (os : Os) (started : os.Started) (H : Type) (enc : TypeId × Value → H) :
    ReturnsInHanded {} Try.checked os 14 .any (Rows.pegOwnSpec.pre6 enc Try.prog Try.f14 Rows.pegOwnRow.domain false) (Rows.pegOwnSpec.post enc Try.prog Try.f14 false true false false) := by
  refine returnsInHanded_of_change (C := Try.checked) ownNone started (by kernel_rfl) Try.func14
    (ChangeSpec.witness6 (enc := enc) (C := Try.checked) false ⟨#[], #[.int .i64 0, .slice none 0 0, .int .i64 0], []⟩ 8 (by kernel_rfl) (by kernel_rfl) (by kernel_rfl) (by kernel_rfl)) ?_
  intro W base args ds gs before hval hW _ _
  have hW2 := hW
  obtain ⟨p, q, hA, hV, rfl, _, _⟩ := hW2
  have hA : DataW.TrodAll enc Try.prog W 0 (fun _ => true) true Try.f14.params.toList args.toList ds p := hA
  have hAk := hA
  have hval : ∀ (j : Nat) t v, Try.f14.params[j]? = some t → args[j]? = some v → Value.okWide Try.prog W .any base t v := hval
  rw [Try.params14] at hA hval
  obtain ⟨v0, vs0, d0, ds0, p0, q0, hargs, rfl, rfl, h0, r0⟩ := trodAll_cons hA
  obtain ⟨v1, vs1, d1, ds1, p1, q1, rfl, rfl, rfl, h1, r1⟩ := trodAll_cons r0
  obtain ⟨v2, vs2, d2, ds2, p2, q2, rfl, rfl, rfl, h2, r2⟩ := trodAll_cons r1
  obtain ⟨rfl, rfl, rfl⟩ := trodAll_nil r2
  obtain rfl : args = #[v0, v1, v2] := by cases args; simp_all
  obtain ⟨rfl, rfl⟩ := trodVars_none hV
  obtain ⟨a0, rfl, rfl, rfl, w0⟩ := open_int Try.underlying3 (hval 0 3 v0 rfl rfl) h0
  obtain ⟨A1, z1, c1, rfl, _, m1, hr1⟩ := open_tris (hval 1 22 v1 rfl rfl) h1
  obtain ⟨a2, rfl, rfl, rfl, w2⟩ := open_int Try.underlying3 (hval 2 3 v2 rfl rfl) h2
  clear hA hval
  simp only [List.append_nil, List.nil_append] at hW hAk
  refine (pown_any a0 A1 z1 c1 a2 W hr1 m1).mono fun e W' ⟨he, hb⟩ => ?_
  subst he
  exact ⟨_, rfl, post_bool hW hb (by rw [Try.params14]; decide) hAk (fun _ => rfl) rfl rfl (by kernel_rfl)⟩

theorem pown_holds : Rows.PegOwnSaid :=
  OpenClaim.holds_of_wide 14 Try.f14 rfl rfl rfl rfl rfl rfl rfl ⟨rfl, rfl, rfl, rfl, rfl⟩ rfl rfl rfl rfl rfl (by kernel_rfl) Try.func14 (by kernel_rfl)
    (of_decide_eq_true (by kernel_rfl)) (by unfold Func.isWrapper; first | (rw [if_pos (by decide +kernel)]; kernel_rfl) | (rw [if_neg (by decide +kernel)]; exact ⟨rfl, rfl⟩))
    (fun os started H enc _ => pown_row os started H enc)

#print axioms pown_holds
end Go.Proofs.Ythbhengcinkepaa
