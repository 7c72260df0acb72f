/- The reference's IsPlan. -/
import Derived.Test.YthbhengcinkepaaPlan1
import Derived.Test.YthbhengcinkepaaWei
namespace Go.Proofs.Ythbhengcinkepaa
open Go.RowKit Lamp

/-- A block of n integers. -/
def arrN (n : Nat) (f : Nat → Int) : Array Value := (Array.range n).map fun i => .int .i64 (f i)
theorem arrN_get {n : Nat} (f : Nat → Int) {i : Nat} (h : i < n) : (arrN n f)[i]? = some (.int .i64 (f i)) := by
  unfold arrN
  simp [h]
theorem arrN_put {n : Nat} (f : Nat → Int) (i : Nat) (x : Int) : (arrN n f).setIfInBounds i (.int .i64 x) = arrN n (fun j => if j = i then x else f j) := by
  apply Array.ext (by simp [arrN])
  intro j h1 h2
  have h3 : j < n := by simpa [arrN] using h2
  rw [Array.getElem_setIfInBounds (by simpa [arrN] using h3)]
  simp only [arrN, Array.getElem_map, Array.getElem_range]
  by_cases e : i = j
  · subst e; simp
  · simp [e, Ne.symm e]
theorem arrN_alike {n : Nat} {f g : Nat → Int} (h : ∀ i, i < n → f i = g i) : arrN n f = arrN n g := by
  apply Array.ext (by simp [arrN])
  intro j h1 h2
  simp only [arrN, Array.size_map, Array.size_range] at h1
  simp only [arrN, Array.getElem_map, Array.getElem_range, h j h1]
theorem arrN_made (n : Nat) : madeCells #[Value.int .i64 0] n = arrN n (fun _ => 0) := by
  apply Array.ext (by simp [arrN, madeCells])
  intro j h1 h2
  simp [madeCells, arrN, Nat.mod_one]
/-- Three cells are changed by the jumps of one line. -/
theorem add3 {n : Nat} (f : Nat → Int) {a b c : Nat} (hab : a ≠ b) (hac : a ≠ c) (hbc : b ≠ c) (x y : Int) : arrN n (fun j => if j = c then f c + y - x else (if j = b then f b + x + y else (if j = a then f a + x - y else f j))) = arrN n (fun i => f i + lostE ((a : Int), (b : Int), (c : Int)) x y i) := arrN_alike fun i _ => by
  unfold lostE
  simp only [Int.ofNat_inj]
  by_cases h1 : i = a
  · subst h1; simp [hab, hac, Ne.symm hab, Ne.symm hac]; omega
  · by_cases h2 : i = b
    · subst h2; simp [hbc, Ne.symm hbc, hab]; omega
    · by_cases h3 : i = c
      · subst h3; simp [hac, hbc]; omega
      · simp [h1, h2, h3, Ne.symm h1, Ne.symm h2, Ne.symm h3]

set_option maxRecDepth 100000 in
set_option maxHeartbeats 4000000 in
theorem RIsPlan_any (A A2 : Option Addr) (n p q c c2 k2 : Nat) (m : Int) (l : List Tri) (js : List (Int × Int)) (w : World) (hr : RTri w w.heap.size A l) (hj : REdges w w.heap.size A2 js) (hl : l.length ≤ 40) (hn1 : 1 ≤ n) (hn : n ≤ 16) (hok : LinesOk n l) (hp : p < 2 ^ n) (hq : q < 2 ^ n) (hk2 : k2 = js.length) (_hjl : js.length ≤ 1000000) :
    Calls Try.prog 42 #[.int .i64 n, .slice A l.length c, .int .i64 p, .int .i64 q, .int .i64 m, .slice A2 k2 c2] w fun e w' => e = .returned (.bool (planB n l p q m js)) ∧ Below w.heap.size w w' := by
  have h16 := Nat.pow_le_pow_right (n := 2) (by decide) hn
  have HOK := Lib.hid hok
  have HR := Lib.hid hr
  have HJ := Lib.hid hj
  have HP := Lib.hid (show p < 65536 from Nat.lt_of_lt_of_le hp h16)
  have HQ := Lib.hid (show q < 65536 from Nat.lt_of_lt_of_le hq h16)
  have HPB := Lib.hid (show planB n l p q m js = ((decide (1 ≤ m) && (decide (m ≤ 1000000) && decide (js.length = l.length))) && (js.all okT && (List.range n).all (holeB l js p q m))) from rfl)
  obtain ⟨R, hR⟩ : ∃ R, planB n l p q m js = R := ⟨_, rfl⟩
  rw [hR] at HPB ⊢
  subst hk2
  clear hr hj hok hp hq h16 hR
  go_enter Try.func42, Try.ntmps42
  by_cases hm1 : m < 1
  · go_wp2_with fail
    go_ret
    exact ⟨ret_bool (by rw [HPB.out, decide_eq_false (show ¬ 1 ≤ m by omega)]; simp), Below.refl _ _⟩
  by_cases hm2 : m > 1000000
  · go_wp2_with fail
    go_ret
    exact ⟨ret_bool (by rw [HPB.out, decide_eq_false (show ¬ m ≤ 1000000 by omega)]; simp), Below.refl _ _⟩
  have hd1 : decide (m < 1) = false := decide_eq_false hm1
  have hd2 : decide (1000000 < m) = false := decide_eq_false hm2
  by_cases hlen : js.length = l.length
  case neg =>
    have hle : ¬ (js.length : Int) = (l.length : Int) := by omega
    go_wp2_with fail
    go_ret
    exact ⟨ret_bool (by rw [HPB.out, decide_eq_false hlen]; simp), Below.refl _ _⟩
  have HM := Lib.hid (show 1 ≤ m ∧ m ≤ 1000000 by omega)
  rw [decide_eq_true HM.out.1, decide_eq_true HM.out.2, decide_eq_true hlen] at HPB
  have HLN := Lib.hid hlen
  have hle : (js.length : Int) = (l.length : Int) := by omega
  have hmi := make_ints1 n (by omega)
  go_wp2_with fail
  obtain ⟨g0, hg0⟩ : ∃ g0, w.heap.size = g0 := ⟨_, rfl⟩
  have HBX0 := Lib.hid (Box.new w 3 (madeCells #[Value.int .i64 0] n))
  have HB2 := Lib.hid ((Below.refl w.heap.size w).alloc (Nat.le_refl _) (Obj.cells (madeCells #[Value.int .i64 0] n) 3))
  rw [hg0] at HBX0 HB2 HR HJ ⊢
  have HG0 := Lib.hid hg0
  clear hg0 hlen hmi
  go_loopg [14] l.length (fun g s ws => ∃ k : Nat, k + g = l.length ∧ s = .int .i64 k ∧ Hid ((js.take k).all okT = true) ∧ Hid (Box ws g0 3 (arrN n fun i => lostK l js i k)) ∧ Hid (Below g0 w ws))
  case atStart =>
    refine ⟨0, by omega, rfl, Lib.hid rfl, Lib.hid ?_, HB2⟩
    have h := HBX0.out
    rw [arrN_made] at h ⊢
    rw [show (fun i => lostK l js i 0) = fun _ => 0 from funext fun i => by rw [lostK]]
    exact h
  case round =>
    obtain ⟨k, hk, rfl, HO1, HX1, HB1⟩ := hrel
    have HO := HO1
    have HX := HX1
    have HB := HB1
    clear HO1 HX1 HB1 HBX0 HB2
    cases gk with
    | zero =>
      obtain rfl : k = l.length := by omega
      have hge : ¬ (l.length : Int) < (l.length : Int) := by omega
      have hgd : decide ((l.length : Int) < (l.length : Int)) = false := decide_eq_false hge
      go_wp2_with fail
      go_loopg [20] n (fun g s ws => ∃ h : Nat, h + g = n ∧ s = .int .i64 h ∧ Hid ((List.range h).all (holeB l js p q m) = true) ∧ Hid (∃ n0, wr.drewN n0 = ws))
      case atStart => exact ⟨0, by omega, rfl, Lib.hid rfl, Lib.hid ⟨0, rfl⟩⟩
      case round =>
        obtain ⟨h, hh, rfl, HA1, HW1⟩ := hrel
        have HA := HA1
        obtain ⟨n0, hn0⟩ := HW1.out
        clear HA1 HW1
        subst hn0
        cases gk with
        | zero =>
          obtain rfl : h = n := by omega
          have hge : ¬ (h : Int) < (h : Int) := by omega
          have hgd : decide ((h : Int) < (h : Int)) = false := decide_eq_false hge
          go_wp2_with fail
          go_ret
          refine ⟨ret_bool ?_, by rw [HG0.out]; exact belowT_drewN HB.out _⟩
          have ho := HO.out
          rw [← HLN.out, List.take_length] at ho
          rw [HPB.out, ho, HA.out]
          rfl
        | succ g =>
          have hlt : h < n := by omega
          have hlt' : (h : Int) < (n : Int) := by omega
          have hld : decide ((h : Int) < (n : Int)) = true := decide_eq_true hlt'
          have hcl : wr.cell? ⟨g0, h, none⟩ = some (.int .i64 (lostK l js h l.length)) := by
            have h0 := HX.out.cell h
            rw [arrN_get _ hlt] at h0; exact h0
          have hbd := lostK_in (l := l) (js := js) h l.length HO.out
          have HNA := Lib.hid (show (List.range (h + 1)).all (holeB l js p q m) = ((List.range h).all (holeB l js p q m) && decide (lostK l js h l.length = m * dirN p h - m * dirN q h)) by
            rw [List.range_succ, List.all_append]; simp [holeB])
          have HNF := Lib.hid (fun hf : lostK l js h l.length ≠ m * dirN p h - m * dirN q h => show (List.range n).all (holeB l js p q m) = false from List.all_eq_false.2 ⟨h, List.mem_range.2 hlt, by simp [holeB, hf]⟩)
          obtain ⟨z, hz⟩ : ∃ z, lostK l js h l.length = z := ⟨_, rfl⟩
          have hpt : p.testBit h = decide (p / 2 ^ h % 2 = 1) := Nat.testBit_eq_decide_div_mod_eq
          have hqt : q.testBit h = decide (q / 2 ^ h % 2 = 1) := Nat.testBit_eq_decide_div_mod_eq
          obtain ⟨d, hd⟩ : ∃ d, p / 2 ^ h = d := ⟨_, rfl⟩
          obtain ⟨f, hf⟩ : ∃ d, q / 2 ^ h = d := ⟨_, rfl⟩
          have hdi : (p : Int) / 2 ^ h = (d : Int) := by rw [← hd]; simp
          have hfi : (q : Int) / 2 ^ h = (f : Int) := by rw [← hf]; simp
          have hpd : dirN p h = ((d % 2 : Nat) : Int) := by
            rw [hd] at hpt
            unfold dirN
            rw [hpt]
            by_cases h1 : d % 2 = 1
            · rw [if_pos (decide_eq_true h1), h1]; rfl
            · rw [if_neg (by simpa using h1), show d % 2 = 0 by omega]; rfl
          have hqd : dirN q h = ((f % 2 : Nat) : Int) := by
            rw [hf] at hqt
            unfold dirN
            rw [hqt]
            by_cases h1 : f % 2 = 1
            · rw [if_pos (decide_eq_true h1), h1]; rfl
            · rw [if_neg (by simpa using h1), show f % 2 = 0 by omega]; rfl
          obtain ⟨u, hu⟩ : ∃ u, dirN p h = u := ⟨_, rfl⟩
          obtain ⟨v, hv⟩ : ∃ u, dirN q h = u := ⟨_, rfl⟩
          rw [hz, hu, hv] at HNA HNF
          rw [hz] at hcl hbd
          rw [hu] at hpd
          rw [hv] at hqd
          have e1 : (d : Int).tmod 2 = u := by rw [Int.tmod_eq_emod_of_nonneg (by omega)]; omega
          have e2 : (d : Int) % 2 = u := by omega
          have e3 : (f : Int).tmod 2 = v := by rw [Int.tmod_eq_emod_of_nonneg (by omega)]; omega
          have e4 : (f : Int) % 2 = v := by omega
          have hmu : -1000000 ≤ m * u ∧ m * u ≤ 1000000 := by
            have := HM.out
            rcases (by omega : u = 0 ∨ u = 1) with rfl | rfl <;> omega
          have hmv : -1000000 ≤ m * v ∧ m * v ≤ 1000000 := by
            have := HM.out
            rcases (by omega : v = 0 ∨ v = 1) with rfl | rfl <;> omega
          have hw1 : wrap64 (m * u) = m * u := w64 (by omega)
          have hw2 : IntKind.i64.wrap (m * u) = m * u := IntWalk.i64_in _ (by omega)
          have hw3 : wrap64 (m * v) = m * v := w64 (by omega)
          have hw4 : IntKind.i64.wrap (m * v) = m * v := IntWalk.i64_in _ (by omega)
          have hw5 : wrap64 (m * u - m * v) = m * u - m * v := w64 (by omega)
          have hw6 : IntKind.i64.wrap (m * u - m * v) = m * u - m * v := IntWalk.i64_in _ (by omega)
          have hb0 : (0 : Int) ≤ (h : Int) := by omega
          clear hd hf hpd hqd hu hv hz hpt hqt hbd hmu hmv
          by_cases hz : z = m * u - m * v
          · have HE := Lib.hid (show (List.range (h + 1)).all (holeB l js p q m) = true by rw [HNA.out, HA.out, decide_eq_true hz]; rfl)
            go_wp2_with fail
            go_quiet (fail)
            go_wp2_with fail
            go_roundg g
            case measure => omega
            case rel => exact ⟨h + 1, by omega, by go_num, HE, Lib.hid ⟨n0 + nq, by simp⟩⟩
          · have HE := Lib.hid (HNF.out hz)
            go_wp2_with fail
            go_quiet (fail)
            go_wp2_with fail
            go_ret
            exact ⟨ret_bool (by rw [HPB.out, HE.out]; simp), by rw [HG0.out]; exact belowT_drewN (belowT_drewN HB.out _) _⟩
    | succ g =>
      have hkl : k < l.length := by omega
      have hkl' : (k : Int) < (l.length : Int) := by omega
      have hkd : decide ((k : Int) < (l.length : Int)) = true := decide_eq_true hkl'
      have hkj : k < js.length := by rw [HLN.out]; exact hkl
      obtain ⟨b, o, e1, e2, e3, hA, hbb, hx, p0, p1, p2⟩ := (HR.out.below HB.out).at_ hkl
      obtain ⟨b2, o2, x, y, hA2, hbb2, hxy, r0, r1⟩ := (REdges.below HJ.out HB.out).at_ hkj
      subst hA hA2
      have htri := HOK.out _ (List.mem_of_getElem? hx)
      obtain ⟨a1, a2, a3, he, _, _, _⟩ := htri.nat hn
      cases he
      obtain ⟨h11, h12, h13, h14, h15, h16, h17, h18, h19⟩ := htri
      have hab : a1 ≠ a2 := by simp only at h17; omega
      have hac : a1 ≠ a3 := by simp only at h18; omega
      have hbc : a2 ≠ a3 := by simp only at h19; omega
      have g1 : a1 < n := by simp only at h12; omega
      have g2 : a2 < n := by simp only at h14; omega
      have g3 : a3 < n := by simp only at h16; omega
      have HJT := Lib.hid (show (js.take (k + 1)).all okT = ((js.take k).all okT && okT (x, y)) from okT_next hxy)
      have HJN := Lib.hid (fun hb => okT_not (js := js) hxy (x := x) (y := y) hb)
      have HIN := Lib.hid (fun t => lostK_in (l := l) (js := js) t k HO.out)
      have HNX := Lib.hid (fun t => show lostK l js t (k + 1) = lostK l js t k + lostE ((a1 : Int), (a2 : Int), (a3 : Int)) x y t by
        simp only [lostK, List.getD_eq_getElem?_getD, hx, hxy, Option.getD_some])
      have HD3 := Lib.hid (And.intro hab (And.intro hac hbc))
      clear hx hxy h11 h12 h13 h14 h15 h16 h17 h18 h19 hab hac hbc
      go_wp2_with fail
      go_quiet (fail)
      obtain ⟨Wa, hWa⟩ : ∃ Wa, wr.drewN nq = Wa := ⟨_, rfl⟩
      have HXWa := Lib.hid (show Box Wa g0 3 (arrN n fun i => lostK l js i k) by rw [← hWa]; exact HX.out.drewN nq)
      have HBWa := Lib.hid (show Below g0 w Wa by rw [← hWa]; exact belowT_drewN HB.out nq)
      have s0 : Wa.cell? ⟨b2, o2 + k * 2, none⟩ = some (.int .i64 x) := by rw [← hWa]; exact r0
      have s1 : Wa.cell? ⟨b2, o2 + k * 2 + 1, none⟩ = some (.int .i64 y) := by rw [← hWa]; exact r1
      rw [hWa]
      clear hWa
      clear p0 p1 p2 r0 r1 HX HB
      go_wp2_with fail
      go_quiet (fail)
      obtain ⟨Wb, hWb⟩ : ∃ Wb, Wa.drewN nq = Wb := ⟨_, rfl⟩
      have HXWb := Lib.hid (show Box Wb g0 3 (arrN n fun i => lostK l js i k) by rw [← hWb]; exact HXWa.out.drewN nq)
      have HBWb := Lib.hid (show Below g0 w Wb by rw [← hWb]; exact belowT_drewN HBWa.out nq)
      rw [hWb]
      clear hWb
      clear s0 s1 HXWa HBWa
      by_cases hx1 : x < 0
      · go_wp2_with fail
        go_ret
        exact ⟨ret_bool (by rw [HPB.out, HJN.out (by unfold okT; simp; omega)]; simp), by rw [HG0.out]; exact HBWb.out⟩
      have hxd1 : decide (x < 0) = false := decide_eq_false hx1
      by_cases hx2 : 1000000 < x
      · go_wp2_with fail
        go_ret
        exact ⟨ret_bool (by rw [HPB.out, HJN.out (by unfold okT; simp; omega)]; simp), by rw [HG0.out]; exact HBWb.out⟩
      have hxd2 : decide (1000000 < x) = false := decide_eq_false hx2
      by_cases hy1 : y < 0
      · go_wp2_with fail
        go_ret
        exact ⟨ret_bool (by rw [HPB.out, HJN.out (by unfold okT; simp; omega)]; simp), by rw [HG0.out]; exact HBWb.out⟩
      have hyd1 : decide (y < 0) = false := decide_eq_false hy1
      by_cases hy2 : 1000000 < y
      · go_wp2_with fail
        go_ret
        exact ⟨ret_bool (by rw [HPB.out, HJN.out (by unfold okT; simp; omega)]; simp), by rw [HG0.out]; exact HBWb.out⟩
      have hyd2 : decide (1000000 < y) = false := decide_eq_false hy2
      have HOX := Lib.hid (show (0 ≤ x ∧ x ≤ 1000000) ∧ 0 ≤ y ∧ y ≤ 1000000 by omega)
      have HOY := Lib.hid (show okT (x, y) = true by unfold okT; simp; omega)
      go_upto_region 11 with fail
      clear hxd1 hxd2 hyd1 hyd2 hx1 hx2 hy1 hy2
      have gi1 : (a1 : Int) < (n : Int) := by omega
      have gi2 : (a2 : Int) < (n : Int) := by omega
      have gi3 : (a3 : Int) < (n : Int) := by omega
      have hcl : Wb.cell? ⟨g0, a1, none⟩ = some (.int .i64 (lostK l js a1 k)) := by
        have h0 := HXWb.out.cell a1
        rw [arrN_get _ g1] at h0; exact h0
      have hfr := HXWb.out.free a1
      have hbd := HIN.out a1
      obtain ⟨z1, hz⟩ : ∃ z, lostK l js a1 k = z := ⟨_, rfl⟩
      rw [hz] at hcl hbd
      have HZ0 := Lib.hid hz
      have hw1 : wrap64 (z1 + x) = z1 + x := w64 (by have := HOX.out; omega)
      have hw2 : IntKind.i64.wrap (z1 + x) = z1 + x := IntWalk.i64_in _ (by have := HOX.out; omega)
      have hw3 : wrap64 (z1 + x - y) = z1 + x - y := w64 (by have := HOX.out; omega)
      have hw4 : IntKind.i64.wrap (z1 + x - y) = z1 + x - y := IntWalk.i64_in _ (by have := HOX.out; omega)
      clear hz hbd
      go_upto_region 12 with fail
      have HX1 := Lib.hid (HXWb.out.put a1 (.int .i64 (z1 + x - y)))
      have HB1 := Lib.hid (HBWb.out.setCell (p := ⟨g0, a1, none⟩) (Nat.le_refl _) (.int .i64 (z1 + x - y)))
      rw [arrN_put] at HX1
      obtain ⟨W1, hW1⟩ : ∃ W1, Wb.setCell ⟨g0, a1, none⟩ (.int .i64 (z1 + x - y)) = W1 := ⟨_, rfl⟩
      rw [hW1] at HX1 HB1 ⊢
      clear hW1 hcl hfr hw1 hw2 hw3 hw4
      have hcl : W1.cell? ⟨g0, a2, none⟩ = some (.int .i64 (lostK l js a2 k)) := by
        have h0 := HX1.out.cell a2
        rw [arrN_get _ g2, if_neg (show a2 ≠ a1 from Ne.symm HD3.out.1)] at h0; exact h0
      have hfr := HX1.out.free a2
      have hbd := HIN.out a2
      obtain ⟨z2, hz⟩ : ∃ z, lostK l js a2 k = z := ⟨_, rfl⟩
      rw [hz] at hcl hbd
      have HZ1 := Lib.hid hz
      have hw1 : wrap64 (z2 + x) = z2 + x := w64 (by have := HOX.out; omega)
      have hw2 : IntKind.i64.wrap (z2 + x) = z2 + x := IntWalk.i64_in _ (by have := HOX.out; omega)
      have hw3 : wrap64 (z2 + x + y) = z2 + x + y := w64 (by have := HOX.out; omega)
      have hw4 : IntKind.i64.wrap (z2 + x + y) = z2 + x + y := IntWalk.i64_in _ (by have := HOX.out; omega)
      clear hz hbd
      go_upto_region 13 with fail
      have HX2 := Lib.hid (HX1.out.put a2 (.int .i64 (z2 + x + y)))
      have HB2 := Lib.hid (HB1.out.setCell (p := ⟨g0, a2, none⟩) (Nat.le_refl _) (.int .i64 (z2 + x + y)))
      rw [arrN_put] at HX2
      obtain ⟨W2, hW2⟩ : ∃ W2, W1.setCell ⟨g0, a2, none⟩ (.int .i64 (z2 + x + y)) = W2 := ⟨_, rfl⟩
      rw [hW2] at HX2 HB2 ⊢
      clear hW2 hcl hfr hw1 hw2 hw3 hw4
      have hcl : W2.cell? ⟨g0, a3, none⟩ = some (.int .i64 (lostK l js a3 k)) := by
        have h0 := HX2.out.cell a3
        rw [arrN_get _ g3, if_neg (show a3 ≠ a2 from Ne.symm HD3.out.2.2), if_neg (show a3 ≠ a1 from Ne.symm HD3.out.2.1)] at h0; exact h0
      have hfr := HX2.out.free a3
      have hbd := HIN.out a3
      obtain ⟨z3, hz⟩ : ∃ z, lostK l js a3 k = z := ⟨_, rfl⟩
      rw [hz] at hcl hbd
      have HZ2 := Lib.hid hz
      have hw1 : wrap64 (z3 + y) = z3 + y := w64 (by have := HOX.out; omega)
      have hw2 : IntKind.i64.wrap (z3 + y) = z3 + y := IntWalk.i64_in _ (by have := HOX.out; omega)
      have hw3 : wrap64 (z3 + y - x) = z3 + y - x := w64 (by have := HOX.out; omega)
      have hw4 : IntKind.i64.wrap (z3 + y - x) = z3 + y - x := IntWalk.i64_in _ (by have := HOX.out; omega)
      clear hz hbd
      go_wp2_with fail
      have HX3 := Lib.hid (HX2.out.put a3 (.int .i64 (z3 + y - x)))
      have HB3 := Lib.hid (HB2.out.setCell (p := ⟨g0, a3, none⟩) (Nat.le_refl _) (.int .i64 (z3 + y - x)))
      rw [arrN_put] at HX3
      obtain ⟨W3, hW3⟩ : ∃ W3, W2.setCell ⟨g0, a3, none⟩ (.int .i64 (z3 + y - x)) = W3 := ⟨_, rfl⟩
      rw [hW3] at HX3 HB3 ⊢
      clear hW3 hcl hfr hw1 hw2 hw3 hw4
      go_roundg g
      case measure => omega
      case rel =>
        refine ⟨k + 1, by omega, by go_num, Lib.hid (by rw [HJT.out, HO.out, HOY.out]; rfl), Lib.hid ?_, HB3⟩
        have h0 := HX3.out
        rw [← HZ0.out, ← HZ1.out, ← HZ2.out] at h0
        have h1 := add3 (n := n) (fun t => lostK l js t k) HD3.out.1 HD3.out.2.1 HD3.out.2.2 x y
        have h2 : (fun t => lostK l js t k + lostE ((a1 : Int), (a2 : Int), (a3 : Int)) x y t) = fun t => lostK l js t (k + 1) := funext fun t => (HNX.out t).symm
        rw [h2] at h1
        rw [← h1]
        exact h0
end Go.Proofs.Ythbhengcinkepaa
