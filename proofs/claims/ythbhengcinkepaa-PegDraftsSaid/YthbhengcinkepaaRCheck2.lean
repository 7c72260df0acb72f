/- The reference's less and Check (package peg): Check answers as the program's. -/
import Derived.Test.YthbhengcinkepaaPg5
import Derived.Test.YthbhengcinkepaaAppT
import Derived.Deep.QuietTactic
import Derived.Deep.LoopGhost
import Derived.StillTailTactics
import Derived.Deep.DeepCutAuto
namespace Go.Proofs.Ythbhengcinkepaa
open Go.RowKit Lamp

set_option maxRecDepth 100000 in
set_option maxHeartbeats 4000000 in
theorem less2_any (a b c x y z : Int) (w : World) :
    Calls Try.prog 61 #[.agg #[.int .i64 a, .int .i64 b, .int .i64 c], .agg #[.int .i64 x, .int .i64 y, .int .i64 z]] w fun e w' => e = .returned (.bool (ltT (a, b, c) (x, y, z))) ∧ Below w.heap.size w w' := by
  have HLT := Lib.hid (show ltT (a, b, c) (x, y, z) = (decide (a < x) || (decide (a = x) && (decide (b < y) || (decide (b = y) && decide (c < z))))) from rfl)
  obtain ⟨v, hv⟩ : ∃ v, ltT (a, b, c) (x, y, z) = v := ⟨_, rfl⟩
  rw [hv] at HLT ⊢
  clear hv
  go_enter Try.func61, Try.ntmps61
  go_wp2_with fail
  have hb1 := (Box.new w 30 #[Value.int .i64 a, Value.int .i64 b, Value.int .i64 c]).alloc (Obj.cells #[Value.int .i64 x, Value.int .i64 y, Value.int .i64 z] 30)
  have hb2 := Box.new (w.alloc (Obj.cells #[Value.int .i64 a, Value.int .i64 b, Value.int .i64 c] 30)) 30 #[Value.int .i64 x, Value.int .i64 y, Value.int .i64 z]
  rw [show (w.alloc (Obj.cells #[Value.int .i64 a, Value.int .i64 b, Value.int .i64 c] 30)).heap.size = w.heap.size + 1 by simp] at hb2
  have hB : Below w.heap.size w ((w.alloc (Obj.cells #[Value.int .i64 a, Value.int .i64 b, Value.int .i64 c] 30)).alloc (Obj.cells #[Value.int .i64 x, Value.int .i64 y, Value.int .i64 z] 30)) := ((Below.refl _ w).alloc (Nat.le_refl _) _).alloc (by simp) _
  obtain ⟨W, hW⟩ : ∃ W, (w.alloc (Obj.cells #[Value.int .i64 a, Value.int .i64 b, Value.int .i64 c] 30)).alloc (Obj.cells #[Value.int .i64 x, Value.int .i64 y, Value.int .i64 z] 30) = W := ⟨_, rfl⟩
  rw [hW] at hb1 hb2 hB ⊢
  have x0 := hb1.cell 0
  have x1 := hb1.cell 1
  have x2 := hb1.cell 2
  have y0 := hb2.cell 0
  have y1 := hb2.cell 1
  have y2 := hb2.cell 2
  simp only [List.getElem?_toArray, List.getElem?_cons_zero, List.getElem?_cons_succ] at x0 x1 x2 y0 y1 y2
  have HB := Lib.hid hB
  clear hb1 hb2 hB hW
  go_loopg [5] 3 (fun g i wx => ∃ (k : Nat), k + g = 3 ∧ i = .int .i64 k ∧ Hid ((1 ≤ k → a = x) ∧ (2 ≤ k → b = y) ∧ (3 ≤ k → c = z)) ∧ Hid (∃ n, W.drewN n = wx))
  case atStart => exact ⟨0, by omega, rfl, Lib.hid ⟨fun h => by omega, fun h => by omega, fun h => by omega⟩, Lib.hid ⟨0, rfl⟩⟩
  case round =>
    obtain ⟨k, hk, rfl, HE1, HW1⟩ := hrel
    have HE := HE1
    obtain ⟨n0, hn0⟩ := HW1.out
    clear HE1 HW1
    subst hn0
    cases gk with
    | zero =>
      obtain rfl : k = 3 := by omega
      have HV := Lib.hid (show v = false by
        obtain ⟨h1, h2, h3⟩ := HE.out
        have e1 := h1 (by omega)
        have e2 := h2 (by omega)
        have e3 := h3 (by omega)
        rw [HLT.out, e1, e2, e3]
        simp)
      go_wp2_with fail
      go_ret
      exact ⟨ret_bool HV.out.symm, below_drewN HB.out n0⟩
    | succ g =>
      rcases (by omega : k = 0 ∨ k = 1 ∨ k = 2) with rfl | rfl | rfl
      · by_cases hxy : a = x
        · have h1 : (a == x) = true := by simpa using hxy
          have h2 : (a != x) = false := by simp [bne, h1]
          have HN := Lib.hid (show (1 ≤ 1 → a = x) ∧ (2 ≤ 1 → b = y) ∧ (3 ≤ 1 → c = z) from ⟨fun h => hxy, fun h => by omega, fun h => by omega⟩)
          clear hxy
          go_wp2_with fail
          go_quiet (fail)
          go_wp2_with fail
          go_roundg g
          case measure => omega
          case rel => exact ⟨1, by omega, by go_num, HN, Lib.hid ⟨n0 + nq, by simp⟩⟩
        · have h1 : (a == x) = false := by simpa using hxy
          have h2 : (a != x) = true := by simp [bne, h1]
          have HV := Lib.hid (show decide (a < x) = v by
            rw [HLT.out]
            simp [hxy])
          clear hxy
          go_wp2_with fail
          go_quiet (fail)
          go_wp2_with fail
          rename_i nq1
          go_quiet (fail)
          go_wp2_with fail
          go_ret
          exact ⟨ret_bool HV.out, below_drewN (below_drewN (below_drewN HB.out n0) _) _⟩
      · by_cases hxy : b = y
        · have h1 : (b == y) = true := by simpa using hxy
          have h2 : (b != y) = false := by simp [bne, h1]
          have HN := Lib.hid (show (1 ≤ 2 → a = x) ∧ (2 ≤ 2 → b = y) ∧ (3 ≤ 2 → c = z) from ⟨fun h => HE.out.1 (by omega), fun h => hxy, fun h => by omega⟩)
          clear hxy
          go_wp2_with fail
          go_quiet (fail)
          go_wp2_with fail
          go_roundg g
          case measure => omega
          case rel => exact ⟨2, by omega, by go_num, HN, Lib.hid ⟨n0 + nq, by simp⟩⟩
        · have h1 : (b == y) = false := by simpa using hxy
          have h2 : (b != y) = true := by simp [bne, h1]
          have HV := Lib.hid (show decide (b < y) = v by
            rw [HLT.out]
            rw [HE.out.1 (by omega)]
            simp [hxy])
          clear hxy
          go_wp2_with fail
          go_quiet (fail)
          go_wp2_with fail
          rename_i nq1
          go_quiet (fail)
          go_wp2_with fail
          go_ret
          exact ⟨ret_bool HV.out, below_drewN (below_drewN (below_drewN HB.out n0) _) _⟩
      · by_cases hxy : c = z
        · have h1 : (c == z) = true := by simpa using hxy
          have h2 : (c != z) = false := by simp [bne, h1]
          have HN := Lib.hid (show (1 ≤ 3 → a = x) ∧ (2 ≤ 3 → b = y) ∧ (3 ≤ 3 → c = z) from ⟨fun h => HE.out.1 (by omega), fun h => HE.out.2.1 (by omega), fun h => hxy⟩)
          clear hxy
          go_wp2_with fail
          go_quiet (fail)
          go_wp2_with fail
          go_roundg g
          case measure => omega
          case rel => exact ⟨3, by omega, by go_num, HN, Lib.hid ⟨n0 + nq, by simp⟩⟩
        · have h1 : (c == z) = false := by simpa using hxy
          have h2 : (c != z) = true := by simp [bne, h1]
          have HV := Lib.hid (show decide (c < z) = v by
            rw [HLT.out]
            rw [HE.out.1 (by omega)]
            rw [HE.out.2.1 (by omega)]
            simp )
          clear hxy
          go_wp2_with fail
          go_quiet (fail)
          go_wp2_with fail
          rename_i nq1
          go_quiet (fail)
          go_wp2_with fail
          go_ret
          exact ⟨ret_bool HV.out, below_drewN (below_drewN (below_drewN HB.out n0) _) _⟩

theorem lineB_not {n x y z : Int} (h : ¬ (0 ≤ x ∧ x < z ∧ z < n ∧ 0 ≤ y ∧ y < n ∧ y ≠ x ∧ y ≠ z)) : lineB n (x, y, z) = false := by
  rw [Bool.eq_false_iff]
  intro h2
  apply h
  simpa [lineB] using h2
theorem goodT_next {n : Int} {l : List Tri} {k : Nat} {e : Tri} (h : l[k]? = some e) : goodT n l (k + 1) = (goodT n l k && (lineB n e && (decide (k = 0) || ltT (l.getD (k - 1) (0, 0, 0)) e))) := by
  have he : l.getD k (0, 0, 0) = e := by rw [List.getD_eq_getElem?_getD, h]; rfl
  rw [goodT, he]

set_option maxRecDepth 100000 in
set_option maxHeartbeats 8000000 in
theorem RCheck2_any (A : Option Addr) (n : Int) (l : List Tri) (c : Nat) (w : World) (hr : RTri w w.heap.size A l) (hl : l.length ≤ 1000000) :
    Calls Try.prog 56 #[.int .i64 n, .slice A l.length c] w fun e w' => e = .returned (.int .i64 (checkT n l)) ∧ Below w.heap.size w w' := by
  have HR := Lib.hid hr
  clear hr
  by_cases h1 : n < 1
  · have HV := Lib.hid (show checkT n l = 1 by unfold checkT; rw [if_pos (.inl h1)])
    go_enter Try.func56, Try.ntmps56
    go_wp2_with fail
    go_ret
    exact ⟨ret_int HV.out.symm, Below.refl _ _⟩
  by_cases h16 : 16 < n
  · have HV := Lib.hid (show checkT n l = 1 by unfold checkT; rw [if_pos (.inr h16)])
    go_enter Try.func56, Try.ntmps56
    go_wp2_with fail
    go_ret
    exact ⟨ret_int HV.out.symm, Below.refl _ _⟩
  have hn0 : ¬ (n < 1 ∨ 16 < n) := by omega
  by_cases h40 : 40 < l.length
  · have HV := Lib.hid (show checkT n l = 2 by unfold checkT; rw [if_neg hn0, if_pos h40])
    have h40' : (40 : Int) < (l.length : Int) := by omega
    go_enter Try.func56, Try.ntmps56
    go_wp2_with fail
    go_ret
    exact ⟨ret_int HV.out.symm, Below.refl _ _⟩
  have h40' : ¬ (40 : Int) < (l.length : Int) := by omega
  have HV := Lib.hid (show checkT n l = if goodT n l l.length = true then 0 else 20 by unfold checkT; rw [if_neg hn0, if_neg h40])
  obtain ⟨v, hv⟩ : ∃ v, checkT n l = v := ⟨_, rfl⟩
  rw [hv] at HV ⊢
  clear hv hn0
  go_enter Try.func56, Try.ntmps56
  go_wp2_with fail
  go_loopg [5] l.length (fun g i wx => ∃ (k : Nat), k + g = l.length ∧ i = .int .i64 k ∧ Hid (goodT n l k = true) ∧ Hid (Below w.heap.size w wx))
  case atStart => exact ⟨0, by omega, rfl, Lib.hid rfl, Lib.hid (Below.refl _ _)⟩
  case round =>
    obtain ⟨k, hk, rfl, HG1, HB1⟩ := hrel
    have HG := HG1
    have HB := HB1
    clear HG1 HB1
    cases gk with
    | zero =>
      obtain rfl : k = l.length := by omega
      have HF := Lib.hid (show v = 0 by rw [HV.out, if_pos HG.out])
      go_wp2_with fail
      go_ret
      exact ⟨ret_int HF.out.symm, HB.out⟩
    | succ g =>
      have hkl : (k : Int) < (l.length : Int) := by omega
      obtain ⟨b, o, x, y, z, hA, hb, hx, hc0, hc1, hc2⟩ := (HR.out.up HB.out).at_ (k := k) (by omega)
      subst hA
      have HGN := Lib.hid (goodT_next (n := n) hx)
      have HBAD := Lib.hid (fun (h : goodT n l (k + 1) = false) => show v = 20 by rw [HV.out, if_neg (by rw [goodT_le (by omega : k < l.length) h]; decide)])
      have HLB := Lib.hid (show lineB n (x, y, z) = (decide (0 ≤ x) && (decide (x < z) && (decide (z < n) && (decide (0 ≤ y) && (decide (y < n) && (decide (y ≠ x) && decide (y ≠ z))))))) from rfl)
      clear hx
      go_wp2_with fail
      have hbx := Box.new wr 30 #[Value.int .i64 x, Value.int .i64 y, Value.int .i64 z]
      have hB1 := HB.out.alloc HB.out.size (Obj.cells #[Value.int .i64 x, Value.int .i64 y, Value.int .i64 z] 30)
      obtain ⟨W1, hW1⟩ : ∃ W1, wr.alloc (Obj.cells #[Value.int .i64 x, Value.int .i64 y, Value.int .i64 z] 30) = W1 := ⟨_, rfl⟩
      rw [hW1] at hbx hB1 ⊢
      have HBX := Lib.hid hbx
      have x0 := hbx.cell 0
      have x1 := hbx.cell 1
      have x2 := hbx.cell 2
      simp only [List.getElem?_toArray, List.getElem?_cons_zero, List.getElem?_cons_succ] at x0 x1 x2
      have HB2 := Lib.hid hB1
      have hbl := hbx.lt
      have HRB := Lib.hid (HR.out.up hB1)
      clear hW1 hbx hB1 hc0 hc1 hc2
      obtain ⟨wo, rfl⟩ : ∃ wo : World, wo = W1 := ⟨_, rfl⟩
      go_loopg [7] 3 (fun g i wx => ∃ (j : Nat), j + g = 3 ∧ i = .int .i64 j ∧ Hid ((1 ≤ j → 0 ≤ x ∧ x < n) ∧ (2 ≤ j → 0 ≤ y ∧ y < n) ∧ (3 ≤ j → 0 ≤ z ∧ z < n)) ∧ wo = wx)
      case atStart => exact ⟨0, by omega, rfl, Lib.hid ⟨fun h => by omega, fun h => by omega, fun h => by omega⟩, rfl⟩
      case round =>
        obtain ⟨j, hj, rfl, HE1, rfl⟩ := hrel
        have HE := HE1
        clear HE1
        cases gk with
        | succ g1 =>
          rcases (by omega : j = 0 ∨ j = 1 ∨ j = 2) with rfl | rfl | rfl
          · by_cases hlo : x < 0
            · have HF := Lib.hid (HBAD.out (by rw [HGN.out, lineB_not (by omega)]; simp))
              go_wp2_with fail
              go_ret
              exact ⟨ret_int HF.out.symm, HB2.out⟩
            by_cases hhi : n ≤ x
            · have HF := Lib.hid (HBAD.out (by rw [HGN.out, lineB_not (by omega)]; simp))
              go_wp2_with fail
              go_ret
              exact ⟨ret_int HF.out.symm, HB2.out⟩
            have HN := Lib.hid (show (1 ≤ 1 → 0 ≤ x ∧ x < n) ∧ (2 ≤ 1 → 0 ≤ y ∧ y < n) ∧ (3 ≤ 1 → 0 ≤ z ∧ z < n) from ⟨fun h => by have := HE.out; omega, fun h => by have := HE.out; omega, fun h => by have := HE.out; omega⟩)
            go_wp2_with fail
            go_roundg g1
            case measure => omega
            case rel => exact ⟨1, by omega, by go_num, HN, rfl⟩
          · by_cases hlo : y < 0
            · have HF := Lib.hid (HBAD.out (by rw [HGN.out, lineB_not (by omega)]; simp))
              go_wp2_with fail
              go_ret
              exact ⟨ret_int HF.out.symm, HB2.out⟩
            by_cases hhi : n ≤ y
            · have HF := Lib.hid (HBAD.out (by rw [HGN.out, lineB_not (by omega)]; simp))
              go_wp2_with fail
              go_ret
              exact ⟨ret_int HF.out.symm, HB2.out⟩
            have HN := Lib.hid (show (1 ≤ 2 → 0 ≤ x ∧ x < n) ∧ (2 ≤ 2 → 0 ≤ y ∧ y < n) ∧ (3 ≤ 2 → 0 ≤ z ∧ z < n) from ⟨fun h => by have := HE.out; omega, fun h => by have := HE.out; omega, fun h => by have := HE.out; omega⟩)
            go_wp2_with fail
            go_roundg g1
            case measure => omega
            case rel => exact ⟨2, by omega, by go_num, HN, rfl⟩
          · by_cases hlo : z < 0
            · have HF := Lib.hid (HBAD.out (by rw [HGN.out, lineB_not (by omega)]; simp))
              go_wp2_with fail
              go_ret
              exact ⟨ret_int HF.out.symm, HB2.out⟩
            by_cases hhi : n ≤ z
            · have HF := Lib.hid (HBAD.out (by rw [HGN.out, lineB_not (by omega)]; simp))
              go_wp2_with fail
              go_ret
              exact ⟨ret_int HF.out.symm, HB2.out⟩
            have HN := Lib.hid (show (1 ≤ 3 → 0 ≤ x ∧ x < n) ∧ (2 ≤ 3 → 0 ≤ y ∧ y < n) ∧ (3 ≤ 3 → 0 ≤ z ∧ z < n) from ⟨fun h => by have := HE.out; omega, fun h => by have := HE.out; omega, fun h => by have := HE.out; omega⟩)
            go_wp2_with fail
            go_roundg g1
            case measure => omega
            case rel => exact ⟨3, by omega, by go_num, HN, rfl⟩
        | zero =>
          obtain rfl : j = 3 := by omega
          have HR3 := Lib.hid (show (0 ≤ x ∧ x < n) ∧ (0 ≤ y ∧ y < n) ∧ (0 ≤ z ∧ z < n) from ⟨HE.out.1 (by omega), HE.out.2.1 (by omega), HE.out.2.2 (by omega)⟩)
          go_upto_region 14 with fail
          by_cases hxz : z ≤ x
          · have HF := Lib.hid (HBAD.out (by rw [HGN.out, lineB_not (by omega)]; simp))
            go_quiet (fail)
            go_wp2_with fail
            go_ret
            exact ⟨ret_int HF.out.symm, below_drewN HB2.out nq⟩
          by_cases hyx : y = x
          · have e1 : (y == x) = true := by simpa using hyx
            have HF := Lib.hid (HBAD.out (by rw [HGN.out, lineB_not (by omega)]; simp))
            clear hyx
            go_quiet (fail)
            go_wp2_with fail
            go_ret
            exact ⟨ret_int HF.out.symm, below_drewN HB2.out nq⟩
          have e1 : (y == x) = false := by simpa using hyx
          by_cases hyz : y = z
          · have e2 : (y == z) = true := by simpa using hyz
            have HF := Lib.hid (HBAD.out (by rw [HGN.out, lineB_not (by omega)]; simp))
            clear hyz hyx
            go_quiet (fail)
            go_wp2_with fail
            go_ret
            exact ⟨ret_int HF.out.symm, below_drewN HB2.out nq⟩
          have e2 : (y == z) = false := by simpa using hyz
          have HLT := Lib.hid (show lineB n (x, y, z) = true by
            have h := HR3.out
            rw [HLB.out]
            simp only [Bool.and_eq_true, decide_eq_true_eq]
            omega)
          clear hyz hyx
          by_cases hk0 : k = 0
          · subst hk0
            have HN := Lib.hid (show goodT n l (0 + 1) = true by rw [HGN.out, HG.out, HLT.out]; rfl)
            go_quiet (fail)
            go_wp2_with fail
            go_roundg g
            case measure => omega
            case rel => exact ⟨0 + 1, by omega, by go_num, HN, Lib.hid (below_drewN HB2.out nq)⟩
          · obtain ⟨j, hj⟩ : ∃ j, k - 1 = j := ⟨_, rfl⟩
            obtain ⟨b', o', px, py, pz, hA, hb', hpx, hp0, hp1, hp2⟩ := HRB.out.at_ (k := j) (by omega)
            cases hA
            have HPX := Lib.hid (show l.getD (k - 1) (0, 0, 0) = (px, py, pz) by rw [hj, List.getD_eq_getElem?_getD, hpx]; rfl)
            have HK0 := Lib.hid hk0
            have hj3 : (0 : Int) < (k : Int) := by omega
            have hj0 : 0 < k := by omega
            have hjn : j < l.length := by omega
            have hjw : IntKind.i64.wrap (j : Int) = (j : Int) := IntWalk.i64_in _ (by omega)
            have hj4 : (j : Int) < (l.length : Int) := by omega
            have hj5 : (0 : Int) ≤ (j : Int) := by omega
            have hj1 : (k : Int) - 1 = (j : Int) := by omega
            obtain ⟨t, ht⟩ : ∃ t, ltT (px, py, pz) (x, y, z) = t := ⟨_, rfl⟩
            have HLESS := Lib.hid (less2_any px py pz x y z)
            rw [ht] at HLESS
            have HTT := Lib.hid ht
            clear hpx ht hj hk0
            go_cut [74] (fun v74 wx => v74 = .bool (!t) ∧ Hid (Below wo.heap.size wo wx))
            case first =>
              go_still_tail 29, (by kernel_rfl)
              go_wp2_with fail
              refine (HLESS.out _).mono ?_
              rintro e w9 ⟨rfl, hb9⟩
              have HB9 := Lib.hid (show Below wo.heap.size wo w9 from (below_drewN (Below.refl _ wo) 1).trans hb9)
              clear hb9
              go_wp2_with fail
              go_meet
              exact ⟨rfl, HB9⟩
            case rest =>
              obtain ⟨rfl, HB5⟩ := hcut
              have HB6 := Lib.hid (HB2.out.trans (HB5.out.mono HB2.out.size))
              cases t with
              | false =>
                have HF := Lib.hid (HBAD.out (by rw [HGN.out, HG.out, HLT.out, HPX.out, HTT.out]; simp [HK0.out]))
                go_wp2_with fail
                go_ret
                exact ⟨ret_int HF.out.symm, HB6.out⟩
              | true =>
                have HN := Lib.hid (show goodT n l (k + 1) = true by rw [HGN.out, HG.out, HLT.out, HPX.out, HTT.out]; simp)
                go_wp2_with fail
                go_roundg g
                case measure => omega
                case rel => exact ⟨k + 1, by omega, by go_num, HN, HB6⟩
end Go.Proofs.Ythbhengcinkepaa
