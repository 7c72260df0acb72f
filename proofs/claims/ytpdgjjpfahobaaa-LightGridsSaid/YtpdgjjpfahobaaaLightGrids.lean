/- For all integers r and c: the function LightGrids answers true: Grid returns the lamps and edges of the grid, which Check takes for a graph, or ErrArg where a side or the grid is out of range. No conditions. -/
import Derived.Test.YtpdgjjpfahobaaaOpen
import Derived.Test.YtpdgjjpfahobaaaRGrid
import Derived.Test.YtpdgjjpfahobaaaAwake4
namespace Go.Proofs.Ytpdgjjpfahobaaa
open Go.ChangeShapes Go.WideShapes Go.ChangeAt Go.RowKit Lamp

/-- What is no grid. -/
def BadG (r c : Int) : Prop := r < 1 ∨ (1 ≤ r ∧ c < 1) ∨ (1 ≤ r ∧ 1 ≤ c ∧ 16 < r) ∨ (1 ≤ r ∧ 1 ≤ c ∧ r ≤ 16 ∧ 16 < c) ∨ (1 ≤ r ∧ 1 ≤ c ∧ r ≤ 16 ∧ c ≤ 16 ∧ 16 < r * c)

theorem mul_small {r c : Int} (_h1 : 1 ≤ r) (h2 : 1 ≤ c) (h3 : r ≤ 16) (h4 : c ≤ 16) : r * c ≤ 256 := by
  have := Int.mul_le_mul h3 h4 (by omega) (by omega)
  omega

set_option maxHeartbeats 1000000 in
theorem Grid_bad (r c : Int) (w : World) (h : BadG r c) :
    Calls Try.prog 42 #[.int .i64 r, .int .i64 c] w fun e w' => e = .returned (.tuple #[.int .i64 0, .slice none 0 0, .int .i64 1]) ∧ Below w.heap.size w w' := by
  rcases h with h | ⟨h1, h⟩ | ⟨h1, h2, h⟩ | ⟨h1, h2, h3, h⟩ | ⟨h1, h2, h3, h4, h⟩
  · go_enter Try.func42, Try.ntmps42
    go_wp2_with fail
    go_ret3
    exact ⟨rfl, Below.refl _ _⟩
  · have d1 : decide (r < 1) = false := decide_eq_false (by omega)
    go_enter Try.func42, Try.ntmps42
    go_wp2_with fail
    go_ret3
    exact ⟨rfl, Below.refl _ _⟩
  · have d1 : decide (r < 1) = false := decide_eq_false (by omega)
    have d2 : decide (c < 1) = false := decide_eq_false (by omega)
    go_enter Try.func42, Try.ntmps42
    go_wp2_with fail
    go_ret3
    exact ⟨rfl, Below.refl _ _⟩
  · have d1 : decide (r < 1) = false := decide_eq_false (by omega)
    have d2 : decide (c < 1) = false := decide_eq_false (by omega)
    have d3 : decide (16 < r) = false := decide_eq_false (by omega)
    go_enter Try.func42, Try.ntmps42
    go_wp2_with fail
    go_ret3
    exact ⟨rfl, Below.refl _ _⟩
  · have d1 : decide (r < 1) = false := decide_eq_false (by omega)
    have d2 : decide (c < 1) = false := decide_eq_false (by omega)
    have d3 : decide (16 < r) = false := decide_eq_false (by omega)
    have d4 : decide (16 < c) = false := decide_eq_false (by omega)
    have h5 := mul_small h1 h2 h3 h4
    obtain ⟨p, hp⟩ : ∃ p, r * c = p := ⟨_, rfl⟩
    rw [hp] at h h5
    go_enter Try.func42, Try.ntmps42
    go_wp2_with fail
    go_ret3
    exact ⟨rfl, Below.refl _ _⟩

theorem grid_good : ∀ r < 17, ∀ c < 17, 1 ≤ r → 1 ≤ c → r * c ≤ 16 → goodK ((r * c : Nat) : Int) (gridL r c) (gridL r c).length = true := by decide +kernel

theorem eqG (a b c d : Int) (w : World) : (Op.equalIn 10000 41 (.agg #[.int .i64 a, .int .i64 b]) (.agg #[.int .i64 c, .int .i64 d])).run Try.prog w = .ok (a == c && b == d) w := by
  have u3 := Try.underlying3
  have a3 := Try.isAgg3
  have z3 := Try.sizeOf3
  rw [show (10000 : Nat) = 9999 + 1 from rfl, Op.equalIn]
  simp only [Sem.run_bind, run_underlying Try.underlying41, Result.andThen_ok]
  simp only [Std.Legacy.Range.forIn_eq_forIn_range', Std.Legacy.Range.size, Nat.sub_zero, Nat.add_sub_cancel, Nat.div_one, List.range'_succ, List.range'_zero, List.forIn_cons, List.forIn_nil]
  go_simp
  by_cases h1 : a = c <;> by_cases h2 : b = d <;> simp [h1, h2]
theorem eqG_same (a b : Int) (w : World) : (Op.equalIn 10000 41 (.agg #[.int .i64 a, .int .i64 b]) (.agg #[.int .i64 a, .int .i64 b])).run Try.prog w = .ok true w := by
  rw [eqG]
  simp

set_option maxRecDepth 100000 in
set_option maxHeartbeats 4000000 in
theorem lgrids_any (a0 a1 : Int) (w : World) :
    Calls Try.prog 9 #[.int .i64 a0, .int .i64 a1] w fun e w' => e = .returned (.bool true) ∧ Below w.heap.size w w' := by
  go_enter Try.func9, Try.ntmps9
  go_wp2_with fail
  go_loopw [0, 1, 5] (fun x y i wr => ∃ (q : Nat) (r c : Int), i = .int .i64 q ∧ q ≤ 2 ∧ x = .int .i64 r ∧ y = .int .i64 c ∧ Hid (Below w.heap.size w wr)) (fun _ _ i _ => 2 - (intOf i).toNat)
  case atStart => exact ⟨0, a0, a1, rfl, by omega, rfl, rfl, Lib.hid (Below.refl _ _)⟩
  case round =>
    obtain ⟨q, r, c, rfl, hq, rfl, rfl, HB1⟩ := hrel
    have HB := HB1
    clear HB1
    by_cases hlt : q < 2
    · by_cases hbad : BadG r c
      · go_wp2_with fail
        refine (Grid_bad r c wr hbad).mono ?_
        rintro e w1 ⟨rfl, hb1⟩
        have HB2 := Lib.hid (HB.out.trans (hb1.mono HB.out.size))
        clear hb1
        rcases hbad with h | ⟨h1, h⟩ | ⟨h1, h2, h⟩ | ⟨h1, h2, h3, h⟩ | ⟨h1, h2, h3, h4, h⟩
        · go_wp2_with fail
          go_roundw
          case rel => exact ⟨q + 1, _, _, by go_num, by omega, rfl, rfl, HB2⟩
          case measure => simp [intOf]; omega
        · have d1 : decide (r < 1) = false := decide_eq_false (by omega)
          go_wp2_with fail
          go_roundw
          case rel => exact ⟨q + 1, _, _, by go_num, by omega, rfl, rfl, HB2⟩
          case measure => simp [intOf]; omega
        · have d1 : decide (r < 1) = false := decide_eq_false (by omega)
          have d2 : decide (c < 1) = false := decide_eq_false (by omega)
          go_wp2_with fail
          go_roundw
          case rel => exact ⟨q + 1, _, _, by go_num, by omega, rfl, rfl, HB2⟩
          case measure => simp [intOf]; omega
        · have d1 : decide (r < 1) = false := decide_eq_false (by omega)
          have d2 : decide (c < 1) = false := decide_eq_false (by omega)
          have d3 : decide (16 < r) = false := decide_eq_false (by omega)
          go_wp2_with fail
          go_roundw
          case rel => exact ⟨q + 1, _, _, by go_num, by omega, rfl, rfl, HB2⟩
          case measure => simp [intOf]; omega
        · have d1 : decide (r < 1) = false := decide_eq_false (by omega)
          have d2 : decide (c < 1) = false := decide_eq_false (by omega)
          have d3 : decide (16 < r) = false := decide_eq_false (by omega)
          have d4 : decide (16 < c) = false := decide_eq_false (by omega)
          have h5 := mul_small h1 h2 h3 h4
          obtain ⟨p, hp⟩ : ∃ p, r * c = p := ⟨_, rfl⟩
          rw [hp] at h h5
          go_wp2_with fail
          go_roundw
          case rel => exact ⟨q + 1, _, _, by go_num, by omega, rfl, rfl, HB2⟩
          case measure => simp [intOf]; omega
      · have hr1 : 1 ≤ r := by unfold BadG at hbad; omega
        have hc1 : 1 ≤ c := by unfold BadG at hbad; omega
        have hr16 : r ≤ 16 := by unfold BadG at hbad; omega
        have hc16 : c ≤ 16 := by unfold BadG at hbad; omega
        have hrc16 : r * c ≤ 16 := by
          rcases Int.lt_or_le 16 (r * c) with h | h
          · exact absurd (.inr (.inr (.inr (.inr ⟨hr1, hc1, hr16, hc16, h⟩)))) hbad
          · exact h
        clear hbad
        obtain ⟨rn, rfl⟩ : ∃ n : Nat, r = (n : Int) := ⟨r.toNat, by omega⟩
        obtain ⟨cn, rfl⟩ : ∃ n : Nat, c = (n : Int) := ⟨c.toNat, by omega⟩
        obtain ⟨m, hm⟩ : ∃ m, m = rn * cn := ⟨_, rfl⟩
        have hrc : (rn : Int) * (cn : Int) = (m : Int) := by rw [hm]; simp
        rw [hrc] at hrc16
        have HG1 := Lib.hid (Grid_ok rn cn m wr (by omega) (by omega) (by omega) (by omega) hm (by omega))
        have HG2 := Lib.hid (fun w1 => RGrid_ok rn cn m w1 (by omega) (by omega) (by omega) (by omega) hm (by omega))
        have HGK := Lib.hid (show checkE (m : Int) (gridL rn cn) = 0 by
          refine checkE_ok (n := m) ?_ ?_ (by omega)
          · rw [hm]; exact grid_good rn (by omega) cn (by omega) (by omega) (by omega) (by rw [← hm]; omega)
          · rw [hm]; exact Nat.mul_pos (by omega) (by omega))
        have HLN := Lib.hid (show (gridL rn cn).length ≤ 32 by
          have := gridK_len rn cn (rn * cn)
          rw [← hm] at this
          unfold gridL
          rw [← hm]
          omega)
        clear hm
        have d1 : decide ((rn : Int) < 1) = false := decide_eq_false (by omega)
        have d2 : decide ((cn : Int) < 1) = false := decide_eq_false (by omega)
        have d3 : decide ((16 : Int) < (rn : Int)) = false := decide_eq_false (by omega)
        have d4 : decide ((16 : Int) < (cn : Int)) = false := decide_eq_false (by omega)
        have d5 : decide ((16 : Int) < (m : Int)) = false := decide_eq_false (by omega)
        go_wp2_with fail
        refine HG1.out.mono ?_
        rintro e w1 ⟨v1, rfl, ho1, hb1⟩
        obtain ⟨A1, c1, rfl, hra1⟩ := ho1.reads
        have HB2 := Lib.hid (HB.out.trans (hb1.mono HB.out.size))
        have HR1 := Lib.hid hra1
        clear ho1 hb1 hra1
        go_wp2_with fail
        refine (HG2.out w1).mono ?_
        rintro e w2 ⟨v2, rfl, ho2, hb2⟩
        obtain ⟨A2, c2, rfl, hra2⟩ := ho2.reads
        have HB3 := Lib.hid (HB2.out.trans (hb2.mono HB2.out.size))
        have HR2 := Lib.hid hra2
        have HR3 := Lib.hid (HR1.out.up hb2)
        clear ho2 hb2 hra2
        go_wp2_with fail
        refine (Check_any A1 (m : Int) (gridL rn cn) c1 w2 HR3.out (by have := HLN.out; omega)).mono ?_
        rintro e w3 ⟨rfl, hb3⟩
        rw [HGK.out]
        have HB4 := Lib.hid (HB3.out.trans (hb3.mono HB3.out.size))
        have HR4 := Lib.hid (HR3.out.up hb3)
        have HR5 := Lib.hid (HR2.out.up hb3)
        clear hb3
        obtain ⟨l, hl⟩ : ∃ l, gridL rn cn = l := ⟨_, rfl⟩
        rw [hl] at HR4 HR5 HLN ⊢
        clear hl HGK HG1 HG2
        go_wp2_with fail
        go_loopw [11] (fun i wx => ∃ j : Nat, i = .int .i64 j ∧ j ≤ l.length ∧ Hid (∃ n, w3.drewN n = wx)) (fun i _ => l.length - (intOf i).toNat)
        case atStart => exact ⟨0, rfl, by omega, Lib.hid ⟨0, rfl⟩⟩
        case round =>
          obtain ⟨j, rfl, hj, HW⟩ := hrel
          obtain ⟨nn, hnn⟩ := HW.out
          clear HW
          subst hnn
          by_cases hjl : j < l.length
          · obtain ⟨b1, o1, x, y, hA1, _, hx1, hc1x, hc1y⟩ := HR4.out.at_ hjl
            obtain ⟨b2, o2, x', y', hA2, _, hx2, hc2x, hc2y⟩ := HR5.out.at_ hjl
            subst hA1 hA2
            rw [hx1] at hx2
            cases hx2
            have hjl' : (j : Int) < (l.length : Int) := by omega
            have hj0 : (0 : Int) ≤ (j : Int) := by omega
            have heq := eqG_same x y
            have hl32 := HLN.out
            clear hx1
            go_wp2_with fail
            go_quiet (fail)
            go_wp2_with fail
            go_roundw
            case rel => exact ⟨j + 1, by go_num, by omega, Lib.hid ⟨_, rfl⟩⟩
            case measure => simp [intOf]; omega
          · obtain rfl : j = l.length := by omega
            go_wp2_with fail
            go_roundw
            case rel => exact ⟨q + 1, _, _, by go_num, by omega, rfl, rfl, Lib.hid (below_drewN HB4.out nn)⟩
            case measure => simp [intOf]; omega
    · obtain rfl : q = 2 := by omega
      go_wp2_with fail
      refine (awake4_any wr).mono ?_
      rintro e w1 ⟨rfl, hb1⟩
      go_wp2_with fail
      go_ret
      exact ⟨rfl, HB.out.trans (hb1.mono HB.out.size)⟩
set_option maxRecDepth 100000 in
theorem lgrids_row (os : Os) (started : os.Started) (H : Type) (enc : TypeId × Value → H) :
    ReturnsInHanded {} Try.checked os 9 .any (Rows.lightGridsSpec.pre6 enc Try.prog Try.f9 Rows.lightGridsRow.domain false) (Rows.lightGridsSpec.post enc Try.prog Try.f9 false true false false) := by
  refine returnsInHanded_of_change (C := Try.checked) ownNone started (by kernel_rfl) Try.func9
    (ChangeSpec.witness6 (enc := enc) (C := Try.checked) false ⟨#[], #[.int .i64 0, .int .i64 0], []⟩ 8 (by kernel_rfl) (by kernel_rfl) (by kernel_rfl) (by kernel_rfl)) ?_
  intro W base args ds gs before hval hW _ _
  have hW2 := hW
  obtain ⟨p, q, hA, hV, rfl, _, _⟩ := hW2
  have hA : DataW.TrodAll enc Try.prog W 0 (fun _ => true) true Try.f9.params.toList args.toList ds p := hA
  have hval : ∀ (j : Nat) t v, Try.f9.params[j]? = some t → args[j]? = some v → Value.okWide Try.prog W .any base t v := hval
  rw [Try.params9] at hA hval
  obtain ⟨v0, vs0, d0, ds0, p0, q0, hargs, rfl, rfl, h0, r0⟩ := trodAll_cons hA
  obtain ⟨v1, vs1, d1, ds1, p1, q1, rfl, rfl, rfl, h1, r1⟩ := trodAll_cons r0
  obtain ⟨rfl, rfl, rfl⟩ := trodAll_nil r1
  obtain rfl : args = #[v0, v1] := by cases args; simp_all
  obtain ⟨rfl, rfl⟩ := trodVars_none hV
  obtain ⟨a0, rfl, rfl, rfl, w0⟩ := open_int Try.underlying3 (hval 0 3 v0 rfl rfl) h0
  obtain ⟨a1, rfl, rfl, rfl, w1⟩ := open_int Try.underlying3 (hval 1 3 v1 rfl rfl) h1
  clear hA hval
  simp only [List.append_nil] at hW
  refine (lgrids_any a0 a1 W).mono fun e W' ⟨he, hb⟩ => ?_
  subst he
  exact ⟨_, rfl, post_still hW hb (fun _ => rfl) (fun sp _ => trodAll_cons_mk (shut_int Try.underlying3 w0) (trodAll_cons_mk (shut_int Try.underlying3 w1) trodAll_mk0)) (fun _ _ _ => trodAll_cons_mk (shut_bool Try.underlying4 _) trodAll_mk0)
    (ok_one (by kernel_rfl) rfl (okWide_bool_mk Try.underlying4 _))⟩

theorem lgrids_holds : Rows.LightGridsSaid :=
  OpenClaim.holds_of_wide 9 Try.f9 rfl rfl rfl rfl rfl rfl rfl ⟨rfl, rfl, rfl, rfl, rfl⟩ rfl rfl rfl rfl rfl (by kernel_rfl) Try.func9 (by kernel_rfl)
    (of_decide_eq_true (by kernel_rfl)) (by unfold Func.isWrapper; first | (rw [if_pos (by decide +kernel)]; kernel_rfl) | (rw [if_neg (by decide +kernel)]; exact ⟨rfl, rfl⟩))
    (fun os started H enc _ => lgrids_row os started H enc)

#print axioms lgrids_holds
end Go.Proofs.Ytpdgjjpfahobaaa
