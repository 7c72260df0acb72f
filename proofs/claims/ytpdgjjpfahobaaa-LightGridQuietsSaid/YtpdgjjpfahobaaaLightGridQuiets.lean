/- For all integers r and c, with own or without: the function LightGridQuiets answers true: GridQuiet counts the quiet sets of a grid's basis as elimination does, or answers ErrArg for a side out of range. No conditions. -/
import Derived.Test.YtpdgjjpfahobaaaOpen
import Derived.Test.YtpdgjjpfahobaaaRGridQ
import Derived.Test.YtpdgjjpfahobaaaQGS
import Derived.Test.YtpdgjjpfahobaaaAwake4
import Derived.Test.YtpdgjjpfahobaaaTame
namespace Go.Proofs.Ytpdgjjpfahobaaa
open Go.ChangeShapes Go.WideShapes Go.ChangeAt Go.RowKit Lamp

/-- What are no sides. -/
def BadQ (r c : Int) : Prop := r < 1 ∨ (1 ≤ r ∧ c < 1) ∨ (1 ≤ r ∧ 1 ≤ c ∧ 60 < r) ∨ (1 ≤ r ∧ 1 ≤ c ∧ r ≤ 60 ∧ 60 < c)

set_option maxHeartbeats 1000000 in
theorem GridQuiet_bad (r c : Int) (own : Bool) (w : World) (h : BadQ r c) :
    Calls Try.prog 44 #[.int .i64 r, .int .i64 c, .bool own] w fun e w' => e = .returned (.tuple #[.int .i64 0, .int .i64 1]) ∧ Below w.heap.size w w' := by
  by_cases hs : 1 ≤ r ∧ r ≤ 60
  · have HSR := Lib.hid (show (decide (1 ≤ r) && decide (r ≤ 60)) = true by simp; omega)
    have HSC := Lib.hid (show (decide (1 ≤ c) && decide (c ≤ 60)) = false by unfold BadQ at h; simp; omega)
    clear h hs
    go_enter Try.func44, Try.ntmps44
    go_wp2_with fail
    refine (isSide_any r w).mono ?_
    rintro e w' ⟨rfl, rfl⟩
    rw [HSR.out]
    go_wp2_with fail
    refine (isSide_any c _).mono ?_
    rintro e w' ⟨rfl, rfl⟩
    rw [HSC.out]
    go_wp2_with fail
    go_ret2
    exact ⟨rfl, Below.refl _ _⟩
  · have HSR := Lib.hid (show (decide (1 ≤ r) && decide (r ≤ 60)) = false by simp; omega)
    clear h hs
    go_enter Try.func44, Try.ntmps44
    go_wp2_with fail
    refine (isSide_any r w).mono ?_
    rintro e w' ⟨rfl, rfl⟩
    rw [HSR.out]
    go_wp2_with fail
    go_ret2
    exact ⟨rfl, Below.refl _ _⟩

/-- The sides that the rounds leave: in the first any integers, then from 1 to 60, then from 1 to 4. -/
def SideQ (k : Nat) (x : Int) : Prop := (1 ≤ k → 1 ≤ x ∧ x ≤ 60) ∧ (2 ≤ k → x ≤ 4)
theorem side_one (x : Int) : SideQ 1 (wrap64 (1 + wrap64 ((IntKind.u64.wrap x).tmod 60))) := by
  have ht := remN_tmod x (m := 60) (by decide)
  have hlt := remN_lt x (m := 60) (by decide)
  have ht : (IntKind.u64.wrap x).tmod 60 = ((remN x 60 : Nat) : Int) := ht
  rw [ht]
  generalize remN x 60 = z at hlt
  unfold wrap64
  exact ⟨fun _ => by omega, fun h => by omega⟩
theorem side_mod (x : Int) : SideQ 1 (1 + x % 60) := ⟨fun _ => by omega, fun h => by omega⟩
theorem side_four (x : Int) (k : Nat) : SideQ k (1 + x % 4) := ⟨fun _ => by omega, fun _ => by omega⟩

set_option maxRecDepth 100000 in
set_option maxHeartbeats 8000000 in
theorem lgq_any (a0 a1 : Int) (own : Bool) (w : World) :
    Calls Try.prog 10 #[.int .i64 a0, .int .i64 a1, .bool own] w fun e w' => e = .returned (.bool true) ∧ Below w.heap.size w w' := by
  go_enter Try.func10, Try.ntmps10
  go_wp2_with fail
  go_loopw [0, 1, 7] (fun x y i wr => ∃ (k : Nat) (r c : Int), i = .int .i64 k ∧ k ≤ 3 ∧ x = .int .i64 r ∧ y = .int .i64 c ∧ SideQ k r ∧ SideQ k c ∧ Hid (Below w.heap.size w wr)) (fun _ _ i _ => 3 - (intOf i).toNat)
  case atStart => exact ⟨0, a0, a1, rfl, by omega, rfl, rfl, ⟨fun h => by omega, fun h => by omega⟩, ⟨fun h => by omega, fun h => by omega⟩, Lib.hid (Below.refl _ _)⟩
  case round =>
    obtain ⟨k, r, c, rfl, hk, rfl, rfl, hsr, hsc, HB1⟩ := hrel
    have HB := HB1
    clear HB1
    by_cases hlt : k < 3
    · by_cases hbad : BadQ r c
      · have hk0 : k = 0 := by
          apply Decidable.byContradiction
          intro h0
          have h1 := hsr.1 (by omega)
          have h2 := hsc.1 (by omega)
          unfold BadQ at hbad
          omega
        subst hk0
        clear hsr hsc
        have HGB := Lib.hid (GridQuiet_bad r c own wr hbad)
        rcases hbad with h | ⟨h1, h⟩ | ⟨h1, h2, h⟩ | ⟨h1, h2, h3, h⟩
        · go_wp2_with fail
          refine HGB.out.mono ?_
          rintro e w1 ⟨rfl, hb1⟩
          have HB2 := Lib.hid (HB.out.trans (hb1.mono HB.out.size))
          clear hb1
          go_wp2_with fail
          exact ⟨⟨1, _, _, rfl, by omega, rfl, rfl, by first | exact side_one _ | exact side_mod _, by first | exact side_one _ | exact side_mod _, HB2⟩, by simp [intOf]⟩
        · have d1 : decide (r < 1) = false := decide_eq_false (by omega)
          go_wp2_with fail
          refine HGB.out.mono ?_
          rintro e w1 ⟨rfl, hb1⟩
          have HB2 := Lib.hid (HB.out.trans (hb1.mono HB.out.size))
          clear hb1
          go_wp2_with fail
          exact ⟨⟨1, _, _, rfl, by omega, rfl, rfl, by first | exact side_one _ | exact side_mod _, by first | exact side_one _ | exact side_mod _, HB2⟩, by simp [intOf]⟩
        · have d1 : decide (r < 1) = false := decide_eq_false (by omega)
          have d2 : decide (c < 1) = false := decide_eq_false (by omega)
          go_wp2_with fail
          refine HGB.out.mono ?_
          rintro e w1 ⟨rfl, hb1⟩
          have HB2 := Lib.hid (HB.out.trans (hb1.mono HB.out.size))
          clear hb1
          go_wp2_with fail
          exact ⟨⟨1, _, _, rfl, by omega, rfl, rfl, by first | exact side_one _ | exact side_mod _, by first | exact side_one _ | exact side_mod _, HB2⟩, by simp [intOf]⟩
        · have d1 : decide (r < 1) = false := decide_eq_false (by omega)
          have d2 : decide (c < 1) = false := decide_eq_false (by omega)
          have d3 : decide (60 < r) = false := decide_eq_false (by omega)
          go_wp2_with fail
          refine HGB.out.mono ?_
          rintro e w1 ⟨rfl, hb1⟩
          have HB2 := Lib.hid (HB.out.trans (hb1.mono HB.out.size))
          clear hb1
          go_wp2_with fail
          exact ⟨⟨1, _, _, rfl, by omega, rfl, rfl, by first | exact side_one _ | exact side_mod _, by first | exact side_one _ | exact side_mod _, HB2⟩, by simp [intOf]⟩
      · have hq : 1 ≤ r ∧ r ≤ 60 ∧ 1 ≤ c ∧ c ≤ 60 := by unfold BadQ at hbad; omega
        obtain ⟨hr1, hr60, hc1, hc60⟩ := hq
        clear hbad
        have d1 : decide (r < 1) = false := decide_eq_false (by omega)
        have d2 : decide (c < 1) = false := decide_eq_false (by omega)
        have d3 : decide (60 < r) = false := decide_eq_false (by omega)
        have d4 : decide (60 < c) = false := decide_eq_false (by omega)
        obtain ⟨rn, rfl⟩ : ∃ n : Nat, r = (n : Int) := ⟨r.toNat, by omega⟩
        obtain ⟨cn, rfl⟩ : ∃ n : Nat, c = (n : Int) := ⟨c.toNat, by omega⟩
        have HG1 := Lib.hid (fun w => GridQuiet_ok rn cn own w (by omega) (by omega) (by omega) (by omega))
        have HG2 := Lib.hid (fun w => RGridQuiet_any rn cn own w (by omega) (by omega) (by omega))
        match k, hlt with
        | 0, _ =>
          go_wp2_with fail
          refine (HG1.out wr).mono ?_
          rintro e w1 ⟨rfl, hb1⟩
          have HB2 := Lib.hid (HB.out.trans (hb1.mono HB.out.size))
          clear hb1
          go_wp2_with fail
          refine (HG2.out w1).mono ?_
          rintro e w2 ⟨rfl, hb2⟩
          have HB3 := Lib.hid (HB2.out.trans (hb2.mono HB2.out.size))
          clear hb2
          go_wp2_with fail
          exact ⟨⟨1, _, _, rfl, by omega, rfl, rfl, by first | exact side_one _ | exact side_mod _, by first | exact side_one _ | exact side_mod _, HB3⟩, by simp [intOf]⟩
        | 1, _ =>
          go_wp2_with fail
          refine (HG1.out wr).mono ?_
          rintro e w1 ⟨rfl, hb1⟩
          have HB2 := Lib.hid (HB.out.trans (hb1.mono HB.out.size))
          clear hb1
          go_wp2_with fail
          refine (HG2.out w1).mono ?_
          rintro e w2 ⟨rfl, hb2⟩
          have HB3 := Lib.hid (HB2.out.trans (hb2.mono HB2.out.size))
          clear hb2
          go_wp2_with fail
          exact ⟨⟨2, _, _, rfl, by omega, rfl, rfl, side_four _ _, side_four _ _, HB3⟩, by simp [intOf]⟩
        | 2, _ =>
          have hr4 := hsr.2 (by omega)
          have hc4 := hsc.2 (by omega)
          have hsm := small_grid rn cn own (by omega) (by omega) (by omega) (by omega)
          have hgd := small_good rn cn (by omega) (by omega) (by omega) (by omega)
          have hm16 : rn * cn ≤ 16 := Nat.mul_le_mul (show rn ≤ 4 by omega) (show cn ≤ 4 by omega)
          have hmp : 1 ≤ rn * cn := Nat.mul_pos (by omega) (by omega)
          have hll : (gridL rn cn).length ≤ 2 * (rn * cn) := gridK_len rn cn (rn * cn)
          have HG3 := Lib.hid (fun w => Grid_ok rn cn (rn * cn) w (by omega) (by omega) (by omega) (by omega) rfl hm16)
          obtain ⟨m, hm⟩ : ∃ m, rn * cn = m := ⟨_, rfl⟩
          obtain ⟨l, hl⟩ : ∃ l, gridL rn cn = l := ⟨_, rfl⟩
          rw [hm, hl] at hsm hgd hll HG3
          rw [hm] at hm16 hmp
          have HGR := Lib.hid (fun (w : World) A (h : REdges w w.heap.size A l) => (⟨h, by omega, hgd, hmp, hm16⟩ : Gr w A m l))
          have HQS := Lib.hid hsm
          clear hm hl hsm hgd hll hsr hsc
          go_wp2_with fail
          refine (HG1.out wr).mono ?_
          rintro e w1 ⟨rfl, hb1⟩
          have HB2 := Lib.hid (HB.out.trans (hb1.mono HB.out.size))
          clear hb1
          go_wp2_with fail
          refine (HG2.out w1).mono ?_
          rintro e w2 ⟨rfl, hb2⟩
          have HB3 := Lib.hid (HB2.out.trans (hb2.mono HB2.out.size))
          clear hb2
          go_wp2_with fail
          refine (HG3.out w2).mono ?_
          rintro e w3 ⟨v3, rfl, ho3, hb3⟩
          obtain ⟨A3, c3, rfl, hra3⟩ := ho3.reads
          have HB4 := Lib.hid (HB3.out.trans (hb3.mono HB3.out.size))
          have HR3 := Lib.hid hra3
          clear ho3 hb3 hra3
          go_wp2_with fail
          refine (Quiet_ok A3 m l c3 own w3 (HGR.out w3 A3 HR3.out)).mono ?_
          rintro e w4 ⟨v4, rfl, ho4, hb4⟩
          obtain ⟨A4, c4, hv4, _⟩ := ho4.reads
          rw [natV_len] at hv4
          subst hv4
          have HB5 := Lib.hid (HB4.out.trans (hb4.mono HB4.out.size))
          clear ho4 hb4
          obtain ⟨q, hq⟩ : ∃ q, (quietL (grL m l own)).length = q := ⟨_, rfl⟩
          rw [hq] at HQS ⊢
          rw [← HQS.out]
          clear hq
          go_wp2_with fail
          exact ⟨⟨3, _, _, rfl, by omega, rfl, rfl, side_four _ _, side_four _ _, HB5⟩, by simp [intOf]⟩
        | k + 3, hk => omega
    · obtain rfl : k = 3 := by omega
      go_wp2_with fail
      refine (awake4_any wr).mono ?_
      rintro e w1 ⟨rfl, hb1⟩
      go_wp2_with fail
      go_ret
      exact ⟨rfl, HB.out.trans (hb1.mono HB.out.size)⟩
set_option maxRecDepth 100000 in
theorem lgq_row (os : Os) (started : os.Started) (H : Type) (enc : TypeId × Value → H) :
    ReturnsInHanded {} Try.checked os 10 .any (Rows.lightGridQuietsSpec.pre6 enc Try.prog Try.f10 Rows.lightGridQuietsRow.domain false) (Rows.lightGridQuietsSpec.post enc Try.prog Try.f10 false true false false) := by
  refine returnsInHanded_of_change (C := Try.checked) ownNone started (by kernel_rfl) Try.func10
    (ChangeSpec.witness6 (enc := enc) (C := Try.checked) false ⟨#[], #[.int .i64 0, .int .i64 0, .bool false], []⟩ 8 (by kernel_rfl) (by kernel_rfl) (by kernel_rfl) (by kernel_rfl)) ?_
  intro W base args ds gs before hval hW _ _
  have hW2 := hW
  obtain ⟨p, q, hA, hV, rfl, _, _⟩ := hW2
  have hA : DataW.TrodAll enc Try.prog W 0 (fun _ => true) true Try.f10.params.toList args.toList ds p := hA
  have hAk := hA
  have hval : ∀ (j : Nat) t v, Try.f10.params[j]? = some t → args[j]? = some v → Value.okWide Try.prog W .any base t v := hval
  rw [Try.params10] at hA hval
  obtain ⟨v0, vs0, d0, ds0, p0, q0, hargs, rfl, rfl, h0, r0⟩ := trodAll_cons hA
  obtain ⟨v1, vs1, d1, ds1, p1, q1, rfl, rfl, rfl, h1, r1⟩ := trodAll_cons r0
  obtain ⟨v2, vs2, d2, ds2, p2, q2, rfl, rfl, rfl, h2, r2⟩ := trodAll_cons r1
  obtain ⟨rfl, rfl, rfl⟩ := trodAll_nil r2
  obtain rfl : args = #[v0, v1, v2] := by cases args; simp_all
  obtain ⟨rfl, rfl⟩ := trodVars_none hV
  obtain ⟨a0, rfl, rfl, rfl, w0⟩ := open_int Try.underlying3 (hval 0 3 v0 rfl rfl) h0
  obtain ⟨a1, rfl, rfl, rfl, w1⟩ := open_int Try.underlying3 (hval 1 3 v1 rfl rfl) h1
  obtain ⟨b2, rfl, rfl, rfl⟩ := open_bool Try.underlying4 (hval 2 4 v2 rfl rfl) h2
  clear hA hval
  simp only [List.append_nil] at hW hAk
  refine (lgq_any a0 a1 b2 W ).mono fun e W' ⟨he, hb⟩ => ?_
  subst he
  exact ⟨_, rfl, post_bool hW hb (by rw [Try.params10]; decide) hAk (fun _ => rfl) rfl rfl (by kernel_rfl)⟩

theorem lgq_holds : Rows.LightGridQuietsSaid :=
  OpenClaim.holds_of_wide 10 Try.f10 rfl rfl rfl rfl rfl rfl rfl ⟨rfl, rfl, rfl, rfl, rfl⟩ rfl rfl rfl rfl rfl (by kernel_rfl) Try.func10 (by kernel_rfl)
    (of_decide_eq_true (by kernel_rfl)) (by unfold Func.isWrapper; first | (rw [if_pos (by decide +kernel)]; kernel_rfl) | (rw [if_neg (by decide +kernel)]; exact ⟨rfl, rfl⟩))
    (fun os started H enc _ => lgq_row os started H enc)

#print axioms lgq_holds
end Go.Proofs.Ytpdgjjpfahobaaa
