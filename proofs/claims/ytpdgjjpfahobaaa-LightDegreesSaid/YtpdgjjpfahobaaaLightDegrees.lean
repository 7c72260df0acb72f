/- For all integers r and c: the function LightDegrees answers true: the number of quiet sets of a grid's basis is the degree of the greatest common divisor of two polynomials, and the same with rows and columns exchanged. No conditions. -/
import Derived.Test.YtpdgjjpfahobaaaOpen
import Derived.Test.YtpdgjjpfahobaaaAwake4
import Derived.Test.YtpdgjjpfahobaaaTame
import Derived.Test.YtpdgjjpfahobaaaDeg2
import Derived.Test.YtpdgjjpfahobaaaDeg3
namespace Go.Proofs.Ytpdgjjpfahobaaa
open Go.ChangeShapes Go.WideShapes Go.ChangeAt Go.RowKit Lamp

theorem polyL_small {k : Nat} (hk : k ≤ 200) : (polyL k).length ≤ 1000 ∧ ∀ x ∈ polyL k, x < 201 := by
  have h1 := onesK_len (memberL k false) (memberL k false).length
  have h2 := (memK_ok false k).1.2
  have h3 : (memberL k false).length ≤ k := h2
  refine ⟨by unfold polyL; omega, fun x hx => ?_⟩
  unfold polyL onesK at hx
  have := List.mem_range.1 (List.mem_filter.1 hx).1
  omega

set_option maxRecDepth 100000 in
set_option maxHeartbeats 8000000 in
theorem ldeg_any (a0 a1 : Int) (w : World) :
    Calls Try.prog 15 #[.int .i64 a0, .int .i64 a1] w fun e w' => e = .returned (.bool true) ∧ Below w.heap.size w w' := by
  have ht := remN_tmod a0 (m := 60) (by decide)
  have hlt := remN_lt a0 (m := 60) (by decide)
  have htc := remN_tmod a1 (m := 60) (by decide)
  have hltc := remN_lt a1 (m := 60) (by decide)
  obtain ⟨r0, hr0⟩ : ∃ r, remN a0 60 = r := ⟨_, rfl⟩
  obtain ⟨c0, hc0⟩ : ∃ r, remN a1 60 = r := ⟨_, rfl⟩
  rw [hr0] at ht hlt
  rw [hc0] at htc hltc
  have ht : (IntKind.u64.wrap a0).tmod 60 = ((r0 : Nat) : Int) := ht
  have htc : (IntKind.u64.wrap a1).tmod 60 = ((c0 : Nat) : Int) := htc
  obtain ⟨r, hr⟩ : ∃ r, r = r0 + 1 := ⟨_, rfl⟩
  obtain ⟨c, hc⟩ : ∃ r, r = c0 + 1 := ⟨_, rfl⟩
  have hri : (1 : Int) + (r0 : Int) = (r : Int) := by omega
  have hci : (1 : Int) + (c0 : Int) = (c : Int) := by omega
  have hr1 : 1 ≤ r := by omega
  have hc1 : 1 ≤ c := by omega
  have hr60 : r ≤ 60 := by omega
  have hc60 : c ≤ 60 := by omega
  obtain ⟨r1, hr2⟩ : ∃ q, r + 1 = q := ⟨_, rfl⟩
  obtain ⟨c1, hc2⟩ : ∃ q, c + 1 = q := ⟨_, rfl⟩
  have hr1i : (r : Int) + 1 = (r1 : Int) := by omega
  have hc1i : (c : Int) + 1 = (c1 : Int) := by omega
  obtain ⟨nf, nf1, nf2, nf3⟩ := gridQ_deg r c false
  obtain ⟨nt, nt1, nt2, nt3⟩ := gridQ_deg r c true
  have hpc := polyV_top c
  have hpcp := Nat.two_pow_pos c
  have hC0 : polyV (c + 1) ≠ 0 := by omega
  rw [hr2, hc2] at nf3 nt3
  rw [hc2] at hC0
  have hsc := polyL_small (k := c1) (by omega)
  have hsr := polyL_small (k := r1) (by omega)
  have HVC := Lib.hid (onesC_val (k := c1) (by omega))
  have HVR := Lib.hid (onesC_val (k := r1) (by omega))
  have HPC := Lib.hid (fun w => Polynomial_ok c1 w (by omega))
  have HPR := Lib.hid (fun w => Polynomial_ok r1 w (by omega))
  obtain ⟨PC, hPC⟩ : ∃ q, polyL c1 = q := ⟨_, rfl⟩
  obtain ⟨PR, hPR⟩ : ∃ q, polyL r1 = q := ⟨_, rfl⟩
  rw [hPC] at hsc HVC HPC
  rw [hPR] at hsr HVR HPR
  have HCA := Lib.hid (onesC_two PC PC.length)
  have HRA := Lib.hid (onesC_two PR PR.length)
  have HCL := Lib.hid (onesC_len PC PC.length)
  have HRL := Lib.hid (onesC_len PR PR.length)
  have HSC := Lib.hid hsc
  have HSR := Lib.hid hsr
  obtain ⟨LA, hLA⟩ : ∃ q, onesC PC PC.length = q := ⟨_, rfl⟩
  obtain ⟨LB, hLB⟩ : ∃ q, onesC PR PR.length = q := ⟨_, rfl⟩
  have HKA := Lib.hid (fun A c w h => polynomial_any A PC c w h hsc.1 hsc.2)
  have HKB := Lib.hid (fun A c w h => polynomial_any A PR c w h hsr.1 hsr.2)
  rw [hLA] at HVC HCA HCL HKA
  rw [hLB] at HVR HRA HRL HKB
  have HF3 := Lib.hid (show IsDeg (valN LA) (valN LB) nf by rw [HVC.out, HVR.out]; exact nf3)
  have hsh := shC_val HRA.out 201 (by rw [HRL.out]; omega)
  rw [HRL.out, Nat.sub_self, Nat.pow_zero, Nat.div_one, HVR.out] at hsh
  have HT3 := Lib.hid (show IsDeg (valN LA) (valN (shC LB 201 201)) nt by rw [HVC.out, hsh]; exact nt3)
  have HA0 := Lib.hid (show valN LA ≠ 0 by rw [HVC.out]; exact hC0)
  have HSH2 := Lib.hid (shC_two LB 201 201)
  have HSHL := Lib.hid (shC_len LB 201 201)
  have HNF1 := Lib.hid nf1
  have HNF2 := Lib.hid nf2
  have HNT1 := Lib.hid nt1
  have HNT2 := Lib.hid nt2
  clear hr0 hc0 hlt hltc hr hc hr2 hc2 nf1 nf2 nf3 nt1 nt2 nt3 hpc hpcp hC0 hPC hPR hLA hLB hsh hsc hsr
  go_enter Try.func15, Try.ntmps15
  go_wp2_with fail
  refine (HPC.out w).mono ?_
  rintro e w1 ⟨v1, rfl, ho1, hb1⟩
  obtain ⟨A1, k1, hv1, hr1'⟩ := ho1.reads
  rw [natV_len] at hv1
  subst hv1
  have HB1 := Lib.hid hb1
  have HR1 := Lib.hid hr1'
  clear ho1 hb1 hr1' ht htc hri hci hc1i
  go_wp2_with fail
  refine (HPR.out w1).mono ?_
  rintro e w2 ⟨v2, rfl, ho2, hb2⟩
  obtain ⟨A2, k2, hv2, hr2'⟩ := ho2.reads
  rw [natV_len] at hv2
  subst hv2
  have HB2 := Lib.hid (HB1.out.trans (hb2.mono HB1.out.size))
  have HR2 := Lib.hid hr2'
  have HR12 := Lib.hid ((HR1.out.below hb2).more hb2.size)
  clear ho2 hb2 hr2' hr1i HR1 HPC HPR
  go_wp2_with fail
  refine (HKA.out A1 k1 w2 HR12.out).mono ?_
  rintro e w3 ⟨rfl, hx3, hb3⟩
  obtain ⟨ga, hga⟩ : ∃ q, w2.heap.size = q := ⟨_, rfl⟩
  rw [hga] at hx3 ⊢
  have HB3 := Lib.hid (HB2.out.trans (hb3.mono HB2.out.size))
  have HX3 := Lib.hid hx3
  have HR23 := Lib.hid ((HR2.out.below hb3).more hb3.size)
  clear hx3 hb3 hga HR2 HR12
  go_wp2_with fail
  refine (HKB.out A2 k2 w3 HR23.out).mono ?_
  rintro e w4 ⟨rfl, hx4, hb4⟩
  have HX34 := Lib.hid (HX3.out.below hb4 HX3.out.lt)
  obtain ⟨gb, hgb⟩ : ∃ q, w3.heap.size = q := ⟨_, rfl⟩
  rw [hgb] at hx4 ⊢
  have HB4 := Lib.hid (HB3.out.trans (hb4.mono HB3.out.size))
  have HX4 := Lib.hid hx4
  clear hx4 hb4 hgb HR23 HX3 HKA HKB
  go_wp2_with fail
  go_loopw [13] (fun i wr => ∃ k : Nat, i = .int .i64 k ∧ k ≤ 2 ∧ Hid (Below w.heap.size w wr) ∧ Hid (Box wr ga 3 (iC LA)) ∧ Hid (Box wr gb 3 (iC LB))) (fun i _ => 2 - (intOf i).toNat)
  case atStart => exact ⟨0, rfl, by omega, HB4, HX34, HX4⟩
  case round =>
    obtain ⟨k, rfl, hk, HB5, HXA5, HXB5⟩ := hrel
    have HB := HB5
    have HXA := HXA5
    have HXB := HXB5
    clear HB4 HX34 HX4 HB5 HXA5 HXB5
    match k, hk with
    | 0, _ =>
      go_wp2_with fail
      refine (GridQuiet_ok r c true wr hr1 hr60 hc1 hc60).mono ?_
      rintro e w5 ⟨rfl, hb5⟩
      rw [HNT1.out]
      have HB5 := Lib.hid (HB.out.trans (hb5.mono HB.out.size))
      have HXA5 := Lib.hid (HXA.out.below hb5 HXA.out.lt)
      have HXB5 := Lib.hid (HXB.out.below hb5 HXB.out.lt)
      clear hb5
      go_wp2_with fail
      refine (GridQuiet_ok c r true w5 hc1 hc60 hr1 hr60).mono ?_
      rintro e w6 ⟨rfl, hb6⟩
      rw [HNT2.out]
      have HB6 := Lib.hid (HB5.out.trans (hb6.mono HB5.out.size))
      have HXA6 := Lib.hid (HXA5.out.below hb6 HXA5.out.lt)
      have HXB6 := Lib.hid (HXB5.out.below hb6 HXB5.out.lt)
      clear hb6
      go_wp2_with fail
      refine (common_any ga gb 201 201 201 LA LB w6 HXA6.out HXB6.out HCL.out HRL.out (by decide) (by decide) HCA.out HRA.out HA0.out HF3.out).mono ?_
      rintro e w7 ⟨rfl, hb7⟩
      have HB7 := Lib.hid (HB6.out.trans (hb7.mono HB6.out.size))
      have HXA7 := Lib.hid (HXA6.out.below hb7 HXA6.out.lt)
      have HXB7 := Lib.hid (HXB6.out.below hb7 HXB6.out.lt)
      clear hb7
      go_wp2_with fail
      refine (shifted_any gb 201 201 LB w7 HRL.out HXB7.out HRA.out (by decide) (by decide)).mono ?_
      rintro e w8 ⟨g8, rfl, hx8, hb8⟩
      have HB8 := Lib.hid (HB7.out.trans (hb8.mono HB7.out.size))
      have HXA8 := Lib.hid (HXA7.out.below hb8 HXA7.out.lt)
      have HXB8 := Lib.hid (HXB7.out.below hb8 HXB7.out.lt)
      have HX8 := Lib.hid hx8
      clear hb8 hx8
      go_wp2_with fail
      refine (common_any ga g8 201 201 201 LA (shC LB 201 201) w8 HXA8.out HX8.out HCL.out HSHL.out (by decide) (by decide) HCA.out HSH2.out HA0.out HT3.out).mono ?_
      rintro e w9 ⟨rfl, hb9⟩
      have HB9 := Lib.hid (HB8.out.trans (hb9.mono HB8.out.size))
      have HXA9 := Lib.hid (HXA8.out.below hb9 HXA8.out.lt)
      have HXB9 := Lib.hid (HXB8.out.below hb9 HXB8.out.lt)
      clear hb9
      go_wp2_with fail
      go_roundw
      case rel => exact ⟨1, rfl, by omega, HB9, HXA9, HXB9⟩
      case measure => simp [intOf]
    | 1, _ =>
      go_wp2_with fail
      refine (GridQuiet_ok r c false wr hr1 hr60 hc1 hc60).mono ?_
      rintro e w5 ⟨rfl, hb5⟩
      rw [HNF1.out]
      have HB5 := Lib.hid (HB.out.trans (hb5.mono HB.out.size))
      have HXA5 := Lib.hid (HXA.out.below hb5 HXA.out.lt)
      have HXB5 := Lib.hid (HXB.out.below hb5 HXB.out.lt)
      clear hb5
      go_wp2_with fail
      refine (GridQuiet_ok c r false w5 hc1 hc60 hr1 hr60).mono ?_
      rintro e w6 ⟨rfl, hb6⟩
      rw [HNF2.out]
      have HB6 := Lib.hid (HB5.out.trans (hb6.mono HB5.out.size))
      have HXA6 := Lib.hid (HXA5.out.below hb6 HXA5.out.lt)
      have HXB6 := Lib.hid (HXB5.out.below hb6 HXB5.out.lt)
      clear hb6
      go_wp2_with fail
      refine (common_any ga gb 201 201 201 LA LB w6 HXA6.out HXB6.out HCL.out HRL.out (by decide) (by decide) HCA.out HRA.out HA0.out HF3.out).mono ?_
      rintro e w7 ⟨rfl, hb7⟩
      have HB7 := Lib.hid (HB6.out.trans (hb7.mono HB6.out.size))
      have HXA7 := Lib.hid (HXA6.out.below hb7 HXA6.out.lt)
      have HXB7 := Lib.hid (HXB6.out.below hb7 HXB6.out.lt)
      clear hb7
      go_wp2_with fail
      go_roundw
      case rel => exact ⟨2, rfl, by omega, HB7, HXA7, HXB7⟩
      case measure => simp [intOf]
    | 2, _ =>
      go_wp2_with fail
      refine (awake4_any wr).mono ?_
      rintro e w2 ⟨rfl, hb2⟩
      go_wp2_with fail
      go_ret
      exact ⟨rfl, HB.out.trans (hb2.mono HB.out.size)⟩
    | k + 3, hk => omega
set_option maxRecDepth 100000 in
theorem ldeg_row (os : Os) (started : os.Started) (H : Type) (enc : TypeId × Value → H) :
    ReturnsInHanded {} Try.checked os 15 .any (Rows.lightDegreesSpec.pre6 enc Try.prog Try.f15 Rows.lightDegreesRow.domain false) (Rows.lightDegreesSpec.post enc Try.prog Try.f15 false true false false) := by
  refine returnsInHanded_of_change (C := Try.checked) ownNone started (by kernel_rfl) Try.func15
    (ChangeSpec.witness6 (enc := enc) (C := Try.checked) false ⟨#[], #[.int .i64 0, .int .i64 0], []⟩ 8 (by kernel_rfl) (by kernel_rfl) (by kernel_rfl) (by kernel_rfl)) ?_
  intro W base args ds gs before hval hW _ _
  have hW2 := hW
  obtain ⟨p, q, hA, hV, rfl, _, _⟩ := hW2
  have hA : DataW.TrodAll enc Try.prog W 0 (fun _ => true) true Try.f15.params.toList args.toList ds p := hA
  have hAk := hA
  have hval : ∀ (j : Nat) t v, Try.f15.params[j]? = some t → args[j]? = some v → Value.okWide Try.prog W .any base t v := hval
  rw [Try.params15] at hA hval
  obtain ⟨v0, vs0, d0, ds0, p0, q0, hargs, rfl, rfl, h0, r0⟩ := trodAll_cons hA
  obtain ⟨v1, vs1, d1, ds1, p1, q1, rfl, rfl, rfl, h1, r1⟩ := trodAll_cons r0
  obtain ⟨rfl, rfl, rfl⟩ := trodAll_nil r1
  obtain rfl : args = #[v0, v1] := by cases args; simp_all
  obtain ⟨rfl, rfl⟩ := trodVars_none hV
  obtain ⟨a0, rfl, rfl, rfl, w0⟩ := open_int Try.underlying3 (hval 0 3 v0 rfl rfl) h0
  obtain ⟨a1, rfl, rfl, rfl, w1⟩ := open_int Try.underlying3 (hval 1 3 v1 rfl rfl) h1
  clear hA hval
  simp only [List.append_nil] at hW hAk
  refine (ldeg_any a0 a1 W ).mono fun e W' ⟨he, hb⟩ => ?_
  subst he
  exact ⟨_, rfl, post_bool hW hb (by rw [Try.params15]; decide) hAk (fun _ => rfl) rfl rfl (by kernel_rfl)⟩

theorem ldeg_holds : Rows.LightDegreesSaid :=
  OpenClaim.holds_of_wide 15 Try.f15 rfl rfl rfl rfl rfl rfl rfl ⟨rfl, rfl, rfl, rfl, rfl⟩ rfl rfl rfl rfl rfl (by kernel_rfl) Try.func15 (by kernel_rfl)
    (of_decide_eq_true (by kernel_rfl)) (by unfold Func.isWrapper; first | (rw [if_pos (by decide +kernel)]; kernel_rfl) | (rw [if_neg (by decide +kernel)]; exact ⟨rfl, rfl⟩))
    (fun os started H enc _ => ldeg_row os started H enc)

#print axioms ldeg_holds
end Go.Proofs.Ytpdgjjpfahobaaa
