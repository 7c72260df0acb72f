/- For any lists of integers: the function DiceRings answers true: of the dice made of them either Ring gives a ring and Rank gives none, or Rank gives a rank list and Ring gives none, as the reference's HasRing says, and the reference's IsRing and IsRank agree. No conditions. -/
import Derived.Test.YtkkholagmjcgiaaRHas
import Derived.Test.YtkkholagmjcgiaaSome
import Derived.Test.YtkkholagmjcgiaaAwake
import Derived.Test.YtkkholagmjcgiaaOpen
import Derived.Test.YtkkholagmjcgiaaAppV
namespace Go.Proofs.Ytkkholagmjcgiaa
open Go.ChangeShapes Go.WideShapes Go.ChangeAt Go.RowKit

set_option maxRecDepth 100000 in
set_option maxHeartbeats 4000000 in
theorem rings_law (A : Option Addr) (l : List (List Int)) (c : Nat) (w : World) (hr : RDice w w.heap.size A l) (hl : l.length ≤ 9223372036854775807) (hd : ∀ x ∈ l, x.length ≤ 9223372036854775807) :
    Calls Try.prog 8 #[.slice A l.length c] w fun e w' => e = .returned (.bool true) ∧ Below w.heap.size w w' := by
  have HS := Lib.hid (show Calls Try.prog 36 #[.slice A l.length c, .int .i64 6, .int .i64 9] w (GaveD w (someL l 6 (9 : Nat))) from some_any A l c 6 9 w hr hl hd (by decide) (by decide))
  have hdi : AreDice (someL l 6 (9 : Nat)) := someL_dice l (by decide) (by decide) (by decide)
  obtain ⟨ds, hds⟩ : ∃ ds, someL l 6 (9 : Nat) = ds := ⟨_, rfl⟩
  rw [hds] at HS hdi
  have HDI := Lib.hid hdi
  have hlen := hdi.len
  have HA := Lib.hid awake_any
  clear hr hds hdi hd
  go_enter Try.func8, Try.ntmps8
  go_wp2_with fail
  refine HS.out.mono ?_
  rintro e w1 ⟨v, G, K, rfl, hv, hb1⟩
  obtain ⟨Ax, cx, rfl, hcx, hrx⟩ := hv.reads
  have HB1 := Lib.hid hb1
  have HRX := Lib.hid (show ∀ W, Below w1.heap.size w1 W → RDice W W.heap.size Ax ds from fun W hb => (hrx.below hb).more hb.size)
  clear hv hb1 hrx HS hcx
  by_cases hle : leftL ds = []
  · have HLE := Lib.hid hle
    have HNL := Lib.hid (no_loops hle)
    have HRS := Lib.hid (rank_spec hle)
    clear hle
    go_wp2_with fail
    refine (Ring_any Ax ds cx w1 (HRX.out _ (Below.refl _ _)) HDI.out).mono ?_
    rintro e w2 ⟨he, hb2⟩
    obtain rfl : e = .returned (.tuple #[.slice none 0 0, .bool false, .int .i64 0]) := by
      rcases he with ⟨_, rfl⟩ | ⟨h, _⟩
      · rfl
      · exact absurd HLE.out h
    have HB2 := Lib.hid hb2
    clear he hb2
    go_wp2_with fail
    refine (Rank_any Ax ds cx w2 (HRX.out _ HB2.out) HDI.out).mono ?_
    rintro e w3 ⟨he, hb3⟩
    obtain ⟨v3, rfl, ho3⟩ : ∃ v3, e = .returned (.tuple #[v3, .bool true, .int .i64 0]) ∧ OwnV w3 v3 (rankedL ds) := by
      rcases he with ⟨h, _⟩ | ⟨_, h⟩
      · exact absurd HLE.out h
      · exact h
    obtain ⟨A3, c3, rfl, hc3, hm3, hr3⟩ := ho3.reads
    have HB3 := Lib.hid (keepC HB2.out hb3)
    have HR3 := Lib.hid hr3
    clear he hb3 ho3 hr3 hc3 hm3
    go_wp2_with fail
    refine (RHasRing_any Ax ds cx w3 (HRX.out _ HB3.out) (HDI.out.len) (fun d h => (HDI.out.die d h).ok.1)).mono ?_
    rintro e w4 ⟨rfl, hb4⟩
    rw [HNL.out]
    have HB4 := Lib.hid (keepC HB3.out hb4)
    have HR4 := Lib.hid ((HR3.out.below hb4).more hb4.size)
    clear hb4
    go_wp2_with fail
    refine (RIsRank_ok Ax A3 ds (rankedL ds) cx c3 w4 (HRX.out _ HB4.out) HR4.out HDI.out.len (fun d h => (HDI.out.die d h).ok.1) HRS.out.1 HRS.out.2.1 HRS.out.2.2.1 HRS.out.2.2.2).mono ?_
    rintro e w5 ⟨rfl, hb5⟩
    have HB5 := Lib.hid (keepC HB4.out hb5)
    clear hb5
    go_wp2_with fail
    refine (HA.out _).mono ?_
    rintro e w7 ⟨rfl, hb7⟩
    have HB7 := Lib.hid (keepC HB1.out (keepC HB5.out hb7))
    clear hb7
    go_wp2_with fail
    go_ret
    exact ⟨rfl, HB7.out⟩
  · have HLE := Lib.hid hle
    have HNL := Lib.hid (some_loops hle)
    have HRS := Lib.hid (ring_spec hle)
    have HRL := Lib.hid (leftL_spec ds).2.1
    clear hle
    obtain ⟨r, hrr⟩ : ∃ r, ringL (tbl ds) (leftL ds) ds.length = r := ⟨_, rfl⟩
    have HRR := Lib.hid hrr
    rw [hrr] at HRS
    clear hrr
    go_wp2_with fail
    refine (Ring_any Ax ds cx w1 (HRX.out _ (Below.refl _ _)) HDI.out).mono ?_
    rintro e w2 ⟨he, hb2⟩
    obtain ⟨A3, c3, rfl, hr3⟩ : ∃ A3 c3, e = .returned (.tuple #[.slice A3 r.length c3, .bool true, .int .i64 0]) ∧ RInts w2 w2.heap.size A3 r := by
      rcases he with ⟨h, _⟩ | ⟨_, h⟩
      · exact absurd h HLE.out
      · rw [HRR.out] at h; exact h
    have HB2 := Lib.hid hb2
    have HR3 := Lib.hid hr3
    clear he hb2 hr3
    go_wp2_with fail
    refine (Rank_any Ax ds cx w2 (HRX.out _ HB2.out) HDI.out).mono ?_
    rintro e w3 ⟨he, hb3⟩
    obtain rfl : e = .returned (.tuple #[.slice none 0 0, .bool false, .int .i64 0]) := by
      rcases he with ⟨_, rfl⟩ | ⟨h, _⟩
      · rfl
      · exact absurd h HLE.out
    have HB3 := Lib.hid (keepC HB2.out hb3)
    have HR4 := Lib.hid ((HR3.out.below hb3).more hb3.size)
    clear he hb3
    go_wp2_with fail
    refine (RHasRing_any Ax ds cx w3 (HRX.out _ HB3.out) (HDI.out.len) (fun d h => (HDI.out.die d h).ok.1)).mono ?_
    rintro e w4 ⟨rfl, hb4⟩
    rw [HNL.out]
    have HB4 := Lib.hid (keepC HB3.out hb4)
    have HR5 := Lib.hid ((HR4.out.below hb4).more hb4.size)
    clear hb4
    go_wp2_with fail
    refine (RIsRing_ok Ax A3 ds r cx c3 w4 (HRX.out _ HB4.out) HR5.out HDI.out.len (fun d h => (HDI.out.die d h).ok.1) HRS.out.1 (by
      have := nodup_le r (evK ds.length) HRS.out.2.2.1 fun x hx => mem_evK.2 (HRS.out.2.1 x hx)
      simp [evK] at this
      omega) HRS.out.2.1 HRS.out.2.2.1 HRS.out.2.2.2).mono ?_
    rintro e w5 ⟨rfl, hb5⟩
    have HB5 := Lib.hid (keepC HB4.out hb5)
    clear hb5
    go_wp2_with fail
    refine (HA.out _).mono ?_
    rintro e w7 ⟨rfl, hb7⟩
    have HB7 := Lib.hid (keepC HB1.out (keepC HB5.out hb7))
    clear hb7
    go_wp2_with fail
    go_ret
    exact ⟨rfl, HB7.out⟩

set_option maxRecDepth 100000 in
theorem rings_row (os : Os) (started : os.Started) (H : Type) (enc : TypeId × Value → H) :
    ReturnsInHanded {} Try.checked os 8 .any (Rows.diceRingsSpec.pre6 enc Try.prog Try.f8 Rows.diceRingsRow.domain false) (Rows.diceRingsSpec.post enc Try.prog Try.f8 false true false false) := by
  refine returnsInHanded_of_change (C := Try.checked) ownNone started (by kernel_rfl) Try.func8
    (ChangeSpec.witness6 (enc := enc) (C := Try.checked) false ⟨#[], #[.slice none 0 0], []⟩ 8 (by kernel_rfl) (by kernel_rfl) (by kernel_rfl) (by kernel_rfl)) ?_
  intro W base args ds gs before hval hW _ _
  have hW2 := hW
  obtain ⟨p, q, hA, hV, rfl, _, _⟩ := hW2
  have hA : DataW.TrodAll enc Try.prog W 0 (fun _ => true) true Try.f8.params.toList args.toList ds p := hA
  have hAk := hA
  have hval : ∀ (j : Nat) t v, Try.f8.params[j]? = some t → args[j]? = some v → Value.okWide Try.prog W .any base t v := hval
  rw [Try.params8] at hA hval
  obtain ⟨v0, vs0, d0, ds0, p0, q0, hargs, rfl, rfl, h0, r0⟩ := trodAll_cons hA
  obtain ⟨rfl, rfl, rfl⟩ := trodAll_nil r0
  obtain rfl : args = #[v0] := by cases args; simp_all
  obtain ⟨rfl, rfl⟩ := trodVars_none hV
  obtain ⟨A0, z0, c0, rfl, _, m0, hr0, e0⟩ := open_dice (hval 0 22 v0 rfl rfl) h0
  clear hA hval
  simp only [List.append_nil] at hW hAk
  refine (rings_law A0 z0 c0 W hr0 m0 e0).mono fun e W' ⟨he, hb⟩ => ?_
  subst he
  exact ⟨_, rfl, post_bool hW hb (by rw [Try.params8]; decide) hAk (fun _ => rfl) rfl rfl (by kernel_rfl)⟩

theorem rings_holds : Rows.DiceRingsSaid :=
  OpenClaim.holds_of_wide 8 Try.f8 rfl rfl rfl rfl rfl rfl rfl ⟨rfl, rfl, rfl, rfl, rfl⟩ rfl rfl rfl rfl rfl (by kernel_rfl) Try.func8 (by kernel_rfl)
    (of_decide_eq_true (by kernel_rfl)) (by unfold Func.isWrapper; first | (rw [if_pos (by decide +kernel)]; kernel_rfl) | (rw [if_neg (by decide +kernel)]; exact ⟨rfl, rfl⟩))
    (fun os started H enc _ => rings_row os started H enc)

#print axioms rings_holds
end Go.Proofs.Ytkkholagmjcgiaa
