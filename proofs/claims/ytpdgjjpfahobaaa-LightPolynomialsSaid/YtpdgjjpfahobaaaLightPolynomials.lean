/- For every integer k: the function LightPolynomials answers true: Polynomial returns the powers that the recurrence gives, or ErrArg where k is out of range. No conditions. -/
import Derived.Test.YtpdgjjpfahobaaaOpen
import Derived.Test.YtpdgjjpfahobaaaPowers
import Derived.Test.YtpdgjjpfahobaaaInts4
import Derived.Test.YtpdgjjpfahobaaaAwake4
import Derived.Test.YtpdgjjpfahobaaaTame
namespace Go.Proofs.Ytpdgjjpfahobaaa
open Go.ChangeShapes Go.WideShapes Go.ChangeAt Go.RowKit Lamp

theorem Polynomial_bad (k : Int) (w : World) (hk : k < 0 ∨ 200 < k) :
    Calls Try.prog 46 #[.int .i64 k] w fun e w' => e = .returned (.tuple #[.slice none 0 0, .int .i64 1]) ∧ Below w.heap.size w w' := by
  by_cases h0 : k < 0
  · go_enter Try.func46, Try.ntmps46
    go_wp2_with fail
    go_ret2
    exact ⟨rfl, Below.refl _ _⟩
  · have h2 : 200 < k := by omega
    have h3 : ¬ k < 0 := h0
    go_enter Try.func46, Try.ntmps46
    go_wp2_with fail
    go_ret2
    exact ⟨rfl, Below.refl _ _⟩

theorem rem201 (x : Int) : ∃ m : Nat, m ≤ 200 ∧ IntKind.i64.wrap ((IntKind.u64.wrap x).tmod 201) = (m : Int) := by
  have h := remN_tmod x (m := 201) (by decide)
  have h2 := remN_lt x (m := 201) (by decide)
  refine ⟨remN x 201, by omega, ?_⟩
  rw [show ((201 : Nat) : Int) = 201 from rfl] at h
  rw [h]
  exact IntWalk.i64_in _ (by omega)

set_option maxRecDepth 100000 in
set_option maxHeartbeats 2000000 in
theorem lpoly_any (a : Int) (w : World) :
    Calls Try.prog 11 #[.int .i64 a] w fun e w' => e = .returned (.bool true) ∧ Below w.heap.size w w' := by
  go_enter Try.func11, Try.ntmps11
  go_wp2_with fail
  go_loopw [0, 3] (fun x i wr => ∃ (r : Nat) (k : Int), i = .int .i64 r ∧ r ≤ 2 ∧ x = .int .i64 k ∧ Hid (Below w.heap.size w wr)) (fun _ i _ => 2 - (intOf i).toNat)
  case atStart => exact ⟨0, a, rfl, by omega, rfl, Lib.hid (Below.refl _ _)⟩
  case round =>
    obtain ⟨r, k, rfl, hr, rfl, HB1⟩ := hrel
    have HB := HB1
    clear HB1
    obtain ⟨m, hm, he⟩ := rem201 k
    by_cases hlt : r < 2
    · by_cases hbad : k < 0 ∨ 200 < k
      · go_wp2_with fail
        refine (Polynomial_bad k wr hbad).mono ?_
        rintro e w1 ⟨rfl, hb1⟩
        have HB2 := Lib.hid (HB.out.trans (hb1.mono HB.out.size))
        clear hb1
        rcases hbad with h | h
        · go_wp2_with fail
          go_roundw
          case rel => exact ⟨r + 1, _, by go_num, by omega, rfl, HB2⟩
          case measure => simp [intOf]; omega
        · have h0 : ¬ k < 0 := by omega
          have hd : decide (k < 0) = false := decide_eq_false h0
          go_wp2_with fail
          go_roundw
          case rel => exact ⟨r + 1, _, by go_num, by omega, rfl, HB2⟩
          case measure => simp [intOf]; omega
      · obtain ⟨n, rfl⟩ : ∃ n : Nat, k = (n : Int) := ⟨k.toNat, by omega⟩
        have hn : n ≤ 200 := by omega
        have hn0 : ¬ (n : Int) < 0 := by omega
        have hn2 : ¬ (n : Int) > 200 := by omega
        clear hbad
        go_wp2_with fail
        refine (Polynomial_ok n wr hn).mono ?_
        rintro e w1 ⟨v, rfl, hv, hb1⟩
        have HB2 := Lib.hid hb1
        obtain ⟨A, c, rfl, hra⟩ := hv.reads
        have HRA := Lib.hid hra
        have HPL := Lib.hid (show (natV (polyL n)).length ≤ 1000 by
          rw [natV_len]
          have h1 := onesK_len (memberL n false) (memberL n false).length
          have h2 := (memK_ok false n).1.2
          unfold polyL
          have : (memberL n false).length ≤ n := h2
          omega)
        clear hv hb1 hra
        go_wp2_with fail
        refine (RPolynomial_any n w1 (by omega)).mono ?_
        rintro e w2 ⟨g2, c2, rfl, hx2, hb2⟩
        have HX2 := Lib.hid hx2
        have HB3 := Lib.hid (HB2.out.trans (hb2.mono HB2.out.size))
        have HRA2 := Lib.hid (show RInts w2 w2.heap.size A (natV (polyL n)) from Lies.more (Lies.below HRA.out hb2) hb2.size)
        clear hx2 hb2
        go_wp2_with fail
        have hpw := Powers_any g2 c2 (partL (memberL n false) (n + 2) (n + 2)) w2 (by rw [partL_len]; omega) HX2.out
        rw [ones_same, partL_len] at hpw
        refine hpw.mono ?_
        rintro e w3 ⟨v3, rfl, hv3, hb3⟩
        obtain ⟨A3, c3, rfl, hra3⟩ := hv3.reads
        have HRA3 := Lib.hid hra3
        have HB4 := Lib.hid (HB3.out.trans (hb3.mono HB3.out.size))
        have HRA4 := Lib.hid (show RInts w3 w3.heap.size A (natV (polyL n)) from Lies.more (Lies.below HRA2.out hb3) hb3.size)
        clear hpw hv3 hb3 hra3
        go_wp2_with fail
        refine (ints4_any A A3 _ _ c c3 w3.heap.size w3 HRA4.out HRA3.out HPL.out HPL.out).mono ?_
        rintro e w4 ⟨rfl, q, rfl⟩
        rw [show decide (natV (polyL n) = natV (polyL n)) = true from decide_eq_true rfl]
        go_wp2_with fail
        go_roundw
        case rel => exact ⟨r + 1, _, by go_num, by omega, rfl, Lib.hid (HB.out.trans ((below_drewN HB4.out q).mono HB.out.size))⟩
        case measure => simp [intOf]; omega
    · obtain rfl : r = 2 := by omega
      go_wp2_with fail
      refine (awake4_any wr).mono ?_
      rintro e w1 ⟨rfl, hb1⟩
      go_wp2_with fail
      go_ret
      exact ⟨rfl, HB.out.trans (hb1.mono HB.out.size)⟩
set_option maxRecDepth 100000 in
theorem lpoly_row (os : Os) (started : os.Started) (H : Type) (enc : TypeId × Value → H) :
    ReturnsInHanded {} Try.checked os 11 .any (Rows.lightPolynomialsSpec.pre6 enc Try.prog Try.f11 Rows.lightPolynomialsRow.domain false) (Rows.lightPolynomialsSpec.post enc Try.prog Try.f11 false true false false) := by
  refine returnsInHanded_of_change (C := Try.checked) ownNone started (by kernel_rfl) Try.func11
    (ChangeSpec.witness6 (enc := enc) (C := Try.checked) false ⟨#[], #[.int .i64 0], []⟩ 8 (by kernel_rfl) (by kernel_rfl) (by kernel_rfl) (by kernel_rfl)) ?_
  intro W base args ds gs before hval hW _ _
  have hW2 := hW
  obtain ⟨p, q, hA, hV, rfl, _, _⟩ := hW2
  have hA : DataW.TrodAll enc Try.prog W 0 (fun _ => true) true Try.f11.params.toList args.toList ds p := hA
  have hval : ∀ (j : Nat) t v, Try.f11.params[j]? = some t → args[j]? = some v → Value.okWide Try.prog W .any base t v := hval
  rw [Try.params11] at hA hval
  obtain ⟨v0, vs0, d0, ds0, p0, q0, hargs, rfl, rfl, h0, r0⟩ := trodAll_cons hA
  obtain ⟨rfl, rfl, rfl⟩ := trodAll_nil r0
  obtain rfl : args = #[v0] := by cases args; simp_all
  obtain ⟨rfl, rfl⟩ := trodVars_none hV
  obtain ⟨a0, rfl, rfl, rfl, w0⟩ := open_int Try.underlying3 (hval 0 3 v0 rfl rfl) h0
  clear hA hval
  simp only [List.append_nil] at hW
  refine (lpoly_any a0 W).mono fun e W' ⟨he, hb⟩ => ?_
  subst he
  exact ⟨_, rfl, post_still hW hb (fun _ => rfl) (fun sp _ => trodAll_cons_mk (shut_int Try.underlying3 w0) trodAll_mk0) (fun _ _ _ => trodAll_cons_mk (shut_bool Try.underlying4 _) trodAll_mk0)
    (ok_one (by kernel_rfl) rfl (okWide_bool_mk Try.underlying4 _))⟩

theorem lpoly_holds : Rows.LightPolynomialsSaid :=
  OpenClaim.holds_of_wide 11 Try.f11 rfl rfl rfl rfl rfl rfl rfl ⟨rfl, rfl, rfl, rfl, rfl⟩ rfl rfl rfl rfl rfl (by kernel_rfl) Try.func11 (by kernel_rfl)
    (of_decide_eq_true (by kernel_rfl)) (by unfold Func.isWrapper; first | (rw [if_pos (by decide +kernel)]; kernel_rfl) | (rw [if_neg (by decide +kernel)]; exact ⟨rfl, rfl⟩))
    (fun os started H enc _ => lpoly_row os started H enc)

#print axioms lpoly_holds
end Go.Proofs.Ytpdgjjpfahobaaa
