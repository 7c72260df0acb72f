/- For every integer n, list of pairs of integers l and integer x: the function LightChecks answers true: Check tells what a graph is as the reference does, and of what is none, or of a set that is none of its lamps, every function returns that error and zero values. No conditions. -/
import Derived.Test.YtpdgjjpfahobaaaOpenE
import Derived.Test.YtpdgjjpfahobaaaAwake4
import Derived.Test.YtpdgjjpfahobaaaOwn4
import Derived.Test.YtpdgjjpfahobaaaRCheck4
import Derived.Test.YtpdgjjpfahobaaaBad4
namespace Go.Proofs.Ytpdgjjpfahobaaa
open Go.ChangeShapes Go.WideShapes Go.ChangeAt Go.RowKit Go.WideMaps Lamp

theorem checkE_val (n : Int) (l : List (Int × Int)) : ∃ E : Nat, checkE n l = (E : Int) ∧ E ≤ 40 := by
  unfold checkE
  split
  · exact ⟨1, rfl, by decide⟩
  · split
    · exact ⟨0, rfl, by decide⟩
    · exact ⟨40, rfl, by decide⟩
theorem checkS_bad {n : Int} {l : List (Int × Int)} {E : Nat} (h : checkE n l = (E : Int)) (hE : E ≠ 0) (xs : List Int) : checkS n l xs = (E : Int) := by
  unfold checkS
  rw [if_neg (by rw [h]; omega), h]
theorem checkS_out {n : Int} {l : List (Int × Int)} (h : checkE n l = 0) {xs : List Int} {x : Int} (hx : x ∈ xs) (ho : inSet n x = false) : checkS n l xs = ((1 : Nat) : Int) := by
  unfold checkS
  rw [if_pos h, if_neg]
  · rfl
  · intro hc
    rw [List.all_eq_true] at hc
    rw [hc x hx] at ho
    cases ho

set_option maxRecDepth 100000 in
set_option maxHeartbeats 8000000 in
theorem lchecks_any (n : Int) (A : Option Addr) (l : List (Int × Int)) (c : Nat) (x : Int) (w : World) (hr : REdges w w.heap.size A l) (hlc : l.length ≤ c) (hl : l.length ≤ 9223372036854775807) :
    Calls Try.prog 3 #[.int .i64 n, .slice A l.length c, .int .i64 x] w fun e w' => e = .returned (.bool true) ∧ Below w.heap.size w w' := by
  have HOW := Lib.hid (own4_any A l c w hr hlc hl)
  obtain ⟨L, hL⟩ : ∃ L, l.take 130 = L := ⟨_, rfl⟩
  have hLl : L.length ≤ 130 := by rw [← hL]; simp; omega
  rw [hL] at HOW
  obtain ⟨E, hE, hE40⟩ := checkE_val n L
  have HE := Lib.hid hE
  clear hr hlc hl hL hE
  go_enter Try.func3, Try.ntmps3
  go_wp2_with fail
  refine HOW.out.mono ?_
  rintro e w1 ⟨v1, rfl, ho1, hb1⟩
  obtain ⟨A1, c1, rfl, _, hr1⟩ := ho1.caps
  have HB1 := Lib.hid hb1
  have HR1 := Lib.hid hr1
  clear ho1 hb1 hr1 HOW
  go_wp2_with fail
  refine (RCheck4_any A1 n L c1 w1 HR1.out (by omega)).mono ?_
  rintro e w2 ⟨rfl, k2, rfl⟩
  rw [HE.out]
  obtain ⟨W2, hW2⟩ : ∃ q, w1.drewN k2 = q := ⟨_, rfl⟩
  have HB2 := Lib.hid (show Below w.heap.size w W2 by rw [← hW2]; exact below_drewN HB1.out k2)
  have HR2 := Lib.hid (show REdges W2 W2.heap.size A1 L by rw [← hW2]; exact HR1.out.up (below_drewN (Below.refl _ _) k2))
  rw [hW2]
  clear hW2 HB1 HR1
  go_wp2_with fail
  refine (Check_any A1 n L c1 W2 HR2.out (by omega)).mono ?_
  rintro e w3 ⟨rfl, hb3⟩
  rw [HE.out]
  have HB3 := Lib.hid (HB2.out.trans (hb3.mono HB2.out.size))
  have HR3 := Lib.hid (HR2.out.up hb3)
  clear hb3 HB2 HR2
  by_cases h0 : E = 0
  · subst h0
    obtain ⟨hn1, hn2, _⟩ := checkE_zero (n := n) (l := L) HE.out
    obtain ⟨m, rfl⟩ : ∃ m : Nat, n = m := ⟨n.toNat, by omega⟩
    have hm16 : m ≤ 16 := by omega
    have hp16 := pow_split hm16
    have hpi : ((2 ^ m : Nat) : Int) = (2 : Int) ^ m := by simp
    obtain ⟨P, hP⟩ : ∃ P, 2 ^ m = P := ⟨_, rfl⟩
    have hP2 : (2 : Int) ^ m = (P : Int) := by rw [← hpi, hP]
    rw [hP] at hp16
    have hwP : IntKind.i64.wrap (P : Int) = (P : Int) := IntWalk.i64_in _ (by omega)
    have HIN := Lib.hid (show ∀ q : Int, (q < 0 ∨ (P : Int) ≤ q) → inSet (m : Int) q = false from fun q hq => by
      unfold inSet
      rw [Int.toNat_natCast, hP2]
      rcases hq with hq | hq
      · simp; omega
      · simp; omega)
    have HE0 := Lib.hid (show checkE (m : Int) L = 0 from HE.out)
    clear hpi hP
    by_cases hx0 : x < 0
    · have HI := Lib.hid (HIN.out x (.inl hx0))
      have HCX := Lib.hid (checkS_out HE0.out (xs := [x]) (by simp) HI.out)
      have HCX0 := Lib.hid (checkS_out HE0.out (xs := [x, 0]) (by simp) HI.out)
      have HC0X := Lib.hid (checkS_out HE0.out (xs := [0, x]) (by simp) HI.out)
      have hx0' : ¬ (0 : Int) ≤ x := by omega
      go_wp2_with fail
      refine (Effect_bad A1 m L c1 true w3 HR3.out (by omega) (E := 1) (by decide) x HCX.out).mono ?_
      rintro e w4 ⟨rfl, hb4⟩
      have HB4 := Lib.hid (HB3.out.trans (hb4.mono HB3.out.size))
      have HR4 := Lib.hid (HR3.out.up hb4)
      clear hb4
      go_wp2_with fail
      refine (Solve_bad A1 m L c1 true w4 HR4.out (by omega) (E := 1) (by decide) x HCX.out).mono ?_
      rintro e w5 ⟨rfl, hb5⟩
      have HB5 := Lib.hid (HB4.out.trans (hb5.mono HB4.out.size))
      have HR5 := Lib.hid (HR4.out.up hb5)
      clear hb5
      go_wp2_with fail
      refine (Fewest_bad A1 m L c1 false w5 HR5.out (by omega) (E := 1) (by decide) x HCX.out).mono ?_
      rintro e w6 ⟨rfl, hb6⟩
      have HB6 := Lib.hid (HB5.out.trans (hb6.mono HB5.out.size))
      have HR6 := Lib.hid (HR5.out.up hb6)
      clear hb6
      go_wp2_with fail
      refine (Refute_bad A1 m L c1 true w6 HR6.out (by omega) (E := 1) (by decide) x HCX.out).mono ?_
      rintro e w7 ⟨rfl, hb7⟩
      have HB7 := Lib.hid (HB6.out.trans (hb7.mono HB6.out.size))
      have HR7 := Lib.hid (HR6.out.up hb7)
      clear hb7
      go_wp2_with fail
      refine (IsRefutation_bad A1 m L c1 true w7 HR7.out (by omega) (E := 1) (by decide) x 0 HCX0.out).mono ?_
      rintro e w8 ⟨rfl, hb8⟩
      have HB8 := Lib.hid (HB7.out.trans (hb8.mono HB7.out.size))
      have HR8 := Lib.hid (HR7.out.up hb8)
      clear hb8
      go_wp2_with fail
      refine (IsRefutation_bad A1 m L c1 true w8 HR8.out (by omega) (E := 1) (by decide) 0 x HC0X.out).mono ?_
      rintro e w9 ⟨rfl, hb9⟩
      have HB9 := Lib.hid (HB8.out.trans (hb9.mono HB8.out.size))
      have HR9 := Lib.hid (HR8.out.up hb9)
      clear hb9
      go_wp2_with fail
      refine (awake4_any w9).mono ?_
      rintro e w10 ⟨rfl, hb10⟩
      go_wp2_with fail
      go_ret
      exact ⟨rfl, HB9.out.trans (hb10.mono HB9.out.size)⟩
    · by_cases hxP : x < (P : Int)
      · have hx0' : (0 : Int) ≤ x := by omega
        go_wp2_with fail
        refine (awake4_any w3).mono ?_
        rintro e w4 ⟨rfl, hb4⟩
        go_wp2_with fail
        go_ret
        exact ⟨rfl, HB3.out.trans (hb4.mono HB3.out.size)⟩
      · have HI := Lib.hid (HIN.out x (.inr (by omega)))
        have HCX := Lib.hid (checkS_out HE0.out (xs := [x]) (by simp) HI.out)
        have HCX0 := Lib.hid (checkS_out HE0.out (xs := [x, 0]) (by simp) HI.out)
        have HC0X := Lib.hid (checkS_out HE0.out (xs := [0, x]) (by simp) HI.out)
        have hx0' : (0 : Int) ≤ x := by omega
        go_wp2_with fail
        refine (Effect_bad A1 m L c1 true w3 HR3.out (by omega) (E := 1) (by decide) x HCX.out).mono ?_
        rintro e w4 ⟨rfl, hb4⟩
        have HB4 := Lib.hid (HB3.out.trans (hb4.mono HB3.out.size))
        have HR4 := Lib.hid (HR3.out.up hb4)
        clear hb4
        go_wp2_with fail
        refine (Solve_bad A1 m L c1 true w4 HR4.out (by omega) (E := 1) (by decide) x HCX.out).mono ?_
        rintro e w5 ⟨rfl, hb5⟩
        have HB5 := Lib.hid (HB4.out.trans (hb5.mono HB4.out.size))
        have HR5 := Lib.hid (HR4.out.up hb5)
        clear hb5
        go_wp2_with fail
        refine (Fewest_bad A1 m L c1 false w5 HR5.out (by omega) (E := 1) (by decide) x HCX.out).mono ?_
        rintro e w6 ⟨rfl, hb6⟩
        have HB6 := Lib.hid (HB5.out.trans (hb6.mono HB5.out.size))
        have HR6 := Lib.hid (HR5.out.up hb6)
        clear hb6
        go_wp2_with fail
        refine (Refute_bad A1 m L c1 true w6 HR6.out (by omega) (E := 1) (by decide) x HCX.out).mono ?_
        rintro e w7 ⟨rfl, hb7⟩
        have HB7 := Lib.hid (HB6.out.trans (hb7.mono HB6.out.size))
        have HR7 := Lib.hid (HR6.out.up hb7)
        clear hb7
        go_wp2_with fail
        refine (IsRefutation_bad A1 m L c1 true w7 HR7.out (by omega) (E := 1) (by decide) x 0 HCX0.out).mono ?_
        rintro e w8 ⟨rfl, hb8⟩
        have HB8 := Lib.hid (HB7.out.trans (hb8.mono HB7.out.size))
        have HR8 := Lib.hid (HR7.out.up hb8)
        clear hb8
        go_wp2_with fail
        refine (IsRefutation_bad A1 m L c1 true w8 HR8.out (by omega) (E := 1) (by decide) 0 x HC0X.out).mono ?_
        rintro e w9 ⟨rfl, hb9⟩
        have HB9 := Lib.hid (HB8.out.trans (hb9.mono HB8.out.size))
        have HR9 := Lib.hid (HR8.out.up hb9)
        clear hb9
        go_wp2_with fail
        refine (awake4_any w9).mono ?_
        rintro e w10 ⟨rfl, hb10⟩
        go_wp2_with fail
        go_ret
        exact ⟨rfl, HB9.out.trans (hb10.mono HB9.out.size)⟩
  · have HC0 := Lib.hid (checkS_bad HE.out h0 [])
    have HCX := Lib.hid (checkS_bad HE.out h0 [x])
    have HCX0 := Lib.hid (checkS_bad HE.out h0 [x, 0])
    have HC0X := Lib.hid (checkS_bad HE.out h0 [0, x])
    have hne : ((E : Int) == 0) = false := by rw [beq_eq_false_iff_ne]; omega
    go_wp2_with fail
    refine (Quiet_bad A1 n L c1 true w3 HR3.out (by omega) h0 HC0.out).mono ?_
    rintro e w4 ⟨rfl, hb4⟩
    have HB4 := Lib.hid (HB3.out.trans (hb4.mono HB3.out.size))
    have HR4 := Lib.hid (HR3.out.up hb4)
    clear hb4
    go_wp2_with fail
    refine (Reachable_bad A1 n L c1 true w4 HR4.out (by omega) h0 HC0.out).mono ?_
    rintro e w5 ⟨rfl, hb5⟩
    have HB5 := Lib.hid (HB4.out.trans (hb5.mono HB4.out.size))
    have HR5 := Lib.hid (HR4.out.up hb5)
    clear hb5
    go_wp2_with fail
    refine (Hardest_bad A1 n L c1 false w5 HR5.out (by omega) h0 HC0.out).mono ?_
    rintro e w6 ⟨rfl, hb6⟩
    have HB6 := Lib.hid (HB5.out.trans (hb6.mono HB5.out.size))
    have HR6 := Lib.hid (HR5.out.up hb6)
    clear hb6 HB3 HB4 HB5 HR3 HR4 HR5
    go_wp2_with fail
    refine (Effect_bad A1 n L c1 true w6 HR6.out (by omega) h0 x HCX.out).mono ?_
    rintro e w7 ⟨rfl, hb7⟩
    have HB7 := Lib.hid (HB6.out.trans (hb7.mono HB6.out.size))
    have HR7 := Lib.hid (HR6.out.up hb7)
    clear hb7
    go_wp2_with fail
    refine (Solve_bad A1 n L c1 true w7 HR7.out (by omega) h0 x HCX.out).mono ?_
    rintro e w8 ⟨rfl, hb8⟩
    have HB8 := Lib.hid (HB7.out.trans (hb8.mono HB7.out.size))
    have HR8 := Lib.hid (HR7.out.up hb8)
    clear hb8
    go_wp2_with fail
    refine (Fewest_bad A1 n L c1 false w8 HR8.out (by omega) h0 x HCX.out).mono ?_
    rintro e w9 ⟨rfl, hb9⟩
    have HB9 := Lib.hid (HB8.out.trans (hb9.mono HB8.out.size))
    have HR9 := Lib.hid (HR8.out.up hb9)
    clear hb9
    go_wp2_with fail
    refine (Refute_bad A1 n L c1 true w9 HR9.out (by omega) h0 x HCX.out).mono ?_
    rintro e w10 ⟨rfl, hb10⟩
    have HB10 := Lib.hid (HB9.out.trans (hb10.mono HB9.out.size))
    have HR10 := Lib.hid (HR9.out.up hb10)
    clear hb10
    go_wp2_with fail
    refine (IsRefutation_bad A1 n L c1 true w10 HR10.out (by omega) h0 x 0 HCX0.out).mono ?_
    rintro e w11 ⟨rfl, hb11⟩
    have HB11 := Lib.hid (HB10.out.trans (hb11.mono HB10.out.size))
    have HR11 := Lib.hid (HR10.out.up hb11)
    clear hb11
    go_wp2_with fail
    refine (IsRefutation_bad A1 n L c1 true w11 HR11.out (by omega) h0 0 x HC0X.out).mono ?_
    rintro e w12 ⟨rfl, hb12⟩
    have HB12 := Lib.hid (HB11.out.trans (hb12.mono HB11.out.size))
    have HR12 := Lib.hid (HR11.out.up hb12)
    clear hb12
    go_wp2_with fail
    refine (awake4_any w12).mono ?_
    rintro e w13 ⟨rfl, hb13⟩
    go_wp2_with fail
    go_ret
    exact ⟨rfl, HB12.out.trans (hb13.mono HB12.out.size)⟩
set_option maxRecDepth 100000 in
theorem lchecks_row (os : Os) (started : os.Started) (H : Type) (enc : TypeId × Value → H) :
    ReturnsInHanded {} Try.checked os 3 .any (Rows.lightChecksSpec.pre6 enc Try.prog Try.f3 Rows.lightChecksRow.domain false) (Rows.lightChecksSpec.post enc Try.prog Try.f3 false true false false) := by
  refine returnsInHanded_of_change (C := Try.checked) ownNone started (by kernel_rfl) Try.func3
    (ChangeSpec.witness6 (enc := enc) (C := Try.checked) false ⟨#[], #[.int .i64 0, .slice none 0 0, .int .i64 0], []⟩ 8 (by kernel_rfl) (by kernel_rfl) (by kernel_rfl) (by kernel_rfl)) ?_
  intro W base args ds gs before hval hW _ _
  have hW2 := hW
  obtain ⟨p, q, hA, hV, rfl, _, _⟩ := hW2
  have hA : DataW.TrodAll enc Try.prog W 0 (fun _ => true) true Try.f3.params.toList args.toList ds p := hA
  have hAk := hA
  have hval : ∀ (j : Nat) t v, Try.f3.params[j]? = some t → args[j]? = some v → Value.okWide Try.prog W .any base t v := hval
  rw [Try.params3] at hA hval
  obtain ⟨v0, vs0, d0, ds0, p0, q0, hargs, rfl, rfl, h0, r0⟩ := trodAll_cons hA
  obtain ⟨v1, vs1, d1, ds1, p1, q1, rfl, rfl, rfl, h1, r1⟩ := trodAll_cons r0
  obtain ⟨v2, vs2, d2, ds2, p2, q2, rfl, rfl, rfl, h2, r2⟩ := trodAll_cons r1
  obtain ⟨rfl, rfl, rfl⟩ := trodAll_nil r2
  obtain rfl : args = #[v0, v1, v2] := by cases args; simp_all
  obtain ⟨rfl, rfl⟩ := trodVars_none hV
  obtain ⟨a0, rfl, rfl, rfl, w0⟩ := open_int Try.underlying3 (hval 0 3 v0 rfl rfl) h0
  obtain ⟨A1, z1, c1, rfl, k1, m1, hr1⟩ := open_edges (hval 1 22 v1 rfl rfl) h1
  obtain ⟨a2, rfl, rfl, rfl, w2⟩ := open_int Try.underlying3 (hval 2 3 v2 rfl rfl) h2
  clear hA hval
  simp only [List.append_nil, List.nil_append] at hW hAk
  refine (lchecks_any a0 A1 z1 c1 a2 W hr1 k1 m1).mono fun e W' ⟨he, hb⟩ => ?_
  subst he
  exact ⟨_, rfl, post_bool hW hb (by rw [Try.params3]; decide) hAk (fun _ => rfl) rfl rfl (by kernel_rfl)⟩

theorem lchecks_holds : Rows.LightChecksSaid :=
  OpenClaim.holds_of_wide 3 Try.f3 rfl rfl rfl rfl rfl rfl rfl ⟨rfl, rfl, rfl, rfl, rfl⟩ rfl rfl rfl rfl rfl (by kernel_rfl) Try.func3 (by kernel_rfl)
    (of_decide_eq_true (by kernel_rfl)) (by unfold Func.isWrapper; first | (rw [if_pos (by decide +kernel)]; kernel_rfl) | (rw [if_neg (by decide +kernel)]; exact ⟨rfl, rfl⟩))
    (fun os started H enc _ => lchecks_row os started H enc)

#print axioms lchecks_holds
end Go.Proofs.Ytpdgjjpfahobaaa
