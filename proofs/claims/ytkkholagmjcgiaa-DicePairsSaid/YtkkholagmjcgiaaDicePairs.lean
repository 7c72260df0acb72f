/- For any two lists of integers: the function DicePairs answers true: of two lists that are not both dice Compare and Twins return the error of the reference's Check, and nothing else; of two dice Compare returns the reference's three numbers, and Twins no error. No conditions. -/
import Derived.Test.YtkkholagmjcgiaaRCompare
import Derived.Test.YtkkholagmjcgiaaRCheck
import Derived.Test.YtkkholagmjcgiaaAppV
import Derived.Test.YtkkholagmjcgiaaAwake
import Derived.Test.YtkkholagmjcgiaaOpen
namespace Go.Proofs.Ytkkholagmjcgiaa
open Go.ChangeShapes Go.WideShapes Go.ChangeAt Go.RowKit

set_option maxRecDepth 100000 in
set_option maxHeartbeats 4000000 in
theorem pairs_law (A1 A2 : Option Addr) (a b : List Int) (c1 c2 : Nat) (w : World) (h1 : RInts w w.heap.size A1 a) (h2 : RInts w w.heap.size A2 b) (hc1 : a.length ≤ c1) (hc2 : b.length ≤ c2) (hm1 : a.length ≤ 9223372036854775807) (hm2 : b.length ≤ 9223372036854775807) :
    Calls Try.prog 4 #[.slice A1 a.length c1, .slice A2 b.length c2] w fun e w' => e = .returned (.bool true) ∧ Below w.heap.size w w' := by
  have HD1 := Lib.hid (die_any A1 a c1 w h1 hc1 hm1)
  have HD2 := Lib.hid (fun (W : World) (hb : Below w.heap.size w W) => die_any A2 b c2 W (RInts.tow h2 (Nat.le_refl _) hb) hc2 hm2)
  obtain ⟨x, hx⟩ : ∃ x, x = a.take 9 := ⟨_, rfl⟩
  obtain ⟨y, hy⟩ : ∃ y, y = b.take 9 := ⟨_, rfl⟩
  have hxl : x.length ≤ 9 := by rw [hx]; simp; omega
  have hyl : y.length ≤ 9 := by rw [hy]; simp; omega
  rw [← hx] at HD1
  rw [← hy] at HD2
  clear h1 h2 hx hy
  go_enter Try.func4, Try.ntmps4
  go_wp2_with fail
  refine HD1.out.mono ?_
  rintro e w1 ⟨v1, rfl, ho1, _, hb1⟩
  obtain ⟨B1, d1, rfl, hd1, hm1', hr1⟩ := ho1.reads
  have HB1 := Lib.hid hb1
  have HR1 := Lib.hid hr1
  clear ho1 hb1 hr1 HD1
  go_wp2_with fail
  refine (HD2.out w1 HB1.out).mono ?_
  rintro e w2 ⟨v2, rfl, ho2, _, hb2⟩
  obtain ⟨B2, d2, rfl, hd2, hm2', hr2⟩ := ho2.reads
  have HB2 := Lib.hid (keepC HB1.out hb2)
  have HR2 := Lib.hid hr2
  have HR1b := Lib.hid (RInts.tow HR1.out (Nat.le_refl _) hb2)
  clear ho2 hb2 hr2 HD2 HR1 HB1
  have HA := Lib.hid (awake_any)
  go_wp2_with fail
  refine (RCheck_any (some ⟨w2.heap.size, 0, none⟩) [x, y] 2 _ _ (RDice.two HR1b.out HR2.out hd1 hd2 (Nat.le_refl _)) (by simp) (fun d hd => by simp at hd; rcases hd with rfl | rfl <;> omega)).mono ?_
  rintro e w3 ⟨rfl, n, hw3⟩
  have HB3 := Lib.hid (show Below w2.heap.size w2 w3 from by rw [hw3]; exact Below.drewN_ ((Below.refl _ w2).alloc (Nat.le_refl _) _) n)
  clear hw3
  have HBw3 := Lib.hid (keepC HB2.out HB3.out)
  have HR1c := Lib.hid (RInts.tow HR1b.out (Nat.le_refl _) HB3.out)
  have HR2c := Lib.hid (RInts.tow HR2.out (Nat.le_refl _) HB3.out)
  clear HR1b HR2 HB2 HB3
  by_cases hk : checkL [x, y] = 0
  · have hdd := areDice_of hk
    have HX := Lib.hid (hdd.die x (by simp))
    have HY := Lib.hid (hdd.die y (by simp))
    rw [hk]
    clear hk hdd
    go_wp2_with fail
    refine (Compare_ok B1 B2 x y d1 d2 w3 HR1c.out HR2c.out hd1 hd2 HX.out HY.out).mono ?_
    rintro e w4 ⟨rfl, hb4⟩
    have HB4 := Lib.hid (keepC HBw3.out hb4)
    have HR1d := Lib.hid (RInts.tow HR1c.out (Nat.le_refl _) hb4)
    have HR2d := Lib.hid (RInts.tow HR2c.out (Nat.le_refl _) hb4)
    clear HR1c HR2c HBw3 hb4
    obtain ⟨m, hm⟩ : ∃ m : Int, ((moreL (rollL [x, y] []) : Nat) : Int) = m := ⟨_, rfl⟩
    obtain ⟨l, hl⟩ : ∃ l : Int, ((lessL (rollL [x, y] []) : Nat) : Int) = l := ⟨_, rfl⟩
    obtain ⟨s, hs⟩ : ∃ s : Int, ((sameL (rollL [x, y] []) : Nat) : Int) = s := ⟨_, rfl⟩
    have HM := Lib.hid (And.intro hm (And.intro hl hs))
    rw [hm, hl, hs]
    clear hm hl hs
    go_wp2_with fail
    refine (Twins_ok B1 B2 x y d1 d2 w4 HR1d.out HR2d.out hd1 hd2 HX.out HY.out).mono ?_
    rintro e w5 ⟨tv, rfl, _, hb5⟩
    have HB5 := Lib.hid (keepC HB4.out hb5)
    have HR1e := Lib.hid (RInts.tow HR1d.out (Nat.le_refl _) hb5)
    have HR2e := Lib.hid (RInts.tow HR2d.out (Nat.le_refl _) hb5)
    clear HR1d HR2d HB4 hb5
    go_wp2_with fail
    refine (RCompare_any B1 B2 x y d1 d2 w5.heap.size w5 HR1e.out HR2e.out (by omega) (by omega)).mono ?_
    rintro e w6 ⟨rfl, n6, rfl⟩
    rw [HM.out.1, HM.out.2.1, HM.out.2.2]
    have HB6 := Lib.hid (Below.drewN_ HB5.out n6)
    clear HR1e HR2e HB5
    go_wp2_with fail
    refine (HA.out _).mono ?_
    rintro e w7 ⟨rfl, hb7⟩
    have HB7 := Lib.hid (keepC HB6.out hb7)
    clear HB6 hb7
    go_wp2_with fail
    go_ret
    exact ⟨rfl, HB7.out⟩
  · obtain ⟨k, hk2⟩ : ∃ k, checkL [x, y] = k := ⟨_, rfl⟩
    have HCB := Lib.hid (Compare_bad B1 B2 x y d1 d2 w3 HR1c.out HR2c.out hd1 hd2 (by omega) (by omega) hk)
    have HTB := Lib.hid (fun (W : World) (hb : Below w3.heap.size w3 W) => Twins_bad B1 B2 x y d1 d2 W (RInts.tow HR1c.out (Nat.le_refl _) hb) (RInts.tow HR2c.out (Nat.le_refl _) hb) hd1 hd2 (by omega) (by omega) hk)
    rw [hk2] at hk HCB HTB ⊢
    have hne : (k == 0) = false := by rw [beq_eq_false_iff_ne]; exact hk
    have hne2 : (k != 0) = true := by simp [bne, hne]
    clear hk hk2 HR1c HR2c
    go_wp2_with fail
    refine HCB.out.mono ?_
    rintro e w4 ⟨rfl, hb4⟩
    have HB4 := Lib.hid hb4
    have HB4w := Lib.hid (keepC HBw3.out hb4)
    clear hb4 HCB
    go_wp2_with fail
    refine (HTB.out w4 HB4.out).mono ?_
    rintro e w5 ⟨rfl, hb5⟩
    have HB5 := Lib.hid (keepC HB4w.out hb5)
    clear hb5 HTB
    go_wp2_with fail
    refine (HA.out _).mono ?_
    rintro e w7 ⟨rfl, hb7⟩
    have HB7 := Lib.hid (keepC HB5.out hb7)
    clear HB5 hb7
    go_wp2_with fail
    go_ret
    exact ⟨rfl, HB7.out⟩

set_option maxRecDepth 100000 in
theorem pairs_row (os : Os) (started : os.Started) (H : Type) (enc : TypeId × Value → H) :
    ReturnsInHanded {} Try.checked os 4 .any (Rows.dicePairsSpec.pre6 enc Try.prog Try.f4 Rows.dicePairsRow.domain false) (Rows.dicePairsSpec.post enc Try.prog Try.f4 false true false false) := by
  refine returnsInHanded_of_change (C := Try.checked) ownNone started (by kernel_rfl) Try.func4
    (ChangeSpec.witness6 (enc := enc) (C := Try.checked) false ⟨#[], #[.slice none 0 0, .slice none 0 0], []⟩ 8 (by kernel_rfl) (by kernel_rfl) (by kernel_rfl) (by kernel_rfl)) ?_
  intro W base args ds gs before hval hW _ _
  have hW2 := hW
  obtain ⟨p, q, hA, hV, rfl, _, _⟩ := hW2
  have hA : DataW.TrodAll enc Try.prog W 0 (fun _ => true) true Try.f4.params.toList args.toList ds p := hA
  have hAk := hA
  have hval : ∀ (j : Nat) t v, Try.f4.params[j]? = some t → args[j]? = some v → Value.okWide Try.prog W .any base t v := hval
  rw [Try.params4] at hA hval
  obtain ⟨v0, vs0, d0, ds0, p0, q0, hargs, rfl, rfl, h0, r0⟩ := trodAll_cons hA
  obtain ⟨v1, vs1, d1, ds1, p1, q1, rfl, rfl, rfl, h1, r1⟩ := trodAll_cons r0
  obtain ⟨rfl, rfl, rfl⟩ := trodAll_nil r1
  obtain rfl : args = #[v0, v1] := by cases args; simp_all
  obtain ⟨rfl, rfl⟩ := trodVars_none hV
  obtain ⟨A0, z0, c0, rfl, k0, m0, hr0⟩ := open_die (hval 0 36 v0 rfl rfl) h0
  obtain ⟨A1, z1, c1, rfl, k1, m1, hr1⟩ := open_die (hval 1 36 v1 rfl rfl) h1
  clear hA hval
  simp only [List.append_nil] at hW hAk
  refine (pairs_law A0 A1 z0 z1 c0 c1 W hr0 hr1 k0 k1 m0 m1).mono fun e W' ⟨he, hb⟩ => ?_
  subst he
  exact ⟨_, rfl, post_bool hW hb (by rw [Try.params4]; decide) hAk (fun _ => rfl) rfl rfl (by kernel_rfl)⟩

theorem pairs_holds : Rows.DicePairsSaid :=
  OpenClaim.holds_of_wide 4 Try.f4 rfl rfl rfl rfl rfl rfl rfl ⟨rfl, rfl, rfl, rfl, rfl⟩ rfl rfl rfl rfl rfl (by kernel_rfl) Try.func4 (by kernel_rfl)
    (of_decide_eq_true (by kernel_rfl)) (by unfold Func.isWrapper; first | (rw [if_pos (by decide +kernel)]; kernel_rfl) | (rw [if_neg (by decide +kernel)]; exact ⟨rfl, rfl⟩))
    (fun os started H enc _ => pairs_row os started H enc)

#print axioms pairs_holds
end Go.Proofs.Ytkkholagmjcgiaa
