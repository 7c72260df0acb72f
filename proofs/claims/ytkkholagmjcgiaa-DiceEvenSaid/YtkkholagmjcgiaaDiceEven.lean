/- For all integers n and m: the function DiceEven answers true: for numbers from 1 to 8 Even and Chains return no error, just the list that the reference's Even returns, and the number that its Chains returns; for others both return ErrArg and nothing else. No conditions. -/
import Derived.Test.YtkkholagmjcgiaaDiceTwins
import Derived.Test.YtkkholagmjcgiaaRChains
namespace Go.Proofs.Ytkkholagmjcgiaa
open Go.ChangeShapes Go.WideShapes Go.ChangeAt Go.RowKit

theorem from_1_to_8 (a : Int) : ∃ n : Int, wrap64 (1 + wrap64 ((IntKind.u64.wrap a).tmod 8)) = n := ⟨_, rfl⟩

set_option maxRecDepth 100000 in
set_option maxHeartbeats 8000000 in
theorem even_law (a b : Int) (w : World) : Calls Try.prog 11 #[.int .i64 a, .int .i64 b] w fun e w' => e = .returned (.bool true) ∧ Below w.heap.size w w' := by
  have HA := Lib.hid awake_any
  go_enter Try.func11, Try.ntmps11
  go_wp2_with fail
  go_loopg [0, 1, 5] 2 (fun g nv mv i wx => ∃ (r : Nat) (x y : Int), r + g = 2 ∧ i = .int .i64 r ∧ nv = .int .i64 x ∧ mv = .int .i64 y ∧ Hid (Below w.heap.size w wx))
  case atStart => exact ⟨0, a, b, by omega, rfl, rfl, rfl, Lib.hid (Below.refl _ _)⟩
  case round =>
    obtain ⟨r, x, y, hr, rfl, rfl, rfl, HB⟩ := hrel
    cases gk with
    | zero =>
      obtain rfl : r = 2 := by omega
      go_wp2_with fail
      refine (HA.out _).mono ?_
      rintro e w7 ⟨rfl, hb7⟩
      have HB7 := Lib.hid (keepC HB.out hb7)
      clear HB hb7
      go_wp2_with fail
      go_ret
      exact ⟨rfl, HB7.out⟩
    | succ g =>
      have hr2 : (r : Int) < 2 := by omega
      have hcs : x < 1 ∨ (¬ x < 1 ∧ 8 < x) ∨ (¬ x < 1 ∧ ¬ 8 < x ∧ y < 1) ∨ (¬ x < 1 ∧ ¬ 8 < x ∧ ¬ y < 1 ∧ 8 < y) ∨ (¬ x < 1 ∧ ¬ 8 < x ∧ ¬ y < 1 ∧ ¬ 8 < y) := by omega
      by_cases hbad : x < 1 ∨ 8 < x ∨ y < 1 ∨ 8 < y
      · have HE := Lib.hid (Even_bad x y hbad wr)
        have HC := Lib.hid (Chains_bad x y hbad wr)
        have HCS := Lib.hid hcs
        have HBD := Lib.hid hbad
        clear hcs hbad
        go_wp2_with fail
        refine HE.out.mono ?_
        rintro e w1 ⟨rfl, rfl⟩
        go_wp2_with fail
        refine HC.out.mono ?_
        rintro e w1 ⟨rfl, rfl⟩
        have hcs := HCS.out
        have hbad := HBD.out
        clear HE HC HCS HBD
        rcases hcs with h1 | ⟨h1, h2⟩ | ⟨h1, h2, h3⟩ | ⟨h1, h2, h3, h4⟩ | ⟨h1, h2, h3, h4⟩
        case inr.inr.inr.inr => omega
        all_goals
          clear hbad
          go_wp2_with fail
          go_roundg g
          case measure => omega
          case rel => exact ⟨r + 1, _, _, by omega, by go_num, rfl, rfl, HB⟩
      · have h1 : ¬ x < 1 := by omega
        have h2 : ¬ 8 < x := by omega
        have h3 : ¬ y < 1 := by omega
        have h4 : ¬ 8 < y := by omega
        obtain ⟨n, hxn⟩ : ∃ n : Nat, x = (n : Int) := ⟨x.toNat, by omega⟩
        obtain ⟨m, hym⟩ : ∃ m : Nat, y = (m : Int) := ⟨y.toNat, by omega⟩
        have hn1 : 1 ≤ n := by omega
        have hn8 : n ≤ 8 := by omega
        have hm1 : 1 ≤ m := by omega
        have hm8 : m ≤ 8 := by omega
        have HE := Lib.hid (Even_ok n m hn1 hn8 hm1 hm8 wr)
        have HC := Lib.hid (fun W => Chains_ok n m hn1 hn8 hm1 hm8 W)
        have HRE := Lib.hid (fun W => REven_ok n m hn1 hn8 hm1 hm8 W)
        have HRC := Lib.hid (fun W => RChains_ok n m hn1 hn8 hm1 hm8 W)
        have HS := Lib.hid (show ∀ p ∈ evenL n m, p.1.length ≤ 8 ∧ p.2.length ≤ 8 from (show AllTwo n m (evF (n * m)) 0 0 (evenL n m) from (evIn hn1 hn8 hm1 hm8).all).small hn8 hm8)
        obtain ⟨F, hF⟩ : ∃ F, evenL n m = F := ⟨_, rfl⟩
        obtain ⟨C, hC⟩ : ∃ C, chains n m = C := ⟨_, rfl⟩
        rw [hF] at HE HRE HS
        rw [hC] at HC HRC
        rw [← hxn, ← hym] at HE HC HRE HRC
        clear hF hC hxn hym hn1 hn8 hm1 hm8 hcs hbad
        go_wp2_with fail
        refine HE.out.mono ?_
        rintro e w1 ⟨fv, rfl, hof, hb1⟩
        obtain ⟨A3, k3, rfl, hr3⟩ := hof.form0
        have HB1 := Lib.hid (keepC HB.out hb1)
        have HF3 := Lib.hid hr3
        clear hof hb1 hr3 HE HB
        go_wp2_with fail
        refine (HC.out w1).mono ?_
        rintro e w2 ⟨rfl, rfl⟩
        go_wp2_with fail
        refine (HRE.out w1).mono ?_
        rintro e w4 ⟨v4, rfl, hp4, hl4, hb4⟩
        obtain ⟨A4, k4, rfl, hr4⟩ := hp4.form0
        have HF4 := Lib.hid hr4
        have HF3b := Lib.hid (HF3.out.tow hb4)
        have HB4 := Lib.hid (keepC HB1.out hb4)
        clear hp4 hb4 hr4 HF3 HB1 HRE HC
        go_wp2_with fail
        refine (pairs_same A3 A4 F k3 k4 w4.heap.size w4 HF3b.out HF4.out HS.out hl4).mono ?_
        rintro e w5 ⟨rfl, n5, hw5⟩
        have HB5 := Lib.hid (show Below w.heap.size w w5 by rw [hw5]; exact Below.drewN_ HB4.out n5)
        clear HF3b HF4 HB4 hw5
        go_wp2_with fail
        refine (HRC.out w5).mono ?_
        rintro e w6 ⟨rfl, rfl⟩
        clear HRC
        go_wp2_with fail
        go_roundg g
        case measure => omega
        case rel => exact ⟨r + 1, _, _, by omega, by go_num, rfl, rfl, HB5⟩

set_option maxRecDepth 100000 in
theorem even_row (os : Os) (started : os.Started) (H : Type) (enc : TypeId × Value → H) :
    ReturnsInHanded {} Try.checked os 11 .any (Rows.diceEvenSpec.pre6 enc Try.prog Try.f11 Rows.diceEvenRow.domain false) (Rows.diceEvenSpec.post enc Try.prog Try.f11 false true false false) := by
  refine returnsInHanded_of_change (C := Try.checked) ownNone started (by kernel_rfl) Try.func11
    (ChangeSpec.witness6 (enc := enc) (C := Try.checked) false ⟨#[], #[.int .i64 0, .int .i64 0], []⟩ 8 (by kernel_rfl) (by kernel_rfl) (by kernel_rfl) (by kernel_rfl)) ?_
  intro W base args ds gs before hval hW _ _
  have hW2 := hW
  obtain ⟨p, q, hA, hV, rfl, _, _⟩ := hW2
  have hA : DataW.TrodAll enc Try.prog W 0 (fun _ => true) true Try.f11.params.toList args.toList ds p := hA
  have hval : ∀ (j : Nat) t v, Try.f11.params[j]? = some t → args[j]? = some v → Value.okWide Try.prog W .any base t v := hval
  rw [Try.params11] at hA hval
  obtain ⟨v0, vs0, d0, ds0, p0, q0, hargs, rfl, rfl, h0, r0⟩ := trodAll_cons hA
  obtain ⟨v1, vs1, d1, ds1, p1, q1, rfl, rfl, rfl, h1, r1⟩ := trodAll_cons r0
  obtain ⟨rfl, rfl, rfl⟩ := trodAll_nil r1
  obtain rfl : args = #[v0, v1] := by cases args; simp_all
  obtain ⟨rfl, rfl⟩ := trodVars_none hV
  obtain ⟨a0, rfl, rfl, rfl, w0⟩ := open_int Try.underlying3 (hval 0 3 v0 rfl rfl) h0
  obtain ⟨a1, rfl, rfl, rfl, w1⟩ := open_int Try.underlying3 (hval 1 3 v1 rfl rfl) h1
  clear hA hval
  simp only [List.append_nil] at hW
  refine (even_law a0 a1 W).mono fun e W' ⟨he, hb⟩ => ?_
  subst he
  exact ⟨_, rfl, post_still hW hb (fun _ => rfl) (fun sp _ => trodAll_cons_mk (shut_int Try.underlying3 w0) (trodAll_cons_mk (shut_int Try.underlying3 w1) trodAll_mk0)) (fun _ _ _ => trodAll_cons_mk (shut_bool Try.underlying4 _) trodAll_mk0)
    (ok_one (by kernel_rfl) rfl (okWide_bool_mk Try.underlying4 _))⟩

theorem even_holds : Rows.DiceEvenSaid :=
  OpenClaim.holds_of_wide 11 Try.f11 rfl rfl rfl rfl rfl rfl rfl ⟨rfl, rfl, rfl, rfl, rfl⟩ rfl rfl rfl rfl rfl (by kernel_rfl) Try.func11 (by kernel_rfl)
    (of_decide_eq_true (by kernel_rfl)) (by unfold Func.isWrapper; first | (rw [if_pos (by decide +kernel)]; kernel_rfl) | (rw [if_neg (by decide +kernel)]; exact ⟨rfl, rfl⟩))
    (fun os started H enc _ => even_row os started H enc)

#print axioms even_holds
end Go.Proofs.Ytkkholagmjcgiaa
