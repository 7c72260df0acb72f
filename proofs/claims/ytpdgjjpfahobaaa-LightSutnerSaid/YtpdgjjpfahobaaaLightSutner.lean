/- For every integer n and list of pairs of integers l: the function LightSutner answers true: with own the target of all lamps is the effect of the set that Solve returns, and nothing refutes it. No conditions. -/
import Derived.Test.YtpdgjjpfahobaaaOpenE
import Derived.Test.YtpdgjjpfahobaaaAwake4
import Derived.Test.YtpdgjjpfahobaaaTame2
import Derived.Test.YtpdgjjpfahobaaaSolveL
namespace Go.Proofs.Ytpdgjjpfahobaaa
open Go.ChangeShapes Go.WideShapes Go.ChangeAt Go.RowKit Lamp

theorem sutner {n : Nat} (hn : n ≤ 16) {l : List (Int × Int)} (hg : goodK (n : Int) l l.length = true) :
    ∃ s, solveL (grL n l true) (2 ^ n - 1) = (true, s) ∧ s < 2 ^ n ∧ comb s (grL n l true) = 2 ^ n - 1 ∧ refuteL (quietL (grL n l true)) (2 ^ n - 1) = (false, 0) := by
  have hl := grL_len hn l true
  have hs : ∀ x ∈ grL n l true, x < 2 ^ n := fun x hx => by
    obtain ⟨i, hi, rfl⟩ := List.getElem_of_mem hx
    have := grL_lt hn hg true i
    simpa [List.getD_eq_getElem?_getD, hi] using this
  have hp := Nat.two_pow_pos n
  have hq : ∀ q ∈ (redAll (grL n l true) n).2, ip q (2 ^ n - 1) = false := fun q hq => by
    obtain ⟨_, h2, h3⟩ := (inv_all hl hn hs).quiet q hq
    have h4 := ip_own (grL_sym hn hg true) (fun i hi => grL_own hn hg i hi) h2
    rw [h3, ip_zero] at h4
    rw [h4]
    unfold ip par
    refine sumB_congr fun i _ => ?_
    rw [Nat.testBit_two_pow_sub_one]
    by_cases hi : i < n
    · simp [hi]
    · rw [Nat.testBit_lt_two_pow (Nat.lt_of_lt_of_le h2 (Nat.pow_le_pow_right (by decide) (by omega)))]
      simp
  have hsol : (solveL (grL n l true) (2 ^ n - 1)).1 = true := by
    cases e : (solveL (grL n l true) (2 ^ n - 1)).1 with
    | true => rfl
    | false =>
      obtain ⟨q, h1, h2⟩ := solve_full hl hn hs (grL_sym hn hg true) (by omega) e
      rw [hq q h1] at h2
      cases h2
  obtain ⟨h1, h2⟩ := solve_right hl hn hs (by omega) hsol
  refine ⟨(solveL (grL n l true) (2 ^ n - 1)).2, Prod.ext hsol rfl, h2, h1, refute_none fun q h => ?_⟩
  unfold quietL at h
  rw [hl] at h
  unfold oddB
  rw [popc_par, par_and]
  exact hq q h

set_option maxRecDepth 100000 in
set_option maxHeartbeats 2000000 in
theorem lsutner_any (a0 : Int) (A : Option Addr) (l : List (Int × Int)) (c : Nat) (w : World) (hr : REdges w w.heap.size A l) (hl : l.length ≤ 9223372036854775807) :
    Calls Try.prog 13 #[.int .i64 a0, .slice A l.length c] w fun e w' => e = .returned (.bool true) ∧ Below w.heap.size w w' := by
  have HT := Lib.hid (tame_any A a0 l c 16 w hr hl (by decide) (by decide))
  have hm := remN_lt a0 (m := 16) (by decide)
  obtain ⟨m, hme⟩ : ∃ m, 1 + remN a0 16 = m := ⟨_, rfl⟩
  have hm1 : 1 ≤ m := by omega
  have hm16 : m ≤ 16 := by omega
  rw [hme] at HT
  obtain ⟨s, hs1, hs2, hs3, hs4⟩ := sutner hm16 (tame_good hm1 hm16 l)
  have HS1 := Lib.hid hs1
  have HS3 := Lib.hid hs3
  have HS4 := Lib.hid hs4
  have hp := Nat.two_pow_pos m
  have hp16 := pow_split hm16
  have hpi : ((2 ^ m : Nat) : Int) = (2 : Int) ^ m := by simp
  obtain ⟨P, hP⟩ : ∃ P, 2 ^ m = P := ⟨_, rfl⟩
  have hP2 : (2 : Int) ^ m = (P : Int) := by rw [← hpi, hP]
  have HSL := Lib.hid hs2
  have HP := Lib.hid hP
  have hsP : s < P := by rw [← hP]; exact hs2
  rw [hP] at hp hp16 HS1 HS3 HS4
  have hwP : IntKind.i64.wrap (P : Int) = (P : Int) := IntWalk.i64_in _ (by omega)
  have hwQ : IntKind.i64.wrap ((P : Int) - 1) = ((P - 1 : Nat) : Int) := by rw [IntWalk.i64_in _ (by omega)]; omega
  have HGR := Lib.hid (fun (w1 : World) (A1 : Option Addr) (h : REdges w1 w1.heap.size A1 (tameL m l)) => tame_gr hm1 hm16 h)
  have HPL := Lib.hid (show P - 1 < 2 ^ m by rw [HP.out]; omega)
  clear hr hl hm hme hs1 hs2 hs3 hs4 hP hpi
  go_enter Try.func13, Try.ntmps13
  go_wp2_with fail
  refine HT.out.mono ?_
  rintro e w1 ⟨v1, rfl, ho1, hb1⟩
  obtain ⟨A1, c1, rfl, hra1⟩ := ho1.reads
  have HB1 := Lib.hid hb1
  have HG1 := Lib.hid (HGR.out w1 A1 hra1)
  clear ho1 hb1 hra1
  go_wp2_with fail
  refine (Solve_ok A1 m (P - 1) (tameL m l) c1 true w1 HG1.out HPL.out).mono ?_
  rintro e w2 ⟨rfl, hb2⟩
  rw [HS1.out]
  have HB2 := Lib.hid (HB1.out.trans (hb2.mono HB1.out.size))
  have HG2 := Lib.hid (HG1.out.up hb2)
  clear hb2
  go_wp2_with fail
  refine (Effect_ok A1 m s (tameL m l) c1 true w2 HG2.out HSL.out).mono ?_
  rintro e w3 ⟨rfl, hb3⟩
  rw [HS3.out]
  have HB3 := Lib.hid (HB2.out.trans (hb3.mono HB2.out.size))
  have HG3 := Lib.hid (HG2.out.up hb3)
  clear hb3
  go_wp2_with fail
  refine (Refute_ok A1 m (P - 1) (tameL m l) c1 true w3 HG3.out HPL.out).mono ?_
  rintro e w4 ⟨rfl, hb4⟩
  rw [HS4.out]
  have HB4 := Lib.hid (HB3.out.trans (hb4.mono HB3.out.size))
  clear hb4
  go_wp2_with fail
  refine (awake4_any w4).mono ?_
  rintro e w5 ⟨rfl, hb5⟩
  go_wp2_with fail
  go_ret
  exact ⟨rfl, HB4.out.trans (hb5.mono HB4.out.size)⟩
set_option maxRecDepth 100000 in
theorem lsutner_row (os : Os) (started : os.Started) (H : Type) (enc : TypeId × Value → H) :
    ReturnsInHanded {} Try.checked os 13 .any (Rows.lightSutnerSpec.pre6 enc Try.prog Try.f13 Rows.lightSutnerRow.domain false) (Rows.lightSutnerSpec.post enc Try.prog Try.f13 false true false false) := by
  refine returnsInHanded_of_change (C := Try.checked) ownNone started (by kernel_rfl) Try.func13
    (ChangeSpec.witness6 (enc := enc) (C := Try.checked) false ⟨#[], #[.int .i64 0, .slice none 0 0], []⟩ 8 (by kernel_rfl) (by kernel_rfl) (by kernel_rfl) (by kernel_rfl)) ?_
  intro W base args ds gs before hval hW _ _
  have hW2 := hW
  obtain ⟨p, q, hA, hV, rfl, _, _⟩ := hW2
  have hA : DataW.TrodAll enc Try.prog W 0 (fun _ => true) true Try.f13.params.toList args.toList ds p := hA
  have hAk := hA
  have hval : ∀ (j : Nat) t v, Try.f13.params[j]? = some t → args[j]? = some v → Value.okWide Try.prog W .any base t v := hval
  rw [Try.params13] at hA hval
  obtain ⟨v0, vs0, d0, ds0, p0, q0, hargs, rfl, rfl, h0, r0⟩ := trodAll_cons hA
  obtain ⟨v1, vs1, d1, ds1, p1, q1, rfl, rfl, rfl, h1, r1⟩ := trodAll_cons r0
  obtain ⟨rfl, rfl, rfl⟩ := trodAll_nil r1
  obtain rfl : args = #[v0, v1] := by cases args; simp_all
  obtain ⟨rfl, rfl⟩ := trodVars_none hV
  obtain ⟨a0, rfl, rfl, rfl, _⟩ := open_int Try.underlying3 (hval 0 3 v0 rfl rfl) h0
  obtain ⟨A1, z1, c1, rfl, _, m1, hr1⟩ := open_edges (hval 1 22 v1 rfl rfl) h1
  clear hA hval
  simp only [List.append_nil, List.nil_append] at hW hAk
  refine (lsutner_any a0 A1 z1 c1 W hr1 m1).mono fun e W' ⟨he, hb⟩ => ?_
  subst he
  exact ⟨_, rfl, post_bool hW hb (by rw [Try.params13]; decide) hAk (fun _ => rfl) rfl rfl (by kernel_rfl)⟩

theorem lsutner_holds : Rows.LightSutnerSaid :=
  OpenClaim.holds_of_wide 13 Try.f13 rfl rfl rfl rfl rfl rfl rfl ⟨rfl, rfl, rfl, rfl, rfl⟩ rfl rfl rfl rfl rfl (by kernel_rfl) Try.func13 (by kernel_rfl)
    (of_decide_eq_true (by kernel_rfl)) (by unfold Func.isWrapper; first | (rw [if_pos (by decide +kernel)]; kernel_rfl) | (rw [if_neg (by decide +kernel)]; exact ⟨rfl, rfl⟩))
    (fun os started H enc _ => lsutner_row os started H enc)

#print axioms lsutner_holds
end Go.Proofs.Ytpdgjjpfahobaaa
