/- For every integer n, list of pairs of integers l and integer target: the function LightSolves answers true: Solve returns a set with the target as its effect just if the reference's search through all sets finds one, and Fewest returns the one that this search finds. No conditions. -/
import Derived.Test.YtpdgjjpfahobaaaOpenE
import Derived.Test.YtpdgjjpfahobaaaAwake4
import Derived.Test.YtpdgjjpfahobaaaRFewest
namespace Go.Proofs.Ytpdgjjpfahobaaa
open Go.ChangeShapes Go.WideShapes Go.ChangeAt Go.RowKit Go.WideMaps Lamp

theorem solves_math {n : Nat} (hn : n ≤ 16) {l : List (Int × Int)} (hg : goodK (n : Int) l l.length = true) (own : Bool) {t : Nat} (ht : t < 2 ^ n) :
    ∃ sb sv fv, solveL (grL n l own) t = (sb, sv) ∧ fewL (grL n l own) t = (fv, sb) ∧
      (sb = true → sv < 2 ^ n ∧ comb sv (grL n l own) = t ∧ fT (grL n l own) t (2 ^ n) = (fv : Nat)) ∧ (sb = false → sv = 0 ∧ fv = 0 ∧ fT (grL n l own) t (2 ^ n) = -1) := by
  have hl := grL_len hn l own
  have hs : ∀ x ∈ grL n l own, x < 2 ^ n := fun x hx => by
    obtain ⟨i, hi, rfl⟩ := List.getElem_of_mem hx
    have := grL_lt hn hg own i
    simpa [List.getD_eq_getElem?_getD, hi] using this
  have hy := grL_sym hn hg own
  generalize grL n l own = s at hl hs hy ⊢
  have hf := fT_few hl hn hs hy ht
  cases e : (solveL s t).1 with
  | false =>
    rw [e] at hf
    have h := hf.resolve_right (fun h => by cases h.1)
    exact ⟨false, 0, 0, solve_zero e, few_none e, (fun h => by cases h), fun _ => ⟨rfl, rfl, h.2⟩⟩
  | true =>
    rw [e] at hf
    have h := hf.resolve_left (fun h => by cases h.1)
    obtain ⟨h1, h2⟩ := solve_right hl hn hs ht e
    obtain ⟨f1, _⟩ := few_right hl hn hs ht e
    exact ⟨true, (solveL s t).2, (fewL s t).1, Prod.ext e rfl, Prod.ext rfl (by rw [f1]), (fun _ => ⟨h2, h1, h.2⟩), fun h => by cases h⟩

set_option maxRecDepth 100000 in
set_option maxHeartbeats 8000000 in
theorem lsolves_any (a0 : Int) (A : Option Addr) (l : List (Int × Int)) (c : Nat) (p : Int) (w : World) (hr : REdges w w.heap.size A l) (hl : l.length ≤ 9223372036854775807) :
    Calls Try.prog 5 #[.int .i64 a0, .slice A l.length c, .int .i64 p] w fun e w' => e = .returned (.bool true) ∧ Below w.heap.size w w' := by
  have HT := Lib.hid (tame_any A a0 l c 11 w hr hl (by decide) (by decide))
  have hm := remN_lt a0 (m := 11) (by decide)
  obtain ⟨m, hme⟩ : ∃ m, 1 + remN a0 11 = m := ⟨_, rfl⟩
  have hm1 : 1 ≤ m := by omega
  have hm16 : m ≤ 16 := by omega
  rw [hme] at HT
  have hp1 : 1 ≤ 2 ^ m := Nat.one_le_two_pow
  have hx := remN_lt p hp1
  obtain ⟨x, hxe⟩ : ∃ x, remN p (2 ^ m) = x := ⟨_, rfl⟩
  have HSX := Lib.hid (fun W => set_any p m W hm16)
  rw [hxe] at hx HSX
  have HXL := Lib.hid hx
  have hp16 := pow_split hm16
  have hx16 : x < 65536 := by omega
  have HGR := Lib.hid (fun (w1 : World) (A1 : Option Addr) (h : REdges w1 w1.heap.size A1 (tameL m l)) => tame_gr hm1 hm16 h)
  have HRM := Lib.hid (fun own => solves_math hm16 (tame_good hm1 hm16 l) own hx)
  have HSP := Lib.hid (fun own => show ∀ z ∈ grL m (tameL m l) own, z < 2 ^ m from fun z hz => by
    obtain ⟨i, hi, rfl⟩ := List.getElem_of_mem hz
    have := grL_lt hm16 (tame_good hm1 hm16 l) own i
    simpa [List.getD_eq_getElem?_getD, hi] using this)
  have hpi : ((2 ^ m : Nat) : Int) = (2 : Int) ^ m := by simp
  obtain ⟨P, hP⟩ : ∃ P, 2 ^ m = P := ⟨_, rfl⟩
  have hP2 : (2 : Int) ^ m = (P : Int) := by rw [← hpi, hP]
  have HP := Lib.hid hP
  rw [hP] at hp16 hx HRM HSP
  have hwP : IntKind.i64.wrap (P : Int) = (P : Int) := IntWalk.i64_in _ (by omega)
  have hxP : (x : Int) < (P : Int) := by omega
  clear hr hl hm hme hxe hp1 hx hpi hP
  go_enter Try.func5, Try.ntmps5
  go_wp2_with fail
  refine HT.out.mono ?_
  rintro e w1 ⟨v1, rfl, ho1, hb1⟩
  obtain ⟨A1, c1, rfl, hra1⟩ := ho1.reads
  have HB1 := Lib.hid hb1
  have HG1 := Lib.hid (HGR.out w1 A1 hra1)
  clear ho1 hb1 hra1 HT
  go_wp2_with fail
  refine (HSX.out _).mono ?_
  rintro e w' ⟨rfl, rfl⟩
  go_wp2_with fail
  go_loopw [9] (fun i wr => ∃ k : Nat, i = .int .i64 k ∧ k ≤ 2 ∧ Hid (Below w.heap.size w wr) ∧ Hid (Gr wr A1 m (tameL m l))) (fun i _ => 2 - (intOf i).toNat)
  case atStart => exact ⟨0, rfl, by omega, HB1, HG1⟩
  case round =>
    obtain ⟨k, rfl, hk, HB2, HG2⟩ := hrel
    have HB := HB2
    have HG := HG2
    clear HB1 HG1 HB2 HG2
    by_cases hlt : k < 2
    · obtain ⟨own, how⟩ : ∃ own, ((k : Int) == 0) = own := ⟨_, rfl⟩
      have hsl := grL_len hm16 (tameL m l) own
      obtain ⟨sb, sv, fv, hsv, hfv, hT, hF⟩ := HRM.out own
      have hsP := HSP.out own
      have HSV := Lib.hid hsv
      have HFV := Lib.hid hfv
      obtain ⟨s, hs⟩ : ∃ s, grL m (tameL m l) own = s := ⟨_, rfl⟩
      rw [hs] at hT hF hsl hsP
      obtain ⟨z, hz⟩ : ∃ z, fT s x P = z := ⟨_, rfl⟩
      rw [hz] at hT hF
      have HZ := Lib.hid hz
      have HTT := Lib.hid hT
      have HFF := Lib.hid hF
      have HSG := Lib.hid hs
      have HSL := Lib.hid hsl
      have HS65 := Lib.hid (show ∀ z ∈ s, z < 65536 from fun z hz => by have := hsP z hz; omega)
      have HSPP := Lib.hid hsP
      have hlt' : (k : Int) < 2 := by omega
      clear hs hsl hT hF hz hsv hfv hsP
      go_wp2_with fail
      refine (Near_any A1 m (tameL m l) c1 own wr HG.out).mono ?_
      rintro e w2 ⟨rfl, hx2, hb2⟩
      rw [HSG.out] at hx2
      have HB2 := Lib.hid (HB.out.trans (hb2.mono HB.out.size))
      have HG2 := Lib.hid (HG.out.up hb2)
      have HX2 := Lib.hid hx2
      clear hb2 hx2
      obtain ⟨g, hg⟩ : ∃ g, wr.heap.size = g := ⟨_, rfl⟩
      rw [hg] at HX2 ⊢
      clear hg
      go_wp2_with fail
      refine (RFewest_any HX2.out HSL.out hm16 HP.out HSPP.out).mono ?_
      rintro e w3 ⟨rfl, hx3, hb3⟩
      have HB3 := Lib.hid (HB2.out.trans (hb3.mono HB2.out.size))
      have HG3 := Lib.hid (HG2.out.up hb3)
      have HX3 := Lib.hid (HX2.out.below hb3 HX2.out.lt)
      have c3 := hx3.cell x
      rw [zC_at _ _ (by rw [fcells_len]; omega), fcells_at _ _ _ _ (by omega), HZ.out] at c3
      clear hb3 hx3
      go_wp2_with fail
      clear c3
      refine (Solve_ok A1 m x (tameL m l) c1 own w3 HG3.out HXL.out).mono ?_
      rintro e w4 ⟨rfl, hb4⟩
      rw [HSV.out]
      have HB4 := Lib.hid (HB3.out.trans (hb4.mono HB3.out.size))
      have HG4 := Lib.hid (HG3.out.up hb4)
      have HX4 := Lib.hid (HX3.out.below hb4 HX3.out.lt)
      clear hb4
      go_wp2_with fail
      refine (Fewest_ok A1 m x (tameL m l) c1 own w4 HG4.out HXL.out).mono ?_
      rintro e w5 ⟨rfl, hb5⟩
      rw [HFV.out]
      have HB5 := Lib.hid (HB4.out.trans (hb5.mono HB4.out.size))
      have HG5 := Lib.hid (HG4.out.up hb5)
      have HX5 := Lib.hid (HX4.out.below hb5 HX4.out.lt)
      clear hb5 HX2 HX3 HX4 HG2 HG3 HG4 HB2 HB3 HB4 how
      cases sb
      · obtain ⟨h1, h2, h3⟩ := HFF.out rfl
        clear HSV HFV HZ HTT HFF
        subst h1 h2 h3
        go_wp2_with fail
        go_roundw
        case rel => exact ⟨k + 1, by go_num, by omega, HB5, HG5⟩
        case measure => simp [intOf]; omega
      · obtain ⟨h1, h2, h3⟩ := HTT.out rfl
        have HC := Lib.hid h2
        have hs16 : sv < 65536 := by omega
        clear HSV HFV HZ HTT HFF h2
        subst h3
        go_wp2_with (go_at_call 34; refine (REffect_box HX5.out HSL.out hm16 HS65.out hs16 HC.out).mono ?_; rintro e w' ⟨rfl, rfl⟩)
        go_roundw
        case rel => exact ⟨k + 1, by go_num, by omega, HB5, HG5⟩
        case measure => simp [intOf]; omega
    · obtain rfl : k = 2 := by omega
      go_wp2_with fail
      refine (awake4_any wr).mono ?_
      rintro e w2 ⟨rfl, hb2⟩
      go_wp2_with fail
      go_ret
      exact ⟨rfl, HB.out.trans (hb2.mono HB.out.size)⟩
set_option maxRecDepth 100000 in
theorem lsolves_row (os : Os) (started : os.Started) (H : Type) (enc : TypeId × Value → H) :
    ReturnsInHanded {} Try.checked os 5 .any (Rows.lightSolvesSpec.pre6 enc Try.prog Try.f5 Rows.lightSolvesRow.domain false) (Rows.lightSolvesSpec.post enc Try.prog Try.f5 false true false false) := by
  refine returnsInHanded_of_change (C := Try.checked) ownNone started (by kernel_rfl) Try.func5
    (ChangeSpec.witness6 (enc := enc) (C := Try.checked) false ⟨#[], #[.int .i64 0, .slice none 0 0, .int .i64 0], []⟩ 8 (by kernel_rfl) (by kernel_rfl) (by kernel_rfl) (by kernel_rfl)) ?_
  intro W base args ds gs before hval hW _ _
  have hW2 := hW
  obtain ⟨p, q, hA, hV, rfl, _, _⟩ := hW2
  have hA : DataW.TrodAll enc Try.prog W 0 (fun _ => true) true Try.f5.params.toList args.toList ds p := hA
  have hAk := hA
  have hval : ∀ (j : Nat) t v, Try.f5.params[j]? = some t → args[j]? = some v → Value.okWide Try.prog W .any base t v := hval
  rw [Try.params5] at hA hval
  obtain ⟨v0, vs0, d0, ds0, p0, q0, hargs, rfl, rfl, h0, r0⟩ := trodAll_cons hA
  obtain ⟨v1, vs1, d1, ds1, p1, q1, rfl, rfl, rfl, h1, r1⟩ := trodAll_cons r0
  obtain ⟨v2, vs2, d2, ds2, p2, q2, rfl, rfl, rfl, h2, r2⟩ := trodAll_cons r1
  obtain ⟨rfl, rfl, rfl⟩ := trodAll_nil r2
  obtain rfl : args = #[v0, v1, v2] := by cases args; simp_all
  obtain ⟨rfl, rfl⟩ := trodVars_none hV
  obtain ⟨a0, rfl, rfl, rfl, w0⟩ := open_int Try.underlying3 (hval 0 3 v0 rfl rfl) h0
  obtain ⟨A1, z1, c1, rfl, _, m1, hr1⟩ := open_edges (hval 1 22 v1 rfl rfl) h1
  obtain ⟨a2, rfl, rfl, rfl, w2⟩ := open_int Try.underlying3 (hval 2 3 v2 rfl rfl) h2
  clear hA hval
  simp only [List.append_nil, List.nil_append] at hW hAk
  refine (lsolves_any a0 A1 z1 c1 a2 W hr1 m1).mono fun e W' ⟨he, hb⟩ => ?_
  subst he
  exact ⟨_, rfl, post_bool hW hb (by rw [Try.params5]; decide) hAk (fun _ => rfl) rfl rfl (by kernel_rfl)⟩

theorem lsolves_holds : Rows.LightSolvesSaid :=
  OpenClaim.holds_of_wide 5 Try.f5 rfl rfl rfl rfl rfl rfl rfl ⟨rfl, rfl, rfl, rfl, rfl⟩ rfl rfl rfl rfl rfl (by kernel_rfl) Try.func5 (by kernel_rfl)
    (of_decide_eq_true (by kernel_rfl)) (by unfold Func.isWrapper; first | (rw [if_pos (by decide +kernel)]; kernel_rfl) | (rw [if_neg (by decide +kernel)]; exact ⟨rfl, rfl⟩))
    (fun os started H enc _ => lsolves_row os started H enc)

#print axioms lsolves_holds
end Go.Proofs.Ytpdgjjpfahobaaa
