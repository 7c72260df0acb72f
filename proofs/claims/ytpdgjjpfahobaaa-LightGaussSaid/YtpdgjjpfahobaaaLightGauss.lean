/- For every integer n, list of pairs of integers l and pair of integers of: the function LightGauss answers true: 2 to the power n less the number of quiet sets targets are the effect of some set; a solution and quiet sets together are a solution, and none has fewer lamps than Fewest. No conditions. -/
import Derived.Test.YtpdgjjpfahobaaaOpenE
import Derived.Test.YtpdgjjpfahobaaaAwake4
import Derived.Test.YtpdgjjpfahobaaaRSize
import Derived.Test.YtpdgjjpfahobaaaFewL
namespace Go.Proofs.Ytpdgjjpfahobaaa
open Go.ChangeShapes Go.WideShapes Go.ChangeAt Go.RowKit Go.WideMaps Lamp

theorem gauss_math {n : Nat} (hn : n ≤ 16) {l : List (Int × Int)} (hg : goodK (n : Int) l l.length = true) (own : Bool) {t : Nat} (ht : t < 2 ^ n) :
    ∃ sb sv fv, solveL (grL n l own) t = (sb, sv) ∧ fewL (grL n l own) t = (fv, sb) ∧ (∀ q ∈ quietL (grL n l own), q < 2 ^ n ∧ comb q (grL n l own) = 0) ∧
      (sb = true → sv < 2 ^ n ∧ comb sv (grL n l own) = t ∧ fv < 2 ^ n ∧ ∀ y, y < 2 ^ n → comb y (grL n l own) = t → popc fv ≤ popc y) := by
  have hl := grL_len hn l own
  have hs : ∀ x ∈ grL n l own, x < 2 ^ n := fun x hx => by
    obtain ⟨i, hi, rfl⟩ := List.getElem_of_mem hx
    have := grL_lt hn hg own i
    simpa [List.getD_eq_getElem?_getD, hi] using this
  generalize grL n l own = s at hl hs ⊢
  have hQ : quietL s = (redAll s n).2 := by unfold quietL; rw [hl]
  have hI := inv_all hl hn hs
  have hq : ∀ q ∈ quietL s, q < 2 ^ n ∧ comb q s = 0 := fun q h => by
    rw [hQ] at h
    exact ⟨(hI.quiet q h).2.1, (hI.quiet q h).2.2⟩
  cases e : (solveL s t).1 with
  | false => exact ⟨false, (solveL s t).2, 0, Prod.ext e rfl, few_none e, hq, fun h => by cases h⟩
  | true =>
    obtain ⟨h1, h2⟩ := solve_right hl hn hs ht e
    obtain ⟨f1, f2, f3, f4⟩ := few_right hl hn hs ht e
    refine ⟨true, (solveL s t).2, (fewL s t).1, Prod.ext e rfl, Prod.ext rfl (by rw [f1]), hq, fun _ => ⟨h2, h1, f3, fun y hy hyt => ?_⟩⟩
    have := f4 y hy hyt
    rw [keyLt_not] at this
    omega

set_option maxRecDepth 100000 in
set_option maxHeartbeats 8000000 in
theorem lgauss_any (a0 : Int) (A : Option Addr) (l : List (Int × Int)) (c : Nat) (p q : Int) (w : World) (hr : REdges w w.heap.size A l) (hl : l.length ≤ 9223372036854775807) :
    Calls Try.prog 12 #[.int .i64 a0, .slice A l.length c, .agg #[.int .i64 p, .int .i64 q]] w fun e w' => e = .returned (.bool true) ∧ Below w.heap.size w w' := by
  obtain ⟨W0, hW0⟩ : ∃ W0, w.alloc (Obj.cells #[Value.int .i64 p, Value.int .i64 q] 41) = W0 := ⟨_, rfl⟩
  have hb0 : Below w.heap.size w W0 := by rw [← hW0]; exact (Below.refl _ w).alloc (Nat.le_refl _) _
  have HX0 := Lib.hid (show Box W0 w.heap.size 41 #[Value.int .i64 p, Value.int .i64 q] by rw [← hW0]; exact Box.new w _ _)
  have HT := Lib.hid (tame_any A a0 l c 12 W0 (hr.up hb0) hl (by decide) (by decide))
  have HB0 := Lib.hid hb0
  have hm := remN_lt a0 (m := 12) (by decide)
  obtain ⟨m, hme⟩ : ∃ m, 1 + remN a0 12 = m := ⟨_, rfl⟩
  have hm1 : 1 ≤ m := by omega
  have hm16 : m ≤ 16 := by omega
  rw [hme] at HT
  have hp1 : 1 ≤ 2 ^ m := Nat.one_le_two_pow
  have hx := remN_lt p hp1
  obtain ⟨x, hxe⟩ : ∃ x, remN p (2 ^ m) = x := ⟨_, rfl⟩
  have HSX := Lib.hid (fun W => set_any p m W hm16)
  rw [hxe] at hx HSX
  have HXL := Lib.hid hx
  have hp16 := pow_split hm16
  have hx16 : x < 65536 := by omega
  have HGR := Lib.hid (fun (w1 : World) (A1 : Option Addr) (h : REdges w1 w1.heap.size A1 (tameL m l)) => tame_gr hm1 hm16 h)
  have HRM := Lib.hid (fun own => gauss_math hm16 (tame_good hm1 hm16 l) own hx)
  have HQL := Lib.hid (fun own => quiet_len hm16 (tameL m l) own)
  have hb0s := hb0.size
  have hpi : ((2 ^ m : Nat) : Int) = (2 : Int) ^ m := by simp
  obtain ⟨P, hP⟩ : ∃ P, 2 ^ m = P := ⟨_, rfl⟩
  have hP2 : (2 : Int) ^ m = (P : Int) := by rw [← hpi, hP]
  have HP := Lib.hid hP
  rw [hP] at hp16
  have hwP : IntKind.i64.wrap (P : Int) = (P : Int) := IntWalk.i64_in _ (by omega)
  clear hr hl hm hme hxe hb0 hp1 hx hpi hP
  go_enter Try.func12, Try.ntmps12
  go_wp2_with fail
  clear hW0
  refine HT.out.mono ?_
  rintro e w1 ⟨v1, rfl, ho1, hb1⟩
  obtain ⟨A1, c1, rfl, hra1⟩ := ho1.reads
  have hlt0 := HX0.out.lt
  have hx1 := HX0.out.below hb1 hlt0
  have c0 := hx1.cell 0
  simp only [List.getElem?_toArray, List.getElem?_cons_zero] at c0
  have HX1 := Lib.hid hx1
  have HB1 := Lib.hid (show Below w.heap.size w w1 from HB0.out.trans (hb1.mono hb0s))
  have HG1 := Lib.hid (HGR.out w1 A1 hra1)
  clear ho1 hb1 hra1 hx1 HT HX0 HB0 hlt0
  go_wp2_with fail
  refine (HSX.out _).mono ?_
  rintro e w' ⟨rfl, rfl⟩
  clear c0
  go_wp2_with fail
  go_loopw [9] (fun i wr => ∃ k : Nat, i = .int .i64 k ∧ k ≤ 2 ∧ Hid (Below w.heap.size w wr) ∧ Hid (Gr wr A1 m (tameL m l)) ∧ Hid (Box wr w.heap.size 41 #[Value.int .i64 p, Value.int .i64 q])) (fun i _ => 2 - (intOf i).toNat)
  case atStart => exact ⟨0, rfl, by omega, HB1, HG1, HX1⟩
  case round =>
    obtain ⟨k, rfl, hk, HB2, HG2, HX2⟩ := hrel
    have HB := HB2
    have HG := HG2
    have HX := HX2
    clear HB1 HG1 HX1 HB2 HG2 HX2
    by_cases hlt : k < 2
    · obtain ⟨own, how⟩ : ∃ own, ((k : Int) == 0) = own := ⟨_, rfl⟩
      obtain ⟨sb, sv, fv, hsv, hfv, hq, hT⟩ := HRM.out own
      have hql := HQL.out own
      have HSV := Lib.hid hsv
      have HFV := Lib.hid hfv
      rw [HP.out] at hq hT
      obtain ⟨s, hs⟩ : ∃ s, grL m (tameL m l) own = s := ⟨_, rfl⟩
      rw [hs] at hq hT hql
      obtain ⟨Q, hQ⟩ : ∃ Q, quietL s = Q := ⟨_, rfl⟩
      rw [hQ] at hq hql
      have HQE := Lib.hid hQ
      have HQQ := Lib.hid hq
      have HTT := Lib.hid hT
      have HSG := Lib.hid hs
      have hlt' : (k : Int) < 2 := by omega
      obtain ⟨d, hd⟩ : ∃ d, m - Q.length = d := ⟨_, rfl⟩
      have hdi : (m : Int) - (Q.length : Int) = (d : Int) := by omega
      have hd16 : d ≤ 16 := by omega
      have hdp16 := pow_split hd16
      have hdpi : ((2 ^ d : Nat) : Int) = (2 : Int) ^ d := by simp
      obtain ⟨D, hD⟩ : ∃ D, 2 ^ d = D := ⟨_, rfl⟩
      have hD2 : (2 : Int) ^ d = (D : Int) := by rw [← hdpi, hD]
      have HDD := Lib.hid (show 2 ^ (m - Q.length) = D by rw [hd, hD])
      rw [hD] at hdp16
      have hwD : IntKind.i64.wrap (D : Int) = (D : Int) := IntWalk.i64_in _ (by omega)
      have hql' : (Q.length : Int) ≤ (m : Int) := by omega
      clear hs hq hT hQ hsv hfv hd hdpi hD
      go_wp2_with fail
      refine (Quiet_ok A1 m (tameL m l) c1 own wr HG.out).mono ?_
      rintro e w2 ⟨v2, rfl, ho2, hb2⟩
      rw [HSG.out, HQE.out] at ho2
      obtain ⟨A2, c2, hv2, hr2⟩ := ho2.reads
      rw [natV_len] at hv2
      subst hv2
      have HR2 := Lib.hid hr2
      have HB2 := Lib.hid (HB.out.trans (hb2.mono HB.out.size))
      have HG2 := Lib.hid (HG.out.up hb2)
      have HX2 := Lib.hid (HX.out.below hb2 HX.out.lt)
      clear hb2 ho2 hr2
      go_wp2_with fail
      refine (Reachable_ok A1 m (tameL m l) c1 own w2 HG2.out).mono ?_
      rintro e w3 ⟨rfl, hb3⟩
      rw [HSG.out, HQE.out, HDD.out]
      have HB3 := Lib.hid (HB2.out.trans (hb3.mono HB2.out.size))
      have HG3 := Lib.hid (HG2.out.up hb3)
      have HX3 := Lib.hid (HX2.out.below hb3 HX2.out.lt)
      have HR3 := Lib.hid ((HR2.out.below hb3).more hb3.size)
      clear hb3
      go_wp2_with fail
      refine (Solve_ok A1 m x (tameL m l) c1 own w3 HG3.out HXL.out).mono ?_
      rintro e w4 ⟨rfl, hb4⟩
      rw [HSV.out]
      have HB4 := Lib.hid (HB3.out.trans (hb4.mono HB3.out.size))
      have HG4 := Lib.hid (HG3.out.up hb4)
      have HX4 := Lib.hid (HX3.out.below hb4 HX3.out.lt)
      have HR4 := Lib.hid ((HR3.out.below hb4).more hb4.size)
      clear hb4
      go_wp2_with fail
      refine (Fewest_ok A1 m x (tameL m l) c1 own w4 HG4.out HXL.out).mono ?_
      rintro e w5 ⟨rfl, hb5⟩
      rw [HFV.out]
      have HB5 := Lib.hid (HB4.out.trans (hb5.mono HB4.out.size))
      have HG5 := Lib.hid (HG4.out.up hb5)
      have HX5 := Lib.hid (HX4.out.below hb5 HX4.out.lt)
      have HR5 := Lib.hid ((HR4.out.below hb5).more hb5.size)
      clear hb5 HX2 HX3 HX4 HG2 HG3 HG4 HB2 HB3 HB4 HR2 HR3 HR4 HB HG HX
      cases sb
      · clear hdi hD2 hwD
        go_wp2_with fail
        go_roundw
        case rel => exact ⟨k + 1, by go_num, by omega, HB5, HG5, HX5⟩
        case measure => simp [intOf]; omega
      · obtain ⟨h1, h2, h3, h4⟩ := HTT.out rfl
        have HT2 := Lib.hid h2
        have HT4 := Lib.hid h4
        clear h2 h4
        go_wp2_with fail
        clear hdi hD2 hwD
        have HHOW := Lib.hid how
        clear how
        go_loop [14, 20] (fun sx i => ∃ (j cur : Nat), sx = .int .i64 (cur : Nat) ∧ i = .int .i64 (j : Nat) ∧ j ≤ Q.length ∧ cur < P ∧ Hid (comb cur s = x)) (fun _ i => Q.length - (intOf i).toNat)
        case atStart => exact ⟨0, sv, rfl, rfl, by omega, h1, HT2⟩
        case round =>
          obtain ⟨j, cur, rfl, rfl, hj, hcur, HC1⟩ := hrel
          have HC := HC1
          clear HC1
          by_cases hjq : j < Q.length
          · obtain ⟨b, o, z, hA, hb, hz, hcz⟩ := HR5.out.at_ (k := j) (by rw [natV_len]; exact hjq)
            subst hA
            obtain ⟨y, rfl, HY⟩ : ∃ y : Nat, z = (y : Int) ∧ Hid (Q[j]? = some y) := by
              have h5 := natV_at hz
              refine ⟨Q.getD j 0, h5.1, Lib.hid ?_⟩
              rw [List.getD_eq_getElem?_getD, List.getElem?_eq_getElem hjq]; rfl
            obtain ⟨hy1, hy2⟩ := HQQ.out y (List.mem_of_getElem? HY.out)
            have hxr := i64_xor cur y (by omega) (by omega)
            have HN := Lib.hid (show comb (cur ^^^ y) s = x by rw [comb_xor, hy2, HC.out, Nat.xor_zero])
            have hcl : cur ^^^ y < P := by
              rw [← HP.out] at hcur hy1 ⊢
              exact Nat.xor_lt_two_pow hcur hy1
            have c1' := HX5.out.cell 1
            simp only [List.getElem?_toArray, List.getElem?_cons_zero, List.getElem?_cons_succ] at c1'
            have hj60 : (j : Int) % 60 = (j : Int) := by omega
            have hjq' : (j : Int) < (Q.length : Int) := by omega
            clear hz hy2
            go_wp2_with fail
            · go_round
              case rel => exact ⟨j + 1, cur ^^^ y, rfl, by go_num, by omega, hcl, HN⟩
              case measure => simp [intOf]; omega
            · go_round
              case rel => exact ⟨j + 1, cur, rfl, by go_num, by omega, hcur, HC⟩
              case measure => simp [intOf]; omega
          · obtain rfl : j = Q.length := by omega
            have h5 := HT4.out cur hcur HC.out
            have how := HHOW.out
            obtain ⟨pf, hpf⟩ : ∃ z, popc fv = z := ⟨_, rfl⟩
            obtain ⟨pc, hpc⟩ : ∃ z, popc cur = z := ⟨_, rfl⟩
            rw [hpf, hpc] at h5
            have HPF := Lib.hid hpf
            have HPC := Lib.hid hpc
            have hcur2 := HP.out
            have HCU := Lib.hid (show cur < 2 ^ m by rw [HP.out]; exact hcur)
            have h5' : (pf : Int) ≤ (pc : Int) := by omega
            have hf16 : fv < 65536 := by omega
            have hc16 : cur < 65536 := by omega
            clear hpf hpc hcur2 h5
            go_wp2_with (first
              | (go_at_call 49; with_reducible refine (RSize_of _ _ rfl hf16 HPF.out).mono ?_; rintro e w' ⟨rfl, rfl⟩)
              | (go_at_call 49; with_reducible refine (RSize_of _ _ rfl hc16 HPC.out).mono ?_; rintro e w' ⟨rfl, rfl⟩))
            refine (Effect_ok A1 m cur (tameL m l) c1 own w5 HG5.out HCU.out).mono ?_
            rintro e w6 ⟨rfl, hb6⟩
            rw [HSG.out, HC.out]
            have HB6 := Lib.hid (HB5.out.trans (hb6.mono HB5.out.size))
            have HG6 := Lib.hid (HG5.out.up hb6)
            have HX6 := Lib.hid (HX5.out.below hb6 HX5.out.lt)
            clear hb6
            go_wp2_with fail
            go_roundw
            case rel => exact ⟨k + 1, by go_num, by omega, HB6, HG6, HX6⟩
            case measure => simp [intOf]; omega
    · obtain rfl : k = 2 := by omega
      go_wp2_with fail
      refine (awake4_any wr).mono ?_
      rintro e w2 ⟨rfl, hb2⟩
      go_wp2_with fail
      go_ret
      exact ⟨rfl, HB.out.trans (hb2.mono HB.out.size)⟩
set_option maxRecDepth 100000 in
theorem lgauss_row (os : Os) (started : os.Started) (H : Type) (enc : TypeId × Value → H) :
    ReturnsInHanded {} Try.checked os 12 .any (Rows.lightGaussSpec.pre6 enc Try.prog Try.f12 Rows.lightGaussRow.domain false) (Rows.lightGaussSpec.post enc Try.prog Try.f12 false true false false) := by
  refine returnsInHanded_of_change (C := Try.checked) ownNone started (by kernel_rfl) Try.func12
    (ChangeSpec.witness6 (enc := enc) (C := Try.checked) false ⟨#[], #[.int .i64 0, .slice none 0 0, .agg #[.int .i64 0, .int .i64 0]], []⟩ 8 (by kernel_rfl) (by kernel_rfl) (by kernel_rfl) (by kernel_rfl)) ?_
  intro W base args ds gs before hval hW _ _
  have hW2 := hW
  obtain ⟨p, q, hA, hV, rfl, _, _⟩ := hW2
  have hA : DataW.TrodAll enc Try.prog W 0 (fun _ => true) true Try.f12.params.toList args.toList ds p := hA
  have hAk := hA
  have hval : ∀ (j : Nat) t v, Try.f12.params[j]? = some t → args[j]? = some v → Value.okWide Try.prog W .any base t v := hval
  rw [Try.params12] at hA hval
  obtain ⟨v0, vs0, d0, ds0, p0, q0, hargs, rfl, rfl, h0, r0⟩ := trodAll_cons hA
  obtain ⟨v1, vs1, d1, ds1, p1, q1, rfl, rfl, rfl, h1, r1⟩ := trodAll_cons r0
  obtain ⟨v2, vs2, d2, ds2, p2, q2, rfl, rfl, rfl, h2, r2⟩ := trodAll_cons r1
  obtain ⟨rfl, rfl, rfl⟩ := trodAll_nil r2
  obtain rfl : args = #[v0, v1, v2] := by cases args; simp_all
  obtain ⟨rfl, rfl⟩ := trodVars_none hV
  obtain ⟨a0, rfl, rfl, rfl, w0⟩ := open_int Try.underlying3 (hval 0 3 v0 rfl rfl) h0
  obtain ⟨A1, z1, c1, rfl, _, m1, hr1⟩ := open_edges (hval 1 22 v1 rfl rfl) h1
  obtain ⟨x2, y2, rfl, rfl, rfl, _, _⟩ := open_pair Try.arrKey41 Try.underlying3 (hval 2 41 v2 rfl rfl) h2
  clear hA hval
  simp only [List.append_nil, List.nil_append] at hW hAk
  refine (lgauss_any a0 A1 z1 c1 x2 y2 W hr1 m1).mono fun e W' ⟨he, hb⟩ => ?_
  subst he
  exact ⟨_, rfl, post_bool hW hb (by rw [Try.params12]; decide) hAk (fun _ => rfl) rfl rfl (by kernel_rfl)⟩

theorem lgauss_holds : Rows.LightGaussSaid :=
  OpenClaim.holds_of_wide 12 Try.f12 rfl rfl rfl rfl rfl rfl rfl ⟨rfl, rfl, rfl, rfl, rfl⟩ rfl rfl rfl rfl rfl (by kernel_rfl) Try.func12 (by kernel_rfl)
    (of_decide_eq_true (by kernel_rfl)) (by unfold Func.isWrapper; first | (rw [if_pos (by decide +kernel)]; kernel_rfl) | (rw [if_neg (by decide +kernel)]; exact ⟨rfl, rfl⟩))
    (fun os started H enc _ => lgauss_row os started H enc)

#print axioms lgauss_holds
end Go.Proofs.Ytpdgjjpfahobaaa
