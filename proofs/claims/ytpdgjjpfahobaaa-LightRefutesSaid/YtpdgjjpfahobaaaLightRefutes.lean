/- For every integer n, list of pairs of integers l and pair of integers of: the function LightRefutes answers true: a target has a refutation just if no set has it as its effect; what refutes is quiet and has an odd number of lamps in common with it. No conditions. -/
import Derived.Test.YtpdgjjpfahobaaaOpenE
import Derived.Test.YtpdgjjpfahobaaaAwake4
import Derived.Test.YtpdgjjpfahobaaaRSize
import Derived.Test.YtpdgjjpfahobaaaSolveL
namespace Go.Proofs.Ytpdgjjpfahobaaa
open Go.ChangeShapes Go.WideShapes Go.ChangeAt Go.RowKit Go.WideMaps Lamp

theorem oddB_ip (x y : Nat) : oddB (x &&& y) = ip x y := by unfold oddB; rw [popc_par, par_and]
theorem refute_math {n : Nat} (hn : n ≤ 16) {l : List (Int × Int)} (hg : goodK (n : Int) l l.length = true) (own : Bool) {t : Nat} (ht : t < 2 ^ n) :
    ∃ rb r sv, refuteL (quietL (grL n l own)) t = (rb, r) ∧ solveL (grL n l own) t = (!rb, sv) ∧ r < 2 ^ n ∧ sv < 2 ^ n ∧ (rb = true → comb r (grL n l own) = 0 ∧ oddB (t &&& r) = true) ∧ (rb = false → comb sv (grL n l own) = t ∧ r = 0) := by
  have hl := grL_len hn l own
  have hs : ∀ x ∈ grL n l own, x < 2 ^ n := fun x hx => by
    obtain ⟨i, hi, rfl⟩ := List.getElem_of_mem hx
    have := grL_lt hn hg own i
    simpa [List.getD_eq_getElem?_getD, hi] using this
  have hy := grL_sym hn hg own
  have hp := Nat.two_pow_pos n
  generalize grL n l own = s at hl hs hy ⊢
  have hQ : quietL s = (redAll s n).2 := by unfold quietL; rw [hl]
  have hI := inv_all hl hn hs
  cases e : (solveL s t).1 with
  | true =>
    obtain ⟨h1, h2⟩ := solve_right hl hn hs ht e
    refine ⟨false, 0, (solveL s t).2, refute_none (fun q hq => ?_), Prod.ext e rfl, hp, h2, (fun h => by cases h), fun _ => ⟨h1, rfl⟩⟩
    rw [hQ] at hq
    rw [oddB_ip, ← h1, ip_sym hy, (hI.quiet q hq).2.2, ip_zero]
  | false =>
    have hz := solve_zero e
    obtain ⟨q, h1, h2⟩ := solve_full hl hn hs hy ht e
    cases hf : (quietL s).find? (fun q => oddB (q &&& t)) with
    | none =>
      rw [hQ] at hf
      have := List.find?_eq_none.1 hf q h1
      rw [oddB_ip, h2] at this
      simp at this
    | some r =>
      have hr := List.find?_some hf
      have hm := List.mem_of_find?_eq_some hf
      rw [hQ] at hm
      refine ⟨true, r, 0, by unfold refuteL; rw [hf], hz, (hI.quiet r hm).2.1, hp, fun _ => ⟨(hI.quiet r hm).2.2, ?_⟩, fun h => by cases h⟩
      rw [Nat.and_comm]
      simpa using hr

set_option maxRecDepth 100000 in
set_option maxHeartbeats 8000000 in
theorem lref_any (a0 : Int) (A : Option Addr) (l : List (Int × Int)) (c : Nat) (p q : Int) (w : World) (hr : REdges w w.heap.size A l) (hl : l.length ≤ 9223372036854775807) :
    Calls Try.prog 7 #[.int .i64 a0, .slice A l.length c, .agg #[.int .i64 p, .int .i64 q]] w fun e w' => e = .returned (.bool true) ∧ Below w.heap.size w w' := by
  obtain ⟨W0, hW0⟩ : ∃ W0, w.alloc (Obj.cells #[Value.int .i64 p, Value.int .i64 q] 41) = W0 := ⟨_, rfl⟩
  have hb0 : Below w.heap.size w W0 := by rw [← hW0]; exact (Below.refl _ w).alloc (Nat.le_refl _) _
  have HX0 := Lib.hid (show Box W0 w.heap.size 41 #[Value.int .i64 p, Value.int .i64 q] by rw [← hW0]; exact Box.new w _ _)
  have HT := Lib.hid (tame_any A a0 l c 12 W0 (hr.up hb0) hl (by decide) (by decide))
  have HB0 := Lib.hid hb0
  have hm := remN_lt a0 (m := 12) (by decide)
  obtain ⟨m, hme⟩ : ∃ m, 1 + remN a0 12 = m := ⟨_, rfl⟩
  have hm1 : 1 ≤ m := by omega
  have hm16 : m ≤ 16 := by omega
  rw [hme] at HT
  have hp1 : 1 ≤ 2 ^ m := Nat.one_le_two_pow
  have hx := remN_lt p hp1
  have hy := remN_lt q hp1
  obtain ⟨x, hxe⟩ : ∃ x, remN p (2 ^ m) = x := ⟨_, rfl⟩
  obtain ⟨y, hye⟩ : ∃ y, remN q (2 ^ m) = y := ⟨_, rfl⟩
  have HSX := Lib.hid (fun W => set_any p m W hm16)
  have HSY := Lib.hid (fun W => set_any q m W hm16)
  rw [hxe] at hx HSX
  rw [hye] at hy HSY
  have HXL := Lib.hid hx
  have HYL := Lib.hid hy
  have hp16 := pow_split hm16
  have hx16 : x < 65536 := by omega
  have hy16 : y < 65536 := by omega
  have HGR := Lib.hid (fun (w1 : World) (A1 : Option Addr) (h : REdges w1 w1.heap.size A1 (tameL m l)) => tame_gr hm1 hm16 h)
  have HRM := Lib.hid (fun own => refute_math hm16 (tame_good hm1 hm16 l) own hx)
  have hb0s := hb0.size
  have hpi : ((2 ^ m : Nat) : Int) = (2 : Int) ^ m := by simp
  obtain ⟨P, hP⟩ : ∃ P, 2 ^ m = P := ⟨_, rfl⟩
  have hP2 : (2 : Int) ^ m = (P : Int) := by rw [← hpi, hP]
  have HP := Lib.hid hP
  rw [hP] at hp16
  have hwP : IntKind.i64.wrap (P : Int) = (P : Int) := IntWalk.i64_in _ (by omega)
  clear hr hl hm hme hxe hye hb0 hp1 hx hy hpi hP
  go_enter Try.func7, Try.ntmps7
  go_wp2_with fail
  clear hW0
  refine HT.out.mono ?_
  rintro e w1 ⟨v1, rfl, ho1, hb1⟩
  obtain ⟨A1, c1, rfl, hra1⟩ := ho1.reads
  have hlt0 := HX0.out.lt
  have hx1 := HX0.out.below hb1 hlt0
  have c0 := hx1.cell 0
  have c1' := hx1.cell 1
  simp only [List.getElem?_toArray, List.getElem?_cons_zero, List.getElem?_cons_succ] at c0 c1'
  have HB1 := Lib.hid (show Below w.heap.size w w1 from HB0.out.trans (hb1.mono hb0s))
  have HG1 := Lib.hid (HGR.out w1 A1 hra1)
  clear ho1 hb1 hra1 hx1 HT HX0 HB0 hlt0
  go_wp2_with fail
  go_quiet ((go_at_call 33; first | (with_reducible exact quiet_w _ (HSX.out _) rfl) | (with_reducible exact quiet_w _ (HSY.out _) rfl)))
  clear c0 c1'
  obtain ⟨W1, hW1⟩ : ∃ W1, w1.drewN nq = W1 := ⟨_, rfl⟩
  have HB2 := Lib.hid (show Below w.heap.size w W1 by rw [← hW1]; exact below_drewN HB1.out _)
  have HG2 := Lib.hid (show Gr W1 A1 m (tameL m l) by rw [← hW1]; exact HG1.out.up (below_drewN (Below.refl _ _) _))
  rw [hW1]
  clear hW1 HB1 HG1 HSX HSY
  go_wp2_with fail
  go_loopw [10] (fun i wr => ∃ k : Nat, i = .int .i64 k ∧ k ≤ 2 ∧ Hid (Below w.heap.size w wr) ∧ Hid (Gr wr A1 m (tameL m l))) (fun i _ => 2 - (intOf i).toNat)
  case atStart => exact ⟨0, rfl, by omega, HB2, HG2⟩
  case round =>
    obtain ⟨k, rfl, hk, HB1, HG1⟩ := hrel
    have HB := HB1
    have HG := HG1
    clear HB1 HG1 HB2 HG2
    by_cases hlt : k < 2
    · obtain ⟨own, how⟩ : ∃ own, ((k : Int) == 0) = own := ⟨_, rfl⟩
      have hsl := grL_len hm16 (tameL m l) own
      have hs65 : ∀ z ∈ grL m (tameL m l) own, z < 65536 := fun z hz => HG.out.lt own z (List.mem_of_mem_take hz)
      obtain ⟨rb, r, sv, hrf, hsv, hr2, hs2, hT, hF⟩ := HRM.out own
      have HRF := Lib.hid hrf
      have HSV := Lib.hid hsv
      obtain ⟨s, hs⟩ : ∃ s, grL m (tameL m l) own = s := ⟨_, rfl⟩
      rw [hs] at hsl hs65 hT hF
      rw [HP.out] at hr2 hs2
      have hr16 : r < 65536 := by omega
      have hs16 : sv < 65536 := by omega
      obtain ⟨ib, hib⟩ : ∃ b, isRefL s x y = b := ⟨_, rfl⟩
      have HIB := Lib.hid (show (decide (comb y s = 0) && oddB (x &&& y)) = ib by rw [← hib, isRefL, Nat.and_comm])
      have HIS := Lib.hid hib
      have HSG := Lib.hid hs
      have HSL := Lib.hid hsl
      have HS65 := Lib.hid hs65
      have HTT := Lib.hid hT
      have HFF := Lib.hid hF
      clear hs hsl hs65 hT hF hrf hsv hib
      have hlt' : (k : Int) < 2 := by omega
      go_wp2_with fail
      refine (Near_any A1 m (tameL m l) c1 own wr HG.out).mono ?_
      rintro e w2 ⟨rfl, hx2, hb2⟩
      rw [HSG.out] at hx2
      have HB2 := Lib.hid (HB.out.trans (hb2.mono HB.out.size))
      have HG2 := Lib.hid (HG.out.up hb2)
      have HX2 := Lib.hid hx2
      clear hb2 hx2
      obtain ⟨g, hg⟩ : ∃ g, wr.heap.size = g := ⟨_, rfl⟩
      rw [hg] at HX2 ⊢
      clear hg
      go_wp2_with fail
      refine (Refute_ok A1 m x (tameL m l) c1 own w2 HG2.out HXL.out).mono ?_
      rintro e w3 ⟨rfl, hb3⟩
      rw [HRF.out]
      have HB3 := Lib.hid (HB2.out.trans (hb3.mono HB2.out.size))
      have HG3 := Lib.hid (HG2.out.up hb3)
      have HX3 := Lib.hid (HX2.out.below hb3 HX2.out.lt)
      clear hb3
      go_wp2_with fail
      refine (IsRefutation_ok A1 m x y (tameL m l) c1 own w3 HG3.out HXL.out HYL.out).mono ?_
      rintro e w4 ⟨rfl, hb4⟩
      rw [HSG.out, HIS.out]
      have HB4 := Lib.hid (HB3.out.trans (hb4.mono HB3.out.size))
      have HG4 := Lib.hid (HG3.out.up hb4)
      have HX4 := Lib.hid (HX3.out.below hb4 HX3.out.lt)
      clear hb4
      go_wp2_with fail
      refine (Solve_ok A1 m x (tameL m l) c1 own w4 HG4.out HXL.out).mono ?_
      rintro e w5 ⟨rfl, hb5⟩
      rw [HSV.out]
      have HB5 := Lib.hid (HB4.out.trans (hb5.mono HB4.out.size))
      have HG5 := Lib.hid (HG4.out.up hb5)
      have HX5 := Lib.hid (HX4.out.below hb5 HX4.out.lt)
      clear hb5 HX2 HX3 HX4 HG2 HG3 HG4 HB2 HB3 HB4 how
      cases rb
      · obtain ⟨hf1, hf2⟩ := HFF.out rfl
        have HF1 := Lib.hid hf1
        subst hf2
        clear hf1
        go_wp2_with (first
          | (go_at_call 39; with_reducible refine (RIsRef_any HX5.out HSL.out hm16 HS65.out hx16 hy16 HIB.out).mono ?_; rintro e w' ⟨rfl, rfl⟩)
          | (go_at_call 34; refine (REffect_box HX5.out HSL.out hm16 HS65.out hs16 HF1.out).mono ?_; rintro e w' ⟨rfl, rfl⟩))
        go_roundw
        case rel => exact ⟨k + 1, by go_num, by omega, HB5, HG5⟩
        case measure => simp [intOf]; omega
      · obtain ⟨ht1, ht2⟩ := HTT.out rfl
        have HT1 := Lib.hid (show (decide (comb r s = 0) && oddB (x &&& r)) = true by rw [ht1, ht2]; rfl)
        clear ht1 ht2
        go_wp2_with (first
          | (go_at_call 39; with_reducible refine (RIsRef_any HX5.out HSL.out hm16 HS65.out hx16 hy16 HIB.out).mono ?_; rintro e w' ⟨rfl, rfl⟩)
          | (go_at_call 39; with_reducible refine (RIsRef_any HX5.out HSL.out hm16 HS65.out hx16 hr16 HT1.out).mono ?_; rintro e w' ⟨rfl, rfl⟩))
        go_roundw
        case rel => exact ⟨k + 1, by go_num, by omega, HB5, HG5⟩
        case measure => simp [intOf]; omega
    · obtain rfl : k = 2 := by omega
      go_wp2_with fail
      refine (awake4_any wr).mono ?_
      rintro e w2 ⟨rfl, hb2⟩
      go_wp2_with fail
      go_ret
      exact ⟨rfl, HB.out.trans (hb2.mono HB.out.size)⟩
set_option maxRecDepth 100000 in
theorem lref_row (os : Os) (started : os.Started) (H : Type) (enc : TypeId × Value → H) :
    ReturnsInHanded {} Try.checked os 7 .any (Rows.lightRefutesSpec.pre6 enc Try.prog Try.f7 Rows.lightRefutesRow.domain false) (Rows.lightRefutesSpec.post enc Try.prog Try.f7 false true false false) := by
  refine returnsInHanded_of_change (C := Try.checked) ownNone started (by kernel_rfl) Try.func7
    (ChangeSpec.witness6 (enc := enc) (C := Try.checked) false ⟨#[], #[.int .i64 0, .slice none 0 0, .agg #[.int .i64 0, .int .i64 0]], []⟩ 8 (by kernel_rfl) (by kernel_rfl) (by kernel_rfl) (by kernel_rfl)) ?_
  intro W base args ds gs before hval hW _ _
  have hW2 := hW
  obtain ⟨p, q, hA, hV, rfl, _, _⟩ := hW2
  have hA : DataW.TrodAll enc Try.prog W 0 (fun _ => true) true Try.f7.params.toList args.toList ds p := hA
  have hAk := hA
  have hval : ∀ (j : Nat) t v, Try.f7.params[j]? = some t → args[j]? = some v → Value.okWide Try.prog W .any base t v := hval
  rw [Try.params7] at hA hval
  obtain ⟨v0, vs0, d0, ds0, p0, q0, hargs, rfl, rfl, h0, r0⟩ := trodAll_cons hA
  obtain ⟨v1, vs1, d1, ds1, p1, q1, rfl, rfl, rfl, h1, r1⟩ := trodAll_cons r0
  obtain ⟨v2, vs2, d2, ds2, p2, q2, rfl, rfl, rfl, h2, r2⟩ := trodAll_cons r1
  obtain ⟨rfl, rfl, rfl⟩ := trodAll_nil r2
  obtain rfl : args = #[v0, v1, v2] := by cases args; simp_all
  obtain ⟨rfl, rfl⟩ := trodVars_none hV
  obtain ⟨a0, rfl, rfl, rfl, w0⟩ := open_int Try.underlying3 (hval 0 3 v0 rfl rfl) h0
  obtain ⟨A1, z1, c1, rfl, _, m1, hr1⟩ := open_edges (hval 1 22 v1 rfl rfl) h1
  obtain ⟨x2, y2, rfl, rfl, rfl, _, _⟩ := open_pair Try.arrKey41 Try.underlying3 (hval 2 41 v2 rfl rfl) h2
  clear hA hval
  simp only [List.append_nil, List.nil_append] at hW hAk
  refine (lref_any a0 A1 z1 c1 x2 y2 W hr1 m1).mono fun e W' ⟨he, hb⟩ => ?_
  subst he
  exact ⟨_, rfl, post_bool hW hb (by rw [Try.params7]; decide) hAk (fun _ => rfl) rfl rfl (by kernel_rfl)⟩

theorem lref_holds : Rows.LightRefutesSaid :=
  OpenClaim.holds_of_wide 7 Try.f7 rfl rfl rfl rfl rfl rfl rfl ⟨rfl, rfl, rfl, rfl, rfl⟩ rfl rfl rfl rfl rfl (by kernel_rfl) Try.func7 (by kernel_rfl)
    (of_decide_eq_true (by kernel_rfl)) (by unfold Func.isWrapper; first | (rw [if_pos (by decide +kernel)]; kernel_rfl) | (rw [if_neg (by decide +kernel)]; exact ⟨rfl, rfl⟩))
    (fun os started H enc _ => lref_row os started H enc)

#print axioms lref_holds
end Go.Proofs.Ytpdgjjpfahobaaa
