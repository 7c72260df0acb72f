/- For every integer n, list of pairs of integers l and bool with: the function LightQuiets answers true: the quiet basis of the graph is that of the reference. No conditions. -/
import Derived.Test.YtpdgjjpfahobaaaOpenE
import Derived.Test.YtpdgjjpfahobaaaAwake4
import Derived.Test.YtpdgjjpfahobaaaRQuiet
import Derived.Test.YtpdgjjpfahobaaaInts4
namespace Go.Proofs.Ytpdgjjpfahobaaa
open Go.ChangeShapes Go.WideShapes Go.ChangeAt Go.RowKit Go.WideMaps Lamp

theorem grL_all {n : Nat} (hn : n ≤ 16) {l : List (Int × Int)} (hg : goodK (n : Int) l l.length = true) (own : Bool) : ∀ x ∈ grL n l own, x < 2 ^ n := fun x hx => by
  obtain ⟨i, hi, rfl⟩ := List.getElem_of_mem hx
  have := grL_lt hn hg own i
  simpa [List.getD_eq_getElem?_getD, hi] using this
theorem rq_gr {n : Nat} (hn : n ≤ 16) {l : List (Int × Int)} (hg : goodK (n : Int) l l.length = true) (own : Bool) : (rqK (grL n l own) (2 ^ n - 1)).1 = quietL (grL n l own) :=
  rq_all (grL_len hn l own) hn (grL_all hn hg own)

set_option maxRecDepth 100000 in
set_option maxHeartbeats 4000000 in
theorem lquiets_any (a0 : Int) (A : Option Addr) (l : List (Int × Int)) (c : Nat) (own : Bool) (w : World) (hr : REdges w w.heap.size A l) (hl : l.length ≤ 9223372036854775807) :
    Calls Try.prog 6 #[.int .i64 a0, .slice A l.length c, .bool own] w fun e w' => e = .returned (.bool true) ∧ Below w.heap.size w w' := by
  have HT := Lib.hid (tame_any A a0 l c 16 w hr hl (by decide) (by decide))
  have hm := remN_lt a0 (m := 16) (by decide)
  obtain ⟨m, hme⟩ : ∃ m, 1 + remN a0 16 = m := ⟨_, rfl⟩
  have hm1 : 1 ≤ m := by omega
  have hm16 : m ≤ 16 := by omega
  rw [hme] at HT
  have HGR := Lib.hid (fun (w1 : World) (A1 : Option Addr) (h : REdges w1 w1.heap.size A1 (tameL m l)) => tame_gr hm1 hm16 h)
  have HQ := Lib.hid (rq_gr hm16 (tame_good hm1 hm16 l) own)
  have HSL := Lib.hid (grL_len hm16 (tameL m l) own)
  have HQL := Lib.hid (quiet_len hm16 (tameL m l) own)
  have HS65 := Lib.hid (fun (w1 : World) (A1 : Option Addr) (h : Gr w1 A1 m (tameL m l)) => show ∀ z ∈ grL m (tameL m l) own, z < 65536 from fun z hz => h.lt own z (List.mem_of_mem_take hz))
  obtain ⟨s, hs⟩ : ∃ s, grL m (tameL m l) own = s := ⟨_, rfl⟩
  rw [hs] at HQ HSL HQL HS65
  have HSG := Lib.hid hs
  obtain ⟨Q, hQ⟩ : ∃ Q, quietL s = Q := ⟨_, rfl⟩
  rw [hQ] at HQ HQL
  have HQE := Lib.hid hQ
  clear hr hl hm hme hs hQ
  go_enter Try.func6, Try.ntmps6
  go_wp2_with fail
  refine HT.out.mono ?_
  rintro e w1 ⟨v1, rfl, ho1, hb1⟩
  obtain ⟨A1, c1, rfl, hra1⟩ := ho1.reads
  have HB1 := Lib.hid hb1
  have HG1 := Lib.hid (HGR.out w1 A1 hra1)
  clear ho1 hb1 hra1
  go_wp2_with fail
  refine (Quiet_ok A1 m (tameL m l) c1 own w1 HG1.out).mono ?_
  rintro e w2 ⟨v2, rfl, ho2, hb2⟩
  rw [HSG.out, HQE.out] at ho2
  obtain ⟨A2, c2, rfl, hr2⟩ := ho2.reads
  have HR2 := Lib.hid hr2
  have HB2 := Lib.hid (HB1.out.trans (hb2.mono HB1.out.size))
  have HG2 := Lib.hid (HG1.out.up hb2)
  clear hb2 ho2 hr2
  go_wp2_with fail
  refine (Near_any A1 m (tameL m l) c1 own w2 HG2.out).mono ?_
  rintro e w3 ⟨rfl, hx3, hb3⟩
  rw [HSG.out] at hx3
  have HB3 := Lib.hid (HB2.out.trans (hb3.mono HB2.out.size))
  have HR3 := Lib.hid ((HR2.out.below hb3).more hb3.size)
  have HX3 := Lib.hid hx3
  have HL3 := Lib.hid (HS65.out w2 A1 HG2.out)
  clear hb3 hx3
  go_wp2_with fail
  refine (RQuiet_any HX3.out HSL.out hm16 hm1 HL3.out).mono ?_
  rintro e w4 ⟨v4, rfl, ho4, hb4⟩
  rw [HQ.out] at ho4
  obtain ⟨A4, c4, rfl, hr4⟩ := ho4.reads
  have HB4 := Lib.hid (HB3.out.trans (hb4.mono HB3.out.size))
  have HR4 := Lib.hid ((HR3.out.below hb4).more hb4.size)
  have HRR := Lib.hid hr4
  clear hb4 ho4 hr4
  go_wp2_with fail
  refine (ints4_any A2 A4 (natV Q) (natV Q) c2 c4 w4.heap.size w4 HR4.out HRR.out (by rw [natV_len]; have := HQL.out; omega) (by rw [natV_len]; have := HQL.out; omega)).mono ?_
  rintro e w5 ⟨rfl, n5, rfl⟩
  rw [show decide (natV Q = natV Q) = true by simp]
  go_wp2_with fail
  refine (awake4_any _).mono ?_
  rintro e w6 ⟨rfl, hb6⟩
  go_wp2_with fail
  go_ret
  exact ⟨rfl, (below_drewN HB4.out n5).trans (hb6.mono HB4.out.size)⟩
set_option maxRecDepth 100000 in
theorem lquiets_row (os : Os) (started : os.Started) (H : Type) (enc : TypeId × Value → H) :
    ReturnsInHanded {} Try.checked os 6 .any (Rows.lightQuietsSpec.pre6 enc Try.prog Try.f6 Rows.lightQuietsRow.domain false) (Rows.lightQuietsSpec.post enc Try.prog Try.f6 false true false false) := by
  refine returnsInHanded_of_change (C := Try.checked) ownNone started (by kernel_rfl) Try.func6
    (ChangeSpec.witness6 (enc := enc) (C := Try.checked) false ⟨#[], #[.int .i64 0, .slice none 0 0, .bool false], []⟩ 8 (by kernel_rfl) (by kernel_rfl) (by kernel_rfl) (by kernel_rfl)) ?_
  intro W base args ds gs before hval hW _ _
  have hW2 := hW
  obtain ⟨p, q, hA, hV, rfl, _, _⟩ := hW2
  have hA : DataW.TrodAll enc Try.prog W 0 (fun _ => true) true Try.f6.params.toList args.toList ds p := hA
  have hAk := hA
  have hval : ∀ (j : Nat) t v, Try.f6.params[j]? = some t → args[j]? = some v → Value.okWide Try.prog W .any base t v := hval
  rw [Try.params6] at hA hval
  obtain ⟨v0, vs0, d0, ds0, p0, q0, hargs, rfl, rfl, h0, r0⟩ := trodAll_cons hA
  obtain ⟨v1, vs1, d1, ds1, p1, q1, rfl, rfl, rfl, h1, r1⟩ := trodAll_cons r0
  obtain ⟨v2, vs2, d2, ds2, p2, q2, rfl, rfl, rfl, h2, r2⟩ := trodAll_cons r1
  obtain ⟨rfl, rfl, rfl⟩ := trodAll_nil r2
  obtain rfl : args = #[v0, v1, v2] := by cases args; simp_all
  obtain ⟨rfl, rfl⟩ := trodVars_none hV
  obtain ⟨a0, rfl, rfl, rfl, w0⟩ := open_int Try.underlying3 (hval 0 3 v0 rfl rfl) h0
  obtain ⟨A1, z1, c1, rfl, _, m1, hr1⟩ := open_edges (hval 1 22 v1 rfl rfl) h1
  obtain ⟨b2, rfl, rfl, rfl⟩ := open_bool Try.underlying4 (hval 2 4 v2 rfl rfl) h2
  clear hA hval
  simp only [List.append_nil, List.nil_append] at hW hAk
  refine (lquiets_any a0 A1 z1 c1 b2 W hr1 m1).mono fun e W' ⟨he, hb⟩ => ?_
  subst he
  exact ⟨_, rfl, post_bool hW hb (by rw [Try.params6]; decide) hAk (fun _ => rfl) rfl rfl (by kernel_rfl)⟩

theorem lquiets_holds : Rows.LightQuietsSaid :=
  OpenClaim.holds_of_wide 6 Try.f6 rfl rfl rfl rfl rfl rfl rfl ⟨rfl, rfl, rfl, rfl, rfl⟩ rfl rfl rfl rfl rfl (by kernel_rfl) Try.func6 (by kernel_rfl)
    (of_decide_eq_true (by kernel_rfl)) (by unfold Func.isWrapper; first | (rw [if_pos (by decide +kernel)]; kernel_rfl) | (rw [if_neg (by decide +kernel)]; exact ⟨rfl, rfl⟩))
    (fun os started H enc _ => lquiets_row os started H enc)

#print axioms lquiets_holds
end Go.Proofs.Ytpdgjjpfahobaaa
