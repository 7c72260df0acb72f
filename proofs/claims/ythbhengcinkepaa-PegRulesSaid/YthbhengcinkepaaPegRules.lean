/- For every integer n, list of triples of integers l and pair of integers of: the function PegRules answers true: the rules' basis of the board, and whether two positions are alike, are those of the reference. No conditions. -/
import Derived.Test.YthbhengcinkepaaOpenT
import Derived.Test.YthbhengcinkepaaPg20
import Derived.Test.YthbhengcinkepaaTameT
import Derived.Test.YthbhengcinkepaaRAlike2
import Derived.Test.YthbhengcinkepaaInts2
namespace Go.Proofs.Ythbhengcinkepaa
open Go.ChangeShapes Go.WideShapes Go.ChangeAt Go.RowKit Go.WideMaps Lamp

set_option maxRecDepth 100000 in
set_option maxHeartbeats 8000000 in
theorem prules_any (a0 : Int) (A : Option Addr) (l : List Tri) (c : Nat) (x y : Int) (w : World) (hr : RTri w w.heap.size A l) (hl : l.length ≤ 9223372036854775807) :
    Calls Try.prog 7 #[.int .i64 a0, .slice A l.length c, .agg #[.int .i64 x, .int .i64 y]] w fun e w' => e = .returned (.bool true) ∧ Below w.heap.size w w' := by
  have hm := remN_lt a0 (m := 12) (by decide)
  obtain ⟨n, hn⟩ : ∃ n, 1 + remN a0 12 = n := ⟨_, rfl⟩
  have hn1 : 1 ≤ n := by omega
  have hn16 : n ≤ 16 := by omega
  have hb0 := Box.new w 41 #[.int .i64 x, .int .i64 y]
  have hr0 := hr.up (below_alloc (Nat.le_refl _) (Obj.cells #[.int .i64 x, .int .i64 y] 41))
  have hB0 := below_alloc (w := w) (Nat.le_refl _) (Obj.cells #[.int .i64 x, .int .i64 y] 41)
  have HT := Lib.hid (fun (w1 : World) (h : RTri w1 w1.heap.size A l) => tameT_any A a0 l c 12 40 w1 h hl (by decide) (by decide) (by decide))
  rw [hn] at HT
  have hpw := pow_split hn16
  have hp0 := Nat.two_pow_pos n
  have hpi : (2 : Int) ^ n = ((2 ^ n : Nat) : Int) := by simp
  have hr1 := rem_i64 x hp0 hpw
  have hr2 := rem_i64 y hp0 hpw
  have hl1 := remN_lt x hp0
  have hl2 := remN_lt y hp0
  obtain ⟨p, hp⟩ : ∃ p, remN x (2 ^ n) = p := ⟨_, rfl⟩
  obtain ⟨q, hq⟩ : ∃ q, remN y (2 ^ n) = q := ⟨_, rfl⟩
  rw [hp] at hr1 hl1
  rw [hq] at hr2 hl2
  have HP := Lib.hid hl1
  have HQ := Lib.hid hl2
  obtain ⟨P, hP⟩ : ∃ P, 2 ^ n = P := ⟨_, rfl⟩
  rw [hP] at hpw hp0 hpi hr1 hr2
  have hPw : IntKind.u64.wrap (P : Int) = (P : Int) := u64_in (by omega) (by omega)
  have hP0 : ((P : Int) = 0) = False := by simp; omega
  have HR0 := Lib.hid hr0
  have HBX0 := Lib.hid hb0
  have HB0 := Lib.hid hB0
  have HPP := Lib.hid hP
  have hn16i : (n : Int) ≤ 16 := by omega
  clear hr hl hm hn hp hq hP hl1 hl2 hr0 hb0 hB0
  go_enter Try.func7, Try.ntmps7
  go_wp2_with fail
  refine (HT.out _ HR0.out).mono ?_
  rintro e w1 ⟨v1, rfl, L, hc, hLK, ho, hb⟩
  obtain ⟨A1, c1, rfl, hrd⟩ := ho.reads
  have HC := Lib.hid hc
  have HB1 := Lib.hid (HB0.out.trans (hb.mono HB0.out.size))
  have HR1 := Lib.hid hrd
  have hbx := HBX0.out.below hb HBX0.out.lt
  have x0 := hbx.cell 0
  have x1 := hbx.cell 1
  simp only [List.getElem?_toArray, List.getElem?_cons_zero, List.getElem?_cons_succ] at x0 x1
  clear hc hb hrd hbx ho HT HR0 HBX0
  go_wp2_with fail
  go_quiet (fail)
  have HC2 := Lib.hid (show Below w.heap.size w (w1.drewN nq) from below_drewN HB1.out nq)
  have HR2 := Lib.hid (show RTri (w1.drewN nq) (w1.drewN nq).heap.size A1 L from HR1.out.drewN nq)
  obtain ⟨w2, hw2⟩ : ∃ w2, w1.drewN nq = w2 := ⟨_, rfl⟩
  rw [hw2] at HC2 HR2 ⊢
  have HP' := Lib.hid (show p < 2 ^ n from HP.out)
  have HQ' := Lib.hid (show q < 2 ^ n from HQ.out)
  clear hw2 x0 x1 HB1 HR1 HP HQ HPP
  go_wp2_with fail
  refine (Rules_ok A1 c1 n L w2 HR2.out HC.out).mono ?_
  rintro e w3 ⟨v3, rfl, ho3, hb3⟩
  obtain ⟨hn1', _, hlL, hg⟩ := checkT_zero HC.out
  have HRL := Lib.hid (show (rulesL n (eqsL L)).length ≤ 16 from Nat.le_trans (basisK_len _ _ _) (by omega))
  obtain ⟨R, hR⟩ : ∃ R, rulesL n (eqsL L) = R := ⟨_, rfl⟩
  rw [hR] at ho3 HRL
  have HRE := Lib.hid hR
  obtain ⟨A3, c3, rfl, hr3⟩ := ho3.reads
  rw [natV_len]
  have HV3 := Lib.hid hr3
  have HB3 := Lib.hid (HC2.out.trans (hb3.mono HC2.out.size))
  have HR3 := Lib.hid (HR2.out.up hb3)
  clear ho3 hr3 hb3 HC2 HR2 hR hg
  go_wp2_with fail
  refine (Alike_ok A1 c1 n p q L w3 HR3.out HC.out HP'.out HQ'.out).mono ?_
  rintro e w4 ⟨rfl, hb4⟩
  obtain ⟨b, hb⟩ : ∃ b, alikeB n L (p ^^^ q) = b := ⟨_, rfl⟩
  rw [hb]
  have HBE := Lib.hid hb
  have HB4 := Lib.hid (HB3.out.trans (hb4.mono HB3.out.size))
  have HR4 := Lib.hid (HR3.out.up hb4)
  have HV4 := Lib.hid ((HV3.out.below hb4).more hb4.size)
  clear hb hb4 HB3 HR3 HV3
  go_wp2_with fail
  refine (RRules2_any A1 c1 n L w4 HR4.out HC.out).mono ?_
  rintro e w5 ⟨v5, rfl, ho5, hb5⟩
  rw [HRE.out] at ho5
  obtain ⟨A5, c5, rfl, hr5⟩ := ho5.reads
  rw [natV_len]
  have HB5 := Lib.hid (HB4.out.trans (hb5.mono HB4.out.size))
  have HR5 := Lib.hid (HR4.out.up hb5)
  have HV5 := Lib.hid ((HV4.out.below hb5).more hb5.size)
  have HVV := Lib.hid hr5
  clear ho5 hr5 hb5 HB4 HR4 HV4
  go_wp2_with fail
  have hin := ints2_any A3 A5 (natV R) (natV R) c3 c5 w5.heap.size w5 HV5.out HVV.out (by rw [natV_len]; have := HRL.out; omega) (by rw [natV_len]; have := HRL.out; omega)
  rw [natV_len] at hin
  refine hin.mono ?_
  rintro e w6 ⟨rfl, n6, rfl⟩
  rw [show decide (natV R = natV R) = true by simp]
  have HB6 := Lib.hid (below_drewN HB5.out n6)
  have HR6 := Lib.hid (show RTri (w5.drewN n6) (w5.drewN n6).heap.size A1 L from HR5.out.drewN n6)
  obtain ⟨w6, hw6⟩ : ∃ w6, w5.drewN n6 = w6 := ⟨_, rfl⟩
  rw [hw6] at HB6 HR6 ⊢
  clear hin hw6 HB5 HR5 HV5 HVV
  go_wp2_with fail
  refine (RAlike2_any A1 c1 n p q L w6 HR6.out HC.out HP'.out HQ'.out).mono ?_
  rintro e w7 ⟨rfl, hb7⟩
  rw [HBE.out]
  have HB7 := Lib.hid (HB6.out.trans (hb7.mono HB6.out.size))
  have hbb : (b == b) = true := by simp
  clear hb7
  go_wp2_with fail
  refine (awake2_any _).mono ?_
  rintro e w8 ⟨rfl, hb8⟩
  go_wp2_with fail
  go_ret
  exact ⟨rfl, HB7.out.trans (hb8.mono HB7.out.size)⟩
set_option maxRecDepth 100000 in
theorem prules_row (os : Os) (started : os.Started) (H : Type) (enc : TypeId × Value → H) :
    ReturnsInHanded {} Try.checked os 7 .any (Rows.pegRulesSpec.pre6 enc Try.prog Try.f7 Rows.pegRulesRow.domain false) (Rows.pegRulesSpec.post enc Try.prog Try.f7 false true false false) := by
  refine returnsInHanded_of_change (C := Try.checked) ownNone started (by kernel_rfl) Try.func7
    (ChangeSpec.witness6 (enc := enc) (C := Try.checked) false ⟨#[], #[.int .i64 0, .slice none 0 0, .agg #[.int .i64 0, .int .i64 0]], []⟩ 8 (by kernel_rfl) (by kernel_rfl) (by kernel_rfl) (by kernel_rfl)) ?_
  intro W base args ds gs before hval hW _ _
  have hW2 := hW
  obtain ⟨p, q, hA, hV, rfl, _, _⟩ := hW2
  have hA : DataW.TrodAll enc Try.prog W 0 (fun _ => true) true Try.f7.params.toList args.toList ds p := hA
  have hAk := hA
  have hval : ∀ (j : Nat) t v, Try.f7.params[j]? = some t → args[j]? = some v → Value.okWide Try.prog W .any base t v := hval
  rw [Try.params7] at hA hval
  obtain ⟨v0, vs0, d0, ds0, p0, q0, hargs, rfl, rfl, h0, r0⟩ := trodAll_cons hA
  obtain ⟨v1, vs1, d1, ds1, p1, q1, rfl, rfl, rfl, h1, r1⟩ := trodAll_cons r0
  obtain ⟨v2, vs2, d2, ds2, p2, q2, rfl, rfl, rfl, h2, r2⟩ := trodAll_cons r1
  obtain ⟨rfl, rfl, rfl⟩ := trodAll_nil r2
  obtain rfl : args = #[v0, v1, v2] := by cases args; simp_all
  obtain ⟨rfl, rfl⟩ := trodVars_none hV
  obtain ⟨a0, rfl, rfl, rfl, w0⟩ := open_int Try.underlying3 (hval 0 3 v0 rfl rfl) h0
  obtain ⟨A1, z1, c1, rfl, _, m1, hr1⟩ := open_tris (hval 1 22 v1 rfl rfl) h1
  obtain ⟨x2, y2, rfl, rfl, rfl, _, _⟩ := open_pair Try.arrTwo41 Try.underlying3 (hval 2 41 v2 rfl rfl) h2
  clear hA hval
  simp only [List.append_nil, List.nil_append] at hW hAk
  refine (prules_any a0 A1 z1 c1 x2 y2 W hr1 m1).mono fun e W' ⟨he, hb⟩ => ?_
  subst he
  exact ⟨_, rfl, post_bool hW hb (by rw [Try.params7]; decide) hAk (fun _ => rfl) rfl rfl (by kernel_rfl)⟩

theorem prules_holds : Rows.PegRulesSaid :=
  OpenClaim.holds_of_wide 7 Try.f7 rfl rfl rfl rfl rfl rfl rfl ⟨rfl, rfl, rfl, rfl, rfl⟩ rfl rfl rfl rfl rfl (by kernel_rfl) Try.func7 (by kernel_rfl)
    (of_decide_eq_true (by kernel_rfl)) (by unfold Func.isWrapper; first | (rw [if_pos (by decide +kernel)]; kernel_rfl) | (rw [if_neg (by decide +kernel)]; exact ⟨rfl, rfl⟩))
    (fun os started H enc _ => prules_row os started H enc)

#print axioms prules_holds
end Go.Proofs.Ythbhengcinkepaa
