/- For every integer n, list of triples of integers l and pair of integers of: the function PegBack answers true: there is a game from one position to another just if there is one from the holes without a peg in the other to those without a peg in the first. No conditions. -/
import Derived.Test.YthbhengcinkepaaOpenT
import Derived.Test.YthbhengcinkepaaPg20
import Derived.Test.YthbhengcinkepaaTameT
import Derived.Test.YthbhengcinkepaaPg21
import Derived.Test.YthbhengcinkepaaSolB
namespace Go.Proofs.Ythbhengcinkepaa
open Go.ChangeShapes Go.WideShapes Go.ChangeAt Go.RowKit Go.WideMaps Lamp

theorem sortedP_len (Q : List (Nat × Tri)) : (sortedP Q).length = Q.length := by simp [sortedP, natV, posL]
theorem sortedP_at {Q : List (Nat × Tri)} {i : Nat} (h : i < Q.length) : ∃ e : Nat, (sortedP Q)[i]? = some ((e : Nat) : Int) ∧ ∃ j, (e, j) ∈ Q := by
  have hi : i < (sortedP Q).length := by rw [sortedP_len]; exact h
  have hm : (sortedP Q)[i] ∈ natV (posL Q) := (List.mergeSort_perm _ _).mem_iff.1 (List.getElem_mem hi)
  simp only [natV, posL, List.map_map, List.mem_map] at hm
  obtain ⟨⟨e, j⟩, he, h2⟩ := hm
  exact ⟨e, by rw [List.getElem?_eq_getElem hi, ← h2]; rfl, j, he⟩

theorem f_facts {F : Nat} (h : F + 1 ≤ 65536) : IntKind.u64.wrap ((F : Int) + 1) = (F : Int) + 1 ∧ (((F : Int) + 1 = 0) = False) ∧ wrap64 ((F : Int) + 1) = (F : Int) + 1 ∧ wrap64 (F : Int) = (F : Int) := by
  refine ⟨u64_in (by omega) (by omega), by simp; omega, w64 (by omega), w64 (by omega)⟩
theorem not_above {u F : Nat} (h1 : u < F + 1) : u ≤ F ∧ ¬ (u : Int) < 0 ∧ ¬ (F : Int) < (u : Int) ∧ ¬ F < u := by omega

set_option maxRecDepth 100000 in
set_option maxHeartbeats 8000000 in
theorem pback_any (a0 : Int) (A : Option Addr) (l : List Tri) (c : Nat) (x y : Int) (w : World) (hr : RTri w w.heap.size A l) (hl : l.length ≤ 9223372036854775807) :
    Calls Try.prog 11 #[.int .i64 a0, .slice A l.length c, .agg #[.int .i64 x, .int .i64 y]] w fun e w' => e = .returned (.bool true) ∧ Below w.heap.size w w' := by
  have hm := remN_lt a0 (m := 12) (by decide)
  obtain ⟨n, hn⟩ : ∃ n, 1 + remN a0 12 = n := ⟨_, rfl⟩
  have hn1 : 1 ≤ n := by omega
  have hn16 : n ≤ 16 := by omega
  have hb0 := Box.new w 41 #[.int .i64 x, .int .i64 y]
  have hr0 := hr.up ((Below.refl w.heap.size w).alloc (Nat.le_refl _) (Obj.cells #[.int .i64 x, .int .i64 y] 41))
  have hB0 := (Below.refl w.heap.size w).alloc (Nat.le_refl _) (Obj.cells #[.int .i64 x, .int .i64 y] 41)
  have HT := Lib.hid (fun (w1 : World) (h : RTri w1 w1.heap.size A l) => tameT_any A a0 l c 12 20 w1 h hl (by decide) (by decide) (by decide))
  rw [hn] at HT
  have hpw := pow_split hn16
  have hp0 := Nat.two_pow_pos n
  have hpi : (2 : Int) ^ n = ((2 ^ n : Nat) : Int) := by simp
  have hr1 := rem_i64 x hp0 hpw
  have hr2 := rem_i64 y hp0 hpw
  have hl1 := remN_lt x hp0
  have hl2 := remN_lt y hp0
  obtain ⟨p, hp⟩ : ∃ p, remN x (2 ^ n) = p := ⟨_, rfl⟩
  obtain ⟨q, hq⟩ : ∃ q, remN y (2 ^ n) = q := ⟨_, rfl⟩
  rw [hp] at hr1 hl1
  rw [hq] at hr2 hl2
  have HP := Lib.hid hl1
  have HQ := Lib.hid hl2
  have HNOT := Lib.hid (fun (u : Nat) (hu : u < 2 ^ n) => andNot_full hn16 hu)
  obtain ⟨F, hF⟩ : ∃ F, 2 ^ n = F + 1 := ⟨2 ^ n - 1, (Nat.sub_add_cancel hp0).symm⟩
  have HFE := Lib.hid (show 2 ^ n - 1 = F by rw [hF]; rfl)
  rw [hF] at hpw hp0 hpi hr1 hr2
  have hpi2 : (2 : Int) ^ n = (F : Int) + 1 := hpi.trans rfl
  have hr1' : IntKind.i64.wrap ((IntKind.u64.wrap x).tmod ((F : Int) + 1)) = (p : Int) := hr1
  have hr2' : IntKind.i64.wrap ((IntKind.u64.wrap y).tmod ((F : Int) + 1)) = (q : Int) := hr2
  obtain ⟨hPw, hP0, hPs, hFF⟩ := f_facts hpw
  have HFI := Lib.hid hF
  clear hpi hr1 hr2 hpw hp0 hF
  have HR0 := Lib.hid hr0
  have HBX0 := Lib.hid hb0
  have HB0 := Lib.hid hB0
  clear hr hl hm hn hp hq hl1 hl2 hr0 hb0 hB0
  go_enter Try.func11, Try.ntmps11
  go_wp2_with fail
  refine (HT.out _ HR0.out).mono ?_
  rintro e w1 ⟨v1, rfl, L, hc, hLK, ho, hb⟩
  obtain ⟨A1, c1, rfl, hrd⟩ := ho.reads
  have HC := Lib.hid hc
  have HB1 := Lib.hid (HB0.out.trans (hb.mono HB0.out.size))
  have HR1 := Lib.hid hrd
  have hbx := HBX0.out.below hb HBX0.out.lt
  have HBX := Lib.hid hbx
  have HXL := Lib.hid hbx.lt
  have x0 := hbx.cell 0
  have x1 := hbx.cell 1
  simp only [List.getElem?_toArray, List.getElem?_cons_zero, List.getElem?_cons_succ] at x0 x1
  clear hc hb hrd hbx ho HT HR0 HBX0
  go_wp2_with fail
  go_quiet (fail)
  have HC2 := Lib.hid (show Below w.heap.size w (w1.drewN nq) from below_drewN HB1.out nq)
  have HR2 := Lib.hid (show RTri (w1.drewN nq) (w1.drewN nq).heap.size A1 L from HR1.out.drewN nq)
  have HBX2 := Lib.hid (show Box (w1.drewN nq) w.heap.size 41 #[.int .i64 x, .int .i64 y] from HBX.out.drewN nq)
  obtain ⟨w2, hw2⟩ : ∃ w2, w1.drewN nq = w2 := ⟨_, rfl⟩
  rw [hw2] at HC2 HR2 HBX2 ⊢
  have HP' := Lib.hid (show p < 2 ^ n from HP.out)
  have HQ' := Lib.hid (show q < 2 ^ n from HQ.out)
  clear hw2 x0 x1 HB1 HR1 HP HQ HBX HXL hr1' hr2'
  go_wp2_with fail
  refine (Reached_ok A1 c1 n p L w2 HR2.out HC.out HP'.out).mono ?_
  rintro e w3 ⟨v3, rfl, ho3, hb3⟩
  obtain ⟨hn1', _, hlL, hg⟩ := checkT_zero HC.out
  have hok := jumpsL_ok (goodT_ok hg)
  obtain ⟨R, hR⟩ : ∃ R, reachL (jumpsL L) p = R := ⟨_, rfl⟩
  have hRl1 : 1 ≤ R.length := by rw [← hR]; exact bfsK_pos _ _ _
  have hRl2 : R.length ≤ 65536 := by rw [← hR]; exact reachL_stays hn16 hok HP'.out
  have HRE := Lib.hid (show ∀ e ∈ R, e.1 < 2 ^ n by rw [← hR]; exact bfsK_lt hok HP'.out 65536)
  rw [hR] at ho3
  obtain ⟨A3, c3, hv3, hr3⟩ := ho3.reads
  rw [sortedP_len] at hv3
  subst hv3
  obtain ⟨m, hm⟩ : ∃ m, R.length = m := ⟨_, rfl⟩
  rw [hm] at hRl1 hRl2 ⊢
  have HML := Lib.hid hm
  have hmw : IntKind.u64.wrap (m : Int) = (m : Int) := u64_in (by omega) (by omega)
  have hm0 : ((m : Int) = 0) = False := by simp; omega
  have hm1 : ¬ (m : Int) < 1 := by omega
  have hmn : ¬ m < 1 := by omega
  have HIX := Lib.hid (rem_i64 y hRl1 hRl2)
  have HIL := Lib.hid (remN_lt y hRl1)
  obtain ⟨k, hk⟩ : ∃ k, remN y m = k := ⟨_, rfl⟩
  rw [hk] at HIX HIL
  have HV3 := Lib.hid hr3
  have HB3 := Lib.hid (HC2.out.trans (hb3.mono HC2.out.size))
  have HR3 := Lib.hid (HR2.out.up hb3)
  have HBX3 := Lib.hid (HBX2.out.below hb3 HBX2.out.lt)
  clear ho3 hr3 hb3 HC2 HR2 HBX2 hR hg hok hm hk
  go_wp2_with fail
  go_loopg [10, 13] 2 (fun g qv rv ws => ∃ (q rd : Nat), rd + g = 2 ∧ qv = .int .i64 q ∧ rv = .int .i64 rd ∧ Hid (q < 2 ^ n) ∧ Hid (Below w3.heap.size w3 ws))
  case atStart => exact ⟨q, 0, by omega, rfl, rfl, HQ', Lib.hid (Below.refl _ _)⟩
  case round =>
    obtain ⟨q, rd, hrd, rfl, rfl, HQ1, HBB1⟩ := hrel
    have HQQ := HQ1
    have HBB := HBB1
    clear HQ1 HBB1 HQ'
    have HBW := Lib.hid (HB3.out.trans (HBB.out.mono HB3.out.size))
    have HRW := Lib.hid (HR3.out.up HBB.out)
    cases gk with
    | zero =>
      obtain rfl : rd = 2 := by omega
      go_wp2_with fail
      refine (awake2_any _).mono ?_
      rintro e w8 ⟨rfl, hb8⟩
      go_wp2_with fail
      go_ret
      exact ⟨rfl, HBW.out.trans (hb8.mono HBW.out.size)⟩
    | succ g =>
      have hrd2 : (rd : Int) < 2 := by omega
      have hrdn : rd < 2 := by omega
      have h1 := HNOT.out q HQQ.out
      have h2 := HNOT.out p HP'.out
      rw [HFE.out] at h1 h2
      have HQ2 := Lib.hid (compN_lt HQQ.out)
      have HP2 := Lib.hid (compN_lt HP'.out)
      have HSB := Lib.hid (solve_back HC.out HP'.out HQQ.out)
      obtain ⟨q', hq'⟩ : ∃ q', compN n q = q' := ⟨_, rfl⟩
      obtain ⟨p', hp'⟩ : ∃ p', compN n p = p' := ⟨_, rfl⟩
      rw [hq'] at h1 HQ2 HSB
      rw [hp'] at h2 HP2 HSB
      obtain ⟨t, ht⟩ : ∃ t, hasQ (reachL (jumpsL L) p) q = t := ⟨_, rfl⟩
      have HTE := Lib.hid ht
      rw [ht] at HSB
      have htt : (t != t) = false := by simp
      have htt2 : (t == t) = true := by simp
      clear hq' hp' ht
      go_wp2_with fail
      refine (Solve_b A1 c1 n p q L wr HRW.out HC.out HP'.out HQQ.out).mono ?_
      rintro e w4 ⟨s4, rfl, hb4⟩
      rw [HTE.out]
      have HB4 := Lib.hid (HBB.out.trans (hb4.mono HBB.out.size))
      have HR4 := Lib.hid (HR3.out.up HB4.out)
      clear hb4
      go_wp2_with fail
      refine (Solve_b A1 c1 n q' p' L w4 HR4.out HC.out HQ2.out HP2.out).mono ?_
      rintro e w5 ⟨s5, rfl, hb5⟩
      rw [← HSB.out]
      have HB5 := Lib.hid (HB4.out.trans (hb5.mono HB4.out.size))
      have hbx5 := HBX3.out.below HB5.out HBX3.out.lt
      have x1 := hbx5.cell 1
      simp only [List.getElem?_toArray, List.getElem?_cons_zero, List.getElem?_cons_succ] at x1
      obtain ⟨u, hu, jj, huj⟩ := sortedP_at (Q := R) (i := k) (by have := HML.out; have := HIL.out; omega)
      have HUL := Lib.hid (HRE.out _ huj)
      obtain ⟨b9, o9, u9, hA9, hb9, hx9, hc9⟩ := ((HV3.out.below HB5.out).more HB5.out.size).at_ (k := k) (by rw [sortedP_len]; have := HML.out; have := HIL.out; omega)
      rw [hu] at hx9
      obtain rfl : ((u : Nat) : Int) = u9 := Option.some.inj hx9
      subst hA9
      have hix := HIX.out
      have hil : (k : Int) < (m : Int) := by have := HIL.out; omega
      have hiln : k < m := HIL.out
      obtain ⟨huF, hu1, hu2, hu3⟩ := not_above (show u < F + 1 by rw [← HFI.out]; exact HUL.out)
      have hud : decide ((u : Int) < 0) = false := decide_eq_false hu1
      have hue : ((u : Int) < 0) = False := eq_false hu1
      clear hb5 hbx5 hu huj hx9 hu1
      go_wp2_with fail
      go_roundg g
      case measure => omega
      case rel => exact ⟨u, rd + 1, by omega, rfl, by go_num, HUL, HB5⟩
set_option maxRecDepth 100000 in
theorem pback_row (os : Os) (started : os.Started) (H : Type) (enc : TypeId × Value → H) :
    ReturnsInHanded {} Try.checked os 11 .any (Rows.pegBackSpec.pre6 enc Try.prog Try.f11 Rows.pegBackRow.domain false) (Rows.pegBackSpec.post enc Try.prog Try.f11 false true false false) := by
  refine returnsInHanded_of_change (C := Try.checked) ownNone started (by kernel_rfl) Try.func11
    (ChangeSpec.witness6 (enc := enc) (C := Try.checked) false ⟨#[], #[.int .i64 0, .slice none 0 0, .agg #[.int .i64 0, .int .i64 0]], []⟩ 8 (by kernel_rfl) (by kernel_rfl) (by kernel_rfl) (by kernel_rfl)) ?_
  intro W base args ds gs before hval hW _ _
  have hW2 := hW
  obtain ⟨p, q, hA, hV, rfl, _, _⟩ := hW2
  have hA : DataW.TrodAll enc Try.prog W 0 (fun _ => true) true Try.f11.params.toList args.toList ds p := hA
  have hAk := hA
  have hval : ∀ (j : Nat) t v, Try.f11.params[j]? = some t → args[j]? = some v → Value.okWide Try.prog W .any base t v := hval
  rw [Try.params11] at hA hval
  obtain ⟨v0, vs0, d0, ds0, p0, q0, hargs, rfl, rfl, h0, r0⟩ := trodAll_cons hA
  obtain ⟨v1, vs1, d1, ds1, p1, q1, rfl, rfl, rfl, h1, r1⟩ := trodAll_cons r0
  obtain ⟨v2, vs2, d2, ds2, p2, q2, rfl, rfl, rfl, h2, r2⟩ := trodAll_cons r1
  obtain ⟨rfl, rfl, rfl⟩ := trodAll_nil r2
  obtain rfl : args = #[v0, v1, v2] := by cases args; simp_all
  obtain ⟨rfl, rfl⟩ := trodVars_none hV
  obtain ⟨a0, rfl, rfl, rfl, w0⟩ := open_int Try.underlying3 (hval 0 3 v0 rfl rfl) h0
  obtain ⟨A1, z1, c1, rfl, _, m1, hr1⟩ := open_tris (hval 1 22 v1 rfl rfl) h1
  obtain ⟨x2, y2, rfl, rfl, rfl, _, _⟩ := open_pair Try.arrTwo41 Try.underlying3 (hval 2 41 v2 rfl rfl) h2
  clear hA hval
  simp only [List.append_nil, List.nil_append] at hW hAk
  refine (pback_any a0 A1 z1 c1 x2 y2 W hr1 m1).mono fun e W' ⟨he, hb⟩ => ?_
  subst he
  exact ⟨_, rfl, post_bool hW hb (by rw [Try.params11]; decide) hAk (fun _ => rfl) rfl rfl (by kernel_rfl)⟩

theorem pback_holds : Rows.PegBackSaid :=
  OpenClaim.holds_of_wide 11 Try.f11 rfl rfl rfl rfl rfl rfl rfl ⟨rfl, rfl, rfl, rfl, rfl⟩ rfl rfl rfl rfl rfl (by kernel_rfl) Try.func11 (by kernel_rfl)
    (of_decide_eq_true (by kernel_rfl)) (by unfold Func.isWrapper; first | (rw [if_pos (by decide +kernel)]; kernel_rfl) | (rw [if_neg (by decide +kernel)]; exact ⟨rfl, rfl⟩))
    (fun os started H enc _ => pback_row os started H enc)

#print axioms pback_holds
end Go.Proofs.Ythbhengcinkepaa
