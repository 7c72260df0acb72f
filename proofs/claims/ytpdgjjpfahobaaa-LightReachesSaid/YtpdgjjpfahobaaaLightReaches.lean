/- For every integer n and list of pairs of integers l: the function LightReaches answers true: as many targets are the effect of some set as the reference counts, and the hardest one, and how many lamps it needs, are those of the reference. No conditions. -/
import Derived.Test.YtpdgjjpfahobaaaOpenE
import Derived.Test.YtpdgjjpfahobaaaAwake4
import Derived.Test.YtpdgjjpfahobaaaRReach
namespace Go.Proofs.Ytpdgjjpfahobaaa
open Go.ChangeShapes Go.WideShapes Go.ChangeAt Go.RowKit Go.WideMaps Lamp

theorem reaches_math {n : Nat} (hn : n ≤ 16) {l : List (Int × Int)} (hg : goodK (n : Int) l l.length = true) (own : Bool) {P : Nat} (hP : 2 ^ n = P) :
    (∀ t, t < P → fT (grL n l own) t P = -1 ∨ ∃ y : Nat, fT (grL n l own) t P = y ∧ y < 65536) ∧ 0 ≤ fT (grL n l own) 0 P ∧
      (∀ b, HardestOf (grL n l own) b → bestH (fun t => fT (grL n l own) t P) P = b ∧ popc (fT (grL n l own) b P).toNat = dist (grL n l own) b) ∧
      cntK (fun t => fT (grL n l own) t P) P = 2 ^ (n - (quietL (grL n l own)).length) := by
  have hl := grL_len hn l own
  have hs : ∀ x ∈ grL n l own, x < 2 ^ n := fun x hx => by
    obtain ⟨i, hi, rfl⟩ := List.getElem_of_mem hx
    have := grL_lt hn hg own i
    simpa [List.getD_eq_getElem?_getD, hi] using this
  have hy := grL_sym hn hg own
  generalize grL n l own = s at hl hs hy ⊢
  obtain ⟨h1, h2, h3, h4⟩ := bestH_hardest hn hl hs hy hP
  refine ⟨h1, h2, fun b hb => ?_, ?_⟩
  · have e := h3.one hb
    rw [← e]
    exact ⟨rfl, h4⟩
  · subst hP
    exact reach_count hl hn hs hy

set_option maxRecDepth 100000 in
set_option maxHeartbeats 8000000 in
theorem lreach_any (a0 : Int) (A : Option Addr) (l : List (Int × Int)) (c : Nat) (w : World) (hr : REdges w w.heap.size A l) (hl : l.length ≤ 9223372036854775807) :
    Calls Try.prog 8 #[.int .i64 a0, .slice A l.length c] w fun e w' => e = .returned (.bool true) ∧ Below w.heap.size w w' := by
  have HT := Lib.hid (tame_any A a0 l c 11 w hr hl (by decide) (by decide))
  have hm := remN_lt a0 (m := 11) (by decide)
  obtain ⟨m, hme⟩ : ∃ m, 1 + remN a0 11 = m := ⟨_, rfl⟩
  have hm1 : 1 ≤ m := by omega
  have hm16 : m ≤ 16 := by omega
  rw [hme] at HT
  have hp16 := pow_split hm16
  have hp0 := Nat.two_pow_pos m
  have HGR := Lib.hid (fun (w1 : World) (A1 : Option Addr) (h : REdges w1 w1.heap.size A1 (tameL m l)) => tame_gr hm1 hm16 h)
  have HSP := Lib.hid (fun own => show ∀ z ∈ grL m (tameL m l) own, z < 2 ^ m from fun z hz => by
    obtain ⟨i, hi, rfl⟩ := List.getElem_of_mem hz
    have := grL_lt hm16 (tame_good hm1 hm16 l) own i
    simpa [List.getD_eq_getElem?_getD, hi] using this)
  obtain ⟨P, hP⟩ : ∃ P, 2 ^ m = P := ⟨_, rfl⟩
  have HP := Lib.hid hP
  have HRM := Lib.hid (fun own => reaches_math hm16 (tame_good hm1 hm16 l) own hP)
  rw [hP] at hp16 hp0 HSP
  clear hr hl hm hme hP
  go_enter Try.func8, Try.ntmps8
  go_wp2_with fail
  refine HT.out.mono ?_
  rintro e w1 ⟨v1, rfl, ho1, hb1⟩
  obtain ⟨A1, c1, rfl, hra1⟩ := ho1.reads
  have HB1 := Lib.hid hb1
  have HG1 := Lib.hid (HGR.out w1 A1 hra1)
  clear ho1 hb1 hra1 HT
  go_wp2_with fail
  go_loopw [6] (fun i wr => ∃ k : Nat, i = .int .i64 k ∧ k ≤ 2 ∧ Hid (Below w.heap.size w wr) ∧ Hid (Gr wr A1 m (tameL m l))) (fun i _ => 2 - (intOf i).toNat)
  case atStart => exact ⟨0, rfl, by omega, HB1, HG1⟩
  case round =>
    obtain ⟨k, rfl, hk, HB2, HG2⟩ := hrel
    have HB := HB2
    have HG := HG2
    clear HB1 HG1 HB2 HG2
    by_cases hlt : k < 2
    · obtain ⟨own, how⟩ : ∃ own, ((k : Int) == 0) = own := ⟨_, rfl⟩
      have hsl := grL_len hm16 (tameL m l) own
      obtain ⟨h1, h2, h3, h4⟩ := HRM.out own
      have hsP := HSP.out own
      obtain ⟨s, hs⟩ : ∃ s, grL m (tameL m l) own = s := ⟨_, rfl⟩
      rw [hs] at h1 h2 h3 h4 hsl hsP
      obtain ⟨R, hR⟩ : ∃ R, 2 ^ (m - (quietL s).length) = R := ⟨_, rfl⟩
      rw [hR] at h4
      have HV := Lib.hid h1
      have HV0 := Lib.hid h2
      have HBE := Lib.hid h3
      have HCN := Lib.hid h4
      have HRR := Lib.hid hR
      have HSG := Lib.hid hs
      have HSL := Lib.hid hsl
      have HSPP := Lib.hid hsP
      have hlt' : (k : Int) < 2 := by omega
      clear hs hsl h1 h2 h3 h4 hsP hR
      go_wp2_with fail
      refine (Near_any A1 m (tameL m l) c1 own wr HG.out).mono ?_
      rintro e w2 ⟨rfl, hx2, hb2⟩
      rw [HSG.out] at hx2
      have HB2 := Lib.hid (HB.out.trans (hb2.mono HB.out.size))
      have HG2 := Lib.hid (HG.out.up hb2)
      have HX2 := Lib.hid hx2
      clear hb2 hx2
      obtain ⟨g, hg⟩ : ∃ g, wr.heap.size = g := ⟨_, rfl⟩
      rw [hg] at HX2 ⊢
      clear hg
      go_wp2_with fail
      refine (RFewest_any HX2.out HSL.out hm16 HP.out HSPP.out).mono ?_
      rintro e w3 ⟨rfl, hx3, hb3⟩
      obtain ⟨gf, hgf⟩ : ∃ g, w2.heap.size = g := ⟨_, rfl⟩
      rw [hgf] at hx3 ⊢
      have HB3 := Lib.hid (HB2.out.trans (hb3.mono HB2.out.size))
      have HG3 := Lib.hid (HG2.out.up hb3)
      have HX3 := Lib.hid hx3
      clear hb3 hx3 hgf HX2
      go_wp2_with fail
      refine (Reachable_ok A1 m (tameL m l) c1 own w3 HG3.out).mono ?_
      rintro e w4 ⟨rfl, hb4⟩
      rw [HSG.out, HRR.out]
      have HB4 := Lib.hid (HB3.out.trans (hb4.mono HB3.out.size))
      have HG4 := Lib.hid (HG3.out.up hb4)
      have HX4 := Lib.hid (HX3.out.below hb4 HX3.out.lt)
      clear hb4
      go_wp2_with fail
      refine (Hardest_ok A1 m (tameL m l) c1 own w4 HG4.out).mono ?_
      rintro e w5 ⟨hb, rfl, hh, hb5⟩
      rw [HSG.out] at hh ⊢
      obtain ⟨e1, e2⟩ := HBE.out hb hh
      obtain ⟨dd, hdd⟩ : ∃ q, dist s hb = q := ⟨_, rfl⟩
      rw [hdd] at e2 ⊢
      have HE1 := Lib.hid e1
      have HE2 := Lib.hid e2
      have HB5 := Lib.hid (HB4.out.trans (hb5.mono HB4.out.size))
      have HG5 := Lib.hid (HG4.out.up hb5)
      have HX5 := Lib.hid (HX4.out.below hb5 HX4.out.lt)
      clear hb5 HX3 HX4 HG2 HG3 HG4 HB2 HB3 HB4 how e1 e2 hdd hh
      go_wp2_with fail
      refine (RHardest_any HX5.out hp16 hp0 HV.out HV0.out).mono ?_
      rintro e w6 ⟨rfl, n6, rfl⟩
      rw [HE1.out, HE2.out]
      have HX6 := Lib.hid (HX5.out.drewN n6)
      have HB6 := Lib.hid (below_drewN HB5.out n6)
      have HG6 := Lib.hid (HG5.out.up (below_drewN (Below.refl _ _) n6))
      obtain ⟨W6, hW6⟩ : ∃ q, w5.drewN n6 = q := ⟨_, rfl⟩
      rw [hW6] at HX6 HB6 HG6 ⊢
      clear hW6 HX5 HB5 HG5
      go_wp2_with (go_at_call 41; refine (RReachable_any HX6.out hp16).mono ?_; rintro e w' ⟨rfl, rfl⟩; rw [HCN.out])
      go_roundw
      case rel => exact ⟨k + 1, by go_num, by omega, HB6, HG6⟩
      case measure => simp [intOf]; omega
    · obtain rfl : k = 2 := by omega
      go_wp2_with fail
      refine (awake4_any wr).mono ?_
      rintro e w2 ⟨rfl, hb2⟩
      go_wp2_with fail
      go_ret
      exact ⟨rfl, HB.out.trans (hb2.mono HB.out.size)⟩
set_option maxRecDepth 100000 in
theorem lreach_row (os : Os) (started : os.Started) (H : Type) (enc : TypeId × Value → H) :
    ReturnsInHanded {} Try.checked os 8 .any (Rows.lightReachesSpec.pre6 enc Try.prog Try.f8 Rows.lightReachesRow.domain false) (Rows.lightReachesSpec.post enc Try.prog Try.f8 false true false false) := by
  refine returnsInHanded_of_change (C := Try.checked) ownNone started (by kernel_rfl) Try.func8
    (ChangeSpec.witness6 (enc := enc) (C := Try.checked) false ⟨#[], #[.int .i64 0, .slice none 0 0], []⟩ 8 (by kernel_rfl) (by kernel_rfl) (by kernel_rfl) (by kernel_rfl)) ?_
  intro W base args ds gs before hval hW _ _
  have hW2 := hW
  obtain ⟨p, q, hA, hV, rfl, _, _⟩ := hW2
  have hA : DataW.TrodAll enc Try.prog W 0 (fun _ => true) true Try.f8.params.toList args.toList ds p := hA
  have hAk := hA
  have hval : ∀ (j : Nat) t v, Try.f8.params[j]? = some t → args[j]? = some v → Value.okWide Try.prog W .any base t v := hval
  rw [Try.params8] at hA hval
  obtain ⟨v0, vs0, d0, ds0, p0, q0, hargs, rfl, rfl, h0, r0⟩ := trodAll_cons hA
  obtain ⟨v1, vs1, d1, ds1, p1, q1, rfl, rfl, rfl, h1, r1⟩ := trodAll_cons r0
  obtain ⟨rfl, rfl, rfl⟩ := trodAll_nil r1
  obtain rfl : args = #[v0, v1] := by cases args; simp_all
  obtain ⟨rfl, rfl⟩ := trodVars_none hV
  obtain ⟨a0, rfl, rfl, rfl, w0⟩ := open_int Try.underlying3 (hval 0 3 v0 rfl rfl) h0
  obtain ⟨A1, z1, c1, rfl, _, m1, hr1⟩ := open_edges (hval 1 22 v1 rfl rfl) h1
  clear hA hval
  simp only [List.append_nil, List.nil_append] at hW hAk
  refine (lreach_any a0 A1 z1 c1 W hr1 m1).mono fun e W' ⟨he, hb⟩ => ?_
  subst he
  exact ⟨_, rfl, post_bool hW hb (by rw [Try.params8]; decide) hAk (fun _ => rfl) rfl rfl (by kernel_rfl)⟩

theorem lreach_holds : Rows.LightReachesSaid :=
  OpenClaim.holds_of_wide 8 Try.f8 rfl rfl rfl rfl rfl rfl rfl ⟨rfl, rfl, rfl, rfl, rfl⟩ rfl rfl rfl rfl rfl (by kernel_rfl) Try.func8 (by kernel_rfl)
    (of_decide_eq_true (by kernel_rfl)) (by unfold Func.isWrapper; first | (rw [if_pos (by decide +kernel)]; kernel_rfl) | (rw [if_neg (by decide +kernel)]; exact ⟨rfl, rfl⟩))
    (fun os started H enc _ => lreach_row os started H enc)

#print axioms lreach_holds
end Go.Proofs.Ytpdgjjpfahobaaa
