/- For every integer n, list of triples of integers l and integer p of: the function PegJumps answers true: the jumps that can be made in any position are those of the reference. No conditions. -/
import Derived.Test.YthbhengcinkepaaOpenT
import Derived.Test.YthbhengcinkepaaPg20
import Derived.Test.YthbhengcinkepaaTameT
import Derived.Test.YthbhengcinkepaaJmp
import Derived.Test.YthbhengcinkepaaEqT
import Derived.Test.YthbhengcinkepaaRJumps
namespace Go.Proofs.Ythbhengcinkepaa
open Go.ChangeShapes Go.WideShapes Go.ChangeAt Go.RowKit Go.WideMaps Lamp

set_option maxRecDepth 100000 in
set_option maxHeartbeats 8000000 in
theorem pjumps_any (a0 : Int) (A : Option Addr) (l : List Tri) (c : Nat) (y : Int) (w : World) (hr : RTri w w.heap.size A l) (hl : l.length ≤ 9223372036854775807) :
    Calls Try.prog 3 #[.int .i64 a0, .slice A l.length c, .int .i64 y] w fun e w' => e = .returned (.bool true) ∧ Below w.heap.size w w' := by
  have hm := remN_lt a0 (m := 16) (by decide)
  obtain ⟨n, hn⟩ : ∃ n, 1 + remN a0 16 = n := ⟨_, rfl⟩
  have hn1 : 1 ≤ n := by omega
  have hn16 : n ≤ 16 := by omega
  have HT := Lib.hid (fun (w1 : World) (h : RTri w1 w1.heap.size A l) => tameT_any A a0 l c 16 40 w1 h hl (by decide) (by decide) (by decide))
  rw [hn] at HT
  have hpw := pow_split hn16
  have hp0 := Nat.two_pow_pos n
  have hpi : (2 : Int) ^ n = ((2 ^ n : Nat) : Int) := by simp
  have hr2 := rem_i64 y hp0 hpw
  have hl2 := remN_lt y hp0
  obtain ⟨p, hp⟩ : ∃ p, remN y (2 ^ n) = p := ⟨_, rfl⟩
  rw [hp] at hr2 hl2
  have HP := Lib.hid hl2
  obtain ⟨P, hP⟩ : ∃ P, 2 ^ n = P := ⟨_, rfl⟩
  rw [hP] at hpw hp0 hpi hr2
  have hp16 : p < 65536 := by omega
  have hPw : IntKind.u64.wrap (P : Int) = (P : Int) := u64_in (by omega) (by omega)
  have hP0 : ((P : Int) = 0) = False := by simp; omega
  have HR0 := Lib.hid hr
  have HP16 := Lib.hid hp16
  have hn16i : (n : Int) ≤ 16 := by omega
  clear hr hl hm hn hp hP hl2
  go_enter Try.func3, Try.ntmps3
  go_wp2_with fail
  refine (HT.out _ HR0.out).mono ?_
  rintro e w1 ⟨v1, rfl, L, hc, hLK, ho, hb⟩
  obtain ⟨A1, c1, rfl, hrd⟩ := ho.reads
  have HC := Lib.hid hc
  have HB1 := Lib.hid hb
  have HR1 := Lib.hid hrd
  clear hc hb hrd ho HT HR0
  go_wp2_with fail
  refine (Jumps_ok A1 c1 n p L w1 HR1.out HC.out HP.out).mono ?_
  rintro e w2 ⟨v2, rfl, ho2, hb2⟩
  obtain ⟨hn1', _, hlL, hg⟩ := checkT_zero HC.out
  have hF80 : ((jumpsL L).filter fun j => canJ j p).length ≤ 80 := by
    have h1 := List.length_filter_le (fun j => canJ j p) (jumpsL L)
    rw [jumpsL_len] at h1
    omega
  have HRJ := Lib.hid (RJumps_any A1 c1 n p L w2 (HR1.out.up hb2) hlL hn16 (goodT_ok hg) HP16.out)
  obtain ⟨F, hF⟩ : ∃ F, ((jumpsL L).filter fun j => canJ j p) = F := ⟨_, rfl⟩
  rw [hF] at ho2 HRJ hF80
  obtain ⟨A2, c2, rfl, hrd2⟩ := ho2.reads
  have HR2 := Lib.hid hrd2
  have HB2 := Lib.hid (HB1.out.trans (hb2.mono HB1.out.size))
  clear ho2 hrd2 hb2 hg hF HB1
  go_wp2_with fail
  refine HRJ.out.mono ?_
  rintro e w3 ⟨v3, rfl, ho3, hb3⟩
  obtain ⟨A3, c3, rfl, hrd3⟩ := ho3.reads
  have HR3 := Lib.hid hrd3
  have HR23 := Lib.hid (HR2.out.up hb3)
  have HB3 := Lib.hid (HB2.out.trans (hb3.mono HB2.out.size))
  have hFF : ((F.length : Int) != (F.length : Int)) = false := by simp
  have hFF2 : ((F.length : Int) == (F.length : Int)) = true := by simp
  clear ho3 hrd3 hb3 HR2 HB2 HRJ
  go_wp2_with fail
  go_loopg [11] F.length (fun g i ws => ∃ k : Nat, k + g = F.length ∧ i = .int .i64 k ∧ Hid (∃ n, w3.drewN n = ws))
  case atStart => exact ⟨0, by omega, rfl, Lib.hid ⟨0, rfl⟩⟩
  case round =>
    obtain ⟨k, hk, rfl, HW1⟩ := hrel
    obtain ⟨n0, hn0⟩ := HW1.out
    clear HW1
    subst hn0
    cases gk with
    | zero =>
      obtain rfl : k = F.length := by omega
      have hge : ¬ (F.length : Int) < (F.length : Int) := by omega
      have hgd : decide ((F.length : Int) < (F.length : Int)) = false := decide_eq_false hge
      go_wp2_with fail
      refine (awake2_any _).mono ?_
      rintro e w8 ⟨rfl, hb8⟩
      have HB8 := Lib.hid (HB3.out.trans (((below_drewN (Below.refl _ w3) n0).trans hb8).mono HB3.out.size))
      go_wp2_with fail
      go_ret
      exact ⟨rfl, HB8.out⟩
    | succ g =>
      have hkl : k < F.length := by omega
      have hkl' : (k : Int) < (F.length : Int) := by omega
      obtain ⟨b, o, x, y, z, hA, hb, hx, p0, p1, p2⟩ := HR23.out.at_ hkl
      obtain ⟨b', o', x', y', z', hA', hb', hx', q0, q1, q2⟩ := HR3.out.at_ hkl
      rw [hx] at hx'
      cases hx'
      subst hA hA'
      have heq := eqT_same x y z
      clear hx
      go_wp2_with fail
      go_quiet (fail)
      go_wp2_with fail
      go_roundg g
      case measure => omega
      case rel => exact ⟨k + 1, by omega, by go_num, Lib.hid ⟨n0 + nq, by simp⟩⟩
set_option maxRecDepth 100000 in
theorem pjumps_row (os : Os) (started : os.Started) (H : Type) (enc : TypeId × Value → H) :
    ReturnsInHanded {} Try.checked os 3 .any (Rows.pegJumpsSpec.pre6 enc Try.prog Try.f3 Rows.pegJumpsRow.domain false) (Rows.pegJumpsSpec.post enc Try.prog Try.f3 false true false false) := by
  refine returnsInHanded_of_change (C := Try.checked) ownNone started (by kernel_rfl) Try.func3
    (ChangeSpec.witness6 (enc := enc) (C := Try.checked) false ⟨#[], #[.int .i64 0, .slice none 0 0, .int .i64 0], []⟩ 8 (by kernel_rfl) (by kernel_rfl) (by kernel_rfl) (by kernel_rfl)) ?_
  intro W base args ds gs before hval hW _ _
  have hW2 := hW
  obtain ⟨p, q, hA, hV, rfl, _, _⟩ := hW2
  have hA : DataW.TrodAll enc Try.prog W 0 (fun _ => true) true Try.f3.params.toList args.toList ds p := hA
  have hAk := hA
  have hval : ∀ (j : Nat) t v, Try.f3.params[j]? = some t → args[j]? = some v → Value.okWide Try.prog W .any base t v := hval
  rw [Try.params3] at hA hval
  obtain ⟨v0, vs0, d0, ds0, p0, q0, hargs, rfl, rfl, h0, r0⟩ := trodAll_cons hA
  obtain ⟨v1, vs1, d1, ds1, p1, q1, rfl, rfl, rfl, h1, r1⟩ := trodAll_cons r0
  obtain ⟨v2, vs2, d2, ds2, p2, q2, rfl, rfl, rfl, h2, r2⟩ := trodAll_cons r1
  obtain ⟨rfl, rfl, rfl⟩ := trodAll_nil r2
  obtain rfl : args = #[v0, v1, v2] := by cases args; simp_all
  obtain ⟨rfl, rfl⟩ := trodVars_none hV
  obtain ⟨a0, rfl, rfl, rfl, w0⟩ := open_int Try.underlying3 (hval 0 3 v0 rfl rfl) h0
  obtain ⟨A1, z1, c1, rfl, _, m1, hr1⟩ := open_tris (hval 1 22 v1 rfl rfl) h1
  obtain ⟨a2, rfl, rfl, rfl, w2⟩ := open_int Try.underlying3 (hval 2 3 v2 rfl rfl) h2
  clear hA hval
  simp only [List.append_nil, List.nil_append] at hW hAk
  refine (pjumps_any a0 A1 z1 c1 a2 W hr1 m1).mono fun e W' ⟨he, hb⟩ => ?_
  subst he
  exact ⟨_, rfl, post_bool hW hb (by rw [Try.params3]; decide) hAk (fun _ => rfl) rfl rfl (by kernel_rfl)⟩

theorem pjumps_holds : Rows.PegJumpsSaid :=
  OpenClaim.holds_of_wide 3 Try.f3 rfl rfl rfl rfl rfl rfl rfl ⟨rfl, rfl, rfl, rfl, rfl⟩ rfl rfl rfl rfl rfl (by kernel_rfl) Try.func3 (by kernel_rfl)
    (of_decide_eq_true (by kernel_rfl)) (by unfold Func.isWrapper; first | (rw [if_pos (by decide +kernel)]; kernel_rfl) | (rw [if_neg (by decide +kernel)]; exact ⟨rfl, rfl⟩))
    (fun os started H enc _ => pjumps_row os started H enc)

#print axioms pjumps_holds
end Go.Proofs.Ythbhengcinkepaa
