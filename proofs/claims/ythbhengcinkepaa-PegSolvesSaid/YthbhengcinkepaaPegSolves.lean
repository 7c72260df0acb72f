/- For every integer n, list of triples of integers l and pair of integers of: the function PegSolves answers true: a game from one position to another is found just if there is one, and leads there. No conditions. -/
import Derived.Test.YthbhengcinkepaaOpenT
import Derived.Test.YthbhengcinkepaaPg20
import Derived.Test.YthbhengcinkepaaPg18
import Derived.Test.YthbhengcinkepaaTameT
import Derived.Test.YthbhengcinkepaaRReach2
import Derived.Test.YthbhengcinkepaaPlays
namespace Go.Proofs.Ythbhengcinkepaa
open Go.ChangeShapes Go.WideShapes Go.ChangeAt Go.RowKit Go.WideMaps Lamp

set_option maxRecDepth 100000 in
set_option maxHeartbeats 8000000 in
theorem psolves_any (a0 : Int) (A : Option Addr) (l : List Tri) (c : Nat) (x y : Int) (w : World) (hr : RTri w w.heap.size A l) (hl : l.length ≤ 9223372036854775807) :
    Calls Try.prog 5 #[.int .i64 a0, .slice A l.length c, .agg #[.int .i64 x, .int .i64 y]] w fun e w' => e = .returned (.bool true) ∧ Below w.heap.size w w' := by
  have hm := remN_lt a0 (m := 12) (by decide)
  obtain ⟨n, hn⟩ : ∃ n, 1 + remN a0 12 = n := ⟨_, rfl⟩
  have hn1 : 1 ≤ n := by omega
  have hn16 : n ≤ 16 := by omega
  have hb0 := Box.new w 41 #[.int .i64 x, .int .i64 y]
  have hr0 := hr.up (below_alloc (Nat.le_refl _) (Obj.cells #[.int .i64 x, .int .i64 y] 41))
  have hB0 := below_alloc (w := w) (Nat.le_refl _) (Obj.cells #[.int .i64 x, .int .i64 y] 41)
  have HT := Lib.hid (fun (w1 : World) (h : RTri w1 w1.heap.size A l) => tameT_any A a0 l c 12 20 w1 h hl (by decide) (by decide) (by decide))
  rw [hn] at HT
  have hpw := pow_split hn16
  have hp0 := Nat.two_pow_pos n
  have hpi : (2 : Int) ^ n = ((2 ^ n : Nat) : Int) := by simp
  have hr1 := rem_i64 x hp0 hpw
  have hr2 := rem_i64 y hp0 hpw
  have hl1 := remN_lt x hp0
  have hl2 := remN_lt y hp0
  obtain ⟨p, hp⟩ : ∃ p, remN x (2 ^ n) = p := ⟨_, rfl⟩
  obtain ⟨q, hq⟩ : ∃ q, remN y (2 ^ n) = q := ⟨_, rfl⟩
  rw [hp] at hr1 hl1
  rw [hq] at hr2 hl2
  have HP := Lib.hid hl1
  have HQ := Lib.hid hl2
  obtain ⟨P, hP⟩ : ∃ P, 2 ^ n = P := ⟨_, rfl⟩
  have HPN := Lib.hid hP
  have hP2 : (2 : Int) ^ n = (P : Int) := by rw [hpi, hP]
  rw [hP] at hpw hp0 hpi hr1 hr2
  have hPw : IntKind.u64.wrap (P : Int) = (P : Int) := u64_in (by omega) (by omega)
  have hP0 : ((P : Int) = 0) = False := by simp; omega
  have HR0 := Lib.hid hr0
  have HBX0 := Lib.hid hb0
  have HB0 := Lib.hid hB0
  have hn16i : (n : Int) ≤ 16 := by omega
  clear hr hl hm hn hp hq hP hl1 hl2 hr0 hb0 hB0
  go_enter Try.func5, Try.ntmps5
  go_wp2_with fail
  refine (HT.out _ HR0.out).mono ?_
  rintro e w1 ⟨v1, rfl, L, hc, hLK, ho, hb⟩
  obtain ⟨A1, c1, rfl, hrd⟩ := ho.reads
  have HC := Lib.hid hc
  have HB1 := Lib.hid (HB0.out.trans (hb.mono HB0.out.size))
  have HR1 := Lib.hid hrd
  have hbx := HBX0.out.below hb HBX0.out.lt
  have x0 := hbx.cell 0
  have x1 := hbx.cell 1
  simp only [List.getElem?_toArray, List.getElem?_cons_zero, List.getElem?_cons_succ] at x0 x1
  clear hc hb hrd hbx ho HT HR0 HBX0
  go_wp2_with fail
  go_quiet (fail)
  have HC2 := Lib.hid (show Below w.heap.size w (w1.drewN nq) from below_drewN HB1.out nq)
  have HR2 := Lib.hid (show RTri (w1.drewN nq) (w1.drewN nq).heap.size A1 L from HR1.out.drewN nq)
  obtain ⟨w2, hw2⟩ : ∃ w2, w1.drewN nq = w2 := ⟨_, rfl⟩
  rw [hw2] at HC2 HR2 ⊢
  clear hw2 x0 x1 HB1 HR1 hr1 hr2
  go_wp2_with fail
  refine (RReached2_any A1 c1 n p L w2 HR2.out HC.out HP.out).mono ?_
  rintro e w3 ⟨T, rfl, hbt, hTb, hb3⟩
  obtain ⟨hn1', _, hlL, hg⟩ := checkT_zero HC.out
  have hok := jumpsL_ok (goodT_ok hg)
  have HIF := Lib.hid (fun q => reachL_iff (all := jumpsL L) (p := p) hn16 hok HP.out q)
  have HSH := Lib.hid (fun q g (h : Game (jumpsL L) p g q) => h.short hn16 hok)
  have HSO := Lib.hid (fun (w8 : World) (q : Nat) (h : RTri w8 w8.heap.size A1 L) (hq : q < 2 ^ n) => Solve_ok A1 c1 n p q L w8 h HC.out HP.out hq)
  have HPL := Lib.hid (fun (w8 : World) (Ag : Option Addr) (g : List Tri) (cg : Nat) (h : RTri w8 w8.heap.size A1 L) (h2 : RTri w8 w8.heap.size Ag g) (hl2 : g.length ≤ 1000000) => RPlay_any A1 Ag c1 cg n p L g w8 h h2 hlL hn16 (goodT_ok hg) HP.out hl2)
  have HPP := Lib.hid HP.out
  have HQ' := Lib.hid HQ.out
  rw [HPN.out] at hbt HSO HPP HQ' ⊢
  obtain ⟨J, hJ⟩ : ∃ J, jumpsL L = J := ⟨_, rfl⟩
  rw [hJ] at hbt HIF HSH HSO HPL
  have HPQ := Lib.hid ((HIF.out p).2 ⟨[], .nil _⟩)
  obtain ⟨Q, hQ⟩ : ∃ Q, reachL J p = Q := ⟨_, rfl⟩
  rw [hQ] at hbt HIF HPQ HSO
  have HT2 := Lib.hid hbt
  have HB2 := Lib.hid (HC2.out.trans (hb3.mono HC2.out.size))
  have HR3 := Lib.hid (HR2.out.up hb3)
  clear hbt hb3 hg hok hQ hJ HC2 HR2 HP HQ
  go_wp2_with fail
  go_loopg [9, 11] 2 (fun g qv rv ws => ∃ (q rd : Nat), rd + g = 2 ∧ qv = .int .i64 q ∧ rv = .int .i64 rd ∧ Hid (q < P) ∧ Hid (Below w3.heap.size w3 ws))
  case atStart => exact ⟨q, 0, by omega, rfl, rfl, HQ', Lib.hid (Below.refl _ _)⟩
  case round =>
    clear HQ'
    obtain ⟨q, rd, hrd, rfl, rfl, HQ1, HBB1⟩ := hrel
    have HQQ := HQ1
    have HBB := HBB1
    clear HQ1 HBB1
    have HBW := Lib.hid (HB2.out.trans (HBB.out.mono HB2.out.size))
    have HRW := Lib.hid (HR3.out.up HBB.out)
    cases gk with
    | zero =>
      obtain rfl : rd = 2 := by omega
      go_wp2_with fail
      refine (awake2_any _).mono ?_
      rintro e w8 ⟨rfl, hb8⟩
      go_wp2_with fail
      go_ret
      exact ⟨rfl, HBW.out.trans (hb8.mono HBW.out.size)⟩
    | succ g =>
      have hrd2 : (rd : Int) < 2 := by omega
      have hrdn : rd < 2 := by omega
      have hqP := HQQ.out
      have hqPi : (q : Int) < (P : Int) := by omega
      have hqq : ((q : Int) != (q : Int)) = false := by simp
      have hqq2 : ((q : Int) == (q : Int)) = true := by simp
      have HHQ := Lib.hid (HIF.out q)
      go_wp2_with fail
      refine (HSO.out wr q HRW.out hqP).mono ?_
      rintro e w4 (⟨Ag, cg, gm, rfl, hrg, hbg, hgm, hb4⟩ | ⟨rfl, hno, hb4⟩)
      · have hT4 := (HT2.out.below HBB.out HT2.out.lt).below hb4 (Nat.lt_of_lt_of_le HT2.out.lt HBB.out.size)
        have ht := hT4.cell q
        rw [boolC_at hqP, HHQ.out.2 ⟨gm, hgm⟩] at ht
        have hg16 := HSH.out q gm hgm
        have HPG := Lib.hid ((playL_game gm p q).2 hgm)
        have HB4 := Lib.hid (HBB.out.trans (hb4.mono HBB.out.size))
        have HT4 := Lib.hid hT4
        have HR4 := Lib.hid (HRW.out.up hb4)
        have HG4 := Lib.hid hrg
        clear hb4 hrg hbg hgm hT4 HRW HBW HHQ HSO
        go_wp2_with fail
        refine (HPL.out w4 Ag gm cg HR4.out HG4.out (by omega)).mono ?_
        rintro e w5 ⟨⟨q5, b5, rfl, h5⟩, hb5⟩
        rw [HPG.out] at h5
        obtain ⟨rfl, rfl⟩ : q = q5 ∧ b5 = true := by
          rcases h5 with ⟨h, h2⟩ | ⟨h, _⟩
          · exact ⟨Option.some.inj h, h2⟩
          · cases h
        have HB5 := Lib.hid (HB4.out.trans (hb5.mono HB4.out.size))
        have HT5 := Lib.hid (HT4.out.below hb5 HT4.out.lt)
        clear hb5 h5 HB4 HT4 HR4 HG4 ht
        go_wp2_with fail
        go_loopg [9] P (fun gi qv ws => ∃ q : Nat, qv = .int .i64 q ∧ Hid (q < P) ∧ (p + P - q) % P ≤ gi ∧ Hid (w5 = ws))
        case atStart => exact ⟨q, rfl, HQQ, Nat.le_of_lt (Nat.mod_lt _ hp0), Lib.hid rfl⟩
        case round =>
          obtain ⟨q6, rfl, HQ6, hd6, HW6⟩ := hrel
          have hw6 := HW6.out
          clear HW6
          subst hw6
          have HQ7 := HQ6
          have hq6 := HQ6.out
          clear HQ6
          have hq6i : (q6 : Int) < (P : Int) := by omega
          have ht6 := HT5.out.cell q6
          rw [boolC_at hq6] at ht6
          cases hs : hasQ Q q6 with
          | true =>
            rw [hs] at ht6
            clear hs hd6
            go_wp2_with fail
            go_roundg g
            case measure => omega
            case rel => exact ⟨q6, rd + 1, by omega, rfl, by go_num, HQ7, HB5⟩
          | false =>
            rw [hs] at ht6
            have hne : q6 ≠ p := fun h => by rw [h, HPQ.out] at hs; cases hs
            obtain ⟨h1, h2⟩ := turn_near HPP.out hq6 hne
            obtain ⟨r, hr⟩ : ∃ r, (q6 + 1) % P = r := ⟨_, rfl⟩
            have hrem : ((q6 : Int) + 1).tmod (P : Int) = (r : Int) := by
              rw [← hr, show ((q6 : Int) + 1) = ((q6 + 1 : Nat) : Int) by omega]
              exact (Int.ofNat_tmod (q6 + 1) P).symm
            rw [hr] at h1 h2
            have HR1 := Lib.hid h1
            have HR2 := Lib.hid h2
            clear hs hne hr h2
            cases gk with
            | zero => exact absurd HR2.out (by omega)
            | succ gi =>
              go_wp2_with fail
              go_roundg gi
              case measure => omega
              case rel => exact ⟨r, rfl, HR1, by have := HR2.out; omega, Lib.hid rfl⟩
      · have hT4 := (HT2.out.below HBB.out HT2.out.lt).below hb4 (Nat.lt_of_lt_of_le HT2.out.lt HBB.out.size)
        have ht := hT4.cell q
        rw [boolC_at hqP, hno] at ht
        have HB4 := Lib.hid (HBB.out.trans (hb4.mono HBB.out.size))
        have HT4 := Lib.hid hT4
        have HR4 := Lib.hid (HRW.out.up hb4)
        clear hb4 hT4 HRW HBW HHQ HSO hno
        go_wp2_with fail
        refine (HPL.out w4 none [] 0 HR4.out RTri.nil_ (by decide)).mono ?_
        rintro e w5 ⟨⟨q5, b5, rfl, h5⟩, hb5⟩
        have hb5t : b5 = true := by
          rcases h5 with ⟨_, h2⟩ | ⟨h, _⟩
          · exact h2
          · cases h
        subst hb5t
        have HB5 := Lib.hid (HB4.out.trans (hb5.mono HB4.out.size))
        have HT5 := Lib.hid (HT4.out.below hb5 HT4.out.lt)
        clear hb5 h5 HB4 HT4 HR4 ht
        go_wp2_with fail
        go_loopg [9] P (fun gi qv ws => ∃ q : Nat, qv = .int .i64 q ∧ Hid (q < P) ∧ (p + P - q) % P ≤ gi ∧ Hid (w5 = ws))
        case atStart => exact ⟨q, rfl, HQQ, Nat.le_of_lt (Nat.mod_lt _ hp0), Lib.hid rfl⟩
        case round =>
          obtain ⟨q6, rfl, HQ6, hd6, HW6⟩ := hrel
          have hw6 := HW6.out
          clear HW6
          subst hw6
          have HQ7 := HQ6
          have hq6 := HQ6.out
          clear HQ6
          have hq6i : (q6 : Int) < (P : Int) := by omega
          have ht6 := HT5.out.cell q6
          rw [boolC_at hq6] at ht6
          cases hs : hasQ Q q6 with
          | true =>
            rw [hs] at ht6
            clear hs hd6
            go_wp2_with fail
            go_roundg g
            case measure => omega
            case rel => exact ⟨q6, rd + 1, by omega, rfl, by go_num, HQ7, HB5⟩
          | false =>
            rw [hs] at ht6
            have hne : q6 ≠ p := fun h => by rw [h, HPQ.out] at hs; cases hs
            obtain ⟨h1, h2⟩ := turn_near HPP.out hq6 hne
            obtain ⟨r, hr⟩ : ∃ r, (q6 + 1) % P = r := ⟨_, rfl⟩
            have hrem : ((q6 : Int) + 1).tmod (P : Int) = (r : Int) := by
              rw [← hr, show ((q6 : Int) + 1) = ((q6 + 1 : Nat) : Int) by omega]
              exact (Int.ofNat_tmod (q6 + 1) P).symm
            rw [hr] at h1 h2
            have HR1 := Lib.hid h1
            have HR2 := Lib.hid h2
            clear hs hne hr h2
            cases gk with
            | zero => exact absurd HR2.out (by omega)
            | succ gi =>
              go_wp2_with fail
              go_roundg gi
              case measure => omega
              case rel => exact ⟨r, rfl, HR1, by have := HR2.out; omega, Lib.hid rfl⟩
set_option maxRecDepth 100000 in
theorem psolves_row (os : Os) (started : os.Started) (H : Type) (enc : TypeId × Value → H) :
    ReturnsInHanded {} Try.checked os 5 .any (Rows.pegSolvesSpec.pre6 enc Try.prog Try.f5 Rows.pegSolvesRow.domain false) (Rows.pegSolvesSpec.post enc Try.prog Try.f5 false true false false) := by
  refine returnsInHanded_of_change (C := Try.checked) ownNone started (by kernel_rfl) Try.func5
    (ChangeSpec.witness6 (enc := enc) (C := Try.checked) false ⟨#[], #[.int .i64 0, .slice none 0 0, .agg #[.int .i64 0, .int .i64 0]], []⟩ 8 (by kernel_rfl) (by kernel_rfl) (by kernel_rfl) (by kernel_rfl)) ?_
  intro W base args ds gs before hval hW _ _
  have hW2 := hW
  obtain ⟨p, q, hA, hV, rfl, _, _⟩ := hW2
  have hA : DataW.TrodAll enc Try.prog W 0 (fun _ => true) true Try.f5.params.toList args.toList ds p := hA
  have hAk := hA
  have hval : ∀ (j : Nat) t v, Try.f5.params[j]? = some t → args[j]? = some v → Value.okWide Try.prog W .any base t v := hval
  rw [Try.params5] at hA hval
  obtain ⟨v0, vs0, d0, ds0, p0, q0, hargs, rfl, rfl, h0, r0⟩ := trodAll_cons hA
  obtain ⟨v1, vs1, d1, ds1, p1, q1, rfl, rfl, rfl, h1, r1⟩ := trodAll_cons r0
  obtain ⟨v2, vs2, d2, ds2, p2, q2, rfl, rfl, rfl, h2, r2⟩ := trodAll_cons r1
  obtain ⟨rfl, rfl, rfl⟩ := trodAll_nil r2
  obtain rfl : args = #[v0, v1, v2] := by cases args; simp_all
  obtain ⟨rfl, rfl⟩ := trodVars_none hV
  obtain ⟨a0, rfl, rfl, rfl, w0⟩ := open_int Try.underlying3 (hval 0 3 v0 rfl rfl) h0
  obtain ⟨A1, z1, c1, rfl, _, m1, hr1⟩ := open_tris (hval 1 22 v1 rfl rfl) h1
  obtain ⟨x2, y2, rfl, rfl, rfl, _, _⟩ := open_pair Try.arrTwo41 Try.underlying3 (hval 2 41 v2 rfl rfl) h2
  clear hA hval
  simp only [List.append_nil, List.nil_append] at hW hAk
  refine (psolves_any a0 A1 z1 c1 x2 y2 W hr1 m1).mono fun e W' ⟨he, hb⟩ => ?_
  subst he
  exact ⟨_, rfl, post_bool hW hb (by rw [Try.params5]; decide) hAk (fun _ => rfl) rfl rfl (by kernel_rfl)⟩

theorem psolves_holds : Rows.PegSolvesSaid :=
  OpenClaim.holds_of_wide 5 Try.f5 rfl rfl rfl rfl rfl rfl rfl ⟨rfl, rfl, rfl, rfl, rfl⟩ rfl rfl rfl rfl rfl (by kernel_rfl) Try.func5 (by kernel_rfl)
    (of_decide_eq_true (by kernel_rfl)) (by unfold Func.isWrapper; first | (rw [if_pos (by decide +kernel)]; kernel_rfl) | (rw [if_neg (by decide +kernel)]; exact ⟨rfl, rfl⟩))
    (fun os started H enc _ => psolves_row os started H enc)

#print axioms psolves_holds
end Go.Proofs.Ythbhengcinkepaa
