/- For any two lists of integers: the function DiceSicherman answers true: the twins of the two dice made of them have the same sums, as many faces and the same least faces, their own twins are the same list, and the dice themselves are among them. No conditions. -/
import Derived.Test.YtkkholagmjcgiaaDiceTwins
import Derived.Test.YtkkholagmjcgiaaTwinSic
import Derived.Test.YtkkholagmjcgiaaSame2
import Derived.Deep.CutBlock
namespace Go.Proofs.Ytkkholagmjcgiaa
open Go.ChangeShapes Go.WideShapes Go.ChangeAt Go.RowKit

theorem twins_few (a b : List Int) : (twinsL a b).length ≤ 100000 := Nat.le_trans (growL_le _ _ _ _ _ _ _ _ _) (by decide)
/-- Whether a pair is among the first ones of a list. -/
def metB (F : List (List Int × List Int)) (p : List Int × List Int) (k : Nat) : Bool := (F.take k).any fun q => decide (q.1 = p.1) && decide (q.2 = p.2)
theorem metB_zero (F : List (List Int × List Int)) (p : List Int × List Int) : metB F p 0 = false := by simp [metB]
theorem metB_succ {F : List (List Int × List Int)} {p q : List Int × List Int} {k : Nat} (h : F[k]? = some q) : metB F p (k + 1) = (metB F p k || (decide (q.1 = p.1) && decide (q.2 = p.2))) := by
  unfold metB
  rw [List.take_add_one, h, List.any_append]
  simp
theorem metB_all {F : List (List Int × List Int)} {p : List Int × List Int} (h : p ∈ F) : metB F p F.length = true := by
  unfold metB
  rw [List.take_length, List.any_eq_true]
  exact ⟨p, h, by simp⟩

set_option maxRecDepth 100000 in
set_option maxHeartbeats 8000000 in
theorem sich_law (A1 A2 : Option Addr) (a b : List Int) (c1 c2 : Nat) (w : World) (h1 : RInts w w.heap.size A1 a) (h2 : RInts w w.heap.size A2 b) (hm1 : a.length ≤ 9223372036854775807) (hm2 : b.length ≤ 9223372036854775807) :
    Calls Try.prog 15 #[.slice A1 a.length c1, .slice A2 b.length c2] w fun e w' => e = .returned (.bool true) ∧ Below w.heap.size w w' := by
  have HD1 := Lib.hid (show Calls Try.prog 45 #[.slice A1 a.length c1, .int .i64 9] w _ from made_any A1 a c1 9 w h1 hm1 (by decide))
  have HD2 := Lib.hid (fun (W : World) (hb : Below w.heap.size w W) => show Calls Try.prog 45 #[.slice A2 b.length c2, .int .i64 9] W _ from made_any A2 b c2 9 W (RInts.tow h2 (Nat.le_refl _) hb) hm2 (by decide))
  have HX := Lib.hid (madeL_die a (most := ((9 : Nat) : Int)) (by decide) (by decide))
  have HY := Lib.hid (madeL_die b (most := ((9 : Nat) : Int)) (by decide) (by decide))
  obtain ⟨x, hx⟩ : ∃ x, madeL a ((9 : Nat) : Int) = x := ⟨_, rfl⟩
  obtain ⟨y, hy⟩ : ∃ y, madeL b ((9 : Nat) : Int) = y := ⟨_, rfl⟩
  rw [hx] at HD1 HX
  rw [hy] at HD2 HY
  have HA := Lib.hid awake_any
  clear h1 h2 hx hy
  go_enter Try.func15, Try.ntmps15
  go_wp2_with fail
  refine HD1.out.mono ?_
  rintro e w1 ⟨g1, k1, rfl, _, ho1, hb1⟩
  have HB1 := Lib.hid hb1
  have HO1 := Lib.hid ho1
  clear ho1 hb1 HD1
  go_wp2_with fail
  refine (HD2.out w1 HB1.out).mono ?_
  rintro e w2 ⟨g2, k2, rfl, _, ho2, hb2⟩
  have HB2 := Lib.hid (keepC HB1.out hb2)
  have HR1 := Lib.hid (RInts.tow HO1.out.reads (Nat.le_refl _) hb2)
  have HR2 := Lib.hid ho2.reads
  have hk1 := HO1.out.cap
  have hk2 := ho2.cap
  clear ho2 hb2 HD2 HO1 HB1
  go_wp2_with fail
  refine (Twins_ok (some ⟨g1, 0, none⟩) (some ⟨g2, 0, none⟩) x y k1 k2 w2 HR1.out HR2.out hk1 hk2 HX.out HY.out).mono ?_
  rintro e w3 ⟨fv, rfl, hof, hb3⟩
  obtain ⟨A3, k3, rfl, hr3⟩ := hof.form0
  have HB3 := Lib.hid (keepC HB2.out hb3)
  have HF3 := Lib.hid hr3
  have HR1b := Lib.hid (RInts.tow HR1.out (Nat.le_refl _) hb3)
  have HR2b := Lib.hid (RInts.tow HR2.out (Nat.le_refl _) hb3)
  have HS := Lib.hid ((twins_all HX.out HY.out).small HX.out.ok.1 HY.out.ok.1)
  have HTT := Lib.hid (fun p hp => twins_twins HX.out HY.out (p := p) hp)
  have HTD := Lib.hid (fun p hp => twins_dice HX.out HY.out (p := p) hp)
  have HTS := Lib.hid (fun p hp => twins_same HX.out HY.out (p := p) hp)
  have HTL := Lib.hid (fun p hp => twins_two HX.out HY.out (p := p) hp)
  have HME := Lib.hid (twins_self HX.out HY.out)
  have hfew := twins_few x y
  obtain ⟨F, hF⟩ : ∃ F, twinsL x y = F := ⟨_, rfl⟩
  rw [hF] at HF3 HS HTT HTD HTS HTL HME hfew ⊢
  have hF1 : 1 ≤ F.length := List.length_pos_of_mem HME.out
  have hF1i : ¬ (F.length : Int) < 1 := by omega
  clear hof hb3 hr3 HR1 HR2 hF HB2
  go_wp2_with fail
  go_loopg [9, 10] (min F.length 20) (fun g fv i wx => ∃ k : Nat, k + g = min F.length 20 ∧ i = .int .i64 k ∧ fv = .bool (metB F (x, y) k) ∧ Hid (Below w3.heap.size w3 wx))
  case atStart => exact ⟨0, by omega, rfl, by rw [metB_zero], Lib.hid (Below.refl _ _)⟩
  case round =>
    obtain ⟨k, hk, rfl, rfl, HB⟩ := hrel
    have HB0 := Lib.hid (keepC HB3.out HB.out)
    cases gk with
    | zero =>
      by_cases hF20 : F.length ≤ 20
      · obtain rfl : k = F.length := by omega
        have hnl : ¬ (F.length : Int) < (F.length : Int) := by omega
        rw [metB_all HME.out]
        go_wp2_with fail
        refine (HA.out _).mono ?_
        rintro e w7 ⟨rfl, hb7⟩
        have HB7 := Lib.hid (keepC HB0.out hb7)
        clear hb7
        go_wp2_with fail
        go_ret
        exact ⟨rfl, HB7.out⟩
      · obtain rfl : k = 20 := by omega
        have hl20 : (20 : Int) < (F.length : Int) := by omega
        have hl20' : ((20 : Nat) : Int) < (F.length : Int) := by omega
        have hn20 : ¬ ((20 : Nat) : Int) < 20 := by omega
        obtain ⟨mb, hmb⟩ : ∃ mb, metB F (x, y) 20 = mb := ⟨_, rfl⟩
        rw [hmb]
        clear hmb
        cases mb
        all_goals
          go_wp2_with fail
          refine (HA.out _).mono ?_
          rintro e w7 ⟨rfl, hb7⟩
          have HB7 := Lib.hid (keepC HB0.out hb7)
          clear hb7
          go_wp2_with fail
          go_ret
          exact ⟨rfl, HB7.out⟩
    | succ g =>
      obtain ⟨q, hq⟩ : ∃ q, F[k]? = some q := ⟨_, List.getElem?_eq_getElem (by omega)⟩
      have hqF := List.mem_of_getElem? hq
      obtain ⟨g3, ax, cx, ay, cy, e3, hg3, hcx, hcy, hlx, hly, rx, ry⟩ := (HF3.out.tow HB.out) k q hq
      subst e3
      have HMS := Lib.hid (metB_succ (p := (x, y)) hq)
      have hkl : (k : Int) < (F.length : Int) := by omega
      have hk20 : (k : Int) < 20 := by omega
      have hk0 : (0 : Int) ≤ (k : Int) := by omega
      have HRX := Lib.hid rx
      have HRY := Lib.hid ry
      have HQD := Lib.hid (HTD.out q hqF)
      have HQS := Lib.hid (HTS.out q hqF)
      have HQT := Lib.hid (HTT.out q hqF)
      have HQL := Lib.hid (HTL.out q hqF)
      have HSQ := Lib.hid (HS.out q hqF)
      clear hq hqF rx ry hg3
      go_wp2_with fail
      go_quiet (fail)
      obtain ⟨w4, hw4⟩ : ∃ w4, wr.drewN nq = w4 := ⟨_, rfl⟩
      have HB4 := Lib.hid (show Below wr.heap.size wr w4 by rw [← hw4]; exact Below.drewN_ (Below.refl _ _) nq)
      rw [hw4]
      clear hw4 hcx hcy
      have HB34 := Lib.hid (keepC HB.out HB4.out)
      have HX4 := Lib.hid (RInts.tow HR1b.out (Nat.le_refl _) HB34.out)
      have HY4 := Lib.hid (RInts.tow HR2b.out (Nat.le_refl _) HB34.out)
      have HC4 := Lib.hid (RInts.tow HRX.out (Nat.le_refl _) HB4.out)
      have HD4 := Lib.hid (RInts.tow HRY.out (Nat.le_refl _) HB4.out)
      have HSM := Lib.hid (show Calls Try.prog 26 #[.slice (some ⟨w4.heap.size, 0, none⟩) 2 2, .slice (some ⟨w4.heap.size + 1, 0, none⟩) 2 2] ((w4.alloc (Obj.cells #[.slice (some ⟨g1, 0, none⟩) x.length k1, .slice (some ⟨g2, 0, none⟩) y.length k2] 36)).alloc (Obj.cells #[.slice ax q.1.length cx, .slice ay q.2.length cy] 36)) _ from by
        have hd1 := RDice.two HX4.out HY4.out hk1 hk2 (Nat.le_refl _)
        have hba := (Below.refl (w4.heap.size + 1) (w4.alloc (Obj.cells #[.slice (some ⟨g1, 0, none⟩) x.length k1, .slice (some ⟨g2, 0, none⟩) y.length k2] 36))).alloc (by simp) (Obj.cells #[.slice ax q.1.length cx, .slice ay q.2.length cy] 36)
        have hb1 := (Below.refl w4.heap.size w4).alloc (Nat.le_refl _) (Obj.cells #[.slice (some ⟨g1, 0, none⟩) x.length k1, .slice (some ⟨g2, 0, none⟩) y.length k2] 36)
        have hd2 := RDice.two (RInts.tow HC4.out (Nat.le_refl _) hb1) (RInts.tow HD4.out (Nat.le_refl _) hb1) hlx hly (Nat.le_refl _)
        have hs1 : (w4.alloc (Obj.cells #[.slice (some ⟨g1, 0, none⟩) x.length k1, .slice (some ⟨g2, 0, none⟩) y.length k2] 36)).heap.size = w4.heap.size + 1 := by simp
        rw [hs1] at hd2
        exact Same_ok (some ⟨w4.heap.size, 0, none⟩) (some ⟨w4.heap.size + 1, 0, none⟩) [x, y] [q.1, q.2] 2 2 _ ((hd1.below hba).more (by simp)) (hd2.more (by simp)) (areTwo HX.out HY.out) (areTwo HQD.out.1 HQD.out.2))
      rw [HQS.out] at HSM
      go_wp2_with fail
      refine HSM.out.mono ?_
      rintro e w5 ⟨rfl, hb5⟩
      have HB5 := Lib.hid (show Below w4.heap.size w4 w5 from (((Below.refl w4.heap.size w4).alloc (Nat.le_refl _) _).alloc (by simp) _).trans (hb5.mono (by simp; omega)))
      clear hb5 HSM
      have HX5 := Lib.hid (RInts.tow HX4.out (Nat.le_refl _) HB5.out)
      have HY5 := Lib.hid (RInts.tow HY4.out (Nat.le_refl _) HB5.out)
      have HC5 := Lib.hid (RInts.tow HC4.out (Nat.le_refl _) HB5.out)
      have HD5 := Lib.hid (RInts.tow HD4.out (Nat.le_refl _) HB5.out)
      have HB35 := Lib.hid (keepC HB34.out HB5.out)
      have HF5 := Lib.hid (HF3.out.tow HB35.out)
      clear HX4 HY4 HC4 HD4 HB4 HB34 HB5 HRX HRY HB HB0
      obtain ⟨hq2, hq0, hq1⟩ := HQL.out
      have hln1 : ((q.1.length : Int) != (x.length : Int)) = false := by rw [hq2.n]; simp
      have hln2 : ((q.2.length : Int) != (y.length : Int)) = false := by rw [hq2.m]; simp
      obtain ⟨bx, ox, xx, eA1, hbx, hxx, hcx0⟩ := HX5.out.at_ (k := 0) HX.out.ne
      cases eA1
      obtain ⟨by_, oy, yy, eA2, hby, hyy, hcy0⟩ := HY5.out.at_ (k := 0) HY.out.ne
      cases eA2
      obtain ⟨bc, oc, xc, eA3, hbc, hxc, hcc0⟩ := HC5.out.at_ (k := 0) HQD.out.1.ne
      obtain ⟨bd, od, xd, eA4, hbd, hxd, hcd0⟩ := HD5.out.at_ (k := 0) HQD.out.2.ne
      subst eA3 eA4
      have e1 : xc = xx := by
        have h1 := head_at HX.out.ne
        have h2 := head_at HQD.out.1.ne
        rw [hxx] at h1
        rw [hxc] at h2
        rw [Option.some.inj h1, Option.some.inj h2]
        exact hq0
      have e2 : xd = yy := by
        have h1 := head_at HY.out.ne
        have h2 := head_at HQD.out.2.ne
        rw [hyy] at h1
        rw [hxd] at h2
        rw [Option.some.inj h1, Option.some.inj h2]
        exact hq1
      subst e1 e2
      have hca : w5.cell? ⟨g1, 0, none⟩ = some (.int .i64 xc) := hcx0
      have hcb : w5.cell? ⟨g2, 0, none⟩ = some (.int .i64 xd) := hcy0
      have hcc : w5.cell? ⟨bc, oc, none⟩ = some (.int .i64 xc) := hcc0
      have hcd : w5.cell? ⟨bd, od, none⟩ = some (.int .i64 xd) := hcd0
      have l1 : (0 : Int) < (x.length : Int) := by have := HX.out.ne; omega
      have l2 : (0 : Int) < (y.length : Int) := by have := HY.out.ne; omega
      have l3 : (0 : Int) < (q.1.length : Int) := by have := HQD.out.1.ne; omega
      have l4 : (0 : Int) < (q.2.length : Int) := by have := HQD.out.2.ne; omega
      have hnx : (xc != xc) = false := by simp
      have hny : (xd != xd) = false := by simp
      clear hq2 hq0 hq1 hcx0 hcy0 hcc0 hcd0 hxx hyy hxc hxd hbx hby hbc hbd HQL
      go_wp2_with fail
      go_quiet (fail)
      obtain ⟨w6, hw6⟩ : ∃ w6, w5.drewN nq = w6 := ⟨_, rfl⟩
      have HB6 := Lib.hid (show Below w5.heap.size w5 w6 by rw [← hw6]; exact Below.drewN_ (Below.refl _ _) nq)
      rw [hw6]
      clear hw6 hca hcb hcc hcd l1 l2 l3 l4 hnx hny hln1 hln2
      have HB36 := Lib.hid (keepC HB35.out HB6.out)
      have HX6 := Lib.hid (RInts.tow HX5.out (Nat.le_refl _) HB6.out)
      have HY6 := Lib.hid (RInts.tow HY5.out (Nat.le_refl _) HB6.out)
      have HC6 := Lib.hid (RInts.tow HC5.out (Nat.le_refl _) HB6.out)
      have HD6 := Lib.hid (RInts.tow HD5.out (Nat.le_refl _) HB6.out)
      have HF6 := Lib.hid (HF5.out.tow HB6.out)
      clear HX5 HY5 HC5 HD5 HB35 HB6 HF5
      have hl8 := HSQ.out
      have HI1 := Lib.hid (fun n => ints_any (some ⟨bc, oc, none⟩) (some ⟨g1, 0, none⟩) q.1 x cx k1 w6.heap.size (w6.drewN n) (HC6.out.drewN n) (HX6.out.drewN n) (by omega) (by have := HX.out.ok.1; omega))
      have HI2 := Lib.hid (fun n => ints_any (some ⟨bd, od, none⟩) (some ⟨g2, 0, none⟩) q.2 y cy k2 w6.heap.size (w6.drewN n) (HD6.out.drewN n) (HY6.out.drewN n) (by omega) (by have := HY.out.ok.1; omega))
      obtain ⟨d1, hd1⟩ : ∃ d, decide (q.1 = x) = d := ⟨_, rfl⟩
      obtain ⟨d2, hd2⟩ : ∃ d, decide (q.2 = y) = d := ⟨_, rfl⟩
      obtain ⟨mb, hmb⟩ : ∃ mb, metB F (x, y) k = mb := ⟨_, rfl⟩
      have HMB := Lib.hid (show metB F (x, y) (k + 1) = (mb || (d1 && d2)) by rw [HMS.out, hmb, ← hd1, ← hd2])
      rw [hd1] at HI1
      rw [hd2] at HI2
      rw [hmb]
      clear hl8 hd1 hd2 hmb HMS
      go_upto_region 13 with fail
      go_cut [9] (fun v9 wx => v9 = .bool (mb || (d1 && d2)) ∧ Hid (∃ n, w6.drewN n = wx))
      case first =>
        cases mb
        · go_wp2_with fail
          refine (HI1.out 0).mono ?_
          rintro e w7 ⟨rfl, n7, rfl⟩
          cases d1
          · go_wp2_with fail
            go_meet
            exact ⟨rfl, Lib.hid ⟨n7, rfl⟩⟩
          · go_wp2_with fail
            refine (HI2.out _).mono ?_
            rintro e w8 ⟨rfl, n8, rfl⟩
            cases d2
            all_goals
              go_wp2_with fail
              go_meet
              exact ⟨rfl, Lib.hid ⟨n7 + n8, by simp⟩⟩
        · go_wp2_with fail
          go_meet
          exact ⟨by simp, Lib.hid ⟨0, rfl⟩⟩
      case rest =>
      obtain ⟨rfl, HWC⟩ := hcut
      have HB7 := Lib.hid (show Below w6.heap.size w6 wc by obtain ⟨n, hn⟩ := HWC.out; rw [← hn]; exact Below.drewN_ (Below.refl _ _) n)
      have HB37 := Lib.hid (keepC HB36.out HB7.out)
      have HC7 := Lib.hid (RInts.tow HC6.out (Nat.le_refl _) HB7.out)
      have HD7 := Lib.hid (RInts.tow HD6.out (Nat.le_refl _) HB7.out)
      have HF7 := Lib.hid (HF6.out.tow HB7.out)
      clear HX6 HY6 HC6 HD6 HF6 HB36 HB7 HI1 HI2 HWC
      go_wp2_with fail
      refine (Twins_ok (some ⟨bc, oc, none⟩) (some ⟨bd, od, none⟩) q.1 q.2 cx cy wc HC7.out HD7.out hlx hly HQD.out.1 HQD.out.2).mono ?_
      rintro e w8 ⟨fv8, rfl, hof8, hb8⟩
      rw [HQT.out] at hof8
      obtain ⟨A8, k8, rfl, hr8⟩ := hof8.form0
      have HF8 := Lib.hid hr8
      have HF3c := Lib.hid (HF7.out.tow hb8)
      have HB38 := Lib.hid (keepC HB37.out hb8)
      clear hof8 hr8 hb8 HC7 HD7 HF7 HB37
      go_wp2_with fail
      refine (pairs_same A8 (some ⟨g3, 0, none⟩) F k8 k3 w8.heap.size w8 HF8.out HF3c.out HS.out hfew).mono ?_
      rintro e w9 ⟨rfl, n9, hw9⟩
      have HB39 := Lib.hid (show Below w3.heap.size w3 w9 by rw [hw9]; exact Below.drewN_ HB38.out n9)
      clear hw9 HF8 HF3c HB38
      go_wp2_with fail
      go_roundg g
      case measure => omega
      case rel => exact ⟨k + 1, by omega, by go_num, by rw [HMB.out], HB39⟩

set_option maxRecDepth 100000 in
theorem sich_row (os : Os) (started : os.Started) (H : Type) (enc : TypeId × Value → H) :
    ReturnsInHanded {} Try.checked os 15 .any (Rows.diceSichermanSpec.pre6 enc Try.prog Try.f15 Rows.diceSichermanRow.domain false) (Rows.diceSichermanSpec.post enc Try.prog Try.f15 false true false false) := by
  refine returnsInHanded_of_change (C := Try.checked) ownNone started (by kernel_rfl) Try.func15
    (ChangeSpec.witness6 (enc := enc) (C := Try.checked) false ⟨#[], #[.slice none 0 0, .slice none 0 0], []⟩ 8 (by kernel_rfl) (by kernel_rfl) (by kernel_rfl) (by kernel_rfl)) ?_
  intro W base args ds gs before hval hW _ _
  have hW2 := hW
  obtain ⟨p, q, hA, hV, rfl, _, _⟩ := hW2
  have hA : DataW.TrodAll enc Try.prog W 0 (fun _ => true) true Try.f15.params.toList args.toList ds p := hA
  have hAk := hA
  have hval : ∀ (j : Nat) t v, Try.f15.params[j]? = some t → args[j]? = some v → Value.okWide Try.prog W .any base t v := hval
  rw [Try.params15] at hA hval
  obtain ⟨v0, vs0, d0, ds0, p0, q0, hargs, rfl, rfl, h0, r0⟩ := trodAll_cons hA
  obtain ⟨v1, vs1, d1, ds1, p1, q1, rfl, rfl, rfl, h1, r1⟩ := trodAll_cons r0
  obtain ⟨rfl, rfl, rfl⟩ := trodAll_nil r1
  obtain rfl : args = #[v0, v1] := by cases args; simp_all
  obtain ⟨rfl, rfl⟩ := trodVars_none hV
  obtain ⟨A0, z0, c0, rfl, _, m0, hr0⟩ := open_die (hval 0 36 v0 rfl rfl) h0
  obtain ⟨A1, z1, c1, rfl, _, m1, hr1⟩ := open_die (hval 1 36 v1 rfl rfl) h1
  clear hA hval
  simp only [List.append_nil] at hW hAk
  refine (sich_law A0 A1 z0 z1 c0 c1 W hr0 hr1 m0 m1).mono fun e W' ⟨he, hb⟩ => ?_
  subst he
  exact ⟨_, rfl, post_bool hW hb (by rw [Try.params15]; decide) hAk (fun _ => rfl) rfl rfl (by kernel_rfl)⟩

theorem sich_holds : Rows.DiceSichermanSaid :=
  OpenClaim.holds_of_wide 15 Try.f15 rfl rfl rfl rfl rfl rfl rfl ⟨rfl, rfl, rfl, rfl, rfl⟩ rfl rfl rfl rfl rfl (by kernel_rfl) Try.func15 (by kernel_rfl)
    (of_decide_eq_true (by kernel_rfl)) (by unfold Func.isWrapper; first | (rw [if_pos (by decide +kernel)]; kernel_rfl) | (rw [if_neg (by decide +kernel)]; exact ⟨rfl, rfl⟩))
    (fun os started H enc _ => sich_row os started H enc)

#print axioms sich_holds
end Go.Proofs.Ytkkholagmjcgiaa
