/- For every integer n, list of pairs of integers l and pair of integers of: the function LightOwn answers true: what Quiet and Polynomial return is new memory: written over, it changes neither the edges nor what they return afterwards; and no function changes its arguments. No conditions. -/
import Derived.Test.YtpdgjjpfahobaaaOpenE
import Derived.Test.YtpdgjjpfahobaaaAwake4
import Derived.Test.YtpdgjjpfahobaaaRQuiet
import Derived.Test.YtpdgjjpfahobaaaPowers
import Derived.Test.YtpdgjjpfahobaaaInts4
import Derived.Test.YtpdgjjpfahobaaaOwn4
namespace Go.Proofs.Ytpdgjjpfahobaaa
open Go.ChangeShapes Go.WideShapes Go.ChangeAt Go.RowKit Go.WideMaps Lamp

/-- Every element of a slice lies in a block from a bound on, and may be written. -/
def Wr (w : World) (B : Nat) (A : Option Addr) (n : Nat) : Prop := ∀ i, i < n → ∃ g cs, A = some ⟨g, 0, none⟩ ∧ B ≤ g ∧ Box w g 3 cs ∧ i < cs.size
section
variable {w w' : World} {B n : Nat} {A : Option Addr}
theorem wr_of {v : Value} {zs : List Int} (h : OwnB w B v zs) : ∃ A k, v = .slice A zs.length k ∧ Wr w B A zs.length := by
  rcases h.2 with ⟨e1, h0⟩ | ⟨g, cap, cur, e1, hb, hh, h1, h2, h3, _⟩
  · exact ⟨none, 0, by rw [e1, h0], fun i hi => by omega⟩
  · exact ⟨_, cap, e1, fun i hi => ⟨g, cur, rfl, hb, hh, by rw [h3]; omega⟩⟩
theorem Box.stays {t : TypeId} {g : Nat} {cs : Array Value} (h : Box w g t cs) (b j : Nat) (u : Value) : ∃ cs', Box (w.setCell ⟨b, j, none⟩ u) g t cs' ∧ cs'.size = cs.size := by
  by_cases e : g = b
  · subst e
    exact ⟨_, h.put j u, by simp⟩
  · exact ⟨cs, h.far e u, rfl⟩
theorem Wr.set (h : Wr w B A n) (b j : Nat) (u : Value) : Wr (w.setCell ⟨b, j, none⟩ u) B A n := fun i hi => by
  obtain ⟨g, cs, e, hb, hx, hl⟩ := h i hi
  obtain ⟨cs', hx', hl'⟩ := hx.stays b j u
  exact ⟨g, cs', e, hb, hx', by omega⟩
theorem Wr.later (h : Wr w B A n) (hb : Below w.heap.size w w') : Wr w' B A n := fun i hi => by
  obtain ⟨g, cs, e, hg, hx, hl⟩ := h i hi
  exact ⟨g, cs, e, hg, hx.below hb hx.lt, hl⟩
theorem Wr.lower {B' : Nat} (h : Wr w B A n) (hB : B' ≤ B) : Wr w B' A n := fun i hi => by
  obtain ⟨g, cs, e, hg, hx, hl⟩ := h i hi
  exact ⟨g, cs, e, by omega, hx, hl⟩
end
theorem eqO (a b : Int) (w : World) : (Op.equalIn 10000 41 (.agg #[.int .i64 a, .int .i64 b]) (.agg #[.int .i64 a, .int .i64 b])).run Try.prog w = .ok true w := by
  have u3 := Try.underlying3
  have a3 := Try.isAgg3
  have z3 := Try.sizeOf3
  rw [show (10000 : Nat) = 9999 + 1 from rfl, Op.equalIn]
  simp only [Sem.run_bind, run_underlying Try.underlying41, Result.andThen_ok]
  simp only [Std.Legacy.Range.forIn_eq_forIn_range', Std.Legacy.Range.size, Nat.sub_zero, Nat.add_sub_cancel, Nat.div_one, List.range'_succ, List.range'_zero, List.forIn_cons, List.forIn_nil]
  go_simp
theorem tame_short {m : Nat} (h1 : 1 ≤ m) (hm : m ≤ 10) (l : List (Int × Int)) : (tameL m l).length ≤ 130 := by
  have h2 : (tameL m l).length ≤ ((List.range 256).filter fun i => decide (i / 16 < i % 16 ∧ i % 16 < 10)).length := by
    unfold tameL outK
    rw [List.length_map, ← List.countP_eq_length_filter, ← List.countP_eq_length_filter]
    refine List.countP_mono_left fun i _ h => ?_
    have := inK_edge h1 (by omega) l _ i h
    simp; omega
  have h3 : ((List.range 256).filter fun i => decide (i / 16 < i % 16 ∧ i % 16 < 10)).length ≤ 130 := by decide +kernel
  omega
theorem poly7 : (polyL 7).length ≤ 1000 := by decide +kernel
theorem rq_gr2 {n : Nat} (hn : n ≤ 16) {l : List (Int × Int)} (hg : goodK (n : Int) l l.length = true) (own : Bool) : (rqK (grL n l own) (2 ^ n - 1)).1 = quietL (grL n l own) :=
  rq_all (grL_len hn l own) hn fun x hx => by
    obtain ⟨i, hi, rfl⟩ := List.getElem_of_mem hx
    have := grL_lt hn hg own i
    simpa [List.getD_eq_getElem?_getD, hi] using this

set_option maxRecDepth 100000 in
set_option maxHeartbeats 8000000 in
theorem lown_any (a0 : Int) (A : Option Addr) (l : List (Int × Int)) (c : Nat) (p q : Int) (w : World) (hr : REdges w w.heap.size A l) (hl : l.length ≤ 9223372036854775807) :
    Calls Try.prog 16 #[.int .i64 a0, .slice A l.length c, .agg #[.int .i64 p, .int .i64 q]] w fun e w' => e = .returned (.bool true) ∧ Below w.heap.size w w' := by
  obtain ⟨W0, hW0⟩ : ∃ W0, w.alloc (Obj.cells #[Value.int .i64 p, Value.int .i64 q] 41) = W0 := ⟨_, rfl⟩
  have hb0 : Below w.heap.size w W0 := by rw [← hW0]; exact (Below.refl _ w).alloc (Nat.le_refl _) _
  have HX0 := Lib.hid (show Box W0 w.heap.size 41 #[Value.int .i64 p, Value.int .i64 q] by rw [← hW0]; exact Box.new w _ _)
  have HT := Lib.hid (tame_any A a0 l c 10 W0 (hr.up hb0) hl (by decide) (by decide))
  have HB0 := Lib.hid hb0
  have hm := remN_lt a0 (m := 10) (by decide)
  obtain ⟨m, hme⟩ : ∃ m, 1 + remN a0 10 = m := ⟨_, rfl⟩
  have hm1 : 1 ≤ m := by omega
  have hm10 : m ≤ 10 := by omega
  have hm16 : m ≤ 16 := by omega
  rw [hme] at HT
  have hp1 : 1 ≤ 2 ^ m := Nat.one_le_two_pow
  have hx := remN_lt p hp1
  have hy := remN_lt q hp1
  obtain ⟨x, hxe⟩ : ∃ x, remN p (2 ^ m) = x := ⟨_, rfl⟩
  obtain ⟨y, hye⟩ : ∃ y, remN q (2 ^ m) = y := ⟨_, rfl⟩
  have HSX := Lib.hid (fun W => set_any p m W hm16)
  have HSY := Lib.hid (fun W => set_any q m W hm16)
  rw [hxe] at hx HSX
  rw [hye] at hy HSY
  have HXL := Lib.hid hx
  have HYL := Lib.hid hy
  have HGR := Lib.hid (fun (w1 : World) (A1 : Option Addr) (h : REdges w1 w1.heap.size A1 (tameL m l)) => tame_gr hm1 hm16 h)
  have HTS := Lib.hid (tame_short hm1 hm10 l)
  have HTK := Lib.hid (show (tameL m l).take 130 = tameL m l from List.take_of_length_le HTS.out)
  have HRQ := Lib.hid (rq_gr2 hm16 (tame_good hm1 hm16 l) true)
  have HQL := Lib.hid (quiet_len hm16 (tameL m l) true)
  have HSL := Lib.hid (grL_len hm16 (tameL m l) true)
  have HS65 := Lib.hid (fun (w1 : World) (A1 : Option Addr) (h : Gr w1 A1 m (tameL m l)) => show ∀ z ∈ grL m (tameL m l) true, z < 65536 from fun z hz => h.lt true z (List.mem_of_mem_take hz))
  obtain ⟨L, hL⟩ : ∃ L, tameL m l = L := ⟨_, rfl⟩
  rw [hL] at HT HGR HTS HTK HRQ HQL HSL HS65
  obtain ⟨s, hs⟩ : ∃ s, grL m L true = s := ⟨_, rfl⟩
  rw [hs] at HRQ HQL HSL HS65
  have HSG := Lib.hid hs
  obtain ⟨Q, hQ⟩ : ∃ Q, quietL s = Q := ⟨_, rfl⟩
  rw [hQ] at HRQ HQL
  have HQE := Lib.hid hQ
  obtain ⟨F, hF⟩ : ∃ F, polyL 7 = F := ⟨_, rfl⟩
  have HFE := Lib.hid hF
  have hFl : F.length ≤ 1000 := by rw [← hF]; exact poly7
  have hb0s := hb0.size
  have hQl : Q.length ≤ 16 := by have := HQL.out; omega
  have hLl : L.length ≤ 130 := HTS.out
  clear hr hl hm hme hxe hye hb0 hp1 hx hy hL hs hQ hF
  go_enter Try.func16, Try.ntmps16
  go_wp2_with fail
  clear hW0
  refine HT.out.mono ?_
  rintro e w1 ⟨v1, rfl, ho1, hb1⟩
  obtain ⟨A1, c1, rfl, hcap1, hra1⟩ := ho1.caps
  have HX1 := Lib.hid (HX0.out.below hb1 HX0.out.lt)
  have HB1 := Lib.hid (show Below w.heap.size w w1 from HB0.out.trans (hb1.mono hb0s))
  have HG1 := Lib.hid (HGR.out w1 A1 hra1)
  clear ho1 hb1 hra1 HT HX0 HB0
  go_wp2_with fail
  refine (own4_any A1 L c1 w1 HG1.out.reads hcap1 (by omega)).mono ?_
  rintro e w2 ⟨v2, rfl, ho2, hb2⟩
  rw [HTK.out] at ho2
  obtain ⟨A2, c2, rfl, _, hra2⟩ := ho2.caps
  have HB2 := Lib.hid (HB1.out.trans (hb2.mono HB1.out.size))
  have HG2 := Lib.hid (HG1.out.up hb2)
  have HC2 := Lib.hid (HGR.out w2 A2 hra2)
  have HX2 := Lib.hid (HX1.out.below hb2 HX1.out.lt)
  clear ho2 hb2 hra2 HB1 HG1 HX1
  go_wp2_with fail
  refine (Quiet_ok A1 m L c1 true w2 HG2.out).mono ?_
  rintro e w3 ⟨v3, rfl, ho3, hb3⟩
  rw [HSG.out, HQE.out] at ho3
  obtain ⟨A3, c3, hv3, hw3⟩ := wr_of ho3
  rw [natV_len] at hv3 hw3
  subst hv3
  have HW3 := Lib.hid hw3
  have HZ3 := Lib.hid hb3
  have HX3 := Lib.hid (HX2.out.below hb3 HX2.out.lt)
  have c0 := HX3.out.cell 0
  simp only [List.getElem?_toArray, List.getElem?_cons_zero] at c0
  clear ho3 hb3 hw3
  go_wp2_with fail
  refine (HSX.out _).mono ?_
  rintro e w' ⟨rfl, rfl⟩
  clear c0
  go_wp2_with fail
  refine (Effect_ok A1 m x L c1 true w3 (HG2.out.up HZ3.out) HXL.out).mono ?_
  rintro e w4 ⟨rfl, hb4⟩
  have HZ4 := Lib.hid (HZ3.out.trans (hb4.mono HZ3.out.size))
  have HW4 := Lib.hid (HW3.out.later hb4)
  have HX4 := Lib.hid (HX3.out.below hb4 HX3.out.lt)
  have c1' := HX4.out.cell 1
  simp only [List.getElem?_toArray, List.getElem?_cons_zero, List.getElem?_cons_succ] at c1'
  clear hb4 HZ3 HW3 HX3
  go_wp2_with fail
  refine (HSY.out _).mono ?_
  rintro e w' ⟨rfl, rfl⟩
  clear c1'
  go_wp2_with fail
  refine (Fewest_ok A1 m y L c1 false w4 (HG2.out.up HZ4.out) HYL.out).mono ?_
  rintro e w5 ⟨rfl, hb5⟩
  have HZ5 := Lib.hid (HZ4.out.trans (hb5.mono HZ4.out.size))
  have HW5 := Lib.hid (HW4.out.later hb5)
  clear hb5 HZ4 HW4 HX4
  go_wp2_with fail
  refine (show Calls Try.prog 46 #[.int .i64 7] w5 _ from Polynomial_ok 7 w5 (by decide)).mono ?_
  rintro e w6 ⟨v6, rfl, ho6, hb6⟩
  rw [HFE.out] at ho6
  obtain ⟨A6, c6, hv6, hw6⟩ := wr_of ho6
  rw [natV_len] at hv6 hw6
  subst hv6
  have HV6 := Lib.hid (hw6.lower HZ5.out.size)
  have HZ6 := Lib.hid (HZ5.out.trans (hb6.mono HZ5.out.size))
  have HW6 := Lib.hid (HW5.out.later hb6)
  clear hb6 HZ5 HW5 ho6 hw6
  go_wp2_with fail
  go_loopw [18] (fun i wr => ∃ k : Nat, i = .int .i64 k ∧ k ≤ Q.length ∧ Hid (Below w2.heap.size w2 wr) ∧ Hid (Wr wr w2.heap.size A3 Q.length) ∧ Hid (Wr wr w2.heap.size A6 F.length)) (fun i _ => Q.length - (intOf i).toNat)
  case atStart => exact ⟨0, rfl, by omega, HZ6, HW6, HV6⟩
  case round =>
    obtain ⟨k, rfl, hk, HZ1, HW1, HV1⟩ := hrel
    have HZ := HZ1
    have HW := HW1
    have HV := HV1
    clear HZ1 HW1 HV1 HZ6 HW6 HV6
    by_cases hlt : k < Q.length
    · obtain ⟨g, cs, hA, hg, hbx, hks⟩ := HW.out k hlt
      subst hA
      have hck := hbx.cell k
      rw [Array.getElem?_eq_getElem hks] at hck
      have hfk := hbx.free k
      have hlt' : (k : Int) < (Q.length : Int) := by omega
      go_wp2_with fail
      clear hck hfk
      go_roundw
      case rel => exact ⟨k + 1, by go_num, by omega, Lib.hid (HZ.out.setCell (p := ⟨g, k, none⟩) hg _), Lib.hid (HW.out.set g k _), Lib.hid (HV.out.set g k _)⟩
      case measure => simp [intOf]; omega
    · obtain rfl : k = Q.length := by omega
      obtain ⟨wo, rfl⟩ : ∃ wo : World, wo = wr := ⟨_, rfl⟩
      go_wp2_with fail
      go_loopw [19] (fun i wr => ∃ k : Nat, i = .int .i64 k ∧ k ≤ F.length ∧ Hid (Below w2.heap.size w2 wr) ∧ Hid (Wr wr w2.heap.size A6 F.length)) (fun i _ => F.length - (intOf i).toNat)
      case atStart => exact ⟨0, rfl, by omega, HZ, HV⟩
      case round =>
        obtain ⟨k, rfl, hk, HZ1, HV1⟩ := hrel
        have HZ2 := HZ1
        have HV2 := HV1
        clear HZ1 HV1 HZ HW HV
        by_cases hlt : k < F.length
        · obtain ⟨g, cs, hA, hg, hbx, hks⟩ := HV2.out k hlt
          subst hA
          have hck := hbx.cell k
          rw [Array.getElem?_eq_getElem hks] at hck
          have hfk := hbx.free k
          have hlt' : (k : Int) < (F.length : Int) := by omega
          go_wp2_with fail
          clear hck hfk
          go_roundw
          case rel => exact ⟨k + 1, by go_num, by omega, Lib.hid (HZ2.out.setCell (p := ⟨g, k, none⟩) hg _), Lib.hid (HV2.out.set g k _)⟩
          case measure => simp [intOf]; omega
        · obtain rfl : k = F.length := by omega
          obtain ⟨w7, rfl⟩ : ∃ w7 : World, w7 = wr := ⟨_, rfl⟩
          have HB7 := Lib.hid (HB2.out.trans (HZ2.out.mono HB2.out.size))
          have HG7 := Lib.hid (HG2.out.up HZ2.out)
          have HC7 := Lib.hid (HC2.out.up HZ2.out)
          clear HZ2 HV2 HB2 HG2 HC2
          go_wp2_with fail
          refine (Quiet_ok A1 m L c1 true w7 HG7.out).mono ?_
          rintro e w8 ⟨v8, rfl, ho8, hb8⟩
          rw [HSG.out, HQE.out] at ho8
          obtain ⟨A8, c8, hv8, hr8⟩ := ho8.reads
          subst hv8
          have HR8 := Lib.hid hr8
          have HB8 := Lib.hid (HB7.out.trans (hb8.mono HB7.out.size))
          have HG8 := Lib.hid (HG7.out.up hb8)
          have HC8 := Lib.hid (HC7.out.up hb8)
          clear ho8 hr8 hb8 HG7 HC7
          go_wp2_with fail
          refine (show Calls Try.prog 46 #[.int .i64 7] w8 _ from Polynomial_ok 7 w8 (by decide)).mono ?_
          rintro e w9 ⟨v9, rfl, ho9, hb9⟩
          rw [HFE.out] at ho9
          obtain ⟨A9, c9, hv9, hr9⟩ := ho9.reads
          subst hv9
          have HR9 := Lib.hid hr9
          have HB9 := Lib.hid (HB8.out.trans (hb9.mono HB8.out.size))
          have HG9 := Lib.hid (HG8.out.up hb9)
          have HC9 := Lib.hid (HC8.out.up hb9)
          have HQ9 := Lib.hid ((HR8.out.below hb9).more hb9.size)
          clear ho9 hr9 hb9 HG8 HC8 HR8
          go_wp2_with fail
          refine (Near_any A2 m L c2 true w9 HC9.out).mono ?_
          rintro e w10 ⟨rfl, hx10, hb10⟩
          rw [HSG.out] at hx10
          have HX10 := Lib.hid hx10
          have HB10 := Lib.hid (HB9.out.trans (hb10.mono HB9.out.size))
          have HG10 := Lib.hid (HG9.out.up hb10)
          have HC10 := Lib.hid (HC9.out.up hb10)
          have HQ10 := Lib.hid ((HQ9.out.below hb10).more hb10.size)
          have HR10 := Lib.hid ((HR9.out.below hb10).more hb10.size)
          have HL10 := Lib.hid (HS65.out w10 A1 HG10.out)
          clear hx10 hb10 HG9 HC9 HQ9 HR9
          go_wp2_with fail
          refine (RQuiet_any HX10.out HSL.out hm16 hm1 HL10.out).mono ?_
          rintro e w11 ⟨v11, rfl, ho11, hb11⟩
          rw [HRQ.out] at ho11
          obtain ⟨A11, c11, hv11, hr11⟩ := ho11.reads
          subst hv11
          have HR11 := Lib.hid hr11
          have HB11 := Lib.hid (HB10.out.trans (hb11.mono HB10.out.size))
          have HG11 := Lib.hid (HG10.out.up hb11)
          have HC11 := Lib.hid (HC10.out.up hb11)
          have HQ11 := Lib.hid ((HQ10.out.below hb11).more hb11.size)
          have HF11 := Lib.hid ((HR10.out.below hb11).more hb11.size)
          clear ho11 hr11 hb11 HG10 HC10 HQ10 HR10 HX10
          go_wp2_with fail
          refine (ints4_any A8 A11 (natV Q) (natV Q) c8 c11 w11.heap.size w11 HQ11.out HR11.out (by rw [natV_len]; omega) (by rw [natV_len]; omega)).mono ?_
          rintro e w12 ⟨rfl, n12, rfl⟩
          rw [show decide (natV Q = natV Q) = true by simp]
          obtain ⟨W12, hW12⟩ : ∃ W, w11.drewN n12 = W := ⟨_, rfl⟩
          have HBX := Lib.hid (show Below w11.heap.size w11 W12 by rw [← hW12]; exact below_drewN (Below.refl _ _) n12)
          have HB12 := Lib.hid (HB11.out.trans (HBX.out.mono HB11.out.size))
          have HG12 := Lib.hid (HG11.out.up HBX.out)
          have HC12 := Lib.hid (HC11.out.up HBX.out)
          have HF12 := Lib.hid ((HF11.out.below HBX.out).more HBX.out.size)
          rw [hW12]
          clear hW12 HBX HG11 HC11 HF11 HQ11 HR11
          go_wp2_with fail
          refine (show Calls Try.prog 48 #[.int .i64 7] W12 _ from RPolynomial_any 7 W12 (by decide)).mono ?_
          rintro e w13 ⟨g13, c13, rfl, hx13, hb13⟩
          have HX13 := Lib.hid hx13
          have HB13 := Lib.hid (HB12.out.trans (hb13.mono HB12.out.size))
          have HG13 := Lib.hid (HG12.out.up hb13)
          have HC13 := Lib.hid (HC12.out.up hb13)
          have HF13 := Lib.hid ((HF12.out.below hb13).more hb13.size)
          clear hx13 hb13 HG12 HC12 HF12
          go_wp2_with fail
          have hpw := Powers_any g13 c13 (partL (memberL 7 false) (7 + 2) (7 + 2)) w13 (by rw [partL_len]; decide) HX13.out
          rw [ones_same, partL_len, HFE.out] at hpw
          refine (show Calls Try.prog 47 #[.slice (some ⟨g13, 0, none⟩) 9 c13] w13 _ from hpw).mono ?_
          rintro e w14 ⟨v14, rfl, ho14, hb14⟩
          obtain ⟨A14, c14, hv14, hr14⟩ := ho14.reads
          subst hv14
          have HR14 := Lib.hid hr14
          have HB14 := Lib.hid (HB13.out.trans (hb14.mono HB13.out.size))
          have HG14 := Lib.hid (HG13.out.up hb14)
          have HC14 := Lib.hid (HC13.out.up hb14)
          have HF14 := Lib.hid ((HF13.out.below hb14).more hb14.size)
          clear hpw ho14 hr14 hb14 HG13 HC13 HF13 HX13
          go_wp2_with fail
          refine (ints4_any A9 A14 (natV F) (natV F) c9 c14 w14.heap.size w14 HF14.out HR14.out (by rw [natV_len]; omega) (by rw [natV_len]; omega)).mono ?_
          rintro e w15 ⟨rfl, n15, rfl⟩
          rw [show decide (natV F = natV F) = true by simp]
          obtain ⟨W15, hW15⟩ : ∃ W, w14.drewN n15 = W := ⟨_, rfl⟩
          have HBX := Lib.hid (show Below w14.heap.size w14 W15 by rw [← hW15]; exact below_drewN (Below.refl _ _) n15)
          have HB15 := Lib.hid (HB14.out.trans (HBX.out.mono HB14.out.size))
          have HG15 := Lib.hid (HG14.out.up HBX.out)
          have HC15 := Lib.hid (HC14.out.up HBX.out)
          rw [hW15]
          clear hW15 HBX HG14 HC14 HF14 HR14
          go_wp2_with fail
          go_loopw [24] (fun i wx => ∃ j : Nat, i = .int .i64 j ∧ j ≤ L.length ∧ Hid (∃ n, W15.drewN n = wx)) (fun i _ => L.length - (intOf i).toNat)
          case atStart => exact ⟨0, rfl, by omega, Lib.hid ⟨0, rfl⟩⟩
          case round =>
            obtain ⟨j, rfl, hj, HWW⟩ := hrel
            obtain ⟨nn, hnn⟩ := HWW.out
            clear HWW
            subst hnn
            by_cases hjl : j < L.length
            · obtain ⟨b1, o1, x1, y1, hA1, _, hx1, hc1x, hc1y⟩ := HG15.out.reads.at_ hjl
              obtain ⟨b2, o2, x2, y2, hA2, _, hx2, hc2x, hc2y⟩ := HC15.out.reads.at_ hjl
              subst hA1 hA2
              rw [hx1] at hx2
              cases hx2
              have hjl' : (j : Int) < (L.length : Int) := by omega
              have hj0 : (0 : Int) ≤ (j : Int) := by omega
              have heq := eqO x1 y1
              clear hx1
              go_wp2_with fail
              go_quiet (fail)
              go_wp2_with fail
              go_roundw
              case rel => exact ⟨j + 1, by go_num, by omega, Lib.hid ⟨_, rfl⟩⟩
              case measure => simp [intOf]; omega
            · obtain rfl : j = L.length := by omega
              go_wp2_with fail
              refine (awake4_any _).mono ?_
              rintro e w16 ⟨rfl, hb16⟩
              go_wp2_with fail
              go_ret
              exact ⟨rfl, (below_drewN HB15.out nn).trans (hb16.mono HB15.out.size)⟩
set_option maxRecDepth 100000 in
theorem lown_row (os : Os) (started : os.Started) (H : Type) (enc : TypeId × Value → H) :
    ReturnsInHanded {} Try.checked os 16 .any (Rows.lightOwnSpec.pre6 enc Try.prog Try.f16 Rows.lightOwnRow.domain false) (Rows.lightOwnSpec.post enc Try.prog Try.f16 false true false false) := by
  refine returnsInHanded_of_change (C := Try.checked) ownNone started (by kernel_rfl) Try.func16
    (ChangeSpec.witness6 (enc := enc) (C := Try.checked) false ⟨#[], #[.int .i64 0, .slice none 0 0, .agg #[.int .i64 0, .int .i64 0]], []⟩ 8 (by kernel_rfl) (by kernel_rfl) (by kernel_rfl) (by kernel_rfl)) ?_
  intro W base args ds gs before hval hW _ _
  have hW2 := hW
  obtain ⟨p, q, hA, hV, rfl, _, _⟩ := hW2
  have hA : DataW.TrodAll enc Try.prog W 0 (fun _ => true) true Try.f16.params.toList args.toList ds p := hA
  have hAk := hA
  have hval : ∀ (j : Nat) t v, Try.f16.params[j]? = some t → args[j]? = some v → Value.okWide Try.prog W .any base t v := hval
  rw [Try.params16] at hA hval
  obtain ⟨v0, vs0, d0, ds0, p0, q0, hargs, rfl, rfl, h0, r0⟩ := trodAll_cons hA
  obtain ⟨v1, vs1, d1, ds1, p1, q1, rfl, rfl, rfl, h1, r1⟩ := trodAll_cons r0
  obtain ⟨v2, vs2, d2, ds2, p2, q2, rfl, rfl, rfl, h2, r2⟩ := trodAll_cons r1
  obtain ⟨rfl, rfl, rfl⟩ := trodAll_nil r2
  obtain rfl : args = #[v0, v1, v2] := by cases args; simp_all
  obtain ⟨rfl, rfl⟩ := trodVars_none hV
  obtain ⟨a0, rfl, rfl, rfl, w0⟩ := open_int Try.underlying3 (hval 0 3 v0 rfl rfl) h0
  obtain ⟨A1, z1, c1, rfl, _, m1, hr1⟩ := open_edges (hval 1 22 v1 rfl rfl) h1
  obtain ⟨x2, y2, rfl, rfl, rfl, _, _⟩ := open_pair Try.arrKey41 Try.underlying3 (hval 2 41 v2 rfl rfl) h2
  clear hA hval
  simp only [List.append_nil, List.nil_append] at hW hAk
  refine (lown_any a0 A1 z1 c1 x2 y2 W hr1 m1).mono fun e W' ⟨he, hb⟩ => ?_
  subst he
  exact ⟨_, rfl, post_bool hW hb (by rw [Try.params16]; decide) hAk (fun _ => rfl) rfl rfl (by kernel_rfl)⟩

theorem lown_holds : Rows.LightOwnSaid :=
  OpenClaim.holds_of_wide 16 Try.f16 rfl rfl rfl rfl rfl rfl rfl ⟨rfl, rfl, rfl, rfl, rfl⟩ rfl rfl rfl rfl rfl (by kernel_rfl) Try.func16 (by kernel_rfl)
    (of_decide_eq_true (by kernel_rfl)) (by unfold Func.isWrapper; first | (rw [if_pos (by decide +kernel)]; kernel_rfl) | (rw [if_neg (by decide +kernel)]; exact ⟨rfl, rfl⟩))
    (fun os started H enc _ => lown_row os started H enc)

#print axioms lown_holds
end Go.Proofs.Ytpdgjjpfahobaaa
