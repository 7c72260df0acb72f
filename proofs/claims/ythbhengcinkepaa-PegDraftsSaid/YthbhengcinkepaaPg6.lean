/- Weights of package peg: whether they are a pagoda. -/
import Derived.Test.YthbhengcinkepaaPg5
namespace Go.Proofs.Ythbhengcinkepaa
open Go.RowKit Lamp

set_option maxHeartbeats 1000000 in
theorem both_any (a b c : Int) (w : World) :
    Calls Try.prog 82 #[.agg #[.int .i64 a, .int .i64 b, .int .i64 c]] w fun e w' => e = .returned (.agg #[.int .i64 a, .int .i64 b, .int .i64 c, .int .i64 c, .int .i64 b, .int .i64 a]) ∧ Below w.heap.size w w' := by
  go_enter Try.func82, Try.ntmps82
  go_wp2
  go_quiet (fail)
  go_wp2
  go_returns
  refine ⟨?_, ?_⟩
  · rfl
  · repeat' refine Below.setCell ?_ (Nat.le_succ _) _
    exact belowT_drewN (((Below.refl _ w).alloc (Nat.le_refl _) _).alloc (by simp) _) _

/-- The first and the second jump of a line. -/
theorem both_0 (x y z u v t : Int) (w : World) : (Instr.index 130 (.agg #[.int .i64 x, .int .i64 y, .int .i64 z, .int .i64 u, .int .i64 v, .int .i64 t]) (.int .i64 0)).run Try.prog w = .ok (.agg #[.int .i64 x, .int .i64 y, .int .i64 z]) w := by
  kernel_rfl
theorem both_1 (x y z u v t : Int) (w : World) : (Instr.index 130 (.agg #[.int .i64 x, .int .i64 y, .int .i64 z, .int .i64 u, .int .i64 v, .int .i64 t]) (.int .i64 1)).run Try.prog w = .ok (.agg #[.int .i64 u, .int .i64 v, .int .i64 t]) w := by
  kernel_rfl

/-- A weight that is out of its range. -/
def badW (z : Int) : Bool := decide (z < -1000000) || decide (1000000 < z)
theorem badW_any (z : Int) (w : World) :
    Calls Try.prog 117 #[.int .i64 z] w fun e w' => e = .returned (.bool (badW z)) ∧ w = w' := by
  go_enter Try.func117, Try.ntmps117
  go_wp2
  all_goals
    go_ret
    exact ⟨ret_bool (by first | (simp [badW, *]; done) | (simp [badW]; omega)), rfl⟩
theorem badW_of {z : Int} {b : Bool} (w : World) (h : badW z = b) :
    Calls Try.prog 117 #[.int .i64 z] w fun e w' => e = .returned (.bool b) ∧ w = w' := by rw [← h]; exact badW_any z w

set_option maxHeartbeats 1000000 in
theorem IndexFunc_w (A : Option Addr) (zs : List Int) (m c B : Nat) (w : World) (hm : m = zs.length) (hr : RInts w B A zs) (hl : zs.length ≤ 1000000) :
    Calls Try.prog 163 #[.slice A m c, .func (.func 117) #[] #[]] w fun e w' => ∃ i : Int, e = .returned (.int .i64 i) ∧ decide (0 ≤ i) = zs.any badW ∧ w = w' := by
  subst hm
  have HR := Lib.hid hr
  clear hr
  go_enter Try.func163, Try.ntmps163
  go_wp2_with fail
  go_loop [8] (fun q => ∃ k : Nat, q = .int .i64 k ∧ k ≤ zs.length ∧ Hid ((zs.take k).any badW = false)) (fun q => zs.length - (intOf q).toNat)
  case atStart => exact ⟨0, rfl, by omega, Lib.hid rfl⟩
  case round =>
    obtain ⟨k, rfl, hk, HS1⟩ := hrel
    have HS := HS1
    clear HS1
    by_cases hlt : k < zs.length
    · obtain ⟨b, o, x, hA, hb, hx, hc⟩ := HR.out.at_ hlt
      subst hA
      have HX := Lib.hid hx
      have HT := Lib.hid (show (zs.take (k + 1)).any badW = ((zs.take k).any badW || badW x) by
        have h2 := List.getElem?_eq_some_iff.1 HX.out
        rw [List.take_succ_eq_append_getElem h2.1, h2.2, List.any_append]; simp)
      clear hx
      cases hbx : badW x
      · have HB := Lib.hid hbx
        clear hbx
        go_wp2_with (go_at_call 117; refine (badW_of _ HB.out).mono ?_; rintro e w' ⟨rfl, rfl⟩)
        go_round
        case rel => exact ⟨k + 1, by go_num, by omega, Lib.hid (by rw [HT.out, HS.out, HB.out]; rfl)⟩
        case measure => simp [intOf]; omega
      · have HB := Lib.hid hbx
        clear hbx
        go_wp2_with (go_at_call 117; refine (badW_of _ HB.out).mono ?_; rintro e w' ⟨rfl, rfl⟩)
        go_ret
        refine ⟨k, rfl, ?_, rfl⟩
        rw [List.any_eq_true.2 ⟨x, List.mem_of_getElem? HX.out, HB.out⟩]; simp
    · obtain rfl : k = zs.length := by omega
      go_wp2_with fail
      go_ret
      refine ⟨-1, rfl, ?_, rfl⟩
      have h := HS.out
      rw [List.take_length] at h
      rw [h]; rfl
set_option maxRecDepth 100000 in
theorem ContainsFunc_w (A : Option Addr) (zs : List Int) (m c B : Nat) (w : World) (hm : m = zs.length) (hr : RInts w B A zs) (hl : zs.length ≤ 1000000) :
    Calls Try.prog 116 #[.slice A m c, .func (.func 117) #[] #[]] w fun e w' => e = .returned (.bool (zs.any badW)) ∧ w = w' := by
  have HC := Lib.hid (IndexFunc_w A zs m c B w hm hr hl)
  clear hr hm
  go_enter Try.func116, Try.ntmps116
  go_wp2_with fail
  refine HC.out.mono ?_
  rintro e w' ⟨i, rfl, hi, rfl⟩
  have HI := Lib.hid hi
  clear hi
  go_wp2_with fail
  go_ret
  exact ⟨ret_bool HI.out, rfl⟩
/-- Are these weights of n holes? -/
def areW (n : Int) (zs : List Int) : Bool := decide ((zs.length : Int) = n) && !zs.any badW
set_option maxRecDepth 100000 in
set_option maxHeartbeats 1000000 in
theorem areWeights_any (A : Option Addr) (n : Int) (zs : List Int) (m c B : Nat) (w : World) (hm : m = zs.length) (hr : RInts w B A zs) (hl : zs.length ≤ 1000000) :
    Calls Try.prog 73 #[.int .i64 n, .slice A m c] w fun e w' => e = .returned (.bool (areW n zs)) ∧ w = w' := by
  have HC := Lib.hid (ContainsFunc_w A zs m c B w hm hr hl)
  have HD := Lib.hid (show areW n zs = (decide ((zs.length : Int) = n) && !zs.any badW) from rfl)
  obtain ⟨v, hv⟩ : ∃ v, zs.any badW = v := ⟨_, rfl⟩
  rw [hv] at HC HD
  have HM := Lib.hid hm
  clear hr hv hm
  by_cases hn : (m : Int) = n
  · have h1 : ((m : Int) == n) = true := by simpa using hn
    have HN := Lib.hid hn
    clear hn
    go_enter Try.func73, Try.ntmps73
    go_wp2_with (go_at_call 116; refine HC.out.mono ?_; rintro e w' ⟨rfl, rfl⟩)
    all_goals
      go_ret
      refine ⟨ret_bool ?_, rfl⟩
      rw [HD.out, decide_eq_true (by rw [← HM.out]; exact HN.out)]
      simp
  · have h1 : ((m : Int) == n) = false := by simpa using hn
    have HN := Lib.hid hn
    clear hn
    go_enter Try.func73, Try.ntmps73
    go_wp2_with (go_at_call 116; refine HC.out.mono ?_; rintro e w' ⟨rfl, rfl⟩)
    all_goals
      go_ret
      refine ⟨ret_bool ?_, rfl⟩
      rw [HD.out, decide_eq_false (by rw [← HM.out]; exact HN.out)]
      simp

/-- The weight of a hole. -/
def wOf (zs : List Int) (x : Int) : Int := zs.getD x.toNat 0
/-- No jump of the line makes a position heavier. -/
def lightB (zs : List Int) (e : Tri) : Bool := decide (wOf zs e.2.2 ≤ wOf zs e.1 + wOf zs e.2.1) && decide (wOf zs e.1 ≤ wOf zs e.2.2 + wOf zs e.2.1)
def pagodaB (l : List Tri) (zs : List Int) : Bool := l.all (lightB zs)

set_option maxRecDepth 100000 in
set_option maxHeartbeats 4000000 in
theorem isPagoda_any (A A2 : Option Addr) (n c c2 m : Nat) (l : List Tri) (zs : List Int) (w : World) (hr : RTri w w.heap.size A l) (hw : RInts w w.heap.size A2 zs) (hl : l.length ≤ 40) (hn : n ≤ 16) (hok : LinesOk n l) (hm : m = zs.length) (hz : zs.length = n) (hb : zs.any badW = false) :
    Calls Try.prog 74 #[.slice A l.length c, .slice A2 m c2] w fun e w' => e = .returned (.bool (pagodaB l zs)) ∧ Below w.heap.size w w' := by
  have HR := Lib.hid hr
  have HW := Lib.hid hw
  have HK := Lib.hid hok
  have HZ := Lib.hid hz
  have hB : ∀ i, -1000000 ≤ zs.getD i 0 ∧ zs.getD i 0 ≤ 1000000 := fun i => by
    rcases Nat.lt_or_ge i zs.length with h | h
    · rw [List.any_eq_false] at hb
      have h1 := hb _ (List.getElem_mem h)
      rw [List.getD_eq_getElem?_getD, List.getElem?_eq_getElem h]
      simp only [badW, Bool.or_eq_true, decide_eq_true_eq, not_or] at h1
      simp only [Option.getD_some]
      omega
    · rw [List.getD_eq_getElem?_getD, List.getElem?_eq_none h]
      simp
  have HBD := Lib.hid hB
  have hmn : m = n := by omega
  subst hmn
  have HMZ := Lib.hid hm
  clear hr hw hok hz hb hB hm
  go_enter Try.func74, Try.ntmps74
  go_wp2_with fail
  go_loopw [11] (fun q wr => ∃ k : Nat, q = .int .i64 k ∧ k ≤ l.length ∧ Hid ((l.take k).all (lightB zs) = true) ∧ Hid (Below w.heap.size w wr)) (fun q _ => l.length - (intOf q).toNat)
  case atStart => exact ⟨0, rfl, by omega, Lib.hid rfl, Lib.hid (Below.refl _ _)⟩
  case round =>
    obtain ⟨k, rfl, hk, HA1, HB1⟩ := hrel
    have HA := HA1
    have HB := HB1
    clear HA1 HB1
    have hbs := HB.out.size
    by_cases hlt : k < l.length
    · obtain ⟨b, o, x, y, z, hA, hbb, hx, hc1, hc2, hc3⟩ := (HR.out.below HB.out).at_ hlt
      subst hA
      have HTE := Lib.hid (show (l.take (k + 1)).all (lightB zs) = ((l.take k).all (lightB zs) && lightB zs (x, y, z)) by
        have h2 := List.getElem?_eq_some_iff.1 hx
        rw [List.take_succ_eq_append_getElem h2.1, h2.2, List.all_append]; simp)
      have HLM := Lib.hid (List.mem_of_getElem? hx)
      have htri := HK.out _ (List.mem_of_getElem? hx)
      obtain ⟨a1, a2, a3, he, _, _, _⟩ := htri.nat hn
      cases he
      obtain ⟨_, g1, _, g2, _, g3, _⟩ := htri
      simp only at g1 g2 g3
      have g1 : a1 < m := by omega
      have g2 : a2 < m := by omega
      have g3 : a3 < m := by omega
      have HLB := Lib.hid (show lightB zs ((a1 : Int), (a2 : Int), (a3 : Int)) = (decide (zs.getD a3 0 ≤ zs.getD a1 0 + zs.getD a2 0) && decide (zs.getD a1 0 ≤ zs.getD a3 0 + zs.getD a2 0)) from rfl)
      have hq1 := HBD.out a1
      have hq2 := HBD.out a2
      have hq3 := HBD.out a3
      obtain ⟨w1, hw1⟩ : ∃ v, zs.getD a1 0 = v := ⟨_, rfl⟩
      obtain ⟨w2, hw2⟩ : ∃ v, zs.getD a2 0 = v := ⟨_, rfl⟩
      obtain ⟨w3, hw3⟩ : ∃ v, zs.getD a3 0 = v := ⟨_, rfl⟩
      rw [hw1, hw2, hw3] at HLB
      rw [hw1] at hq1
      rw [hw2] at hq2
      rw [hw3] at hq3
      have HW1 := Lib.hid hw1
      have HW2 := Lib.hid hw2
      have HW3 := Lib.hid hw3
      have HS1 := Lib.hid (show IntKind.i64.wrap (w1 + w2) = w1 + w2 from IntWalk.i64_in _ (by omega))
      have HS2 := Lib.hid (show IntKind.i64.wrap (w3 + w2) = w3 + w2 from IntWalk.i64_in _ (by omega))
      clear hx hw1 hw2 hw3
      go_upto_region 4 with fail
      go_wp2_with fail
      refine (both_any a1 a2 a3 _).mono ?_
      rintro e w3' ⟨rfl, hb3⟩
      have HB3 := Lib.hid (show Below w.heap.size w w3' from (HB.out.alloc HB.out.size _).trans (hb3.mono (by have := HB.out.size; simp; omega)))
      clear hb3 hc1 hc2 hc3
      obtain ⟨W3, hW3⟩ : ∃ W3, w3' = W3 := ⟨_, rfl⟩
      rw [hW3] at HB3 ⊢
      clear hW3
      go_wp2_with fail
      go_loopw [17] (fun q wx => ∃ j : Nat, q = .int .i64 j ∧ j ≤ 2 ∧ (1 ≤ j → w3 ≤ w1 + w2) ∧ (2 ≤ j → w1 ≤ w3 + w2) ∧ Hid (Below w.heap.size w wx)) (fun q _ => 2 - (intOf q).toNat)
      case atStart => exact ⟨0, rfl, by omega, by omega, by omega, HB3⟩
      case round =>
        clear HB3
        obtain ⟨j, rfl, hj, hj1, hj2, HX1⟩ := hrel
        have HX := HX1
        clear HX1
        obtain ⟨b1, o1, hA1, hbb1, hx1⟩ := (HW.out.below HX.out).getI (i := a1) (by rw [← HMZ.out]; exact g1)
        obtain ⟨b2, o2, hA2, hbb2, hx2⟩ := (HW.out.below HX.out).getI (i := a2) (by rw [← HMZ.out]; exact g2)
        obtain ⟨b3, o3, hA3, hbb3, hx3⟩ := (HW.out.below HX.out).getI (i := a3) (by rw [← HMZ.out]; exact g3)
        subst hA1
        cases hA2
        cases hA3
        rw [HW1.out] at hx1
        rw [HW2.out] at hx2
        rw [HW3.out] at hx3
        have hbz := HX.out.size
        have hne : wr.heap.size ≠ b1 := by omega
        have k1 : ∀ o, (wr.alloc o).cell? ⟨b1, o1 + a1, none⟩ = some (.int .i64 w1) := fun o => by rw [World.cell?_alloc_lt wr o ⟨b1, o1 + a1, none⟩ (by show b1 < _; omega)]; exact hx1
        have k2 : ∀ o, (wr.alloc o).cell? ⟨b1, o1 + a2, none⟩ = some (.int .i64 w2) := fun o => by rw [World.cell?_alloc_lt wr o ⟨b1, o1 + a2, none⟩ (by show b1 < _; omega)]; exact hx2
        have k3 : ∀ o, (wr.alloc o).cell? ⟨b1, o1 + a3, none⟩ = some (.int .i64 w3) := fun o => by rw [World.cell?_alloc_lt wr o ⟨b1, o1 + a3, none⟩ (by show b1 < _; omega)]; exact hx3
        have hsz : (0 : Int) ≤ (a1 : Int) := by omega
        have g1' : (a1 : Int) < (m : Int) := by omega
        have g2' : (a2 : Int) < (m : Int) := by omega
        have g3' : (a3 : Int) < (m : Int) := by omega
        match j, hj with
        | 0, _ =>
          have hix := both_0 a1 a2 a3 a3 a2 a1
          go_upto_region 7 with fail
          clear hix
          obtain ⟨W0, hw0⟩ : ∃ W0, wr.alloc (Obj.cells #[Value.int IntKind.i64 a1, Value.int IntKind.i64 a2, Value.int IntKind.i64 a3] 105) = W0 := ⟨_, rfl⟩
          have y1 := k1 (Obj.cells #[Value.int IntKind.i64 a1, Value.int IntKind.i64 a2, Value.int IntKind.i64 a3] 105)
          have y2 := k2 (Obj.cells #[Value.int IntKind.i64 a1, Value.int IntKind.i64 a2, Value.int IntKind.i64 a3] 105)
          have y3 := k3 (Obj.cells #[Value.int IntKind.i64 a1, Value.int IntKind.i64 a2, Value.int IntKind.i64 a3] 105)
          have hbox := Box.new wr 105 #[Value.int IntKind.i64 a1, Value.int IntKind.i64 a2, Value.int IntKind.i64 a3]
          have HB0 := Lib.hid (show Below w.heap.size w W0 by rw [← hw0]; exact HX.out.alloc HX.out.size _)
          rw [hw0] at y1 y2 y3 hbox ⊢
          have x0 := hbox.cell 0
          have x1 := hbox.cell 1
          have x2 := hbox.cell 2
          simp only [List.getElem?_toArray, List.getElem?_cons_zero, List.getElem?_cons_succ] at x0 x1 x2
          have hsm := HS1.out
          clear hw0 hbox k1 k2 k3 hx1 hx2 hx3
          by_cases hcmp : w1 + w2 < w3
          · go_quiet (fail)
            go_wp2_with fail
            go_ret
            refine ⟨ret_bool ?_, belowT_drewN HB0.out _⟩
            have h1 : lightB zs ((a1 : Int), (a2 : Int), (a3 : Int)) = false := by
              rw [HLB.out]; simp; omega
            symm
            unfold pagodaB
            rw [List.all_eq_false]
            exact ⟨_, HLM.out, by rw [h1]; simp⟩
          · go_quiet (fail)
            go_wp2_with fail
            clear hsm x0 x1 x2 y1 y2 y3
            go_roundw
            case rel => exact ⟨1, by first | rfl | go_num, by omega, fun _ => by omega, fun h => by omega, Lib.hid (belowT_drewN HB0.out _)⟩
            case measure => simp [intOf]
        | 1, _ =>
          have hix := both_1 a1 a2 a3 a3 a2 a1
          go_upto_region 7 with fail
          clear hix
          obtain ⟨W0, hw0⟩ : ∃ W0, wr.alloc (Obj.cells #[Value.int IntKind.i64 a3, Value.int IntKind.i64 a2, Value.int IntKind.i64 a1] 105) = W0 := ⟨_, rfl⟩
          have y1 := k1 (Obj.cells #[Value.int IntKind.i64 a3, Value.int IntKind.i64 a2, Value.int IntKind.i64 a1] 105)
          have y2 := k2 (Obj.cells #[Value.int IntKind.i64 a3, Value.int IntKind.i64 a2, Value.int IntKind.i64 a1] 105)
          have y3 := k3 (Obj.cells #[Value.int IntKind.i64 a3, Value.int IntKind.i64 a2, Value.int IntKind.i64 a1] 105)
          have hbox := Box.new wr 105 #[Value.int IntKind.i64 a3, Value.int IntKind.i64 a2, Value.int IntKind.i64 a1]
          have HB0 := Lib.hid (show Below w.heap.size w W0 by rw [← hw0]; exact HX.out.alloc HX.out.size _)
          rw [hw0] at y1 y2 y3 hbox ⊢
          have x0 := hbox.cell 0
          have x1 := hbox.cell 1
          have x2 := hbox.cell 2
          simp only [List.getElem?_toArray, List.getElem?_cons_zero, List.getElem?_cons_succ] at x0 x1 x2
          have hsm := HS2.out
          clear hw0 hbox k1 k2 k3 hx1 hx2 hx3
          by_cases hcmp : w3 + w2 < w1
          · go_quiet (fail)
            go_wp2_with fail
            go_ret
            refine ⟨ret_bool ?_, belowT_drewN HB0.out _⟩
            have h1 : lightB zs ((a1 : Int), (a2 : Int), (a3 : Int)) = false := by
              rw [HLB.out]; simp; omega
            symm
            unfold pagodaB
            rw [List.all_eq_false]
            exact ⟨_, HLM.out, by rw [h1]; simp⟩
          · go_quiet (fail)
            go_wp2_with fail
            clear hsm x0 x1 x2 y1 y2 y3
            go_roundw
            case rel => exact ⟨2, by first | rfl | go_num, by omega, fun _ => hj1 (by omega), fun _ => by omega, Lib.hid (belowT_drewN HB0.out _)⟩
            case measure => simp [intOf]
        | 2, _ =>
          have HJ1 := Lib.hid (hj1 (by omega))
          have HJ2 := Lib.hid (hj2 (by omega))
          clear k1 k2 k3 hx1 hx2 hx3 hj1 hj2
          go_wp2_with fail
          go_roundw
          case rel =>
            refine ⟨k + 1, by go_num, by omega, Lib.hid ?_, HX⟩
            rw [HTE.out, HA.out, HLB.out, decide_eq_true HJ1.out, decide_eq_true HJ2.out]; rfl
          case measure => simp [intOf]; omega
        | j + 3, hj => omega
    · obtain rfl : k = l.length := by omega
      go_wp2_with fail
      go_ret
      exact ⟨ret_bool (by have h := HA.out; rw [List.take_length] at h; exact h.symm), HB.out⟩
end Go.Proofs.Ythbhengcinkepaa
