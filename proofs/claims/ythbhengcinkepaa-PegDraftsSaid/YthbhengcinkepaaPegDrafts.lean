/- For every integer n, list of triples of integers l and plan a: the function PegDrafts answers true: whether a list is a plan is what the reference says, and a game's counts are one. No conditions. -/
import Derived.Test.YthbhengcinkepaaPlan1
import Derived.Test.YthbhengcinkepaaRPlan
import Derived.Test.YthbhengcinkepaaPlanP
import Derived.Deep.CutBlock
import Derived.Test.YthbhengcinkepaaPg20
import Derived.Test.YthbhengcinkepaaTameT
import Derived.Test.YthbhengcinkepaaRJumps
import Derived.Test.YthbhengcinkepaaEqT
namespace Go.Proofs.Ythbhengcinkepaa
open Go.ChangeShapes Go.WideShapes Go.ChangeAt Go.RowKit Go.WideMaps Lamp

theorem keepD {w W : World} {p : Addr} {u : Value} (h1 : w.cell? p = some u) (hp : p.block < w.heap.size) (hb : Below w.heap.size w W) : W.cell? p = some u ∧ Below w.heap.size w W := ⟨(hb.cell hp).trans h1, hb⟩

/-- One more than a number below a hundred, as the machine has it. -/
theorem wrap_one {k : Nat} (h : k < 100) : wrap64 (1 + (k : Int)) = ((1 + k : Nat) : Int) ∧ IntKind.i64.wrap (1 + (k : Int)) = ((1 + k : Nat) : Int) := ⟨by rw [w64 (by omega)]; omega, by rw [IntWalk.i64_in _ (by omega)]; omega⟩
theorem keepZ {w W W2 : World} (hb : Below w.heap.size w W) (h : Below W.heap.size W W2) : Below w.heap.size w W2 := hb.trans (h.mono hb.size)

set_option maxRecDepth 100000 in
set_option maxHeartbeats 8000000 in
theorem pdrafts_any (a0 : Int) (A : Option Addr) (l : List Tri) (c : Nat) (x y m0 : Int) (Ag : Option Addr) (gm : List (Int × Int)) (cg : Nat) (w : World) (hr : RTri w w.heap.size A l) (hl : l.length ≤ 9223372036854775807) (hrg : REdges w w.heap.size Ag gm) (hcg : gm.length ≤ cg) (hlg : gm.length ≤ 9223372036854775807) :
    Calls Try.prog 10 #[.int .i64 a0, .slice A l.length c, .agg #[.int .i64 x, .int .i64 y, .int .i64 m0, .slice Ag gm.length cg]] w fun e w' => e = .returned (.bool true) ∧ Below w.heap.size w w' := by
  have hm := remN_lt a0 (m := 16) (by decide)
  obtain ⟨n, hn⟩ : ∃ n, 1 + remN a0 16 = n := ⟨_, rfl⟩
  have hn1 : 1 ≤ n := by omega
  have hn16 : n ≤ 16 := by omega
  have hb0 := Box.new w 73 #[.int .i64 x, .int .i64 y, .int .i64 m0, .slice Ag gm.length cg]
  have hB0 := below_alloc (w := w) (Nat.le_refl _) (Obj.cells #[.int .i64 x, .int .i64 y, .int .i64 m0, .slice Ag gm.length cg] 73)
  have hr0 := hr.up hB0
  have hg0 := (hrg.below hB0).more hB0.size
  have HT := Lib.hid (fun (w1 : World) (h : RTri w1 w1.heap.size A l) => tameT_any A a0 l c 16 20 w1 h hl (by decide) (by decide) (by decide))
  rw [hn] at HT
  have hpw := pow_split hn16
  have hp0 := Nat.two_pow_pos n
  have hpi : (2 : Int) ^ n = ((2 ^ n : Nat) : Int) := by simp
  have hr1 := rem_i64 x hp0 hpw
  have hr2 := rem_i64 y hp0 hpw
  have hl1 := remN_lt x hp0
  have hl2 := remN_lt y hp0
  obtain ⟨p, hp⟩ : ∃ p, remN x (2 ^ n) = p := ⟨_, rfl⟩
  obtain ⟨q, hq⟩ : ∃ q, remN y (2 ^ n) = q := ⟨_, rfl⟩
  rw [hp] at hr1 hl1
  rw [hq] at hr2 hl2
  have HP := Lib.hid hl1
  have HQ := Lib.hid hl2
  obtain ⟨P, hP⟩ : ∃ P, 2 ^ n = P := ⟨_, rfl⟩
  rw [hP] at hpw hp0 hpi hr1 hr2
  have hPw : IntKind.u64.wrap (P : Int) = (P : Int) := u64_in (by omega) (by omega)
  have hP0 : ((P : Int) = 0) = False := by simp; omega
  have HR0 := Lib.hid hr0
  have HG0 := Lib.hid hg0
  have HBX0 := Lib.hid hb0
  have HB0 := Lib.hid hB0
  have hn16i : (n : Int) ≤ 16 := by omega
  clear hr hl hm hn hp hq hP hl1 hl2 hr0 hb0 hB0 hg0 hrg
  go_enter Try.func10, Try.ntmps10
  go_wp2_with fail
  refine (HT.out _ HR0.out).mono ?_
  rintro e w1 ⟨v1, rfl, L, hc, hLK, ho, hb⟩
  obtain ⟨A1, c1, rfl, hrd⟩ := ho.reads
  have HC := Lib.hid hc
  have HB1 := Lib.hid (HB0.out.trans (hb.mono HB0.out.size))
  have HR1 := Lib.hid hrd
  have HG1 := Lib.hid ((HG0.out.below hb).more hb.size)
  have hbx := HBX0.out.below hb HBX0.out.lt
  have x0 := hbx.cell 0
  have x1 := hbx.cell 1
  have x2 := hbx.cell 2
  have x3 := hbx.cell 3
  simp only [List.getElem?_toArray, List.getElem?_cons_zero, List.getElem?_cons_succ] at x0 x1 x2 x3
  clear hc hb hrd hbx ho HT HR0 HBX0 HG0
  go_wp2_with fail
  go_quiet (fail)
  have HC2 := Lib.hid (show Below w.heap.size w (w1.drewN nq) from below_drewN HB1.out nq)
  have HR2 := Lib.hid (show RTri (w1.drewN nq) (w1.drewN nq).heap.size A1 L from HR1.out.drewN nq)
  have HG2 := Lib.hid (show REdges (w1.drewN nq) (w1.drewN nq).heap.size Ag gm from HG1.out.drewN nq)
  have y2 : (w1.drewN nq).cell? ⟨w.heap.size, 2, none⟩ = some (.int .i64 m0) := x2
  have y3 : (w1.drewN nq).cell? ⟨w.heap.size, 3, none⟩ = some (.slice Ag gm.length cg) := x3
  obtain ⟨w2, hw2⟩ : ∃ w2, w1.drewN nq = w2 := ⟨_, rfl⟩
  rw [hw2] at HC2 HR2 HG2 y2 y3 ⊢
  clear hw2 x0 x1 x2 x3 HB1 HR1 HG1 hr1 hr2
  obtain ⟨m, hm⟩ : ∃ m, min gm.length 41 = m := ⟨_, rfl⟩
  have hmi : min (gm.length : Int) 41 = (m : Int) := by omega
  have hm0 : (0 : Int) ≤ (m : Int) := by omega
  have hmc : (m : Int) ≤ (cg : Int) := by omega
  have hml : (m : Int) ≤ (gm.length : Int) := by omega
  have hm20 : m ≤ 41 := by omega
  have hgl2 : m = (gm.take m).length := by rw [List.length_take]; omega
  have HGT := Lib.hid (HG2.out.take m)
  obtain ⟨G, hG⟩ : ∃ G, gm.take m = G := ⟨_, rfl⟩
  rw [hG] at HGT hgl2
  have HGL := Lib.hid hgl2
  have hG20 : G.length ≤ 41 := by omega
  clear hm hG hgl2
  go_upto_region 4 with fail
  go_cut [10] (fun v9 wx => Hid (OwnE wx w2.heap.size v9 G) ∧ Hid (Below w2.heap.size w2 wx))
  case first =>
    cases Ag with
    | none =>
      go_wp2_with (at_builtin; refine wpList_appE _ rfl _ _ rfl (OwnE.nil_ w2 w2.heap.size) rfl none _ G cg w2.heap.size rfl HGL.out HGT.out (by simp; omega) (Nat.le_refl _) ?_; intro v4 w4 ho4 hg4)
      have hb4 := (Below.refl w2.heap.size w2).grown hg4 (Nat.le_refl _) (fun k hk => by cases hk)
      go_meet
      exact ⟨Lib.hid ho4, Lib.hid hb4⟩
    | some ad =>
      go_wp2_with (at_builtin; refine wpList_appE _ rfl _ _ rfl (OwnE.nil_ w2 w2.heap.size) rfl (some ad) _ G cg w2.heap.size rfl HGL.out HGT.out (by simp; omega) (Nat.le_refl _) ?_; intro v4 w4 ho4 hg4)
      have hb4 := (Below.refl w2.heap.size w2).grown hg4 (Nat.le_refl _) (fun k hk => by cases hk)
      go_meet
      exact ⟨Lib.hid ho4, Lib.hid hb4⟩
  case rest =>
  obtain ⟨HO1, HBC1⟩ := hcut
  have HBC := HBC1
  obtain ⟨A9, c9, hv9, hrd9⟩ := HO1.out.reads
  subst hv9
  have HG9 := Lib.hid hrd9
  clear HO1 HBC1 hrd9
  obtain ⟨hn1', _, hlL, hg⟩ := checkT_zero HC.out
  have HGD := Lib.hid hg
  have hlin := goodT_ok hg
  have HLN := Lib.hid hlin
  obtain ⟨w3, rfl⟩ : ∃ w3 : World, w3 = wc := ⟨_, rfl⟩
  have HR3 := Lib.hid (HR2.out.up HBC.out)
  have HBW := Lib.hid (HC2.out.trans (HBC.out.mono HC2.out.size))
  have hbl : w.heap.size < w2.heap.size := World.block_lt_of_cell? w2 _ y2
  have z2 : w3.cell? ⟨w.heap.size, 2, none⟩ = some (.int .i64 m0) := (HBC.out.cell hbl).trans y2
  have hbl3 : w.heap.size < w3.heap.size := by have := HBC.out.size; omega
  have HIP := Lib.hid (fun (w8 : World) (q : Nat) (mm : Int) (Aw : Option Addr) (cw : Nat) (js : List (Int × Int)) (h : RTri w8 w8.heap.size A1 L) (h2 : REdges w8 w8.heap.size Aw js) (hq : q < 2 ^ n) (hl : js.length ≤ 1000000) => IsPlan_ok A1 Aw n p q c1 cw js.length mm L js w8 h h2 HC.out HP.out hq rfl hl)
  have HRC := Lib.hid (RIsPlan_any A1 A9 n p q c1 c9 G.length m0 L G)
  have HA := Lib.hid (fun (W : World) (hb : Below w3.heap.size w3 W) => HIP.out W q m0 A9 c9 G (HR3.out.up hb) (HG9.out.up' hb) HQ.out (by omega))
  have HE := Lib.hid (fun (W : World) (hb : Below w3.heap.size w3 W) => HRC.out W (HR3.out.up hb) (HG9.out.up' hb) (by omega) hn1 hn16 HLN.out HP.out HQ.out rfl (by omega))
  obtain ⟨b1, hb1⟩ : ∃ b, planB n L p q m0 G = b := ⟨_, rfl⟩
  rw [hb1] at HA HE
  have HZ2 := Lib.hid z2
  clear hb1 hg hlin HRC HGT HGL HG2 hmi hm0 hmc hml hm20 y2 hcg hlg
  go_upto_region 5 with fail
  go_cut [64] (fun v9 wx => v9 = .bool false ∧ Hid (Below w3.heap.size w3 wx))
  case first =>
    go_region_held3 (fun w' => w'.cell? ⟨w.heap.size, 2, none⟩ = some (.int .i64 m0) ∧ Below w3.heap.size w3 w') ((refine keepD HZ2.out hbl3 ?_; first | exact Below.refl _ _ | exact (Below.refl _ _).drew | exact hb | exact hb.drew))
      (first
        | (go_at_call 43; refine (HA.out _ ?_).mono ?_; (first | exact Below.refl _ _ | exact (Below.refl _ _).drew | exact hb | exact hb.drew); rintro e w' ⟨rfl, hb⟩; replace hb := keepZ (w := w3) (by first | exact Below.refl _ _ | exact (Below.refl _ _).drew | assumption) hb)
        | (go_at_call 42; refine (HE.out _ ?_).mono ?_; (first | exact Below.refl _ _ | exact (Below.refl _ _).drew | exact hb | exact hb.drew); rintro e w' ⟨rfl, hb⟩; replace hb := keepZ (w := w3) (by first | exact Below.refl _ _ | exact (Below.refl _ _).drew | assumption) hb))
    all_goals
      go_wp2_with fail
      go_meet
      exact ⟨by simp, Lib.hid hb⟩
  case rest =>
  obtain ⟨rfl, HBX⟩ := hcut
  obtain ⟨w4, rfl⟩ : ∃ w4 : World, w4 = wc := ⟨_, rfl⟩
  have HB4 := Lib.hid (HBW.out.trans (HBX.out.mono HBW.out.size))
  have HR4 := Lib.hid (HR3.out.up HBX.out)
  have HZ4 := Lib.hid (show w4.cell? ⟨w.heap.size, 2, none⟩ = some (.int .i64 m0) from (HBX.out.cell hbl3).trans HZ2.out)
  have hbl4 : w.heap.size < w4.heap.size := by have := HBX.out.size; omega
  have hmp := make_pairs1 L.length (by omega)
  clear HA HE HBX HG9 HR3 HBW HZ2 z2 hbl hbl3 HBC HC2 HR2 HB0 hG20
  go_upto_region 8 with fail
  obtain ⟨g1, hg1⟩ : ∃ g1, w4.heap.size = g1 := ⟨_, rfl⟩
  have HBX0 := Lib.hid (Box.new w4 41 (madeCells #[Value.int .i64 0, Value.int .i64 0] (L.length * 2)))
  have HB5 := Lib.hid (HB4.out.alloc HB4.out.size (Obj.cells (madeCells #[Value.int .i64 0, Value.int .i64 0] (L.length * 2)) 41))
  have HR5 := Lib.hid (HR4.out.up ((Below.refl w4.heap.size w4).alloc (Nat.le_refl _) (Obj.cells (madeCells #[Value.int .i64 0, Value.int .i64 0] (L.length * 2)) 41)))
  have HG1 := Lib.hid (show w.heap.size < g1 by omega)
  have HA1 := Lib.hid HR4.out
  have hb5 := (Below.refl w4.heap.size w4).alloc (Nat.le_refl _) (Obj.cells (madeCells #[Value.int .i64 0, Value.int .i64 0] (L.length * 2)) 41)
  have HZ5 := Lib.hid ((hb5.cell hbl4).trans HZ4.out)
  obtain ⟨w5, hw5⟩ : ∃ w5, w4.alloc (Obj.cells (madeCells #[Value.int .i64 0, Value.int .i64 0] (L.length * 2)) 41) = w5 := ⟨_, rfl⟩
  have hbl5 : w.heap.size < w5.heap.size := by rw [← hw5]; simp; omega
  rw [hw5] at HBX0 HB5 HR5 HZ5 ⊢
  rw [hg1] at HBX0 HA1 ⊢
  rw [pairC_made] at HBX0
  have HRJ := Lib.hid (fun (w8 : World) (q : Nat) (h : RTri w8 w8.heap.size A1 L) (hq : q < 65536) => RJumps_any A1 c1 n q L w8 h hlL hn16 HLN.out hq)
  have HJL := Lib.hid (show (jumpsL L).length ≤ 80 by rw [jumpsL_len]; omega)
  have HPN := Lib.hid (show 2 ^ n ≤ 65536 from Nat.pow_le_pow_right (n := 2) (by decide) hn16)
  clear hg1 hw5 hb5 HB4 HR4 HZ4 hbl4 hmp
  go_upto_block 0 with fail
  go_cut [12] (fun v12 wx => ∃ (now : Nat) (js : List (Int × Int)), v12 = .int .i64 now ∧ now < 2 ^ n ∧ js.length = L.length ∧ Hid (Upto0 16 js) ∧ Hid (∀ h, lostK L js h L.length = dirN p h - dirN now h) ∧ Hid (Box wx g1 41 (pairC js)) ∧ Hid (wx.cell? ⟨w.heap.size, 2, none⟩ = some (.int .i64 m0)) ∧ Hid (RTri wx wx.heap.size A1 L) ∧ Hid (Below w.heap.size w wx))
  case first =>
    go_wp2_with fail
    go_loopg [12, 13] 16 (fun g nv iv ws => ∃ (rd now : Nat) (js : List (Int × Int)), rd + g = 16 ∧ nv = .int .i64 now ∧ iv = .int .i64 rd ∧ now < 2 ^ n ∧ js.length = L.length ∧ Hid (Upto0 (rd : Int) js) ∧ Hid (∀ h, lostK L js h L.length = dirN p h - dirN now h) ∧ Hid (Box ws g1 41 (pairC js)) ∧ Hid (ws.cell? ⟨w.heap.size, 2, none⟩ = some (.int .i64 m0)) ∧ Hid (RTri ws ws.heap.size A1 L) ∧ Hid (Below w.heap.size w ws))
    case atStart =>
      exact ⟨0, p, List.replicate L.length (0, 0), by omega, rfl, rfl, HP.out, by simp, Lib.hid (upto_none _), Lib.hid (fun h => by rw [lost_none]; omega), HBX0, HZ5, HR5, HB5⟩
    case round =>
      obtain ⟨rd, now, js, hrd, rfl, rfl, hnow, hjl, HU1, HL1, HX1, HZ1, HRW1, HB1⟩ := hrel
      have HU := HU1
      have HLO := HL1
      have HX := HX1
      have HZ := HZ1
      have HRW := HRW1
      have HB := HB1
      clear HU1 HL1 HX1 HZ1 HRW1 HB1 HBX0 HZ5 HR5 HB5
      have hjm := fun (hu : Upto0 (rd : Int) js) => (fun i => by have := hu i; omega : Upto0 16 js)
      have HU16 := Lib.hid (hjm HU.out)
      clear hjm
      cases gk with
      | zero =>
        obtain rfl : rd = 16 := by omega
        go_wp2_with fail
        go_meet
        exact ⟨now, js, rfl, hnow, hjl, HU16, HLO, HX, HZ, HRW, HB⟩
      | succ g =>
        have hrd2 : (rd : Int) < 16 := by omega
        have hrdn : rd < 16 := by omega
        have hn16b : now < 65536 := Nat.lt_of_lt_of_le hnow HPN.out
        go_wp2_with fail
        refine (HRJ.out wr now HRW.out hn16b).mono ?_
        rintro e w6 ⟨v6, rfl, ho6, hb6⟩
        have HX6 := Lib.hid (HX.out.below hb6 HX.out.lt)
        have HR6 := Lib.hid (HRW.out.up hb6)
        have HB6 := Lib.hid (HB.out.trans (hb6.mono HB.out.size))
        have HZ6 := Lib.hid ((hb6.cell (World.block_lt_of_cell? wr _ HZ.out)).trans HZ.out)
        obtain ⟨A6, c6, rfl, hr6⟩ := ho6.reads
        have HF6 := Lib.hid hr6
        have HFL := Lib.hid (show ((jumpsL L).filter fun j => canJ j now).length ≤ 80 from Nat.le_trans (List.length_filter_le _ _) HJL.out)
        have HFM := Lib.hid (fun (t : Tri) (ht : t ∈ (jumpsL L).filter fun j => canJ j now) => List.mem_filter.1 ht)
        obtain ⟨F, hF⟩ : ∃ F, ((jumpsL L).filter fun j => canJ j now) = F := ⟨_, rfl⟩
        rw [hF] at HF6 HFL HFM ho6 ⊢
        clear hF hb6 ho6 hr6 HX HZ HRW HB
        by_cases hF0 : F.length = 0
        · have hfi : ((F.length : Nat) : Int) = 0 := by omega
          go_wp2_with fail
          go_meet
          exact ⟨now, js, rfl, hnow, hjl, HU16, HLO, HX6, HZ6, HR6, HB6⟩
        · have hF1 : 1 ≤ F.length := by omega
          have hfi : ¬ ((F.length : Nat) : Int) = 0 := by omega
          have hF80 := HFL.out
          have hju : IntKind.u64.wrap (F.length : Int) = (F.length : Int) := u64_in (by omega) (by omega)
          have hit := remN_tmod (wrap64 (m0 + (rd : Int))) hF1
          have hil := remN_lt (wrap64 (m0 + (rd : Int))) hF1
          obtain ⟨i9, hi9⟩ : ∃ i9, remN (wrap64 (m0 + (rd : Int))) F.length = i9 := ⟨_, rfl⟩
          rw [hi9] at hit hil
          have hix : wrap64 ((IntKind.u64.wrap (wrap64 (m0 + (rd : Int)))).tmod (F.length : Int)) = (i9 : Int) := by rw [hit]; exact w64 (by omega)
          have hil' : (i9 : Int) < (F.length : Int) := by omega
          obtain ⟨bj, oj, y1, y2, y3, hAj, hbj, hyj, r0, r1, r2⟩ := HF6.out.at_ hil
          subst hAj
          obtain ⟨hyJ, hyc⟩ := HFM.out _ (List.mem_of_getElem? hyj)
          obtain ⟨a, b, c, hye, ha, hb, hc, hab, hac, hbc⟩ := (jumpsL_ok HLN.out _ hyJ).nats
          cases hye
          have HYJ := Lib.hid hyJ
          have HYC := Lib.hid hyc
          have HABC := Lib.hid (show (a < 16 ∧ b < 16 ∧ c < 16) ∧ a ≠ b ∧ a ≠ c ∧ b ≠ c from ⟨⟨by omega, by omega, by omega⟩, hab, hac, hbc⟩)
          have z6 := HZ6.out
          clear hyj hi9 hit hF0 hyJ hyc ha hb hc hab hac hbc
          have hfb : ((F.length : Int) == 0) = false := by rw [beq_eq_false_iff_ne]; exact hfi
          go_wp2_with fail
          try rw [hfb]
          have hbx7 := Box.new w6 30 #[Value.int .i64 (a : Nat), Value.int .i64 (b : Nat), Value.int .i64 (c : Nat)]
          have hbe7 := (Below.refl w6.heap.size w6).alloc (Nat.le_refl _) (Obj.cells #[Value.int .i64 (a : Nat), Value.int .i64 (b : Nat), Value.int .i64 (c : Nat)] 30)
          obtain ⟨w7, hw7⟩ : ∃ w7, w6.alloc (Obj.cells #[Value.int .i64 (a : Nat), Value.int .i64 (b : Nat), Value.int .i64 (c : Nat)] 30) = w7 := ⟨_, rfl⟩
          rw [hw7] at hbx7 hbe7 ⊢
          have HX7 := Lib.hid (HX6.out.below hbe7 HX6.out.lt)
          have HR7 := Lib.hid (HR6.out.up hbe7)
          have HB7 := Lib.hid (HB6.out.trans (hbe7.mono HB6.out.size))
          have HZ7 := Lib.hid ((hbe7.cell (World.block_lt_of_cell? w6 _ HZ6.out)).trans HZ6.out)
          have HNE := Lib.hid (show g1 ≠ w6.heap.size from Nat.ne_of_lt HX6.out.lt)
          have HG2 := Lib.hid (show w.heap.size < w6.heap.size from Nat.lt_trans HG1.out HX6.out.lt)
          obtain ⟨g2, hg2⟩ : ∃ g2, w6.heap.size = g2 := ⟨_, rfl⟩
          rw [hg2] at hbx7 HNE HG2 ⊢
          have HT7 := Lib.hid hbx7
          have hlt7 : g2 < w7.heap.size := HT7.out.lt
          obtain ⟨tt, htt⟩ : ∃ tt : Tri, ((a : Int), (b : Int), (c : Int)) = tt := ⟨_, rfl⟩
          have HTT := Lib.hid htt
          have HRV := Lib.hid (show ((c : Int), (b : Int), (a : Int)) = revT tt by rw [← htt]; rfl)
          rw [htt] at HYJ HYC
          clear hbx7 hbe7 hw7 hg2 HX6 HR6 HB6 HZ6 HF6 HFM z6 r0 r1 r2 hju hix hil htt
          have HD7 := Lib.hid (show DraW w g1 g2 m0 A1 L a b c (pairC (hitK L tt js 0)) w7 from ⟨HX7.out, HT7.out, HZ7.out, HR7.out.cut HA1.out, HB7.out⟩)
          clear HX7 HT7 HZ7 HR7 HB7
          go_loopg [16] L.length (fun gt iv ws => ∃ k : Nat, k + gt = L.length ∧ iv = .int .i64 k ∧ g2 < ws.heap.size ∧ Hid (DraW w g1 g2 m0 A1 L a b c (pairC (hitK L tt js k)) ws))
          case atStart => exact ⟨0, by omega, rfl, hlt7, HD7⟩
          case round =>
            obtain ⟨k, hkg, rfl, hgs, HD1⟩ := hrel
            have HD := HD1
            clear HD1 HD7 hlt7
            obtain ⟨t0, t1, t2⟩ := HD.out.jump
            cases gk with
            | zero =>
              obtain rfl : k = L.length := by omega
              have HU2 := Lib.hid (show Upto0 ((rd + 1 : Nat) : Int) (hitK L tt js L.length) by rw [show ((rd + 1 : Nat) : Int) = (rd : Int) + 1 by omega]; exact hit_upto HU.out L.length)
              have HL2 := Lib.hid (fun h => (hit_lost hn16 HGD.out hjl HYJ.out HYC.out h).trans (show _ = dirN p h - dirN (fromJ tt now) h by rw [HLO.out h]; omega))
              have HF2 := Lib.hid (show fromJ tt now < 2 ^ n from Nat.xor_lt_two_pow hnow (holesM_lt (jumpsL_ok HLN.out _ HYJ.out)))
              have HLE := Lib.hid (show (hitK L tt js L.length).length = L.length by rw [hitK_len]; exact hjl)
              have HJP := Lib.hid (fun w9 => RJump_any a b c now w9 HABC.out.1.1 HABC.out.1.2.1 HABC.out.1.2.2 hn16b HABC.out.2.1 HABC.out.2.2.1 HABC.out.2.2.2)
              rw [HTT.out, HYC.out, if_pos rfl] at HJP
              have hge : ¬ (L.length : Int) < (L.length : Int) := by omega
              go_wp2_with fail
              refine (HJP.out _).mono ?_
              rintro e w8 ⟨rfl, hb8⟩
              have HX8 := Lib.hid (HD.out.1.below hb8 HD.out.1.lt)
              have HR8 := Lib.hid ((HD.out.2.2.2.1.more (Nat.le_of_lt HD.out.1.lt)).up hb8)
              have HB8 := Lib.hid (HD.out.2.2.2.2.trans (hb8.mono HD.out.2.2.2.2.size))
              have HZ8 := Lib.hid ((hb8.cell (World.block_lt_of_cell? wr _ HD.out.2.2.1)).trans HD.out.2.2.1)
              clear hb8 HD t0 t1 t2 HJP
              go_wp2_with fail
              go_roundg g
              case measure => omega
              case rel => exact ⟨rd + 1, fromJ tt now, hitK L tt js L.length, by omega, rfl, by go_num, HF2.out, HLE.out, HU2, HL2, HX8, HZ8, HR8, HB8⟩
            | succ gt =>
              have hkl : k < L.length := by omega
              have hkl' : (k : Int) < (L.length : Int) := by omega
              obtain ⟨bl, ol, e0, e1, e2, hA, hbl, hx, p0, p1, p2⟩ := HD.out.2.2.2.1.at_ hkl
              subst hA
              have hgd : L.getD k (0, 0, 0) = (e0, e1, e2) := by rw [List.getD_eq_getElem?_getD, hx]; rfl
              have hkj : k < js.length := by rw [hjl]; exact hkl
              obtain ⟨v1, v2, hv⟩ : ∃ v1 v2, js.getD k (0, 0) = (v1, v2) := ⟨_, _, rfl⟩
              have hup := HU.out k
              rw [hv] at hup
              obtain ⟨hu1, hu2, hu3, hu4⟩ := hup
              have HKL := Lib.hid (show k < (hitK L tt js k).length by rw [hitK_len]; exact hkj)
              have HVV := Lib.hid ((hitK_own (l := L) (t := tt) hkj).trans hv)
              have HKG := Lib.hid (And.intro hkl hgd)
              have heq1 := eqT e0 e1 e2 a b c
              have heq2 := eqT e0 e1 e2 c b a
              have h1d : (e0 == (a : Int) && e1 == (b : Int) && e2 == (c : Int)) = decide ((e0, e1, e2) = tt) := by rw [← HTT.out, Bool.eq_iff_iff]; simp [Prod.mk.injEq, and_assoc]
              have h2d : (e0 == (c : Int) && e1 == (b : Int) && e2 == (a : Int)) = decide ((e0, e1, e2) = revT tt) := by rw [← HRV.out, Bool.eq_iff_iff]; simp [Prod.mk.injEq, and_assoc]
              have hrt : tt ≠ revT tt := by
                intro h
                rw [← HRV.out, ← HTT.out] at h
                have h3 := congrArg (fun x : Tri => x.1) h
                have h4 := HABC.out.2.2.1
                simp only at h3
                omega
              have hk40 : k ≤ 40 := by omega
              have hb1 : -9223372036854775808 ≤ v1 + 1 ∧ v1 + 1 ≤ 9223372036854775807 := by omega
              have hb2 : -9223372036854775808 ≤ v2 + 1 ∧ v2 + 1 ≤ 9223372036854775807 := by omega
              have hw1 := w64 hb1
              have hw2 := w64 hb2
              have hi1 : IntKind.i64.wrap (v1 + 1) = v1 + 1 := IntWalk.i64_in _ hb1
              have hi2 : IntKind.i64.wrap (v2 + 1) = v2 + 1 := IntWalk.i64_in _ hb2
              clear hx hu1 hu2 hu3 hu4 hb1 hb2
              by_cases h1 : (e0, e1, e2) = tt
              · have HNX := Lib.hid (hit_first (l := L) (t := tt) (js := js) (k := k) hkj hv (hgd.trans h1) (by rw [hgd, h1]; exact hrt))
                rw [h1d, decide_eq_true h1] at heq1
                rw [h2d, decide_eq_false (by rw [h1]; exact hrt)] at heq2
                clear h1 h1d h2d hrt hgd hkj hv
                go_upto_region 18 with fail
                go_quiet (fail)
                go_upto_region 19 with fail
                have HD2 := Lib.hid (HD.out.drewN nq)
                have hgs2 : g2 < (wr.drewN nq).heap.size := hgs
                obtain ⟨wn, hwn⟩ : ∃ wn, wr.drewN nq = wn := ⟨_, rfl⟩
                rw [hwn] at HD2 hgs2 ⊢
                clear hwn HD p0 p1 p2 t0 t1 t2 hgs hbl
                obtain ⟨q0, q1, f0, f1⟩ := HD2.out.two HKL.out HVV.out
                go_still_tail 8, (by kernel_rfl)
                go_wp2_with fail
                have HD3 := Lib.hid (show DraW w g1 g2 m0 (some ⟨bl, ol, none⟩) L a b c (pairC (hitK L tt js (k + 1))) ((wn.setCell ⟨g1, k * 2, none⟩ (.int .i64 (v1 + 1))).drew) by rw [← HNX.out]; exact (HD2.out.put HNE.out HG1.out _ _).drewN 1)
                obtain ⟨wo, hwo⟩ : ∃ wo, (wn.setCell ⟨g1, k * 2, none⟩ (.int .i64 (v1 + 1))).drew = wo := ⟨_, rfl⟩
                rw [hwo] at HD3 ⊢
                clear hwo HD2 q0 q1 f0 f1 hgs2
                obtain ⟨t0, t1, t2⟩ := HD3.out.jump
                obtain ⟨p0, p1, p2⟩ := HD3.out.cells HKG.out.1 HKG.out.2
                go_quiet (fail)
                go_wp2_with fail
                have HD4 := Lib.hid (HD3.out.drewN nq)
                go_roundg gt
                case measure => omega
                case rel => exact ⟨k + 1, by omega, by go_num, HD4.out.2.1.lt, HD4⟩
              · by_cases h2 : (e0, e1, e2) = revT tt
                · have HNX := Lib.hid (hit_second (l := L) (t := tt) (js := js) (k := k) hkj hv (by rw [hgd]; exact h1) (hgd.trans h2))
                  rw [h1d, decide_eq_false h1] at heq1
                  rw [h2d, decide_eq_true h2] at heq2
                  clear h1 h2 h1d h2d hrt hgd hkj hv
                  go_upto_region 18 with fail
                  go_quiet (fail)
                  go_upto_region 20 with fail
                  have HD2 := Lib.hid (HD.out.drewN nq)
                  have hgs2 : g2 < (wr.drewN nq).heap.size := hgs
                  obtain ⟨wn, hwn⟩ : ∃ wn, wr.drewN nq = wn := ⟨_, rfl⟩
                  rw [hwn] at HD2 hgs2 ⊢
                  clear hwn HD p0 p1 p2 t0 t1 t2 hgs hbl
                  obtain ⟨t0, t1, t2⟩ := HD2.out.jump
                  obtain ⟨p0, p1, p2⟩ := HD2.out.cells HKG.out.1 HKG.out.2
                  go_quiet (fail)
                  go_upto_region 21 with fail
                  have HD3 := Lib.hid (HD2.out.drewN nq)
                  have hgs3 : g2 < (wn.drewN nq).heap.size := hgs2
                  obtain ⟨wo, hwo⟩ : ∃ wo, wn.drewN nq = wo := ⟨_, rfl⟩
                  rw [hwo] at HD3 hgs3 ⊢
                  clear hwo HD2 p0 p1 p2 t0 t1 t2 hgs2
                  obtain ⟨q0, q1, f0, f1⟩ := HD3.out.two HKL.out HVV.out
                  go_still_tail 8, (by kernel_rfl)
                  go_wp2_with fail
                  have HD4 := Lib.hid (show DraW w g1 g2 m0 (some ⟨bl, ol, none⟩) L a b c (pairC (hitK L tt js (k + 1))) ((wo.setCell ⟨g1, k * 2 + 1, none⟩ (.int .i64 (v2 + 1))).drew) by rw [← HNX.out]; exact (HD3.out.put HNE.out HG1.out _ _).drewN 1)
                  go_roundg gt
                  case measure => omega
                  case rel => exact ⟨k + 1, by omega, by go_num, HD4.out.2.1.lt, HD4⟩
                · have HNX := Lib.hid (hit_none (l := L) (t := tt) (js := js) (k := k) hkj (by rw [hgd]; exact h1) (by rw [hgd]; exact h2))
                  rw [h1d, decide_eq_false h1] at heq1
                  rw [h2d, decide_eq_false h2] at heq2
                  clear h1 h2 h1d h2d hrt hgd hkj hv
                  go_upto_region 18 with fail
                  go_quiet (fail)
                  go_upto_region 20 with fail
                  have HD2 := Lib.hid (HD.out.drewN nq)
                  have hgs2 : g2 < (wr.drewN nq).heap.size := hgs
                  obtain ⟨wn, hwn⟩ : ∃ wn, wr.drewN nq = wn := ⟨_, rfl⟩
                  rw [hwn] at HD2 hgs2 ⊢
                  clear hwn HD p0 p1 p2 t0 t1 t2 hgs hbl
                  obtain ⟨t0, t1, t2⟩ := HD2.out.jump
                  obtain ⟨p0, p1, p2⟩ := HD2.out.cells HKG.out.1 HKG.out.2
                  go_quiet (fail)
                  go_wp2_with fail
                  have HD3 := Lib.hid (show DraW w g1 g2 m0 (some ⟨bl, ol, none⟩) L a b c (pairC (hitK L tt js (k + 1))) (wn.drewN nq) by rw [← HNX.out]; exact HD2.out.drewN nq)
                  go_roundg gt
                  case measure => omega
                  case rel => exact ⟨k + 1, by omega, by go_num, hgs2, HD3⟩
  case rest =>
  obtain ⟨now, js, rfl, hnow, hjl, HU1, HL1, HX1, HZ1, HRW1, HB1⟩ := hcut
  obtain ⟨w7, rfl⟩ : ∃ w7 : World, w7 = wc := ⟨_, rfl⟩
  have HU := HU1
  have HLO := HL1
  have HX := HX1
  have HZ := HZ1
  have HRW := HRW1
  have HB := HB1
  clear HU1 HL1 HX1 HZ1 HRW1 HB1 HBX0 HZ5 HR5 HB5 HRJ HJL
  have HNOW := Lib.hid hnow
  have HQ1 := Lib.hid (fun (W : World) (h : RTri W W.heap.size A1 L) (h2 : REdges W W.heap.size (some ⟨g1, 0, none⟩) js) => HIP.out W now 1 (some ⟨g1, 0, none⟩) L.length js h h2 HNOW.out (by omega))
  have HQ0 := Lib.hid (fun (W : World) (h : RTri W W.heap.size A1 L) (h2 : REdges W W.heap.size (some ⟨g1, 0, none⟩) js) => HIP.out W now 0 (some ⟨g1, 0, none⟩) L.length js h h2 HNOW.out (by omega))
  rw [plan_one hjl (upto_ok HU.out (by decide)) HLO.out, hjl] at HQ1
  rw [plan_zero, hjl] at HQ0
  have HJL := Lib.hid hjl
  clear hjl hnow
  go_wp2_with fail
  refine (HQ1.out w7 HRW.out HX.out.edges).mono ?_
  rintro e w8 ⟨rfl, hb8⟩
  have HX8 := Lib.hid (HX.out.below hb8 HX.out.lt)
  have HR8 := Lib.hid (HRW.out.up hb8)
  have HB8 := Lib.hid (HB.out.trans (hb8.mono HB.out.size))
  have HZ8 := Lib.hid ((hb8.cell (World.block_lt_of_cell? w7 _ HZ.out)).trans HZ.out)
  clear hb8 HX HRW HB HZ HQ1
  go_wp2_with fail
  refine (HQ0.out w8 HR8.out HX8.out.edges).mono ?_
  rintro e w9 ⟨rfl, hb9⟩
  have HX9 := Lib.hid (HX8.out.below hb9 HX8.out.lt)
  have HR9 := Lib.hid (HR8.out.up hb9)
  have HB9 := Lib.hid (HB8.out.trans (hb9.mono HB8.out.size))
  have HZ9 := Lib.hid ((hb9.cell (World.block_lt_of_cell? w8 _ HZ8.out)).trans HZ8.out)
  clear hb9 HX8 HR8 HB8 HZ8 HQ0
  go_upto_region 25 with fail
  have z9 := HZ9.out
  have ht : (IntKind.u64.wrap m0).tmod 100 = ((remN m0 100 : Nat) : Int) := remN_tmod m0 (m := 100) (by decide)
  have hlm := remN_lt m0 (m := 100) (by decide)
  obtain ⟨mm, hmm⟩ : ∃ k, remN m0 100 = k := ⟨_, rfl⟩
  rw [hmm] at ht hlm
  obtain ⟨M, hM⟩ : ∃ M : Nat, 1 + mm = M := ⟨_, rfl⟩
  have hM1 : 1 ≤ M := by omega
  have hM100 : M ≤ 100 := by omega
  have hbm : -9223372036854775808 ≤ (mm : Int) ∧ (mm : Int) ≤ 9223372036854775807 := by omega
  have hbn : -9223372036854775808 ≤ 1 + (mm : Int) ∧ 1 + (mm : Int) ≤ 9223372036854775807 := by omega
  have hMi : 1 + (mm : Int) = (M : Int) := by omega
  have hr3 : wrap64 (1 + wrap64 ((IntKind.u64.wrap m0).tmod 100)) = (M : Int) := by rw [ht, w64 hbm, w64 hbn]; exact hMi
  clear ht hlm hmm hM hbm hbn hMi
  go_wp2_with fail
  rw [hr3]
  clear hr3
  obtain ⟨wz, rfl⟩ : ∃ wz : World, wz = w9 := ⟨_, rfl⟩
  have HDV := Lib.hid (show DraV w g1 A1 L (pairC (mulK (M : Int) js 0)) wz from ⟨HX9.out, HR9.out.cut HA1.out, HB9.out⟩)
  clear HX9 HR9 HB9 HZ9 z9
  go_loopg [18] L.length (fun gt iv ws => ∃ k : Nat, k + gt = L.length ∧ iv = .int .i64 k ∧ Hid (DraV w g1 A1 L (pairC (mulK (M : Int) js k)) ws))
  case atStart => exact ⟨0, by omega, rfl, HDV⟩
  case round =>
    obtain ⟨k, hkg, rfl, HD1⟩ := hrel
    have HD := HD1
    clear HD1 HDV
    cases gk with
    | zero =>
      obtain rfl : k = L.length := by omega
      have HTM := Lib.hid (show ∀ i, i < L.length → (mulK (M : Int) js L.length).getD i (0, 0) = ((M : Int) * (js.getD i (0, 0)).1, (M : Int) * (js.getD i (0, 0)).2) from fun i hi => by
        rw [mulK_at (M : Int) js i L.length (by rw [HJL.out]; exact hi), if_pos hi])
      have HOK := Lib.hid (show (mulK (M : Int) js L.length).all okT = true by have h := mul_ok HU.out hM100; rw [HJL.out] at h; exact h)
      have HLN2 := Lib.hid (show (mulK (M : Int) js L.length).length = L.length by rw [mulK_len]; exact HJL.out)
      obtain ⟨K, hK⟩ : ∃ K, mulK (M : Int) js L.length = K := ⟨_, rfl⟩
      rw [hK] at HTM HOK HLN2 HD
      have HQ1 := Lib.hid (fun (W : World) (h : RTri W W.heap.size A1 L) (h2 : REdges W W.heap.size (some ⟨g1, 0, none⟩) K) => HIP.out W now (M : Int) (some ⟨g1, 0, none⟩) L.length K h h2 HNOW.out (by rw [HLN2.out]; omega))
      have HQ2 := Lib.hid (fun (W : World) (h : RTri W W.heap.size A1 L) (h2 : REdges W W.heap.size (some ⟨g1, 0, none⟩) K) => HIP.out W now ((M : Int) + 1) (some ⟨g1, 0, none⟩) L.length K h h2 HNOW.out (by rw [HLN2.out]; omega))
      rw [plan_times (m := (M : Int)) HLN2.out (by omega) HOK.out HLO.out HTM.out, HLN2.out] at HQ1
      rw [HLN2.out] at HQ2
      have hge : ¬ (L.length : Int) < (L.length : Int) := by omega
      have hbM : -9223372036854775808 ≤ (M : Int) + 1 ∧ (M : Int) + 1 ≤ 9223372036854775807 := by omega
      have hwM := w64 hbM
      clear hK hbM
      go_wp2_with fail
      refine (HQ1.out wr (HD.out.2.1.more (Nat.le_of_lt HD.out.1.lt)) HD.out.1.edges).mono ?_
      rintro e w8 ⟨rfl, hb8⟩
      have HX8 := Lib.hid (HD.out.1.below hb8 HD.out.1.lt)
      have HR8 := Lib.hid ((HD.out.2.1.more (Nat.le_of_lt HD.out.1.lt)).up hb8)
      have HB8 := Lib.hid (HD.out.2.2.trans (hb8.mono HD.out.2.2.size))
      clear hb8 HD
      by_cases hnp : now = p
      · have hni : (now : Int) = (p : Int) := by rw [hnp]
        go_wp2_with fail
        refine (awake2_any _).mono ?_
        rintro e w10 ⟨rfl, hb10⟩
        go_wp2_with fail
        go_ret
        exact ⟨rfl, HB8.out.trans (hb10.mono HB8.out.size)⟩
      · have hni : ¬ (now : Int) = (p : Int) := fun e => hnp (Int.ofNat_inj.1 e)
        have hnd : ((now : Int) == (p : Int)) = false := by rw [beq_eq_false_iff_ne]; exact hni
        rw [plan_more (m := (M : Int)) HP.out HNOW.out hnp HLO.out HTM.out] at HQ2
        clear hnp
        go_wp2_with fail
        refine (HQ2.out w8 HR8.out HX8.out.edges).mono ?_
        rintro e w10 ⟨rfl, hb10⟩
        have HB10 := Lib.hid (HB8.out.trans (hb10.mono HB8.out.size))
        clear hb10 HX8 HR8
        go_wp2_with fail
        refine (awake2_any _).mono ?_
        rintro e w11 ⟨rfl, hb11⟩
        go_wp2_with fail
        go_ret
        exact ⟨rfl, HB10.out.trans (hb11.mono HB10.out.size)⟩
    | succ gt =>
      have hkl : k < L.length := by omega
      have hkl' : (k : Int) < (L.length : Int) := by omega
      have hkj : k < js.length := by rw [HJL.out]; exact hkl
      obtain ⟨v1, v2, hv⟩ : ∃ v1 v2, js.getD k (0, 0) = (v1, v2) := ⟨_, _, rfl⟩
      have hup := HU.out k
      rw [hv] at hup
      simp only at hup
      obtain ⟨hu1, hu2, hu3, hu4⟩ := hup
      obtain ⟨q0, q1, f0, f1⟩ := HD.out.two (by rw [mulK_len]; exact hkj) ((mulK_own (M := (M : Int)) hkj).trans hv)
      have HNX := Lib.hid (mul_next (M := (M : Int)) hkj hv)
      have b1 := Int.mul_nonneg (Int.natCast_nonneg M) hu1
      have b3 := Int.mul_nonneg (Int.natCast_nonneg M) hu3
      have b2 := Int.mul_le_mul (show (M : Int) ≤ 100 by omega) hu2 hu1 (by decide)
      have b4 := Int.mul_le_mul (show (M : Int) ≤ 100 by omega) hu4 hu3 (by decide)
      have hk40 : k ≤ 40 := by omega
      have hc1 : -9223372036854775808 ≤ (M : Int) * v1 ∧ (M : Int) * v1 ≤ 9223372036854775807 := by omega
      have hc2 : -9223372036854775808 ≤ (M : Int) * v2 ∧ (M : Int) * v2 ≤ 9223372036854775807 := by omega
      have hw1 := w64 hc1
      have hw2 := w64 hc2
      have hi1 : IntKind.i64.wrap ((M : Int) * v1) = (M : Int) * v1 := IntWalk.i64_in _ hc1
      have hi2 : IntKind.i64.wrap ((M : Int) * v2) = (M : Int) * v2 := IntWalk.i64_in _ hc2
      clear hc1 hc2
      clear b1 b2 b3 b4 hu1 hu2 hu3 hu4 hv hkj
      go_upto_region 29 with fail
      go_still_tail 18, (by kernel_rfl)
      go_wp2_with fail
      have HD4 := Lib.hid (show DraV w g1 A1 L (pairC (mulK (M : Int) js (k + 1))) (((wr.setCell ⟨g1, k * 2, none⟩ (.int .i64 ((M : Int) * v1))).setCell ⟨g1, k * 2 + 1, none⟩ (.int .i64 ((M : Int) * v2))).drew) by rw [← HNX.out]; exact ((HD.out.put HG1.out _ _).put HG1.out _ _).drewN 1)
      go_roundg gt
      case measure => omega
      case rel => exact ⟨k + 1, by omega, by go_num, HD4⟩
set_option maxRecDepth 100000 in
theorem pdrafts_row (os : Os) (started : os.Started) (H : Type) (enc : TypeId × Value → H) :
    ReturnsInHanded {} Try.checked os 10 .any (Rows.pegDraftsSpec.pre6 enc Try.prog Try.f10 Rows.pegDraftsRow.domain false) (Rows.pegDraftsSpec.post enc Try.prog Try.f10 false true false false) := by
  refine returnsInHanded_of_change (C := Try.checked) ownNone started (by kernel_rfl) Try.func10
    (ChangeSpec.witness6 (enc := enc) (C := Try.checked) false ⟨#[], #[.int .i64 0, .slice none 0 0, .agg #[.int .i64 0, .int .i64 0, .int .i64 0, .slice none 0 0]], []⟩ 8 (by kernel_rfl) (by kernel_rfl) (by kernel_rfl) (by kernel_rfl)) ?_
  intro W base args ds gs before hval hW _ _
  have hW2 := hW
  obtain ⟨p, q, hA, hV, rfl, _, _⟩ := hW2
  have hA : DataW.TrodAll enc Try.prog W 0 (fun _ => true) true Try.f10.params.toList args.toList ds p := hA
  have hAk := hA
  have hval : ∀ (j : Nat) t v, Try.f10.params[j]? = some t → args[j]? = some v → Value.okWide Try.prog W .any base t v := hval
  rw [Try.params10] at hA hval
  obtain ⟨v0, vs0, d0, ds0, p0, q0, hargs, rfl, rfl, h0, r0⟩ := trodAll_cons hA
  obtain ⟨v1, vs1, d1, ds1, p1, q1, rfl, rfl, rfl, h1, r1⟩ := trodAll_cons r0
  obtain ⟨v2, vs2, d2, ds2, p2, q2, rfl, rfl, rfl, h2, r2⟩ := trodAll_cons r1
  obtain ⟨rfl, rfl, rfl⟩ := trodAll_nil r2
  obtain rfl : args = #[v0, v1, v2] := by cases args; simp_all
  obtain ⟨rfl, rfl⟩ := trodVars_none hV
  obtain ⟨a0, rfl, rfl, rfl, w0⟩ := open_int Try.underlying3 (hval 0 3 v0 rfl rfl) h0
  obtain ⟨A1, z1, c1, rfl, _, m1, hr1⟩ := open_tris (hval 1 22 v1 rfl rfl) h1
  obtain ⟨x2, y2, n2, A2, z2, c2, rfl, k2, m2, hr2⟩ := open_draft (hval 2 73 v2 rfl rfl) h2
  clear hA hval
  simp only [List.append_nil, List.nil_append] at hW hAk
  refine (pdrafts_any a0 A1 z1 c1 x2 y2 n2 A2 z2 c2 W hr1 m1 hr2 k2 m2).mono fun e W' ⟨he, hb⟩ => ?_
  subst he
  exact ⟨_, rfl, post_bool hW hb (by rw [Try.params10]; decide) hAk (fun _ => rfl) rfl rfl (by kernel_rfl)⟩

theorem pdrafts_holds : Rows.PegDraftsSaid :=
  OpenClaim.holds_of_wide 10 Try.f10 rfl rfl rfl rfl rfl rfl rfl ⟨rfl, rfl, rfl, rfl, rfl⟩ rfl rfl rfl rfl rfl (by kernel_rfl) Try.func10 (by kernel_rfl)
    (of_decide_eq_true (by kernel_rfl)) (by unfold Func.isWrapper; first | (rw [if_pos (by decide +kernel)]; kernel_rfl) | (rw [if_neg (by decide +kernel)]; exact ⟨rfl, rfl⟩))
    (fun os started H enc _ => pdrafts_row os started H enc)

#print axioms pdrafts_holds
end Go.Proofs.Ythbhengcinkepaa
