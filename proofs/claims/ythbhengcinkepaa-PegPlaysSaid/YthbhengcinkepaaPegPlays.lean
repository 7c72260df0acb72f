/- For every integer n, list of triples of integers l and pair a of a position and jumps of: the function PegPlays answers true: the position after any jumps, and after jumps that can be made, is that of the reference, or there is none. No conditions. -/
import Derived.Test.YthbhengcinkepaaOpenS
import Derived.Test.YthbhengcinkepaaPg20
import Derived.Test.YthbhengcinkepaaTameT
import Derived.Test.YthbhengcinkepaaRJumps
import Derived.Test.YthbhengcinkepaaPlays
namespace Go.Proofs.Ythbhengcinkepaa
open Go.ChangeShapes Go.WideShapes Go.ChangeAt Go.RowKit Go.WideMaps Lamp

set_option maxRecDepth 100000 in
set_option maxHeartbeats 8000000 in
theorem pplays_any (a0 : Int) (A : Option Addr) (l : List Tri) (c : Nat) (x : Int) (Ag : Option Addr) (gm : List Tri) (cg : Nat) (w : World) (hr : RTri w w.heap.size A l) (hl : l.length ≤ 9223372036854775807) (hrg : RTri w w.heap.size Ag gm) (hcg : gm.length ≤ cg) (hlg : gm.length ≤ 9223372036854775807) :
    Calls Try.prog 4 #[.int .i64 a0, .slice A l.length c, .agg #[.int .i64 x, .slice Ag gm.length cg]] w fun e w' => e = .returned (.bool true) ∧ Below w.heap.size w w' := by
  have hm := remN_lt a0 (m := 16) (by decide)
  obtain ⟨n, hn⟩ : ∃ n, 1 + remN a0 16 = n := ⟨_, rfl⟩
  have hn1 : 1 ≤ n := by omega
  have hn16 : n ≤ 16 := by omega
  have hb0 := Box.new w 34 #[.int .i64 x, .slice Ag gm.length cg]
  have hr0 := hr.up (below_alloc (Nat.le_refl _) (Obj.cells #[.int .i64 x, .slice Ag gm.length cg] 34))
  have hg0 := hrg.up (below_alloc (Nat.le_refl _) (Obj.cells #[.int .i64 x, .slice Ag gm.length cg] 34))
  have hB0 := below_alloc (w := w) (Nat.le_refl _) (Obj.cells #[.int .i64 x, .slice Ag gm.length cg] 34)
  have HT := Lib.hid (fun (w1 : World) (h : RTri w1 w1.heap.size A l) => tameT_any A a0 l c 16 20 w1 h hl (by decide) (by decide) (by decide))
  rw [hn] at HT
  have hpw := pow_split hn16
  have hp0 := Nat.two_pow_pos n
  have hpi : (2 : Int) ^ n = ((2 ^ n : Nat) : Int) := by simp
  have hr1 := rem_i64 x hp0 hpw
  have hl1 := remN_lt x hp0
  obtain ⟨p, hp⟩ : ∃ p, remN x (2 ^ n) = p := ⟨_, rfl⟩
  rw [hp] at hr1 hl1
  have HP := Lib.hid hl1
  obtain ⟨P, hP⟩ : ∃ P, 2 ^ n = P := ⟨_, rfl⟩
  rw [hP] at hpw hp0 hpi hr1
  have hp16 : p < 65536 := by omega
  have hPw : IntKind.u64.wrap (P : Int) = (P : Int) := u64_in (by omega) (by omega)
  have hP0 : ((P : Int) = 0) = False := by simp; omega
  have HR0 := Lib.hid hr0
  have HG0 := Lib.hid hg0
  have HBX0 := Lib.hid hb0
  have HB0 := Lib.hid hB0
  have hn16i : (n : Int) ≤ 16 := by omega
  clear hr hl hm hn hp hP hl1 hr0 hb0 hB0 hg0 hrg
  go_enter Try.func4, Try.ntmps4
  go_wp2_with fail
  refine (HT.out _ HR0.out).mono ?_
  rintro e w1 ⟨v1, rfl, L, hc, hLK, ho, hb⟩
  obtain ⟨A1, c1, rfl, hrd⟩ := ho.reads
  have HC := Lib.hid hc
  have HB1 := Lib.hid (HB0.out.trans (hb.mono HB0.out.size))
  have HR1 := Lib.hid hrd
  have HG1 := Lib.hid (HG0.out.up hb)
  have hbx := HBX0.out.below hb HBX0.out.lt
  have x0 := hbx.cell 0
  have x1 := hbx.cell 1
  simp only [List.getElem?_toArray, List.getElem?_cons_zero, List.getElem?_cons_succ] at x0 x1
  clear hc hb hrd hbx ho HT HR0 HBX0 HG0
  go_wp2_with fail
  go_quiet (fail)
  have HC2 := Lib.hid (show Below w.heap.size w (w1.drewN nq) from below_drewN HB1.out nq)
  have HR2 := Lib.hid (show RTri (w1.drewN nq) (w1.drewN nq).heap.size A1 L from HR1.out.drewN nq)
  have HG2 := Lib.hid (show RTri (w1.drewN nq) (w1.drewN nq).heap.size Ag gm from HG1.out.drewN nq)
  have x2 : (w1.drewN nq).cell? ⟨w.heap.size, 1, none⟩ = some (.slice Ag gm.length cg) := x1
  obtain ⟨w2, hw2⟩ : ∃ w2, w1.drewN nq = w2 := ⟨_, rfl⟩
  rw [hw2] at HC2 HR2 HG2 x2 ⊢
  clear hw2 x0 x1 HB1 HR1 HG1 hr1
  obtain ⟨m, hm⟩ : ∃ m, min gm.length 20 = m := ⟨_, rfl⟩
  have hmi : min (gm.length : Int) 20 = (m : Int) := by omega
  have hm0 : (0 : Int) ≤ (m : Int) := by omega
  have hmc : (m : Int) ≤ (cg : Int) := by omega
  have hml : (m : Int) ≤ (gm.length : Int) := by omega
  have hm20 : m ≤ 20 := by omega
  have hgl2 : m = (gm.take m).length := by rw [List.length_take]; omega
  have HGT := Lib.hid (HG2.out.take m)
  obtain ⟨G, hG⟩ : ∃ G, gm.take m = G := ⟨_, rfl⟩
  rw [hG] at HGT hgl2
  have HGL := Lib.hid hgl2
  have hG20 : G.length ≤ 20 := by omega
  clear hm hG hgl2
  go_upto_region 4 with fail
  go_cut [9] (fun v9 wx => Hid (OwnT 30 wx w2.heap.size v9 G) ∧ Hid (Below w2.heap.size w2 wx))
  case first =>
    cases Ag with
    | none =>
      go_wp2_with (at_builtin; refine wpList_appT _ rfl _ _ rfl (OwnT.nil_ 30 w2 w2.heap.size) rfl none _ G cg w2.heap.size rfl HGL.out HGT.out (by simp; omega) (Nat.le_refl _) ?_; intro v4 w4 ho4 hg4)
      have hb4 := (Below.refl w2.heap.size w2).grown hg4 (Nat.le_refl _) (fun k hk => by cases hk)
      go_meet
      exact ⟨Lib.hid ho4, Lib.hid hb4⟩
    | some ad =>
      go_wp2_with (at_builtin; refine wpList_appT _ rfl _ _ rfl (OwnT.nil_ 30 w2 w2.heap.size) rfl (some ad) _ G cg w2.heap.size rfl HGL.out HGT.out (by simp; omega) (Nat.le_refl _) ?_; intro v4 w4 ho4 hg4)
      have hb4 := (Below.refl w2.heap.size w2).grown hg4 (Nat.le_refl _) (fun k hk => by cases hk)
      go_meet
      exact ⟨Lib.hid ho4, Lib.hid hb4⟩
  case rest =>
  obtain ⟨HO1, HBC1⟩ := hcut
  have HO := HO1
  have HBC := HBC1
  clear HO1 HBC1
  obtain ⟨hn1', _, hlL, hg⟩ := checkT_zero HC.out
  have hlin := goodT_ok hg
  have HALL := Lib.hid (jumpsL_ok hlin)
  have HPN := Lib.hid (Nat.pow_le_pow_right (n := 2) (by decide) hn16)
  have HPL := Lib.hid (fun (w8 : World) (Ag : Option Addr) (g : List Tri) (cg : Nat) (h : RTri w8 w8.heap.size A1 L) (h2 : RTri w8 w8.heap.size Ag g) (hl2 : g.length ≤ 1000000) => Play_any A1 Ag c1 cg n p L g w8 h h2 HC.out HP.out hl2)
  have HRP := Lib.hid (fun (w8 : World) (Ag : Option Addr) (g : List Tri) (cg : Nat) (h : RTri w8 w8.heap.size A1 L) (h2 : RTri w8 w8.heap.size Ag g) (hl2 : g.length ≤ 1000000) => RPlay_any A1 Ag c1 cg n p L g w8 h h2 hlL hn16 hlin HP.out hl2)
  have HRJ := Lib.hid (fun (w8 : World) (q : Nat) (h : RTri w8 w8.heap.size A1 L) (hq : q < 65536) => RJumps_any A1 c1 n q L w8 h hlL hn16 hlin hq)
  have HJL := Lib.hid (show (jumpsL L).length ≤ 80 by rw [jumpsL_len]; omega)
  obtain ⟨J, hJ⟩ : ∃ J, jumpsL L = J := ⟨_, rfl⟩
  rw [hJ] at HALL HPL HRP HRJ HJL
  have HBW0 := Lib.hid (HC2.out.trans (HBC.out.mono HC2.out.size))
  have HRWC := Lib.hid (HR2.out.up HBC.out)
  have HS2 := Lib.hid HBC.out.size
  obtain ⟨wd, rfl⟩ : ∃ wd : World, wd = wc := ⟨_, rfl⟩
  have HO0 := Lib.hid (HO.out.more HC2.out.size)
  clear hJ hg hlin HO HGT HG2 HGL HBC HR2 hmi hm0 hmc hml hm20 x2
  go_wp2_with fail
  go_loopg [9, 10] 2 (fun g gv rv ws => ∃ (rd : Nat) (v : Value) (G : List Tri), rd + g = 2 ∧ v = gv ∧ rv = .int .i64 rd ∧ G.length ≤ 20 ∧ Hid (OwnT 30 ws w.heap.size v G) ∧ Hid (Below wd.heap.size wd ws))
  case atStart => exact ⟨0, _, G, by omega, rfl, rfl, hG20, HO0, Lib.hid (Below.refl _ _)⟩
  case round =>
    clear HO0 hG20
    obtain ⟨rd, v, G, hrd, rfl, rfl, hG20, HO1, HBB1⟩ := hrel
    have HO := HO1
    have HBB := HBB1
    clear HO1 HBB1
    have HBW := Lib.hid (HBW0.out.trans (HBB.out.mono HBW0.out.size))
    have HRW := Lib.hid (HRWC.out.up HBB.out)
    cases gk with
    | zero =>
      obtain rfl : rd = 2 := by omega
      go_wp2_with fail
      refine (awake2_any _).mono ?_
      rintro e w8 ⟨rfl, hb8⟩
      go_wp2_with fail
      go_ret
      exact ⟨rfl, HBW.out.trans (hb8.mono HBW.out.size)⟩
    | succ g =>
      have hrd2 : (rd : Int) < 2 := by omega
      have hrdn : rd < 2 := by omega
      obtain ⟨A9, c9, hv9, hrd9⟩ := HO.out.reads
      subst hv9
      have HG9 := Lib.hid hrd9
      clear hrd9
      go_wp2_with fail
      refine (HPL.out wr A9 G c9 HRW.out HG9.out (by omega)).mono ?_
      rintro e w5 ⟨rfl, hb5⟩
      have HB5 := Lib.hid (HBB.out.trans (hb5.mono HBB.out.size))
      have HR5 := Lib.hid (HRW.out.up hb5)
      have HG5 := Lib.hid (HG9.out.up hb5)
      clear hb5
      have hcut : ∃ (q : Nat) (b : Bool), playV (playL J p G) = .tuple #[.int .i64 (q : Nat), .int .i64 (if b = true then 0 else 21)] ∧ (b = false → q = 0) ∧ ∀ (q6 : Nat) (b6 : Bool), (playL J p G = some q6 ∧ b6 = true ∨ playL J p G = none ∧ b6 = false) → b6 = b ∧ (b = true → q6 = q) := by
        cases hpl : playL J p G with
        | none =>
          refine ⟨0, false, rfl, fun _ => rfl, fun q6 b6 h => ?_⟩
          rcases h with ⟨h, _⟩ | ⟨_, h⟩
          · cases h
          · exact ⟨h, fun h => (by cases h)⟩
        | some q =>
          refine ⟨q, true, rfl, fun h => (by cases h), fun q6 b6 h => ?_⟩
          rcases h with ⟨h, h2⟩ | ⟨h, _⟩
          · exact ⟨h2, fun _ => (Option.some.inj h).symm⟩
          · cases h
      obtain ⟨q5, b5, hv5, hz5, h5⟩ := hcut
      rw [hv5]
      have H5 := Lib.hid h5
      clear h5 hv5
      cases b5 with
      | false =>
        obtain rfl : q5 = 0 := hz5 rfl
        simp only [if_neg (show ¬ (false = true) by simp)]
        clear hz5
        go_wp2_with fail
        refine (HRP.out w5 A9 G c9 HR5.out HG5.out (by omega)).mono ?_
        rintro e w6 ⟨⟨q6, b6, rfl, h6⟩, hb6⟩
        obtain ⟨rfl, -⟩ := H5.out q6 b6 h6
        have HB6 := Lib.hid (HB5.out.trans (hb6.mono HB5.out.size))
        have HR6 := Lib.hid (HR5.out.up hb6)
        have HG6 := Lib.hid (HG5.out.up hb6)
        clear hb6 h6
        go_wp2_with fail
        have HSW6 := Lib.hid (show w.heap.size ≤ w6.heap.size from Nat.le_trans HBW0.out.size HB6.out.size)
        go_loopg [15, 16, 17] G.length (fun g nv xv iv ws => ∃ (k q : Nat) (v : Value) (N : List Tri), k + g = G.length ∧ nv = .int .i64 q ∧ v = xv ∧ iv = .int .i64 k ∧ N.length ≤ k ∧ Hid (q < 2 ^ n) ∧ Hid (OwnT 30 ws w6.heap.size v N) ∧ Hid (Below w6.heap.size w6 ws))
        case atStart => exact ⟨0, p, _, [], by omega, rfl, rfl, rfl, by simp, HP, Lib.hid (OwnT.nil_ _ _ _), Lib.hid (Below.refl _ _)⟩
        case round =>
          obtain ⟨k, q, v, N, hk, rfl, rfl, rfl, hN, HQ1, HO1, HBM1⟩ := hrel
          have HQ := HQ1
          have HOM := HO1
          have HBM := HBM1
          clear HQ1 HO1 HBM1
          have hq16 : q < 65536 := Nat.lt_of_lt_of_le HQ.out HPN.out
          have HBW6 := Lib.hid (HB6.out.trans (HBM.out.mono HB6.out.size))
          have HRM := Lib.hid (HR6.out.up HBM.out)
          have HGM := Lib.hid (HG6.out.up HBM.out)
          cases gk with
          | zero =>
            obtain rfl : k = G.length := by omega
            have hge : ¬ (G.length : Int) < (G.length : Int) := by omega
            have hgd : decide ((G.length : Int) < (G.length : Int)) = false := decide_eq_false hge
            go_wp2_with fail
            go_roundg g
            case measure => omega
            case rel => exact ⟨rd + 1, v, N, by omega, rfl, by go_num, by omega, Lib.hid (HOM.out.more HSW6.out), HBW6⟩
          | succ gg =>
            have hkl : k < G.length := by omega
            have hkl' : (k : Int) < (G.length : Int) := by omega
            have HRX := Lib.hid (HRJ.out wr q HRM.out hq16)
            obtain ⟨js, hjs⟩ : ∃ js, (J.filter fun j => canJ j q) = js := ⟨_, rfl⟩
            have HJI := Lib.hid (show ∀ j ∈ js, j ∈ J ∧ canJ j q = true from fun j hj => by rw [← hjs, List.mem_filter] at hj; exact hj)
            have hj80 : js.length ≤ 80 := by
              have h1 := List.length_filter_le (fun j => canJ j q) J
              rw [hjs] at h1
              have h2 := HJL.out
              omega
            rw [hjs] at HRX
            clear hjs
            go_wp2_with fail
            refine HRX.out.mono ?_
            rintro e w7 ⟨vj, rfl, hoj, hb7⟩
            obtain ⟨Aj, cj, rfl, hrj⟩ := hoj.reads
            have HJ7 := Lib.hid hrj
            have HB7 := Lib.hid (HBM.out.trans (hb7.mono HBM.out.size))
            have HG7 := Lib.hid (HGM.out.up hb7)
            have HO7 := Lib.hid (HOM.out.below hb7 (fun g2 h => (HOM.out.blk g2 h).2.1))
            have HBW7 := Lib.hid (HBW6.out.trans (hb7.mono HBW6.out.size))
            clear hoj hrj hb7 HOM
            by_cases h0 : js.length = 0
            · have h0i : ((js.length : Int) == 0) = true := by rw [beq_iff_eq]; omega
              have h0j : (js.length : Int) = 0 := by omega
              clear h0
              go_wp2_with fail
              go_roundg g
              case measure => omega
              case rel => exact ⟨rd + 1, v, N, by omega, rfl, by go_num, by omega, Lib.hid (HO7.out.more HSW6.out), HBW7⟩
            · have h0i : ((js.length : Int) == 0) = false := by rw [beq_eq_false_iff_ne]; omega
              have h0k : ¬ (js.length : Int) = 0 := by omega
              have h0j : ((js.length : Int) = 0) = False := eq_false h0k
              obtain ⟨b, o, x1, x2, x3, hA9, hb9, hx9, p0, p1, p2⟩ := HG7.out.at_ hkl
              subst hA9
              clear hx9
              go_wp2_with fail
              have hju : IntKind.u64.wrap (js.length : Int) = (js.length : Int) := u64_in (by omega) (by omega)
              have hjs1 : 1 ≤ js.length := by omega
              have hix := rem_i64 (IntKind.i64.wrap (x1 + x2)) hjs1 (by omega)
              have hil := remN_lt (IntKind.i64.wrap (x1 + x2)) hjs1
              obtain ⟨i9, hi9⟩ : ∃ i9, remN (IntKind.i64.wrap (x1 + x2)) js.length = i9 := ⟨_, rfl⟩
              rw [hi9] at hix hil
              have hil' : (i9 : Int) < (js.length : Int) := by omega
              obtain ⟨bj, oj, y1, y2, y3, hAj, hbj, hyj, r0, r1, r2⟩ := HJ7.out.at_ hil
              subst hAj
              obtain ⟨hyJ, hyc⟩ := HJI.out _ (List.mem_of_getElem? hyj)
              clear hyj hi9
              go_cut [19] (fun v19 wx => ∃ D, v19 = .pointer (some ⟨D, 0, none⟩) ∧ w7.heap.size ≤ D ∧ Hid (Box wx D 30 #[.int .i64 y1, .int .i64 y2, .int .i64 y3]) ∧ Hid (Below w7.heap.size w7 wx))
              case first =>
                have HX0 := Lib.hid p0
                refine wp_region_held_drew (S := fun w' => w'.cell? ⟨b, o + k * 3, none⟩ = some (.int .i64 x1) ∧ w'.cell? ⟨b, o + k * 3 + 1, none⟩ = some (.int .i64 x2) ∧ w'.cell? ⟨bj, oj + i9 * 3, none⟩ = some (.int .i64 y1) ∧ w'.cell? ⟨bj, oj + i9 * 3 + 1, none⟩ = some (.int .i64 y2) ∧ w'.cell? ⟨bj, oj + i9 * 3 + 2, none⟩ = some (.int .i64 y3)) (by kernel_rfl) ⟨p0, p1, r0, r1, r2⟩ (fun hHeld => ?_)
                refine wpAnyH_take (i := 0) (v := ?_) rfl (by kernel_rfl) (by kernel_rfl) (by kernel_rfl) (fun _ _ _ h => h) (Or.inl ⟨by rfl, ?_⟩) (by assumption) ?_
                rotate_left
                · (intro w hSw; (try dsimp only at hSw); go_simp <;> (with_reducible rfl))
                try simp only [Act.put, List.setIfInBounds_toArray, List.set_cons_zero, List.set_cons_succ, List.getElem_toArray, List.getElem_cons_zero]
                refine wpAnyH_take (i := 1) (v := ?_) rfl (by kernel_rfl) (by kernel_rfl) (by kernel_rfl) (fun _ _ _ h => h) (Or.inl ⟨by rfl, ?_⟩) (by assumption) ?_
                rotate_left
                · (intro w hSw; (try dsimp only at hSw); go_simp <;> (with_reducible rfl))
                try simp only [Act.put, List.setIfInBounds_toArray, List.set_cons_zero, List.set_cons_succ, List.getElem_toArray, List.getElem_cons_zero, List.getElem_cons_succ]
                refine wpAnyH_take (i := 2) (v := ?_) rfl (by kernel_rfl) (by kernel_rfl) (by kernel_rfl) (fun _ _ _ h => h) (Or.inl ⟨by rfl, ?_⟩) (by assumption) ?_
                rotate_left
                · (intro w hSw; (try dsimp only at hSw); go_simp <;> (with_reducible rfl))
                try simp only [Act.put, List.setIfInBounds_toArray, List.set_cons_zero, List.set_cons_succ, List.getElem_toArray, List.getElem_cons_zero, List.getElem_cons_succ]
                refine wpAnyH_take (i := 3) (v := ?_) rfl (by kernel_rfl) (by kernel_rfl) (by kernel_rfl) (fun _ _ _ h => h) (Or.inl ⟨by rfl, ?_⟩) (by assumption) ?_
                rotate_left
                · (intro w hSw; (try dsimp only at hSw); go_simp <;> (with_reducible rfl))
                try simp only [Act.put, List.setIfInBounds_toArray, List.set_cons_zero, List.set_cons_succ, List.getElem_toArray, List.getElem_cons_zero, List.getElem_cons_succ]
                refine wpAnyH_take (i := 4) (v := ?_) rfl (by kernel_rfl) (by kernel_rfl) (by kernel_rfl) (fun _ _ _ h => h) (Or.inl ⟨by rfl, ?_⟩) (by assumption) ?_
                rotate_left
                · (intro w hSw; (try dsimp only at hSw); go_simp <;> (with_reducible rfl))
                try simp only [Act.put, List.setIfInBounds_toArray, List.set_cons_zero, List.set_cons_succ, List.getElem_toArray, List.getElem_cons_zero, List.getElem_cons_succ]
                refine wpAnyH_take (i := 5) (v := ?_) rfl (by kernel_rfl) (by kernel_rfl) (by kernel_rfl) (fun _ _ _ h => h) (Or.inl ⟨by rfl, ?_⟩) (by assumption) ?_
                rotate_left
                · (intro w hSw; (try dsimp only at hSw); go_simp <;> (with_reducible rfl))
                try simp only [Act.put, List.setIfInBounds_toArray, List.set_cons_zero, List.set_cons_succ, List.getElem_toArray, List.getElem_cons_zero, List.getElem_cons_succ]
                refine wpAnyH_take (i := 6) (v := ?_) rfl (by kernel_rfl) (by kernel_rfl) (by kernel_rfl) (fun _ _ _ h => h) (Or.inl ⟨by rfl, ?_⟩) (by assumption) ?_
                rotate_left
                · (intro w hSw; (try dsimp only at hSw); go_simp <;> (with_reducible rfl))
                try simp only [Act.put, List.setIfInBounds_toArray, List.set_cons_zero, List.set_cons_succ, List.getElem_toArray, List.getElem_cons_zero, List.getElem_cons_succ]
                refine wpAnyH_take (i := 7) (v := ?_) rfl (by kernel_rfl) (by kernel_rfl) (by kernel_rfl) (fun _ _ _ h => h) (Or.inl ⟨by rfl, ?_⟩) (by assumption) ?_
                rotate_left
                · (intro w hSw; (try dsimp only at hSw); go_simp <;> (with_reducible rfl))
                try simp only [Act.put, List.setIfInBounds_toArray, List.set_cons_zero, List.set_cons_succ, List.getElem_toArray, List.getElem_cons_zero, List.getElem_cons_succ]
                refine wpAnyH_take (i := 8) (v := ?_) rfl (by kernel_rfl) (by kernel_rfl) (by kernel_rfl) (fun _ _ _ h => h) (Or.inl ⟨by rfl, ?_⟩) (by assumption) ?_
                rotate_left
                · (intro w hSw; (try dsimp only at hSw); go_simp <;> (with_reducible rfl))
                try simp only [Act.put, List.setIfInBounds_toArray, List.set_cons_zero, List.set_cons_succ, List.getElem_toArray, List.getElem_cons_zero, List.getElem_cons_succ]
                refine wpAnyH_take (i := 9) (v := ?_) rfl (by kernel_rfl) (by kernel_rfl) (by kernel_rfl) (fun _ _ _ h => h) (Or.inl ⟨by rfl, ?_⟩) (by assumption) ?_
                rotate_left
                · (intro w hSw; (try dsimp only at hSw); go_simp <;> (with_reducible rfl))
                try simp only [Act.put, List.setIfInBounds_toArray, List.set_cons_zero, List.set_cons_succ, List.getElem_toArray, List.getElem_cons_zero, List.getElem_cons_succ]
                refine wpAnyH_take (i := 10) (v := ?_) rfl (by kernel_rfl) (by kernel_rfl) (by kernel_rfl) (fun _ _ _ h => h) (Or.inl ⟨by rfl, ?_⟩) (by assumption) ?_
                rotate_left
                · (intro w hSw; (try dsimp only at hSw); go_simp <;> (with_reducible rfl))
                try simp only [Act.put, List.setIfInBounds_toArray, List.set_cons_zero, List.set_cons_succ, List.getElem_toArray, List.getElem_cons_zero, List.getElem_cons_succ]
                refine wpAnyH_take (i := 11) (v := ?_) rfl (by kernel_rfl) (by kernel_rfl) (by kernel_rfl) (fun _ _ _ h => h) (Or.inl ⟨by rfl, ?_⟩) (by assumption) ?_
                rotate_left
                · (intro w hSw; (try dsimp only at hSw); go_simp <;> (with_reducible rfl))
                try simp only [Act.put, List.setIfInBounds_toArray, List.set_cons_zero, List.set_cons_succ, List.getElem_toArray, List.getElem_cons_zero, List.getElem_cons_succ]
                refine wpAnyH_take (i := 12) (v := ?_) rfl (by kernel_rfl) (by kernel_rfl) (by kernel_rfl) (fun _ _ _ h => h) (Or.inl ⟨by rfl, ?_⟩) (by assumption) ?_
                rotate_left
                · (intro w hSw; (try dsimp only at hSw); go_simp <;> (with_reducible rfl))
                try simp only [Act.put, List.setIfInBounds_toArray, List.set_cons_zero, List.set_cons_succ, List.getElem_toArray, List.getElem_cons_zero, List.getElem_cons_succ]
                refine wpAnyH_take (i := 13) (v := ?_) rfl (by kernel_rfl) (by kernel_rfl) (by kernel_rfl) (fun _ _ _ h => h) (Or.inl ⟨by rfl, ?_⟩) (by assumption) ?_
                rotate_left
                · (intro w hSw; (try dsimp only at hSw); go_simp <;> (with_reducible rfl))
                try simp only [Act.put, List.setIfInBounds_toArray, List.set_cons_zero, List.set_cons_succ, List.getElem_toArray, List.getElem_cons_zero, List.getElem_cons_succ]
                refine wpAnyH_take (i := 14) (v := ?_) rfl (by kernel_rfl) (by kernel_rfl) (by kernel_rfl) (fun _ _ _ h => h) (Or.inl ⟨by rfl, ?_⟩) (by assumption) ?_
                rotate_left
                · (intro w hSw; (try dsimp only at hSw); go_simp <;> (with_reducible rfl))
                try simp only [Act.put, List.setIfInBounds_toArray, List.set_cons_zero, List.set_cons_succ, List.getElem_toArray, List.getElem_cons_zero, List.getElem_cons_succ]
                refine wpAnyH_take (i := 15) (v := ?_) rfl (by kernel_rfl) (by kernel_rfl) (by kernel_rfl) (fun _ _ _ h => h) (Or.inl ⟨by rfl, ?_⟩) (by assumption) ?_
                rotate_left
                · (intro w hSw; (try dsimp only at hSw); go_simp <;> (with_reducible rfl))
                try simp only [Act.put, List.setIfInBounds_toArray, List.set_cons_zero, List.set_cons_succ, List.getElem_toArray, List.getElem_cons_zero, List.getElem_cons_succ]
                refine wpAnyH_take (i := 16) (v := ?_) rfl (by kernel_rfl) (by kernel_rfl) (by kernel_rfl) (fun _ _ _ h => h) (Or.inl ⟨by rfl, ?_⟩) (by assumption) ?_
                rotate_left
                · (intro w hSw; (try dsimp only at hSw); go_simp <;> (with_reducible rfl))
                try simp only [Act.put, List.setIfInBounds_toArray, List.set_cons_zero, List.set_cons_succ, List.getElem_toArray, List.getElem_cons_zero, List.getElem_cons_succ]
                refine wpAnyH_take (i := 17) (v := ?_) rfl (by kernel_rfl) (by kernel_rfl) (by kernel_rfl) (fun _ _ _ h => h) (Or.inl ⟨by rfl, ?_⟩) (by assumption) ?_
                rotate_left
                · (intro w hSw; (try dsimp only at hSw); go_simp <;> (with_reducible rfl))
                try simp only [Act.put, List.setIfInBounds_toArray, List.set_cons_zero, List.set_cons_succ, List.getElem_toArray, List.getElem_cons_zero, List.getElem_cons_succ]
                refine wpAnyH_take (i := 18) (v := ?_) rfl (by kernel_rfl) (by kernel_rfl) (by kernel_rfl) (fun _ _ _ h => h) (Or.inl ⟨by rfl, ?_⟩) (by assumption) ?_
                rotate_left
                · (intro w hSw; (try dsimp only at hSw); go_simp <;> (with_reducible rfl))
                try simp only [Act.put, List.setIfInBounds_toArray, List.set_cons_zero, List.set_cons_succ, List.getElem_toArray, List.getElem_cons_zero, List.getElem_cons_succ]
                refine wpAnyH_take (i := 19) (v := ?_) rfl (by kernel_rfl) (by kernel_rfl) (by kernel_rfl) (fun _ _ _ h => h) (Or.inl ⟨by rfl, ?_⟩) (by assumption) ?_
                rotate_left
                · (intro w hSw; (try dsimp only at hSw); go_simp <;> (with_reducible rfl))
                try simp only [Act.put, List.setIfInBounds_toArray, List.set_cons_zero, List.set_cons_succ, List.getElem_toArray, List.getElem_cons_zero, List.getElem_cons_succ]
                refine wpAnyH_ready (rs := [20]) (by kernel_rfl) (by simp) ?_
                refine AllReadyH.cons rfl (fun K hK => ?_) AllReadyH.nil
                have hba := (Below.refl w7.heap.size w7).alloc (Nat.le_refl _) (Obj.cells #[Value.int .i64 0, Value.int .i64 0, Value.int .i64 0] 30)
                have hsa : w7.heap.size < (w7.alloc (Obj.cells #[Value.int .i64 0, Value.int .i64 0, Value.int .i64 0] 30)).heap.size := by simp
                go_simp
                refine hK.out _ _ ⟨(hba.cell (p := ⟨b, o + k * 3, none⟩) hb9).trans p0, (hba.cell (p := ⟨b, o + k * 3 + 1, none⟩) hb9).trans p1, (hba.cell (p := ⟨bj, oj + i9 * 3, none⟩) hbj).trans r0, (hba.cell (p := ⟨bj, oj + i9 * 3 + 1, none⟩) hbj).trans r1, (hba.cell (p := ⟨bj, oj + i9 * 3 + 2, none⟩) hbj).trans r2⟩ (fun hHeld => ?_)
                clear hK K
                try simp only [Act.put, List.setIfInBounds_toArray, List.set_cons_zero, List.set_cons_succ, List.getElem_toArray, List.getElem_cons_zero, List.getElem_cons_succ]
                refine wpAnyH_ready (rs := [21]) (by kernel_rfl) (by simp) ?_
                refine AllReadyH.cons rfl (fun K hK => ?_) AllReadyH.nil
                have hby := (Below.refl w7.heap.size w7).alloc (Nat.le_refl _) (Obj.cells #[Value.int .i64 y1, Value.int .i64 y2, Value.int .i64 y3] 30)
                go_simp
                refine hK.out _ _ ⟨(hby.cell (p := ⟨b, o + k * 3, none⟩) hb9).trans p0, (hby.cell (p := ⟨b, o + k * 3 + 1, none⟩) hb9).trans p1, (hby.cell (p := ⟨bj, oj + i9 * 3, none⟩) hbj).trans r0, (hby.cell (p := ⟨bj, oj + i9 * 3 + 1, none⟩) hbj).trans r1, (hby.cell (p := ⟨bj, oj + i9 * 3 + 2, none⟩) hbj).trans r2⟩ (fun hHeld => ?_)
                clear hK K
                try simp only [Act.put, List.setIfInBounds_toArray, List.set_cons_zero, List.set_cons_succ, List.getElem_toArray, List.getElem_cons_zero, List.getElem_cons_succ]
                refine wpAnyH_done (by kernel_rfl) ?_ _
                go_wp2_with fail
                go_meet
                exact ⟨w7.heap.size, rfl, Nat.le_refl _, Lib.hid (Box.new w7 30 #[Value.int .i64 y1, Value.int .i64 y2, Value.int .i64 y3]), Lib.hid hby.drew⟩
              case rest =>
              obtain ⟨D, rfl, hD, HX8, HB8⟩ := hcut
              have HXD := HX8
              have HBB8 := HB8
              clear HX8 HB8
              obtain ⟨w8, rfl⟩ : ∃ w8 : World, w8 = wc := ⟨_, rfl⟩
              obtain ⟨pa, pb, pc, hE, hpa, hpb, hpc, hab, hac, hbc⟩ := (HALL.out _ hyJ).nats
              cases hE
              have hfl : fromJ ((pa : Int), (pb : Int), (pc : Int)) q < 2 ^ n := Nat.xor_lt_two_pow HQ.out (holesM_lt (HALL.out _ hyJ))
              have hrj := fun w9 => RJump_any pa pb pc q w9 (by omega) (by omega) (by omega) hq16 hab hac hbc
              rw [hyc, if_pos rfl] at hrj
              obtain ⟨r, hr⟩ : ∃ r, fromJ ((pa : Int), (pb : Int), (pc : Int)) q = r := ⟨_, rfl⟩
              rw [hr] at hrj hfl
              have HRL := Lib.hid hrj
              have HFL := Lib.hid hfl
              have HO8 := Lib.hid (HO7.out.below HBB8.out (fun g2 h => (HO7.out.blk g2 h).2.1))
              have HNB := Lib.hid (show ∀ g2, v.ownBlock = some g2 → g2 < w7.heap.size from fun g2 h => (HO7.out.blk g2 h).2.1)
              have HBW8 := Lib.hid (HBW7.out.trans (HBB8.out.mono HBW7.out.size))
              have HB68 := Lib.hid (HB7.out.trans (HBB8.out.mono HB7.out.size))
              have z0 := HXD.out.cell 0
              have z1 := HXD.out.cell 1
              have z2 := HXD.out.cell 2
              simp only [List.getElem?_toArray, List.getElem?_cons_zero, List.getElem?_cons_succ] at z0 z1 z2
              clear hrj hfl hr hyJ hyc hab hac hbc hix hju p0 p1 p2 r0 r1 r2 HO7
              go_wp2_with (at_builtin; refine wpList_addT _ rfl _ _ rfl (HO8.out.alloc _) rfl w8.heap.size 1 pa pb pc rfl (Box.new w8 30 #[Value.int .i64 pa, Value.int .i64 pb, Value.int .i64 pc]) (by omega) (by have := HB68.out.size; rw [World.size_alloc]; omega) ?_; intro v9 w9 ho9 hg9; have hx9 := (HXD.out.alloc (Obj.cells #[Value.int .i64 pa, Value.int .i64 pb, Value.int .i64 pc] 30)).grown hg9 (fun e => by have := HNB.out _ e.symm; omega); have u0 := hx9.cell 0; have u1 := hx9.cell 1; have u2 := hx9.cell 2; simp only [List.getElem?_toArray, List.getElem?_cons_zero, List.getElem?_cons_succ] at u0 u1 u2)
              have hs8 := HBB8.out.size
              refine (HRL.out w9).mono ?_
              rintro e w10 ⟨rfl, hb10⟩
              have hblk := HO8.out.blk
              have HB9 := Lib.hid (show Below w6.heap.size w6 w10 from ((HB68.out.alloc HB68.out.size _).grown hg9 (by have := HB68.out.size; rw [World.size_alloc]; omega) (fun i hi => (hblk i hi).1)).trans (hb10.mono (by have h := hg9.size; rw [World.size_alloc] at h; have := HB68.out.size; omega)))
              have HO10 := Lib.hid (ho9.below hb10 (fun g2 h => (ho9.blk g2 h).2.1))
              clear ho9 hg9 hb10 hblk hx9 u0 u1 u2 z0 z1 z2
              go_wp2_with fail
              go_roundg gg
              case measure => omega
              case rel => exact ⟨k + 1, r, v9, N ++ [((pa : Int), (pb : Int), (pc : Int))], by omega, rfl, rfl, by go_num, by simp; omega, HFL, HO10, HB9⟩
      | true =>
        simp only [if_true]
        clear hz5
        go_wp2_with fail
        refine (HRP.out w5 A9 G c9 HR5.out HG5.out (by omega)).mono ?_
        rintro e w6 ⟨⟨q6, b6, rfl, h6⟩, hb6⟩
        obtain ⟨rfl, hq6⟩ := H5.out q6 b6 h6
        obtain rfl := hq6 (by simp)
        have HB6 := Lib.hid (HB5.out.trans (hb6.mono HB5.out.size))
        have HR6 := Lib.hid (HR5.out.up hb6)
        have HG6 := Lib.hid (HG5.out.up hb6)
        have hqq : ((q6 : Int) != (q6 : Int)) = false := by simp
        clear hb6 h6
        go_wp2_with fail
        have HSW6 := Lib.hid (show w.heap.size ≤ w6.heap.size from Nat.le_trans HBW0.out.size HB6.out.size)
        go_loopg [15, 16, 17] G.length (fun g nv xv iv ws => ∃ (k q : Nat) (v : Value) (N : List Tri), k + g = G.length ∧ nv = .int .i64 q ∧ v = xv ∧ iv = .int .i64 k ∧ N.length ≤ k ∧ Hid (q < 2 ^ n) ∧ Hid (OwnT 30 ws w6.heap.size v N) ∧ Hid (Below w6.heap.size w6 ws))
        case atStart => exact ⟨0, p, _, [], by omega, rfl, rfl, rfl, by simp, HP, Lib.hid (OwnT.nil_ _ _ _), Lib.hid (Below.refl _ _)⟩
        case round =>
          obtain ⟨k, q, v, N, hk, rfl, rfl, rfl, hN, HQ1, HO1, HBM1⟩ := hrel
          have HQ := HQ1
          have HOM := HO1
          have HBM := HBM1
          clear HQ1 HO1 HBM1
          have hq16 : q < 65536 := Nat.lt_of_lt_of_le HQ.out HPN.out
          have HBW6 := Lib.hid (HB6.out.trans (HBM.out.mono HB6.out.size))
          have HRM := Lib.hid (HR6.out.up HBM.out)
          have HGM := Lib.hid (HG6.out.up HBM.out)
          cases gk with
          | zero =>
            obtain rfl : k = G.length := by omega
            have hge : ¬ (G.length : Int) < (G.length : Int) := by omega
            have hgd : decide ((G.length : Int) < (G.length : Int)) = false := decide_eq_false hge
            go_wp2_with fail
            go_roundg g
            case measure => omega
            case rel => exact ⟨rd + 1, v, N, by omega, rfl, by go_num, by omega, Lib.hid (HOM.out.more HSW6.out), HBW6⟩
          | succ gg =>
            have hkl : k < G.length := by omega
            have hkl' : (k : Int) < (G.length : Int) := by omega
            have HRX := Lib.hid (HRJ.out wr q HRM.out hq16)
            obtain ⟨js, hjs⟩ : ∃ js, (J.filter fun j => canJ j q) = js := ⟨_, rfl⟩
            have HJI := Lib.hid (show ∀ j ∈ js, j ∈ J ∧ canJ j q = true from fun j hj => by rw [← hjs, List.mem_filter] at hj; exact hj)
            have hj80 : js.length ≤ 80 := by
              have h1 := List.length_filter_le (fun j => canJ j q) J
              rw [hjs] at h1
              have h2 := HJL.out
              omega
            rw [hjs] at HRX
            clear hjs
            go_wp2_with fail
            refine HRX.out.mono ?_
            rintro e w7 ⟨vj, rfl, hoj, hb7⟩
            obtain ⟨Aj, cj, rfl, hrj⟩ := hoj.reads
            have HJ7 := Lib.hid hrj
            have HB7 := Lib.hid (HBM.out.trans (hb7.mono HBM.out.size))
            have HG7 := Lib.hid (HGM.out.up hb7)
            have HO7 := Lib.hid (HOM.out.below hb7 (fun g2 h => (HOM.out.blk g2 h).2.1))
            have HBW7 := Lib.hid (HBW6.out.trans (hb7.mono HBW6.out.size))
            clear hoj hrj hb7 HOM
            by_cases h0 : js.length = 0
            · have h0i : ((js.length : Int) == 0) = true := by rw [beq_iff_eq]; omega
              have h0j : (js.length : Int) = 0 := by omega
              clear h0
              go_wp2_with fail
              go_roundg g
              case measure => omega
              case rel => exact ⟨rd + 1, v, N, by omega, rfl, by go_num, by omega, Lib.hid (HO7.out.more HSW6.out), HBW7⟩
            · have h0i : ((js.length : Int) == 0) = false := by rw [beq_eq_false_iff_ne]; omega
              have h0k : ¬ (js.length : Int) = 0 := by omega
              have h0j : ((js.length : Int) = 0) = False := eq_false h0k
              obtain ⟨b, o, x1, x2, x3, hA9, hb9, hx9, p0, p1, p2⟩ := HG7.out.at_ hkl
              subst hA9
              clear hx9
              go_wp2_with fail
              have hju : IntKind.u64.wrap (js.length : Int) = (js.length : Int) := u64_in (by omega) (by omega)
              have hjs1 : 1 ≤ js.length := by omega
              have hix := rem_i64 (IntKind.i64.wrap (x1 + x2)) hjs1 (by omega)
              have hil := remN_lt (IntKind.i64.wrap (x1 + x2)) hjs1
              obtain ⟨i9, hi9⟩ : ∃ i9, remN (IntKind.i64.wrap (x1 + x2)) js.length = i9 := ⟨_, rfl⟩
              rw [hi9] at hix hil
              have hil' : (i9 : Int) < (js.length : Int) := by omega
              obtain ⟨bj, oj, y1, y2, y3, hAj, hbj, hyj, r0, r1, r2⟩ := HJ7.out.at_ hil
              subst hAj
              obtain ⟨hyJ, hyc⟩ := HJI.out _ (List.mem_of_getElem? hyj)
              clear hyj hi9
              go_cut [19] (fun v19 wx => ∃ D, v19 = .pointer (some ⟨D, 0, none⟩) ∧ w7.heap.size ≤ D ∧ Hid (Box wx D 30 #[.int .i64 y1, .int .i64 y2, .int .i64 y3]) ∧ Hid (Below w7.heap.size w7 wx))
              case first =>
                have HX0 := Lib.hid p0
                refine wp_region_held_drew (S := fun w' => w'.cell? ⟨b, o + k * 3, none⟩ = some (.int .i64 x1) ∧ w'.cell? ⟨b, o + k * 3 + 1, none⟩ = some (.int .i64 x2) ∧ w'.cell? ⟨bj, oj + i9 * 3, none⟩ = some (.int .i64 y1) ∧ w'.cell? ⟨bj, oj + i9 * 3 + 1, none⟩ = some (.int .i64 y2) ∧ w'.cell? ⟨bj, oj + i9 * 3 + 2, none⟩ = some (.int .i64 y3)) (by kernel_rfl) ⟨p0, p1, r0, r1, r2⟩ (fun hHeld => ?_)
                refine wpAnyH_take (i := 0) (v := ?_) rfl (by kernel_rfl) (by kernel_rfl) (by kernel_rfl) (fun _ _ _ h => h) (Or.inl ⟨by rfl, ?_⟩) (by assumption) ?_
                rotate_left
                · (intro w hSw; (try dsimp only at hSw); go_simp <;> (with_reducible rfl))
                try simp only [Act.put, List.setIfInBounds_toArray, List.set_cons_zero, List.set_cons_succ, List.getElem_toArray, List.getElem_cons_zero]
                refine wpAnyH_take (i := 1) (v := ?_) rfl (by kernel_rfl) (by kernel_rfl) (by kernel_rfl) (fun _ _ _ h => h) (Or.inl ⟨by rfl, ?_⟩) (by assumption) ?_
                rotate_left
                · (intro w hSw; (try dsimp only at hSw); go_simp <;> (with_reducible rfl))
                try simp only [Act.put, List.setIfInBounds_toArray, List.set_cons_zero, List.set_cons_succ, List.getElem_toArray, List.getElem_cons_zero, List.getElem_cons_succ]
                refine wpAnyH_take (i := 2) (v := ?_) rfl (by kernel_rfl) (by kernel_rfl) (by kernel_rfl) (fun _ _ _ h => h) (Or.inl ⟨by rfl, ?_⟩) (by assumption) ?_
                rotate_left
                · (intro w hSw; (try dsimp only at hSw); go_simp <;> (with_reducible rfl))
                try simp only [Act.put, List.setIfInBounds_toArray, List.set_cons_zero, List.set_cons_succ, List.getElem_toArray, List.getElem_cons_zero, List.getElem_cons_succ]
                refine wpAnyH_take (i := 3) (v := ?_) rfl (by kernel_rfl) (by kernel_rfl) (by kernel_rfl) (fun _ _ _ h => h) (Or.inl ⟨by rfl, ?_⟩) (by assumption) ?_
                rotate_left
                · (intro w hSw; (try dsimp only at hSw); go_simp <;> (with_reducible rfl))
                try simp only [Act.put, List.setIfInBounds_toArray, List.set_cons_zero, List.set_cons_succ, List.getElem_toArray, List.getElem_cons_zero, List.getElem_cons_succ]
                refine wpAnyH_take (i := 4) (v := ?_) rfl (by kernel_rfl) (by kernel_rfl) (by kernel_rfl) (fun _ _ _ h => h) (Or.inl ⟨by rfl, ?_⟩) (by assumption) ?_
                rotate_left
                · (intro w hSw; (try dsimp only at hSw); go_simp <;> (with_reducible rfl))
                try simp only [Act.put, List.setIfInBounds_toArray, List.set_cons_zero, List.set_cons_succ, List.getElem_toArray, List.getElem_cons_zero, List.getElem_cons_succ]
                refine wpAnyH_take (i := 5) (v := ?_) rfl (by kernel_rfl) (by kernel_rfl) (by kernel_rfl) (fun _ _ _ h => h) (Or.inl ⟨by rfl, ?_⟩) (by assumption) ?_
                rotate_left
                · (intro w hSw; (try dsimp only at hSw); go_simp <;> (with_reducible rfl))
                try simp only [Act.put, List.setIfInBounds_toArray, List.set_cons_zero, List.set_cons_succ, List.getElem_toArray, List.getElem_cons_zero, List.getElem_cons_succ]
                refine wpAnyH_take (i := 6) (v := ?_) rfl (by kernel_rfl) (by kernel_rfl) (by kernel_rfl) (fun _ _ _ h => h) (Or.inl ⟨by rfl, ?_⟩) (by assumption) ?_
                rotate_left
                · (intro w hSw; (try dsimp only at hSw); go_simp <;> (with_reducible rfl))
                try simp only [Act.put, List.setIfInBounds_toArray, List.set_cons_zero, List.set_cons_succ, List.getElem_toArray, List.getElem_cons_zero, List.getElem_cons_succ]
                refine wpAnyH_take (i := 7) (v := ?_) rfl (by kernel_rfl) (by kernel_rfl) (by kernel_rfl) (fun _ _ _ h => h) (Or.inl ⟨by rfl, ?_⟩) (by assumption) ?_
                rotate_left
                · (intro w hSw; (try dsimp only at hSw); go_simp <;> (with_reducible rfl))
                try simp only [Act.put, List.setIfInBounds_toArray, List.set_cons_zero, List.set_cons_succ, List.getElem_toArray, List.getElem_cons_zero, List.getElem_cons_succ]
                refine wpAnyH_take (i := 8) (v := ?_) rfl (by kernel_rfl) (by kernel_rfl) (by kernel_rfl) (fun _ _ _ h => h) (Or.inl ⟨by rfl, ?_⟩) (by assumption) ?_
                rotate_left
                · (intro w hSw; (try dsimp only at hSw); go_simp <;> (with_reducible rfl))
                try simp only [Act.put, List.setIfInBounds_toArray, List.set_cons_zero, List.set_cons_succ, List.getElem_toArray, List.getElem_cons_zero, List.getElem_cons_succ]
                refine wpAnyH_take (i := 9) (v := ?_) rfl (by kernel_rfl) (by kernel_rfl) (by kernel_rfl) (fun _ _ _ h => h) (Or.inl ⟨by rfl, ?_⟩) (by assumption) ?_
                rotate_left
                · (intro w hSw; (try dsimp only at hSw); go_simp <;> (with_reducible rfl))
                try simp only [Act.put, List.setIfInBounds_toArray, List.set_cons_zero, List.set_cons_succ, List.getElem_toArray, List.getElem_cons_zero, List.getElem_cons_succ]
                refine wpAnyH_take (i := 10) (v := ?_) rfl (by kernel_rfl) (by kernel_rfl) (by kernel_rfl) (fun _ _ _ h => h) (Or.inl ⟨by rfl, ?_⟩) (by assumption) ?_
                rotate_left
                · (intro w hSw; (try dsimp only at hSw); go_simp <;> (with_reducible rfl))
                try simp only [Act.put, List.setIfInBounds_toArray, List.set_cons_zero, List.set_cons_succ, List.getElem_toArray, List.getElem_cons_zero, List.getElem_cons_succ]
                refine wpAnyH_take (i := 11) (v := ?_) rfl (by kernel_rfl) (by kernel_rfl) (by kernel_rfl) (fun _ _ _ h => h) (Or.inl ⟨by rfl, ?_⟩) (by assumption) ?_
                rotate_left
                · (intro w hSw; (try dsimp only at hSw); go_simp <;> (with_reducible rfl))
                try simp only [Act.put, List.setIfInBounds_toArray, List.set_cons_zero, List.set_cons_succ, List.getElem_toArray, List.getElem_cons_zero, List.getElem_cons_succ]
                refine wpAnyH_take (i := 12) (v := ?_) rfl (by kernel_rfl) (by kernel_rfl) (by kernel_rfl) (fun _ _ _ h => h) (Or.inl ⟨by rfl, ?_⟩) (by assumption) ?_
                rotate_left
                · (intro w hSw; (try dsimp only at hSw); go_simp <;> (with_reducible rfl))
                try simp only [Act.put, List.setIfInBounds_toArray, List.set_cons_zero, List.set_cons_succ, List.getElem_toArray, List.getElem_cons_zero, List.getElem_cons_succ]
                refine wpAnyH_take (i := 13) (v := ?_) rfl (by kernel_rfl) (by kernel_rfl) (by kernel_rfl) (fun _ _ _ h => h) (Or.inl ⟨by rfl, ?_⟩) (by assumption) ?_
                rotate_left
                · (intro w hSw; (try dsimp only at hSw); go_simp <;> (with_reducible rfl))
                try simp only [Act.put, List.setIfInBounds_toArray, List.set_cons_zero, List.set_cons_succ, List.getElem_toArray, List.getElem_cons_zero, List.getElem_cons_succ]
                refine wpAnyH_take (i := 14) (v := ?_) rfl (by kernel_rfl) (by kernel_rfl) (by kernel_rfl) (fun _ _ _ h => h) (Or.inl ⟨by rfl, ?_⟩) (by assumption) ?_
                rotate_left
                · (intro w hSw; (try dsimp only at hSw); go_simp <;> (with_reducible rfl))
                try simp only [Act.put, List.setIfInBounds_toArray, List.set_cons_zero, List.set_cons_succ, List.getElem_toArray, List.getElem_cons_zero, List.getElem_cons_succ]
                refine wpAnyH_take (i := 15) (v := ?_) rfl (by kernel_rfl) (by kernel_rfl) (by kernel_rfl) (fun _ _ _ h => h) (Or.inl ⟨by rfl, ?_⟩) (by assumption) ?_
                rotate_left
                · (intro w hSw; (try dsimp only at hSw); go_simp <;> (with_reducible rfl))
                try simp only [Act.put, List.setIfInBounds_toArray, List.set_cons_zero, List.set_cons_succ, List.getElem_toArray, List.getElem_cons_zero, List.getElem_cons_succ]
                refine wpAnyH_take (i := 16) (v := ?_) rfl (by kernel_rfl) (by kernel_rfl) (by kernel_rfl) (fun _ _ _ h => h) (Or.inl ⟨by rfl, ?_⟩) (by assumption) ?_
                rotate_left
                · (intro w hSw; (try dsimp only at hSw); go_simp <;> (with_reducible rfl))
                try simp only [Act.put, List.setIfInBounds_toArray, List.set_cons_zero, List.set_cons_succ, List.getElem_toArray, List.getElem_cons_zero, List.getElem_cons_succ]
                refine wpAnyH_take (i := 17) (v := ?_) rfl (by kernel_rfl) (by kernel_rfl) (by kernel_rfl) (fun _ _ _ h => h) (Or.inl ⟨by rfl, ?_⟩) (by assumption) ?_
                rotate_left
                · (intro w hSw; (try dsimp only at hSw); go_simp <;> (with_reducible rfl))
                try simp only [Act.put, List.setIfInBounds_toArray, List.set_cons_zero, List.set_cons_succ, List.getElem_toArray, List.getElem_cons_zero, List.getElem_cons_succ]
                refine wpAnyH_take (i := 18) (v := ?_) rfl (by kernel_rfl) (by kernel_rfl) (by kernel_rfl) (fun _ _ _ h => h) (Or.inl ⟨by rfl, ?_⟩) (by assumption) ?_
                rotate_left
                · (intro w hSw; (try dsimp only at hSw); go_simp <;> (with_reducible rfl))
                try simp only [Act.put, List.setIfInBounds_toArray, List.set_cons_zero, List.set_cons_succ, List.getElem_toArray, List.getElem_cons_zero, List.getElem_cons_succ]
                refine wpAnyH_take (i := 19) (v := ?_) rfl (by kernel_rfl) (by kernel_rfl) (by kernel_rfl) (fun _ _ _ h => h) (Or.inl ⟨by rfl, ?_⟩) (by assumption) ?_
                rotate_left
                · (intro w hSw; (try dsimp only at hSw); go_simp <;> (with_reducible rfl))
                try simp only [Act.put, List.setIfInBounds_toArray, List.set_cons_zero, List.set_cons_succ, List.getElem_toArray, List.getElem_cons_zero, List.getElem_cons_succ]
                refine wpAnyH_ready (rs := [20]) (by kernel_rfl) (by simp) ?_
                refine AllReadyH.cons rfl (fun K hK => ?_) AllReadyH.nil
                have hba := (Below.refl w7.heap.size w7).alloc (Nat.le_refl _) (Obj.cells #[Value.int .i64 0, Value.int .i64 0, Value.int .i64 0] 30)
                have hsa : w7.heap.size < (w7.alloc (Obj.cells #[Value.int .i64 0, Value.int .i64 0, Value.int .i64 0] 30)).heap.size := by simp
                go_simp
                refine hK.out _ _ ⟨(hba.cell (p := ⟨b, o + k * 3, none⟩) hb9).trans p0, (hba.cell (p := ⟨b, o + k * 3 + 1, none⟩) hb9).trans p1, (hba.cell (p := ⟨bj, oj + i9 * 3, none⟩) hbj).trans r0, (hba.cell (p := ⟨bj, oj + i9 * 3 + 1, none⟩) hbj).trans r1, (hba.cell (p := ⟨bj, oj + i9 * 3 + 2, none⟩) hbj).trans r2⟩ (fun hHeld => ?_)
                clear hK K
                try simp only [Act.put, List.setIfInBounds_toArray, List.set_cons_zero, List.set_cons_succ, List.getElem_toArray, List.getElem_cons_zero, List.getElem_cons_succ]
                refine wpAnyH_ready (rs := [21]) (by kernel_rfl) (by simp) ?_
                refine AllReadyH.cons rfl (fun K hK => ?_) AllReadyH.nil
                have hby := (Below.refl w7.heap.size w7).alloc (Nat.le_refl _) (Obj.cells #[Value.int .i64 y1, Value.int .i64 y2, Value.int .i64 y3] 30)
                go_simp
                refine hK.out _ _ ⟨(hby.cell (p := ⟨b, o + k * 3, none⟩) hb9).trans p0, (hby.cell (p := ⟨b, o + k * 3 + 1, none⟩) hb9).trans p1, (hby.cell (p := ⟨bj, oj + i9 * 3, none⟩) hbj).trans r0, (hby.cell (p := ⟨bj, oj + i9 * 3 + 1, none⟩) hbj).trans r1, (hby.cell (p := ⟨bj, oj + i9 * 3 + 2, none⟩) hbj).trans r2⟩ (fun hHeld => ?_)
                clear hK K
                try simp only [Act.put, List.setIfInBounds_toArray, List.set_cons_zero, List.set_cons_succ, List.getElem_toArray, List.getElem_cons_zero, List.getElem_cons_succ]
                refine wpAnyH_done (by kernel_rfl) ?_ _
                go_wp2_with fail
                go_meet
                exact ⟨w7.heap.size, rfl, Nat.le_refl _, Lib.hid (Box.new w7 30 #[Value.int .i64 y1, Value.int .i64 y2, Value.int .i64 y3]), Lib.hid hby.drew⟩
              case rest =>
              obtain ⟨D, rfl, hD, HX8, HB8⟩ := hcut
              have HXD := HX8
              have HBB8 := HB8
              clear HX8 HB8
              obtain ⟨w8, rfl⟩ : ∃ w8 : World, w8 = wc := ⟨_, rfl⟩
              obtain ⟨pa, pb, pc, hE, hpa, hpb, hpc, hab, hac, hbc⟩ := (HALL.out _ hyJ).nats
              cases hE
              have hfl : fromJ ((pa : Int), (pb : Int), (pc : Int)) q < 2 ^ n := Nat.xor_lt_two_pow HQ.out (holesM_lt (HALL.out _ hyJ))
              have hrj := fun w9 => RJump_any pa pb pc q w9 (by omega) (by omega) (by omega) hq16 hab hac hbc
              rw [hyc, if_pos rfl] at hrj
              obtain ⟨r, hr⟩ : ∃ r, fromJ ((pa : Int), (pb : Int), (pc : Int)) q = r := ⟨_, rfl⟩
              rw [hr] at hrj hfl
              have HRL := Lib.hid hrj
              have HFL := Lib.hid hfl
              have HO8 := Lib.hid (HO7.out.below HBB8.out (fun g2 h => (HO7.out.blk g2 h).2.1))
              have HNB := Lib.hid (show ∀ g2, v.ownBlock = some g2 → g2 < w7.heap.size from fun g2 h => (HO7.out.blk g2 h).2.1)
              have HBW8 := Lib.hid (HBW7.out.trans (HBB8.out.mono HBW7.out.size))
              have HB68 := Lib.hid (HB7.out.trans (HBB8.out.mono HB7.out.size))
              have z0 := HXD.out.cell 0
              have z1 := HXD.out.cell 1
              have z2 := HXD.out.cell 2
              simp only [List.getElem?_toArray, List.getElem?_cons_zero, List.getElem?_cons_succ] at z0 z1 z2
              clear hrj hfl hr hyJ hyc hab hac hbc hix hju p0 p1 p2 r0 r1 r2 HO7
              go_wp2_with (at_builtin; refine wpList_addT _ rfl _ _ rfl (HO8.out.alloc _) rfl w8.heap.size 1 pa pb pc rfl (Box.new w8 30 #[Value.int .i64 pa, Value.int .i64 pb, Value.int .i64 pc]) (by omega) (by have := HB68.out.size; rw [World.size_alloc]; omega) ?_; intro v9 w9 ho9 hg9; have hx9 := (HXD.out.alloc (Obj.cells #[Value.int .i64 pa, Value.int .i64 pb, Value.int .i64 pc] 30)).grown hg9 (fun e => by have := HNB.out _ e.symm; omega); have u0 := hx9.cell 0; have u1 := hx9.cell 1; have u2 := hx9.cell 2; simp only [List.getElem?_toArray, List.getElem?_cons_zero, List.getElem?_cons_succ] at u0 u1 u2)
              have hs8 := HBB8.out.size
              refine (HRL.out w9).mono ?_
              rintro e w10 ⟨rfl, hb10⟩
              have hblk := HO8.out.blk
              have HB9 := Lib.hid (show Below w6.heap.size w6 w10 from ((HB68.out.alloc HB68.out.size _).grown hg9 (by have := HB68.out.size; rw [World.size_alloc]; omega) (fun i hi => (hblk i hi).1)).trans (hb10.mono (by have h := hg9.size; rw [World.size_alloc] at h; have := HB68.out.size; omega)))
              have HO10 := Lib.hid (ho9.below hb10 (fun g2 h => (ho9.blk g2 h).2.1))
              clear ho9 hg9 hb10 hblk hx9 u0 u1 u2 z0 z1 z2
              go_wp2_with fail
              go_roundg gg
              case measure => omega
              case rel => exact ⟨k + 1, r, v9, N ++ [((pa : Int), (pb : Int), (pc : Int))], by omega, rfl, rfl, by go_num, by simp; omega, HFL, HO10, HB9⟩
set_option maxRecDepth 100000 in
theorem pplays_row (os : Os) (started : os.Started) (H : Type) (enc : TypeId × Value → H) :
    ReturnsInHanded {} Try.checked os 4 .any (Rows.pegPlaysSpec.pre6 enc Try.prog Try.f4 Rows.pegPlaysRow.domain false) (Rows.pegPlaysSpec.post enc Try.prog Try.f4 false true false false) := by
  refine returnsInHanded_of_change (C := Try.checked) ownNone started (by kernel_rfl) Try.func4
    (ChangeSpec.witness6 (enc := enc) (C := Try.checked) false ⟨#[], #[.int .i64 0, .slice none 0 0, .agg #[.int .i64 0, .slice none 0 0]], []⟩ 8 (by kernel_rfl) (by kernel_rfl) (by kernel_rfl) (by kernel_rfl)) ?_
  intro W base args ds gs before hval hW _ _
  have hW2 := hW
  obtain ⟨p, q, hA, hV, rfl, _, _⟩ := hW2
  have hA : DataW.TrodAll enc Try.prog W 0 (fun _ => true) true Try.f4.params.toList args.toList ds p := hA
  have hAk := hA
  have hval : ∀ (j : Nat) t v, Try.f4.params[j]? = some t → args[j]? = some v → Value.okWide Try.prog W .any base t v := hval
  rw [Try.params4] at hA hval
  obtain ⟨v0, vs0, d0, ds0, p0, q0, hargs, rfl, rfl, h0, r0⟩ := trodAll_cons hA
  obtain ⟨v1, vs1, d1, ds1, p1, q1, rfl, rfl, rfl, h1, r1⟩ := trodAll_cons r0
  obtain ⟨v2, vs2, d2, ds2, p2, q2, rfl, rfl, rfl, h2, r2⟩ := trodAll_cons r1
  obtain ⟨rfl, rfl, rfl⟩ := trodAll_nil r2
  obtain rfl : args = #[v0, v1, v2] := by cases args; simp_all
  obtain ⟨rfl, rfl⟩ := trodVars_none hV
  obtain ⟨a0, rfl, rfl, rfl, w0⟩ := open_int Try.underlying3 (hval 0 3 v0 rfl rfl) h0
  obtain ⟨A1, z1, c1, rfl, _, m1, hr1⟩ := open_tris (hval 1 22 v1 rfl rfl) h1
  obtain ⟨x2, A2, z2, c2, rfl, k2, m2, hr2⟩ := open_task (hval 2 34 v2 rfl rfl) h2
  clear hA hval
  simp only [List.append_nil, List.nil_append] at hW hAk
  refine (pplays_any a0 A1 z1 c1 x2 A2 z2 c2 W hr1 m1 hr2 k2 m2).mono fun e W' ⟨he, hb⟩ => ?_
  subst he
  exact ⟨_, rfl, post_bool hW hb (by rw [Try.params4]; decide) hAk (fun _ => rfl) rfl rfl (by kernel_rfl)⟩

theorem pplays_holds : Rows.PegPlaysSaid :=
  OpenClaim.holds_of_wide 4 Try.f4 rfl rfl rfl rfl rfl rfl rfl ⟨rfl, rfl, rfl, rfl, rfl⟩ rfl rfl rfl rfl rfl (by kernel_rfl) Try.func4 (by kernel_rfl)
    (of_decide_eq_true (by kernel_rfl)) (by unfold Func.isWrapper; first | (rw [if_pos (by decide +kernel)]; kernel_rfl) | (rw [if_neg (by decide +kernel)]; exact ⟨rfl, rfl⟩))
    (fun os started H enc _ => pplays_row os started H enc)

#print axioms pplays_holds
end Go.Proofs.Ythbhengcinkepaa
