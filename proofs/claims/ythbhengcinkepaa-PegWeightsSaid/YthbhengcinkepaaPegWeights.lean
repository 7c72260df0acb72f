/- For every integer n, list of triples of integers l and triple a of two positions and weights of: the function PegWeights answers true: whether any weights are a pagoda, and refute a game, is as the reference says. No conditions. -/
import Derived.Test.YthbhengcinkepaaOpenS
import Derived.Test.YthbhengcinkepaaPg20
import Derived.Test.YthbhengcinkepaaTameT
import Derived.Test.YthbhengcinkepaaRowI
import Derived.Test.YthbhengcinkepaaWei
namespace Go.Proofs.Ythbhengcinkepaa
open Go.ChangeShapes Go.WideShapes Go.ChangeAt Go.RowKit Go.WideMaps Lamp

theorem OwnP.take {T : TypeId} {w : World} {base g cap m : Nat} {zs : List Int} (h : OwnP T w base (.slice (some ⟨g, 0, none⟩) m cap) zs) {k : Nat} (hk : k ≤ zs.length) : OwnP T w base (.slice (some ⟨g, 0, none⟩) k cap) (zs.take k) := by
  rcases h.2 with ⟨e, _⟩ | ⟨g', cap', cur, e, hb, hh, h2, h3, h4⟩
  · cases e
  · cases e
    refine ⟨by simp, .inr ⟨g, cap, cur, by rw [List.length_take]; congr 1; omega, hb, hh, by rw [List.length_take]; omega, h3, h4.1, ?_⟩⟩
    have h5 := h4.2
    rw [Nat.mul_one] at h5 ⊢
    rw [List.length_take, List.map_take, ← h5, List.take_take]
theorem OwnP.put {T : TypeId} {w : World} {base g cap m : Nat} {zs : List Int} (h : OwnP T w base (.slice (some ⟨g, 0, none⟩) m cap) zs) {k : Nat} (_hk : k < zs.length) (z : Int) : OwnP T (w.setCell ⟨g, k, none⟩ (.int .i64 z)) base (.slice (some ⟨g, 0, none⟩) m cap) (zs.set k z) := by
  rcases h.2 with ⟨e, _⟩ | ⟨g', cap', cur, e, hb, hh, h2, h3, h4⟩
  · cases e
  · cases e
    have hbx : Box w g T cur := hh
    refine ⟨by simp, .inr ⟨g, cap, _, by rw [List.length_set], hb, hbx.put k (.int .i64 z), by rw [List.length_set]; exact h2, h3, by simpa using h4.1, ?_⟩⟩
    have h5 := h4.2
    rw [Nat.mul_one] at h5 ⊢
    rw [List.length_set, Array.toList_setIfInBounds, List.take_set, h5, List.map_set]
theorem OwnP.len {T : TypeId} {w : World} {base m cap : Nat} {A : Option Addr} {zs : List Int} (h : OwnP T w base (.slice A m cap) zs) : m = zs.length := by
  rcases h.2 with ⟨e, h1⟩ | ⟨g', cap', cur, e, _⟩
  · cases e; exact h1.symm
  · cases e; rfl
theorem OwnP.form {T : TypeId} {w : World} {base : Nat} {v : Value} {zs : List Int} (h : OwnP T w base v zs) : (v = .slice none 0 0 ∧ zs = []) ∨ ∃ g cap, v = .slice (some ⟨g, 0, none⟩) zs.length cap ∧ zs.length ≤ cap ∧ base ≤ g ∧ g < w.heap.size ∧ ∀ k z, zs[k]? = some z → w.cell? ⟨g, k, none⟩ = some (.int .i64 z) ∧ w.frozen? ⟨g, k, none⟩ = false := by
  rcases h.2 with ⟨e, h1⟩ | ⟨g, cap, cur, e, hb, hh, h2, h3, h4⟩
  · exact .inl ⟨e, List.eq_nil_of_length_eq_zero h1⟩
  · have hbx : Box w g T cur := hh
    refine .inr ⟨g, cap, e, h2, hb, hbx.lt, fun k z hz => ⟨?_, hbx.free k⟩⟩
    have hk := (List.getElem?_eq_some_iff.1 hz).1
    rw [hbx.cell k]
    have h5 := h4.2
    rw [Nat.mul_one] at h5
    have h6 : (cur.toList.take zs.length)[k]? = some (.int .i64 z) := by rw [h5, List.getElem?_map, hz]; rfl
    rw [List.getElem?_take, if_pos hk] at h6
    simpa using h6

set_option maxRecDepth 100000 in
set_option maxHeartbeats 8000000 in
theorem pweights_any (a0 : Int) (A : Option Addr) (l : List Tri) (c : Nat) (x y : Int) (Ag : Option Addr) (gm : List Int) (cg : Nat) (w : World) (hr : RTri w w.heap.size A l) (hl : l.length ≤ 9223372036854775807) (hrg : RInts w w.heap.size Ag gm) (hcg : gm.length ≤ cg) (hlg : gm.length ≤ 9223372036854775807) :
    Calls Try.prog 8 #[.int .i64 a0, .slice A l.length c, .agg #[.int .i64 x, .int .i64 y, .slice Ag gm.length cg]] w fun e w' => e = .returned (.bool true) ∧ Below w.heap.size w w' := by
  have hm := remN_lt a0 (m := 16) (by decide)
  obtain ⟨n, hn⟩ : ∃ n, 1 + remN a0 16 = n := ⟨_, rfl⟩
  have hn1 : 1 ≤ n := by omega
  have hn16 : n ≤ 16 := by omega
  have hb0 := Box.new w 59 #[.int .i64 x, .int .i64 y, .slice Ag gm.length cg]
  have hB0 := below_alloc (w := w) (Nat.le_refl _) (Obj.cells #[.int .i64 x, .int .i64 y, .slice Ag gm.length cg] 59)
  have hr0 := hr.up hB0
  have hg0 := (hrg.below hB0).more hB0.size
  have HT := Lib.hid (fun (w1 : World) (h : RTri w1 w1.heap.size A l) => tameT_any A a0 l c 16 20 w1 h hl (by decide) (by decide) (by decide))
  rw [hn] at HT
  have hpw := pow_split hn16
  have hp0 := Nat.two_pow_pos n
  have hpi : (2 : Int) ^ n = ((2 ^ n : Nat) : Int) := by simp
  have hr1 := rem_i64 x hp0 hpw
  have hr2 := rem_i64 y hp0 hpw
  have hl1 := remN_lt x hp0
  have hl2 := remN_lt y hp0
  obtain ⟨p, hp⟩ : ∃ p, remN x (2 ^ n) = p := ⟨_, rfl⟩
  obtain ⟨q, hq⟩ : ∃ q, remN y (2 ^ n) = q := ⟨_, rfl⟩
  rw [hp] at hr1 hl1
  rw [hq] at hr2 hl2
  have HP := Lib.hid hl1
  have HQ := Lib.hid hl2
  obtain ⟨P, hP⟩ : ∃ P, 2 ^ n = P := ⟨_, rfl⟩
  rw [hP] at hpw hp0 hpi hr1 hr2
  have hPw : IntKind.u64.wrap (P : Int) = (P : Int) := u64_in (by omega) (by omega)
  have hP0 : ((P : Int) = 0) = False := by simp; omega
  have HR0 := Lib.hid hr0
  have HG0 := Lib.hid hg0
  have HBX0 := Lib.hid hb0
  have HB0 := Lib.hid hB0
  have hn16i : (n : Int) ≤ 16 := by omega
  clear hr hl hm hn hp hq hP hl1 hl2 hr0 hb0 hB0 hg0 hrg
  go_enter Try.func8, Try.ntmps8
  go_wp2_with fail
  refine (HT.out _ HR0.out).mono ?_
  rintro e w1 ⟨v1, rfl, L, hc, hLK, ho, hb⟩
  obtain ⟨A1, c1, rfl, hrd⟩ := ho.reads
  have HC := Lib.hid hc
  have HB1 := Lib.hid (HB0.out.trans (hb.mono HB0.out.size))
  have HR1 := Lib.hid hrd
  have HG1 := Lib.hid ((HG0.out.below hb).more hb.size)
  have hbx := HBX0.out.below hb HBX0.out.lt
  have x0 := hbx.cell 0
  have x1 := hbx.cell 1
  have x2 := hbx.cell 2
  simp only [List.getElem?_toArray, List.getElem?_cons_zero, List.getElem?_cons_succ] at x0 x1 x2
  clear hc hb hrd hbx ho HT HR0 HBX0 HG0
  go_wp2_with fail
  go_quiet (fail)
  have HC2 := Lib.hid (show Below w.heap.size w (w1.drewN nq) from below_drewN HB1.out nq)
  have HR2 := Lib.hid (show RTri (w1.drewN nq) (w1.drewN nq).heap.size A1 L from HR1.out.drewN nq)
  have HG2 := Lib.hid (show RInts (w1.drewN nq) (w1.drewN nq).heap.size Ag gm from HG1.out)
  have x3 : (w1.drewN nq).cell? ⟨w.heap.size, 2, none⟩ = some (.slice Ag gm.length cg) := x2
  obtain ⟨w2, hw2⟩ : ∃ w2, w1.drewN nq = w2 := ⟨_, rfl⟩
  rw [hw2] at HC2 HR2 HG2 x3 ⊢
  clear hw2 x0 x1 x2 HB1 HR1 HG1 hr1 hr2
  obtain ⟨m, hm⟩ : ∃ m, min gm.length 17 = m := ⟨_, rfl⟩
  have hmi : min (gm.length : Int) 17 = (m : Int) := by omega
  have hm0 : (0 : Int) ≤ (m : Int) := by omega
  have hmc : (m : Int) ≤ (cg : Int) := by omega
  have hml : (m : Int) ≤ (gm.length : Int) := by omega
  have hm20 : m ≤ 17 := by omega
  have hgl2 : m = (gm.take m).length := by rw [List.length_take]; omega
  have HGT := Lib.hid (show RInts w2 w2.heap.size Ag (gm.take m) from fun j u hu => by
    rw [List.map_take, List.getElem?_take] at hu
    split at hu
    · exact HG2.out j u hu
    · cases hu)
  obtain ⟨G, hG⟩ : ∃ G, gm.take m = G := ⟨_, rfl⟩
  rw [hG] at HGT hgl2
  have HGL := Lib.hid hgl2
  have hG20 : G.length ≤ 17 := by omega
  clear hm hG hgl2
  go_upto_region 4 with fail
  go_cut [10] (fun v9 wx => Hid (OwnP 3 wx w2.heap.size v9 G) ∧ Hid (Below w2.heap.size w2 wx))
  case first =>
    cases Ag with
    | none =>
      go_wp2_with (at_builtin; refine wpList_appI _ rfl _ _ rfl (OwnP.nil_ 3 w2 w2.heap.size) rfl none _ G cg w2.heap.size rfl HGL.out HGT.out (by simp; omega) (Nat.le_refl _) ?_; intro v4 w4 ho4 hg4 _)
      have hb4 := (Below.refl w2.heap.size w2).grown hg4 (Nat.le_refl _) (fun k hk => by cases hk)
      go_meet
      exact ⟨Lib.hid ho4, Lib.hid hb4⟩
    | some ad =>
      go_wp2_with (at_builtin; refine wpList_appI _ rfl _ _ rfl (OwnP.nil_ 3 w2 w2.heap.size) rfl (some ad) _ G cg w2.heap.size rfl HGL.out HGT.out (by simp; omega) (Nat.le_refl _) ?_; intro v4 w4 ho4 hg4 _)
      have hb4 := (Below.refl w2.heap.size w2).grown hg4 (Nat.le_refl _) (fun k hk => by cases hk)
      go_meet
      exact ⟨Lib.hid ho4, Lib.hid hb4⟩
  case rest =>
  obtain ⟨HO1, HBC1⟩ := hcut
  have HO := HO1
  have HBC := HBC1
  clear HO1 HBC1
  obtain ⟨hn1', _, hlL, hg⟩ := checkT_zero HC.out
  have hlin := goodT_ok hg
  have HIO := Lib.hid (fun (w8 : World) (Aw : Option Addr) (cw : Nat) (zs : List Int) (h : RTri w8 w8.heap.size A1 L) (h2 : RInts w8 w8.heap.size Aw zs) (hz : areW n zs = true) => IsPagoda_ok A1 Aw n c1 cw zs.length L zs w8 h h2 HC.out rfl hz)
  have HIW := Lib.hid (fun (w8 : World) (Aw : Option Addr) (cw : Nat) (zs : List Int) (h : RTri w8 w8.heap.size A1 L) (h2 : RInts w8 w8.heap.size Aw zs) (hz : areW n zs = false) (hl : zs.length ≤ 1000000) => IsPagoda_w A1 Aw n c1 cw zs.length L zs w8 h h2 HC.out rfl hl hz)
  have HRO := Lib.hid (fun (w8 : World) (Aw : Option Addr) (cw : Nat) (zs : List Int) (h : RTri w8 w8.heap.size A1 L) (h2 : RInts w8 w8.heap.size Aw zs) (hz : areW n zs = true) => Refutes_ok A1 Aw n p q c1 cw zs.length L zs w8 h h2 HC.out HP.out HQ.out rfl hz)
  have HRW := Lib.hid (fun (w8 : World) (Aw : Option Addr) (cw : Nat) (zs : List Int) (h : RTri w8 w8.heap.size A1 L) (h2 : RInts w8 w8.heap.size Aw zs) (hz : areW n zs = false) (hl : zs.length ≤ 1000000) => Refutes_w A1 Aw n p q c1 cw zs.length L zs w8 h h2 HC.out HP.out HQ.out rfl hl hz)
  have HQO := Lib.hid (fun (w8 : World) (Aw : Option Addr) (cw : Nat) (zs : List Int) (h : RTri w8 w8.heap.size A1 L) (h2 : RInts w8 w8.heap.size Aw zs) (hz : areW n zs = true) => RPagoda_any A1 Aw n c1 cw zs.length L zs w8 h h2 hlL hn16 hlin rfl (by have := (areW_ok hz).1; omega) (areW_ok hz).2)
  have HQR := Lib.hid (fun (w8 : World) (Aw : Option Addr) (cw : Nat) (zs : List Int) (h : RTri w8 w8.heap.size A1 L) (h2 : RInts w8 w8.heap.size Aw zs) (hz : areW n zs = true) => RRefutes_any A1 Aw n p q c1 cw zs.length L zs w8 h h2 hlL hn16 hlin rfl (by have := (areW_ok hz).1; omega) (areW_ok hz).2 HP.out HQ.out)
  have HBW0 := Lib.hid (HC2.out.trans (HBC.out.mono HC2.out.size))
  have HSW := Lib.hid HC2.out.size
  clear hg hlin HGT HG2 HGL hmi hm0 hmc hml hm20 x3 HP HQ
  go_wp2_with fail
  go_loopg [10, 11] 2 (fun g gv rv ws => ∃ (rd : Nat) (v : Value) (G : List Int), rd + g = 2 ∧ v = gv ∧ rv = .int .i64 rd ∧ G.length ≤ 17 ∧ Hid (OwnP 3 ws w2.heap.size v G) ∧ Hid (Below w2.heap.size w2 ws))
  case atStart => exact ⟨0, _, G, by omega, rfl, rfl, hG20, HO, HBC⟩
  case round =>
    clear HO hG20 HBC HBW0
    obtain ⟨rd, v, G, hrd, rfl, rfl, hG20, HO1, HBB1⟩ := hrel
    have HO := HO1
    have HBB := HBB1
    clear HO1 HBB1
    have HBW := Lib.hid (HC2.out.trans (HBB.out.mono HC2.out.size))
    have HRX := Lib.hid (HR2.out.up HBB.out)
    cases gk with
    | zero =>
      obtain rfl : rd = 2 := by omega
      go_wp2_with fail
      refine (awake2_any _).mono ?_
      rintro e w8 ⟨rfl, hb8⟩
      go_wp2_with fail
      go_ret
      exact ⟨rfl, HBW.out.trans (hb8.mono HBW.out.size)⟩
    | succ g =>
      have hrd2 : (rd : Int) < 2 := by omega
      have hrdn : rd < 2 := by omega
      obtain ⟨A9, c9, hv9, hrd9⟩ := HO.out.reads
      subst hv9
      have HG9 := Lib.hid hrd9
      clear hrd9
      have HFACT := Lib.hid hn16
      cases hz : areW n G with
      | false =>
        have HIW1 := Lib.hid (HIW.out wr A9 c9 G HRX.out HG9.out hz (by omega))
        have HRW1 := Lib.hid (fun (w8 : World) (h : RTri w8 w8.heap.size A1 L) (h2 : RInts w8 w8.heap.size A9 G) => HRW.out w8 A9 c9 G h h2 hz (by omega))
        have HWE := Lib.hid (fun (w8 : World) (h2 : RInts w8 w8.heap.size A9 G) => RWeights_any A9 n G.length c9 w8.heap.size G w8 h2 rfl (by omega))
        rw [hz] at HWE
        clear hz
        go_wp2_with fail
        refine HIW1.out.mono ?_
        rintro e w5 ⟨rfl, hb5⟩
        have HB5 := Lib.hid (HBB.out.trans (hb5.mono HBB.out.size))
        have HR5 := Lib.hid (HRX.out.up hb5)
        have HG5 := Lib.hid ((HG9.out.below hb5).more hb5.size)
        have HO5 := Lib.hid (HO.out.below hb5 (fun g2 h => (HO.out.blk g2 h).2.1))
        clear hb5 HIW1
        go_wp2_with fail
        refine (HRW1.out w5 HR5.out HG5.out).mono ?_
        rintro e w6 ⟨rfl, hb6⟩
        have HB2 := Lib.hid (HB5.out.trans (hb6.mono HB5.out.size))
        have HG6 := Lib.hid ((HG5.out.below hb6).more hb6.size)
        have HO2 := Lib.hid (HO5.out.below hb6 (fun g2 h => (HO5.out.blk g2 h).2.1))
        clear hb6 HRW1 HB5 HR5 HG5 HO5
        go_wp2_with fail
        refine (HWE.out w6 HG6.out).mono ?_
        rintro e w7 ⟨rfl, rfl⟩
        go_upto_region 15 with fail
        rcases HO2.out.form with ⟨e, hG0⟩ | ⟨gb, cap, e, hcap, hgb1, hgb2, hcl⟩
        · subst hG0
          cases e
          have hn0 : min (0 : Int) (n : Int) = 0 := by omega
          go_wp2_with fail
          go_loopg [16] 0 (fun gi iv ws => iv = .int .i64 0 ∧ Hid (w6 = ws))
          case atStart => exact ⟨rfl, Lib.hid rfl⟩
          case round =>
            obtain ⟨rfl, HW⟩ := hrel
            have hw := HW.out
            clear HW
            subst hw
            go_wp2_with fail
            go_loopg [10] (n - 0) (fun ga gv ws => ∃ (v : Value) (N : List Int), v = gv ∧ N.length + ga = n ∧ Hid (OwnP 3 ws w2.heap.size v N) ∧ Hid (Below w2.heap.size w2 ws))
            case atStart => exact ⟨_, [], rfl, by simp, HO2, HB2⟩
            case round =>
              obtain ⟨v, N, rfl, hN, HOA1, HBA1⟩ := hrel
              have HOA := HOA1
              have HBA := HBA1
              clear HOA1 HBA1
              obtain ⟨A7, c7, hv7, -⟩ := HOA.out.reads
              subst hv7
              cases gk with
              | zero =>
                have hge : ¬ (N.length : Int) < (n : Int) := by omega
                have hgd : decide ((N.length : Int) < (n : Int)) = false := decide_eq_false hge
                go_wp2_with fail
                go_roundg g
                case measure => omega
                case rel => exact ⟨rd + 1, _, N, by omega, rfl, by go_num, by omega, HOA, HBA⟩
              | succ ga =>
                have hlt : (N.length : Int) < (n : Int) := by omega
                have hltd : decide ((N.length : Int) < (n : Int)) = true := decide_eq_true hlt
                go_wp2_with (at_builtin; refine wpList_addI _ rfl _ _ rfl (HOA.out.alloc _) rfl wr.heap.size 1 1 rfl (Box.new wr 3 #[Value.int .i64 1]) (by omega) (by have := HBA.out.size; rw [World.size_alloc]; omega) ?_; intro v8 w8 ho8 hg8 _)
                have hblk := HOA.out.blk
                have HB8 := Lib.hid (show Below w2.heap.size w2 w8 from (HBA.out.alloc HBA.out.size _).grown hg8 (by have := HBA.out.size; rw [World.size_alloc]; omega) (fun i hi => (hblk i hi).1))
                have HO8 := Lib.hid ho8
                clear ho8 hg8 hblk
                go_roundg ga
                case measure => omega
                case rel => exact ⟨v8, N ++ [1], rfl, by simp; omega, HO8, HB8⟩
        · cases e
          obtain ⟨m, hm⟩ : ∃ m, min G.length n = m := ⟨_, rfl⟩
          have hmi : min (G.length : Int) (n : Int) = (m : Int) := by omega
          have hm0 : (0 : Int) ≤ (m : Int) := by omega
          have hmc : (m : Int) ≤ (c9 : Int) := by omega
          have hml : (m : Int) ≤ (G.length : Int) := by omega
          have hmn : m ≤ n := by omega
          have HOM := Lib.hid (show OwnP 3 w6 w2.heap.size (.slice (some ⟨gb, 0, none⟩) m c9) (G.take m) from HO2.out.take (by omega))
          have hgl : (G.take m).length = m := by rw [List.length_take]; omega
          clear hcl hm
          go_wp2_with fail
          go_loopg [16] m (fun gi iv ws => ∃ (k : Nat) (N : List Int), k + gi = m ∧ iv = .int .i64 k ∧ N.length = m ∧ Hid (OwnP 3 ws w2.heap.size (.slice (some ⟨gb, 0, none⟩) m c9) N) ∧ Hid (Below w2.heap.size w2 ws))
          case atStart => exact ⟨0, G.take m, by omega, rfl, hgl, HOM, HB2⟩
          case round =>
            obtain ⟨k, N, hk, rfl, hNm, HON1, HBN1⟩ := hrel
            have HON := HON1
            have HBN := HBN1
            clear HON1 HBN1
            cases gk with
            | zero =>
              obtain rfl : k = m := by omega
              have hge : ¬ (k : Int) < (k : Int) := by omega
              have hgd : decide ((k : Int) < (k : Int)) = false := decide_eq_false hge
              go_wp2_with fail
              go_loopg [10] (n - k) (fun ga gv ws => ∃ (v : Value) (N : List Int), v = gv ∧ N.length + ga = n ∧ Hid (OwnP 3 ws w2.heap.size v N) ∧ Hid (Below w2.heap.size w2 ws))
              case atStart => exact ⟨_, N, rfl, by omega, HON, HBN⟩
              case round =>
                obtain ⟨v, N, rfl, hN, HOA1, HBA1⟩ := hrel
                have HOA := HOA1
                have HBA := HBA1
                clear HOA1 HBA1
                obtain ⟨A7, c7, hv7, -⟩ := HOA.out.reads
                subst hv7
                cases gk with
                | zero =>
                  have hge : ¬ (N.length : Int) < (n : Int) := by omega
                  have hgd : decide ((N.length : Int) < (n : Int)) = false := decide_eq_false hge
                  go_wp2_with fail
                  go_roundg g
                  case measure => omega
                  case rel => exact ⟨rd + 1, _, N, by omega, rfl, by go_num, by omega, HOA, HBA⟩
                | succ ga =>
                  have hlt : (N.length : Int) < (n : Int) := by omega
                  have hltd : decide ((N.length : Int) < (n : Int)) = true := decide_eq_true hlt
                  go_wp2_with (at_builtin; refine wpList_addI _ rfl _ _ rfl (HOA.out.alloc _) rfl wr.heap.size 1 1 rfl (Box.new wr 3 #[Value.int .i64 1]) (by omega) (by have := HBA.out.size; rw [World.size_alloc]; omega) ?_; intro v8 w8 ho8 hg8 _)
                  have hblk := HOA.out.blk
                  have HB8 := Lib.hid (show Below w2.heap.size w2 w8 from (HBA.out.alloc HBA.out.size _).grown hg8 (by have := HBA.out.size; rw [World.size_alloc]; omega) (fun i hi => (hblk i hi).1))
                  have HO8 := Lib.hid ho8
                  clear ho8 hg8 hblk
                  go_roundg ga
                  case measure => omega
                  case rel => exact ⟨v8, N ++ [1], rfl, by simp; omega, HO8, HB8⟩
            | succ gi =>
              have hkl : k < N.length := by omega
              have hkm : k < m := by omega
              have hkmi : (k : Int) < (m : Int) := by omega
              obtain ⟨z, hz⟩ : ∃ z, N[k]? = some z := ⟨_, List.getElem?_eq_getElem hkl⟩
              rcases HON.out.form with ⟨e, _⟩ | ⟨gb', cap', e, _, _, _, hcl⟩
              · cases e
              · cases e
                obtain ⟨hcz, hfz⟩ := hcl k z hz
                have hz5 : IntKind.i64.wrap ((IntKind.u64.wrap z).tmod 5) = ((remN z 5 : Nat) : Int) := rem_i64 z (m := 5) (by decide) (by decide)
                have hr5 := remN_lt z (m := 5) (by decide)
                obtain ⟨r5, hr5e⟩ : ∃ r, remN z 5 = r := ⟨_, rfl⟩
                rw [hr5e] at hz5 hr5
                have hw5 : wrap64 ((r5 : Int) - 1) = (r5 : Int) - 1 := w64 (by omega)
                have hw6 : IntKind.i64.wrap ((r5 : Int) - 1) = (r5 : Int) - 1 := IntWalk.i64_in _ (by omega)
                have HOS := Lib.hid (HON.out.put hkl ((r5 : Int) - 1))
                have HBS := Lib.hid (HBN.out.setCell (p := ⟨gb, k, none⟩) hgb1 (.int .i64 ((r5 : Int) - 1)))
                clear hcl hz hr5e
                go_wp2_with fail
                go_roundg gi
                case measure => omega
                case rel => exact ⟨k + 1, N.set k ((r5 : Int) - 1), by omega, by go_num, by rw [List.length_set], HOS, HBS⟩
      | true =>
        have HIO1 := Lib.hid (HIO.out wr A9 c9 G HRX.out HG9.out hz)
        have HRO1 := Lib.hid (fun (w8 : World) (h : RTri w8 w8.heap.size A1 L) (h2 : RInts w8 w8.heap.size A9 G) => HRO.out w8 A9 c9 G h h2 hz)
        have HQO1 := Lib.hid (fun (w8 : World) (h : RTri w8 w8.heap.size A1 L) (h2 : RInts w8 w8.heap.size A9 G) => HQO.out w8 A9 c9 G h h2 hz)
        have HQR1 := Lib.hid (fun (w8 : World) (h : RTri w8 w8.heap.size A1 L) (h2 : RInts w8 w8.heap.size A9 G) => HQR.out w8 A9 c9 G h h2 hz)
        have HWE := Lib.hid (fun (w8 : World) (h2 : RInts w8 w8.heap.size A9 G) => RWeights_any A9 n G.length c9 w8.heap.size G w8 h2 rfl (by omega))
        rw [hz] at HWE
        obtain ⟨t1, ht1⟩ : ∃ t, pagodaB L G = t := ⟨_, rfl⟩
        obtain ⟨t2, ht2⟩ : ∃ t, refutesB L G p q = t := ⟨_, rfl⟩
        rw [ht1] at HIO1 HQO1
        rw [ht2] at HRO1 HQR1
        have h11 : (t1 != t1) = false := by simp
        have h22 : (t2 != t2) = false := by simp
        clear hz ht1 ht2
        go_wp2_with fail
        refine HIO1.out.mono ?_
        rintro e w5 ⟨rfl, hb5⟩
        have HB5 := Lib.hid (HBB.out.trans (hb5.mono HBB.out.size))
        have HR5 := Lib.hid (HRX.out.up hb5)
        have HG5 := Lib.hid ((HG9.out.below hb5).more hb5.size)
        have HO5 := Lib.hid (HO.out.below hb5 (fun g2 h => (HO.out.blk g2 h).2.1))
        clear hb5 HIO1
        go_wp2_with fail
        refine (HRO1.out w5 HR5.out HG5.out).mono ?_
        rintro e w6 ⟨rfl, hb6⟩
        have HB6 := Lib.hid (HB5.out.trans (hb6.mono HB5.out.size))
        have HR6 := Lib.hid (HR5.out.up hb6)
        have HG6 := Lib.hid ((HG5.out.below hb6).more hb6.size)
        have HO6 := Lib.hid (HO5.out.below hb6 (fun g2 h => (HO5.out.blk g2 h).2.1))
        clear hb6 HRO1 HB5 HR5 HG5 HO5
        go_wp2_with fail
        refine (HWE.out w6 HG6.out).mono ?_
        rintro e w7 ⟨rfl, rfl⟩
        go_wp2_with fail
        refine (HQO1.out w6 HR6.out HG6.out).mono ?_
        rintro e w7 ⟨rfl, n7, rfl⟩
        have HB7 := Lib.hid (below_drewN HB6.out n7)
        have HR7 := Lib.hid (show RTri (w6.drewN n7) (w6.drewN n7).heap.size A1 L from HR6.out.drewN n7)
        have HG7 := Lib.hid (show RInts (w6.drewN n7) (w6.drewN n7).heap.size A9 G from HG6.out)
        have HO7 := Lib.hid (show OwnP 3 (w6.drewN n7) w2.heap.size (.slice A9 G.length c9) G from HO6.out)
        obtain ⟨w7, hw7⟩ : ∃ w7, w6.drewN n7 = w7 := ⟨_, rfl⟩
        rw [hw7] at HB7 HR7 HG7 HO7 ⊢
        clear hw7 HB6 HR6 HG6 HO6 HQO1
        go_wp2_with fail
        refine (HQR1.out w7 HR7.out HG7.out).mono ?_
        rintro e w9 ⟨rfl, n9, rfl⟩
        have HB2 := Lib.hid (below_drewN HB7.out n9)
        have HO2 := Lib.hid (show OwnP 3 (w7.drewN n9) w2.heap.size (.slice A9 G.length c9) G from HO7.out)
        obtain ⟨w8, hw8⟩ : ∃ w8, w7.drewN n9 = w8 := ⟨_, rfl⟩
        rw [hw8] at HB2 HO2 ⊢
        clear hw8 HB7 HR7 HG7 HO7 HQR1
        go_upto_region 15 with fail
        rcases HO2.out.form with ⟨e, hG0⟩ | ⟨gb, cap, e, hcap, hgb1, hgb2, hcl⟩
        · subst hG0
          cases e
          have hn0 : min (0 : Int) (n : Int) = 0 := by omega
          go_wp2_with fail
          go_loopg [16] 0 (fun gi iv ws => iv = .int .i64 0 ∧ Hid (w8 = ws))
          case atStart => exact ⟨rfl, Lib.hid rfl⟩
          case round =>
            obtain ⟨rfl, HW⟩ := hrel
            have hw := HW.out
            clear HW
            subst hw
            go_wp2_with fail
            go_loopg [10] (n - 0) (fun ga gv ws => ∃ (v : Value) (N : List Int), v = gv ∧ N.length + ga = n ∧ Hid (OwnP 3 ws w2.heap.size v N) ∧ Hid (Below w2.heap.size w2 ws))
            case atStart => exact ⟨_, [], rfl, by simp, HO2, HB2⟩
            case round =>
              obtain ⟨v, N, rfl, hN, HOA1, HBA1⟩ := hrel
              have HOA := HOA1
              have HBA := HBA1
              clear HOA1 HBA1
              obtain ⟨A7, c7, hv7, -⟩ := HOA.out.reads
              subst hv7
              cases gk with
              | zero =>
                have hge : ¬ (N.length : Int) < (n : Int) := by omega
                have hgd : decide ((N.length : Int) < (n : Int)) = false := decide_eq_false hge
                go_wp2_with fail
                go_roundg g
                case measure => omega
                case rel => exact ⟨rd + 1, _, N, by omega, rfl, by go_num, by omega, HOA, HBA⟩
              | succ ga =>
                have hlt : (N.length : Int) < (n : Int) := by omega
                have hltd : decide ((N.length : Int) < (n : Int)) = true := decide_eq_true hlt
                go_wp2_with (at_builtin; refine wpList_addI _ rfl _ _ rfl (HOA.out.alloc _) rfl wr.heap.size 1 1 rfl (Box.new wr 3 #[Value.int .i64 1]) (by omega) (by have := HBA.out.size; rw [World.size_alloc]; omega) ?_; intro v8 w8 ho8 hg8 _)
                have hblk := HOA.out.blk
                have HB8 := Lib.hid (show Below w2.heap.size w2 w8 from (HBA.out.alloc HBA.out.size _).grown hg8 (by have := HBA.out.size; rw [World.size_alloc]; omega) (fun i hi => (hblk i hi).1))
                have HO8 := Lib.hid ho8
                clear ho8 hg8 hblk
                go_roundg ga
                case measure => omega
                case rel => exact ⟨v8, N ++ [1], rfl, by simp; omega, HO8, HB8⟩
        · cases e
          obtain ⟨m, hm⟩ : ∃ m, min G.length n = m := ⟨_, rfl⟩
          have hmi : min (G.length : Int) (n : Int) = (m : Int) := by omega
          have hm0 : (0 : Int) ≤ (m : Int) := by omega
          have hmc : (m : Int) ≤ (c9 : Int) := by omega
          have hml : (m : Int) ≤ (G.length : Int) := by omega
          have hmn : m ≤ n := by omega
          have HOM := Lib.hid (show OwnP 3 w8 w2.heap.size (.slice (some ⟨gb, 0, none⟩) m c9) (G.take m) from HO2.out.take (by omega))
          have hgl : (G.take m).length = m := by rw [List.length_take]; omega
          clear hcl hm
          go_wp2_with fail
          go_loopg [16] m (fun gi iv ws => ∃ (k : Nat) (N : List Int), k + gi = m ∧ iv = .int .i64 k ∧ N.length = m ∧ Hid (OwnP 3 ws w2.heap.size (.slice (some ⟨gb, 0, none⟩) m c9) N) ∧ Hid (Below w2.heap.size w2 ws))
          case atStart => exact ⟨0, G.take m, by omega, rfl, hgl, HOM, HB2⟩
          case round =>
            obtain ⟨k, N, hk, rfl, hNm, HON1, HBN1⟩ := hrel
            have HON := HON1
            have HBN := HBN1
            clear HON1 HBN1
            cases gk with
            | zero =>
              obtain rfl : k = m := by omega
              have hge : ¬ (k : Int) < (k : Int) := by omega
              have hgd : decide ((k : Int) < (k : Int)) = false := decide_eq_false hge
              go_wp2_with fail
              go_loopg [10] (n - k) (fun ga gv ws => ∃ (v : Value) (N : List Int), v = gv ∧ N.length + ga = n ∧ Hid (OwnP 3 ws w2.heap.size v N) ∧ Hid (Below w2.heap.size w2 ws))
              case atStart => exact ⟨_, N, rfl, by omega, HON, HBN⟩
              case round =>
                obtain ⟨v, N, rfl, hN, HOA1, HBA1⟩ := hrel
                have HOA := HOA1
                have HBA := HBA1
                clear HOA1 HBA1
                obtain ⟨A7, c7, hv7, -⟩ := HOA.out.reads
                subst hv7
                cases gk with
                | zero =>
                  have hge : ¬ (N.length : Int) < (n : Int) := by omega
                  have hgd : decide ((N.length : Int) < (n : Int)) = false := decide_eq_false hge
                  go_wp2_with fail
                  go_roundg g
                  case measure => omega
                  case rel => exact ⟨rd + 1, _, N, by omega, rfl, by go_num, by omega, HOA, HBA⟩
                | succ ga =>
                  have hlt : (N.length : Int) < (n : Int) := by omega
                  have hltd : decide ((N.length : Int) < (n : Int)) = true := decide_eq_true hlt
                  go_wp2_with (at_builtin; refine wpList_addI _ rfl _ _ rfl (HOA.out.alloc _) rfl wr.heap.size 1 1 rfl (Box.new wr 3 #[Value.int .i64 1]) (by omega) (by have := HBA.out.size; rw [World.size_alloc]; omega) ?_; intro v8 w8 ho8 hg8 _)
                  have hblk := HOA.out.blk
                  have HB8 := Lib.hid (show Below w2.heap.size w2 w8 from (HBA.out.alloc HBA.out.size _).grown hg8 (by have := HBA.out.size; rw [World.size_alloc]; omega) (fun i hi => (hblk i hi).1))
                  have HO8 := Lib.hid ho8
                  clear ho8 hg8 hblk
                  go_roundg ga
                  case measure => omega
                  case rel => exact ⟨v8, N ++ [1], rfl, by simp; omega, HO8, HB8⟩
            | succ gi =>
              have hkl : k < N.length := by omega
              have hkm : k < m := by omega
              have hkmi : (k : Int) < (m : Int) := by omega
              obtain ⟨z, hz⟩ : ∃ z, N[k]? = some z := ⟨_, List.getElem?_eq_getElem hkl⟩
              rcases HON.out.form with ⟨e, _⟩ | ⟨gb', cap', e, _, _, _, hcl⟩
              · cases e
              · cases e
                obtain ⟨hcz, hfz⟩ := hcl k z hz
                have hz5 : IntKind.i64.wrap ((IntKind.u64.wrap z).tmod 5) = ((remN z 5 : Nat) : Int) := rem_i64 z (m := 5) (by decide) (by decide)
                have hr5 := remN_lt z (m := 5) (by decide)
                obtain ⟨r5, hr5e⟩ : ∃ r, remN z 5 = r := ⟨_, rfl⟩
                rw [hr5e] at hz5 hr5
                have hw5 : wrap64 ((r5 : Int) - 1) = (r5 : Int) - 1 := w64 (by omega)
                have hw6 : IntKind.i64.wrap ((r5 : Int) - 1) = (r5 : Int) - 1 := IntWalk.i64_in _ (by omega)
                have HOS := Lib.hid (HON.out.put hkl ((r5 : Int) - 1))
                have HBS := Lib.hid (HBN.out.setCell (p := ⟨gb, k, none⟩) hgb1 (.int .i64 ((r5 : Int) - 1)))
                clear hcl hz hr5e
                go_wp2_with fail
                go_roundg gi
                case measure => omega
                case rel => exact ⟨k + 1, N.set k ((r5 : Int) - 1), by omega, by go_num, by rw [List.length_set], HOS, HBS⟩
set_option maxRecDepth 100000 in
theorem pweights_row (os : Os) (started : os.Started) (H : Type) (enc : TypeId × Value → H) :
    ReturnsInHanded {} Try.checked os 8 .any (Rows.pegWeightsSpec.pre6 enc Try.prog Try.f8 Rows.pegWeightsRow.domain false) (Rows.pegWeightsSpec.post enc Try.prog Try.f8 false true false false) := by
  refine returnsInHanded_of_change (C := Try.checked) ownNone started (by kernel_rfl) Try.func8
    (ChangeSpec.witness6 (enc := enc) (C := Try.checked) false ⟨#[], #[.int .i64 0, .slice none 0 0, .agg #[.int .i64 0, .int .i64 0, .slice none 0 0]], []⟩ 8 (by kernel_rfl) (by kernel_rfl) (by kernel_rfl) (by kernel_rfl)) ?_
  intro W base args ds gs before hval hW _ _
  have hW2 := hW
  obtain ⟨p, q, hA, hV, rfl, _, _⟩ := hW2
  have hA : DataW.TrodAll enc Try.prog W 0 (fun _ => true) true Try.f8.params.toList args.toList ds p := hA
  have hAk := hA
  have hval : ∀ (j : Nat) t v, Try.f8.params[j]? = some t → args[j]? = some v → Value.okWide Try.prog W .any base t v := hval
  rw [Try.params8] at hA hval
  obtain ⟨v0, vs0, d0, ds0, p0, q0, hargs, rfl, rfl, h0, r0⟩ := trodAll_cons hA
  obtain ⟨v1, vs1, d1, ds1, p1, q1, rfl, rfl, rfl, h1, r1⟩ := trodAll_cons r0
  obtain ⟨v2, vs2, d2, ds2, p2, q2, rfl, rfl, rfl, h2, r2⟩ := trodAll_cons r1
  obtain ⟨rfl, rfl, rfl⟩ := trodAll_nil r2
  obtain rfl : args = #[v0, v1, v2] := by cases args; simp_all
  obtain ⟨rfl, rfl⟩ := trodVars_none hV
  obtain ⟨a0, rfl, rfl, rfl, w0⟩ := open_int Try.underlying3 (hval 0 3 v0 rfl rfl) h0
  obtain ⟨A1, z1, c1, rfl, _, m1, hr1⟩ := open_tris (hval 1 22 v1 rfl rfl) h1
  obtain ⟨x2, y2, A2, z2, c2, rfl, k2, m2, hr2⟩ := open_load (hval 2 59 v2 rfl rfl) h2
  clear hA hval
  simp only [List.append_nil, List.nil_append] at hW hAk
  refine (pweights_any a0 A1 z1 c1 x2 y2 A2 z2 c2 W hr1 m1 hr2 k2 m2).mono fun e W' ⟨he, hb⟩ => ?_
  subst he
  exact ⟨_, rfl, post_bool hW hb (by rw [Try.params8]; decide) hAk (fun _ => rfl) rfl rfl (by kernel_rfl)⟩

theorem pweights_holds : Rows.PegWeightsSaid :=
  OpenClaim.holds_of_wide 8 Try.f8 rfl rfl rfl rfl rfl rfl rfl ⟨rfl, rfl, rfl, rfl, rfl⟩ rfl rfl rfl rfl rfl (by kernel_rfl) Try.func8 (by kernel_rfl)
    (of_decide_eq_true (by kernel_rfl)) (by unfold Func.isWrapper; first | (rw [if_pos (by decide +kernel)]; kernel_rfl) | (rw [if_neg (by decide +kernel)]; exact ⟨rfl, rfl⟩))
    (fun os started H enc _ => pweights_row os started H enc)

#print axioms pweights_holds
end Go.Proofs.Ythbhengcinkepaa
