/- For all integers n and set: the function TopPaths answers true: a rule of a row of holes, pressed on a path of lamps with own, switches none but the first and the last one; the rules that switch none are the quiet sets. No conditions. -/
import Derived.Test.YthbhengcinkepaaTopA
import Derived.Test.YthbhengcinkepaaTopP
import Derived.Test.YthbhengcinkepaaOpen
import Derived.Deep.RegionHeld3
import Derived.Deep.CutBlock
namespace Go.Proofs.Ythbhengcinkepaa
open Go.ChangeShapes Go.WideShapes Go.ChangeAt Go.RowKit Lamp

theorem i64_andNot (a b : Nat) (ha : a < 9223372036854775808) (hb : b < 9223372036854775808) : bits .andNot .i64 (a : Int) (b : Int) = ((a ^^^ (a &&& b) : Nat) : Int) :=
  i64_nat .andNot (fun a b => a ^^^ (a &&& b)) a b (by
    have e : BitVec.ofInt 64 (a : Int) &&& ~~~(BitVec.ofInt 64 (b : Int)) = BitVec.ofInt 64 (a : Int) ^^^ (BitVec.ofInt 64 (a : Int) &&& BitVec.ofInt 64 (b : Int)) := by
      ext i hi
      simp only [BitVec.getElem_and, BitVec.getElem_not, BitVec.getElem_xor]
      cases (BitVec.ofInt 64 (a : Int))[i] <;> cases (BitVec.ofInt 64 (b : Int))[i] <;> rfl
    simp only [e, BitVec.toNat_xor, BitVec.toNat_and, ofInt_i64 a ha, ofInt_i64 b hb]) (Nat.xor_lt_two_pow (n := 63) ha (Nat.lt_of_le_of_lt Nat.and_le_left ha))

theorem ints_some {w : World} {B : Nat} {A : Option Addr} {zs : List Int} (h : RInts w B A zs) (hl : 0 < zs.length) : ∃ b o, A = some ⟨b, o, none⟩ := by
  obtain ⟨b, o, x, hA, _⟩ := h.at_ hl
  exact ⟨b, o, hA⟩
theorem ints_cell {w : World} {B b o : Nat} {zs : List Int} (h : RInts w B (some ⟨b, o, none⟩) zs) {k : Nat} {x : Int} (hk : zs[k]? = some x) : w.cell? ⟨b, o + k, none⟩ = some (.int .i64 x) := by
  obtain ⟨b', o', y, hA, _, hy, hc⟩ := h.at_ (k := k) (List.getElem?_eq_some_iff.1 hk).1
  cases hA
  rw [hk] at hy
  cases hy
  exact hc
theorem topV_at {l : List Nat} {i : Nat} (h : i < l.length) : (natV l)[i]? = some ((l.getD i 0 : Nat) : Int) := by
  unfold natV
  rw [List.getElem?_map, List.getElem?_eq_getElem h, List.getD_eq_getElem?_getD, List.getElem?_eq_getElem h]
  rfl
theorem tsize_of {x : Nat} (y : Int) (w : World) (hy : y = (x : Int)) (hx : x < 65536) : Calls Try.prog 49 #[.int .i64 y] w fun e w' => e = .returned (.int .i64 ((popc x : Nat) : Int)) ∧ w = w' := by
  subst hy; exact tsize_any x w hx
theorem tmod_even {d : Nat} (h : d % 2 = 0) : (d : Int).tmod 2 = 0 := by rw [Int.tmod_eq_emod_of_nonneg (by omega)]; omega
theorem tmod_odd {d : Nat} (h : ¬ d % 2 = 0) : (d : Int).tmod 2 = 1 := by rw [Int.tmod_eq_emod_of_nonneg (by omega)]; omega
theorem zerosR_le (n : Nat) : ∀ i, zerosR n i ≤ i
  | 0 => Nat.le_refl _
  | i + 1 => by
    have := zerosR_le n i
    unfold zerosR
    split <;> omega
/-- What the walk keeps from round to round. -/
def TopW (w : World) (n : Nat) (A1 : Option Addr) (L : List Tri) (A2 : Option Addr) (E : List (Int × Int)) (A3 : Option Addr) (R : List Int) (A4 : Option Addr) (Q : List Int) (g : Nat) (all : List Int) (ws : World) : Prop :=
  RTri ws ws.heap.size A1 L ∧ Lig.Gr ws A2 n E ∧ RInts ws ws.heap.size A3 R ∧ RInts ws ws.heap.size A4 Q ∧ RInts ws ws.heap.size (some ⟨g, 0, none⟩) all ∧ Below w.heap.size w ws
theorem TopW.up {w : World} {n : Nat} {A1 : Option Addr} {L : List Tri} {A2 : Option Addr} {E : List (Int × Int)} {A3 : Option Addr} {R : List Int} {A4 : Option Addr} {Q : List Int} {g : Nat} {all : List Int} {ws w' : World} (h : TopW w n A1 L A2 E A3 R A4 Q g all ws) (hb : Below ws.heap.size ws w') : TopW w n A1 L A2 E A3 R A4 Q g all w' :=
  ⟨h.1.up hb, h.2.1.up hb, (h.2.2.1.below hb).more hb.size, (h.2.2.2.1.below hb).more hb.size, (h.2.2.2.2.1.below hb).more hb.size, h.2.2.2.2.2.trans (hb.mono h.2.2.2.2.2.size)⟩
theorem TopW.drewN {w : World} {n : Nat} {A1 : Option Addr} {L : List Tri} {A2 : Option Addr} {E : List (Int × Int)} {A3 : Option Addr} {R : List Int} {A4 : Option Addr} {Q : List Int} {g : Nat} {all : List Int} {ws : World} (h : TopW w n A1 L A2 E A3 R A4 Q g all ws) (k : Nat) : TopW w n A1 L A2 E A3 R A4 Q g all (ws.drewN k) :=
  h.up (below_drewN (Below.refl _ ws) k)
theorem top_eff2 {n : Nat} (hn : n < 17) (h3 : 3 ≤ n) : ∀ i : Nat, i < 4 → effR n i ^^^ (effR n i &&& (1 ||| 2 ^ (n - 1))) = 0 ∧ effR n i < 2 ^ n ∧ (allR n).getD i 0 < 2 ^ n ∧ (effR n i = 0 → (allR n).getD i 0 ≠ 0 → Lig.quietL (pathG n) = [(allR n).getD i 0]) := fun i hi => by
  have h := top_eff n hn h3 i hi
  simp only [effB, Bool.and_eq_true, Bool.or_eq_true, decide_eq_true_eq, Bool.not_eq_true', decide_eq_false_iff_not] at h
  refine ⟨h.1, h.2.1, h.2.2.1, fun e0 ha => ?_⟩
  rcases h.2.2.2 with h4 | h4 | h4
  · exact absurd e0 h4
  · exact absurd h4 ha
  · exact h4

set_option maxRecDepth 100000 in
set_option maxHeartbeats 8000000 in
theorem tpaths_any (a0 a1 : Int) (w : World) :
    Calls Try.prog 15 #[.int .i64 a0, .int .i64 a1] w fun e w' => e = .returned (.bool true) ∧ Below w.heap.size w w' := by
  have hlt := remN_lt a0 (m := 14) (by decide)
  have HS := Lib.hid (small_any a0 13 w (by decide))
  obtain ⟨r, hr⟩ : ∃ r, remN a0 14 = r := ⟨_, rfl⟩
  rw [show (13 : Nat) + 1 = 14 from rfl, hr] at HS
  rw [hr] at hlt
  clear hr
  obtain ⟨n, hn⟩ : ∃ n, n = 3 + r := ⟨_, rfl⟩
  have hn3 : 3 ≤ n := by omega
  have hn17 : n < 17 := by omega
  obtain ⟨⟨hv1, hv2, hv3, hv4⟩, ⟨hv5, hv6, hv7⟩, hv8⟩ := top_vals n hn17 hn3
  have HC := Lib.hid hv1
  have HRL := Lib.hid hv2
  have HR0 := Lib.hid hv3
  have HR1 := Lib.hid hv4
  have HGD := Lib.hid hv5
  have HQL := Lib.hid hv6
  have HZ4 := Lib.hid hv7
  have HAL := Lib.hid hv8
  have HEF := Lib.hid (top_eff2 hn17 hn3)
  clear hv1 hv2 hv3 hv4 hv5 hv6 hv7 hv8
  go_enter Try.func15, Try.ntmps15
  go_wp2_with fail
  refine HS.out.mono ?_
  rintro e w' ⟨rfl, rfl⟩
  clear HS
  go_upto_region 2 with fail
  rw [show (3 : Int) + (r : Int) = (n : Int) by omega]
  clear hlt hn
  go_wp2_with fail
  go_loopw [5, 7] (fun sv i ws => ∃ (k : Nat) (v : Value), v = sv ∧ i = .int .i64 k ∧ k ≤ n - 2 ∧ Hid (OwnT 30 ws w.heap.size v (rowT k)) ∧ Hid (Below w.heap.size w ws)) (fun _ i _ => n - (intOf i).toNat)
  case atStart => exact ⟨0, _, rfl, rfl, by omega, Lib.hid (OwnT.nil_ _ _ _), Lib.hid (Below.refl _ _)⟩
  case round =>
    obtain ⟨k, v, rfl, rfl, hk, HO1, HB1⟩ := hrel
    have HO := HO1
    have HB := HB1
    clear HO1 HB1
    by_cases hgo : k + 2 < n
    · have hgo' : (k : Int) + 2 < (n : Int) := by omega
      have HE := Lib.hid (rowT_succ k)
      have HLEN := Lib.hid (rowT_len k)
      go_wp2_with (at_builtin; refine wpList_addT _ rfl _ _ rfl (OwnT.alloc HO.out _) rfl wr.heap.size _ (k : Int) ((k : Int) + 1) ((k : Int) + 2) rfl (Box.new _ _ _) ?_ ?_ ?_; (have := HLEN.out; omega); (have := HB.out.size; simp; omega); intro v8 w8 hown8 hg8)
      have hblk := HO.out.blk
      have HB8 := Lib.hid (show Below w.heap.size w w8 from (HB.out.alloc HB.out.size _).grown hg8 (by have := HB.out.size; simp; omega) (fun i hi => (hblk i hi).1))
      have HP := Lib.hid (show OwnT 30 w8 w.heap.size v8 (rowT (k + 1)) by rw [HE.out]; exact hown8)
      clear hown8 hg8 hblk
      go_roundw
      case rel => exact ⟨k + 1, v8, rfl, by go_num, by omega, HP, HB8⟩
      case measure => simp [intOf]; omega
    · have hkn : k = n - 2 := by omega
      have hgo' : ¬ (k : Int) + 2 < (n : Int) := by omega
      rw [← hkn] at HC HRL HAL
      obtain ⟨A1, c1, hva, hra1⟩ := HO.out.reads
      obtain ⟨L, hL⟩ : ∃ L, rowT k = L := ⟨_, rfl⟩
      rw [hL] at HC HRL HAL hva hra1
      subst hva
      have HRA := Lib.hid hra1
      obtain ⟨w1, rfl⟩ : ∃ w1 : World, w1 = wr := ⟨_, rfl⟩
      clear hra1 hkn HO hL
      go_wp2_with fail
      go_loopw [6, 8] (fun sv i ws => ∃ (k : Nat) (v : Value), v = sv ∧ i = .int .i64 k ∧ k + 1 ≤ n ∧ Hid (Lig.OwnE ws w1.heap.size v (pathK k)) ∧ Hid (Below w1.heap.size w1 ws)) (fun _ i _ => n - (intOf i).toNat)
      case atStart => exact ⟨0, _, rfl, rfl, by omega, Lib.hid (Lig.OwnE.nil_ _ _), Lib.hid (Below.refl _ _)⟩
      case round =>
        obtain ⟨j, v, rfl, rfl, hj, HO1, HB1⟩ := hrel
        have HO := HO1
        have HBB := HB1
        clear HO1 HB1
        by_cases hgj : j + 1 < n
        · have hgj' : (j : Int) + 1 < (n : Int) := by omega
          have HLEN := Lib.hid (pathK_len j)
          have hbs := HBB.out.size
          go_wp2_with (at_builtin; refine Lig.wpList_addE _ rfl _ _ rfl (World.ownsRow.alloc HO.out _) rfl wr.heap.size _ (j : Int) ((j : Int) + 1) rfl (Box.new _ _ _) ?_ ?_ ?_; (have := HLEN.out; omega); (simp; omega); intro v8 w8 hown8 hg8)
          have hblk := HO.out.blk
          have HB8 := Lib.hid (show Below w1.heap.size w1 w8 from (HBB.out.alloc HBB.out.size _).grown hg8 (by simp; omega) (fun i hi => hblk i hi))
          have HP := Lib.hid (show Lig.OwnE w8 w1.heap.size v8 (pathK (j + 1)) from hown8)
          clear hown8 hg8 hblk
          go_roundw
          case rel => exact ⟨j + 1, v8, rfl, by go_num, by omega, HP, HB8⟩
          case measure => simp [intOf]; omega
        · have hjn : j = n - 1 := by omega
          have hgj' : ¬ (j : Int) + 1 < (n : Int) := by omega
          obtain ⟨A2, c2, hvb, hrb⟩ := HO.out.reads
          rw [← hjn] at HGD
          have hpl := pathK_len j
          have HPG := Lib.hid (show pathG n = Lig.grL n (pathK j) true by unfold pathG; rw [← hjn])
          obtain ⟨E, hE⟩ : ∃ E, pathK j = E := ⟨_, rfl⟩
          rw [hE] at HGD hvb hrb hpl HPG
          subst hvb
          have HG := Lib.hid (show Lig.Gr wr A2 n E from ⟨hrb, by omega, HGD.out, by omega, by omega⟩)
          have HB2 := Lib.hid (HB.out.trans (HBB.out.mono HB.out.size))
          have HR2 := Lib.hid (HRA.out.up HBB.out)
          obtain ⟨w2, rfl⟩ : ∃ w2 : World, w2 = wr := ⟨_, rfl⟩
          clear hrb hjn HO hE HB HBB HRA HGD hpl
          go_wp2_with fail
          refine (Rules_ok A1 c1 n L w2 HR2.out HC.out).mono ?_
          rintro e w3 ⟨v3, rfl, hv3, hb3⟩
          obtain ⟨A3, c3, rfl, hr3⟩ := hv3.reads
          have HAR := Lib.hid (show allR n = [0, ruleR n 0, ruleR n 1, ruleR n 0 ^^^ ruleR n 1] from rfl)
          rw [HRL.out] at hr3 ⊢
          obtain ⟨r0, hr0⟩ : ∃ r0, ruleR n 0 = r0 := ⟨_, rfl⟩
          obtain ⟨r1, hr1⟩ : ∃ r1, ruleR n 1 = r1 := ⟨_, rfl⟩
          rw [hr0] at HAR HR0 HRL HAL hr3 ⊢
          rw [hr1] at HAR HR1 HRL HAL hr3 ⊢
          have HI3 := Lib.hid hr3
          have HG3 := Lib.hid (HG.out.up hb3)
          have HR3 := Lib.hid (HR2.out.up hb3)
          have HB3 := Lib.hid (HB2.out.trans (hb3.mono HB2.out.size))
          clear hr3 hr0 hr1 hb3 HG HR2 HB2 hv3
          go_wp2_with fail
          refine (Lig.Quiet_ok A2 n E c2 true w3 HG3.out).mono ?_
          rintro e w4 ⟨v4, rfl, ho4, hb4⟩
          obtain ⟨A4, c4, rfl, hr4⟩ := ho4.reads
          have HEE := Lib.hid (fun (w9 : World) (h : Lig.Gr w9 A2 n E) (i : Nat) (hi : i < 4) => Lig.Effect_ok A2 n ((allR n).getD i 0) E c2 true w9 h (HEF.out i hi).2.2.1)
          rw [← HPG.out] at hr4 ⊢
          rw [← HPG.out] at HEE
          obtain ⟨Q, hQ⟩ : ∃ Q, Lig.quietL (pathG n) = Q := ⟨_, rfl⟩
          rw [hQ] at HQL HZ4 HEF hr4 ⊢
          have HI4 := Lib.hid hr4
          have HG4 := Lib.hid (HG3.out.up hb4)
          have HR4 := Lib.hid (HR3.out.up hb4)
          have HI34 := Lib.hid ((HI3.out.below hb4).more hb4.size)
          have HB4 := Lib.hid (HB3.out.trans (hb4.mono HB3.out.size))
          clear hr4 hb4 HG3 HR3 HI3 HB3 ho4 hQ
          rw [natV_len]
          have hql : ¬ ((Q.length : Nat) : Int) > 1 := by have := HQL.out; omega
          go_upto_region 17 with fail
          obtain ⟨b3, o3, hA3⟩ := ints_some HI34.out (by simp [natV])
          subst hA3
          have q0 := ints_cell HI34.out (k := 0) (x := (r0 : Int)) (by simp [natV])
          have q1 := ints_cell HI34.out (k := 1) (x := (r1 : Int)) (by simp [natV])
          rw [Nat.add_zero] at q0
          have h16 : 2 ^ n ≤ 65536 := Nat.pow_le_pow_right (n := 2) (by decide) (show n ≤ 16 by omega)
          have hr0 := HR0.out
          have hr1 := HR1.out
          have hxor := i64_xor r0 r1 (by omega) (by omega)
          obtain ⟨r2, hr2⟩ : ∃ r2, r0 ^^^ r1 = r2 := ⟨_, rfl⟩
          rw [hr2] at hxor HAR
          have H16 := Lib.hid h16
          clear hr0 hr1 h16 hr2
          have hbl : b3 < w4.heap.size := World.block_lt_of_cell? w4 _ q0
          go_cut [14] (fun v14 wx => ∃ g5, v14 = .pointer (some ⟨g5, 0, none⟩) ∧ Hid (RInts wx wx.heap.size (some ⟨g5, 0, none⟩) (natV (allR n))) ∧ Hid (Below w4.heap.size w4 wx))
          case first =>
            refine wp_region_held_drew (S := (fun w' => w'.cell? ⟨b3, o3, none⟩ = some (.int .i64 (r0 : Nat)) ∧ w'.cell? ⟨b3, o3 + 1, none⟩ = some (.int .i64 (r1 : Nat)))) (by kernel_rfl) ⟨q0, q1⟩ (fun hHeld => ?_)
            refine wpAnyH_take (i := 0) (v := ?_) rfl (by kernel_rfl) (by kernel_rfl) (by kernel_rfl) (fun _ _ _ h => h) (Or.inl ⟨by rfl, ?_⟩) (by assumption) ?_
            rotate_left
            · (intro w hSw; (try dsimp only at hSw); go_simp <;> (with_reducible rfl))
            try simp only [Act.put, List.setIfInBounds_toArray, List.set_cons_zero, List.set_cons_succ, List.getElem_toArray, List.getElem_cons_zero, List.getElem_cons_succ]
            refine wpAnyH_take (i := 1) (v := ?_) rfl (by kernel_rfl) (by kernel_rfl) (by kernel_rfl) (fun _ _ _ h => h) (Or.inl ⟨by rfl, ?_⟩) (by assumption) ?_
            rotate_left
            · (intro w hSw; (try dsimp only at hSw); go_simp <;> (with_reducible rfl))
            try simp only [Act.put, List.setIfInBounds_toArray, List.set_cons_zero, List.set_cons_succ, List.getElem_toArray, List.getElem_cons_zero, List.getElem_cons_succ]
            refine wpAnyH_take (i := 2) (v := ?_) rfl (by kernel_rfl) (by kernel_rfl) (by kernel_rfl) (fun _ _ _ h => h) (Or.inl ⟨by rfl, ?_⟩) (by assumption) ?_
            rotate_left
            · (intro w hSw; (try dsimp only at hSw); go_simp <;> (with_reducible rfl))
            try simp only [Act.put, List.setIfInBounds_toArray, List.set_cons_zero, List.set_cons_succ, List.getElem_toArray, List.getElem_cons_zero, List.getElem_cons_succ]
            refine wpAnyH_take (i := 3) (v := ?_) rfl (by kernel_rfl) (by kernel_rfl) (by kernel_rfl) (fun _ _ _ h => h) (Or.inl ⟨by rfl, ?_⟩) (by assumption) ?_
            rotate_left
            · (intro w hSw; (try dsimp only at hSw); go_simp <;> (with_reducible rfl))
            try simp only [Act.put, List.setIfInBounds_toArray, List.set_cons_zero, List.set_cons_succ, List.getElem_toArray, List.getElem_cons_zero, List.getElem_cons_succ]
            refine wpAnyH_take (i := 4) (v := ?_) rfl (by kernel_rfl) (by kernel_rfl) (by kernel_rfl) (fun _ _ _ h => h) (Or.inl ⟨by rfl, ?_⟩) (by assumption) ?_
            rotate_left
            · (intro w hSw; (try dsimp only at hSw); go_simp <;> (with_reducible rfl))
            try simp only [Act.put, List.setIfInBounds_toArray, List.set_cons_zero, List.set_cons_succ, List.getElem_toArray, List.getElem_cons_zero, List.getElem_cons_succ]
            refine wpAnyH_take (i := 5) (v := ?_) rfl (by kernel_rfl) (by kernel_rfl) (by kernel_rfl) (fun _ _ _ h => h) (Or.inl ⟨by rfl, ?_⟩) (by assumption) ?_
            rotate_left
            · (intro w hSw; (try dsimp only at hSw); go_simp <;> (with_reducible rfl))
            try simp only [Act.put, List.setIfInBounds_toArray, List.set_cons_zero, List.set_cons_succ, List.getElem_toArray, List.getElem_cons_zero, List.getElem_cons_succ]
            refine wpAnyH_take (i := 6) (v := ?_) rfl (by kernel_rfl) (by kernel_rfl) (by kernel_rfl) (fun _ _ _ h => h) (Or.inl ⟨by rfl, ?_⟩) (by assumption) ?_
            rotate_left
            · (intro w hSw; (try dsimp only at hSw); go_simp <;> (with_reducible rfl))
            try simp only [Act.put, List.setIfInBounds_toArray, List.set_cons_zero, List.set_cons_succ, List.getElem_toArray, List.getElem_cons_zero, List.getElem_cons_succ]
            refine wpAnyH_take (i := 7) (v := ?_) rfl (by kernel_rfl) (by kernel_rfl) (by kernel_rfl) (fun _ _ _ h => h) (Or.inl ⟨by rfl, ?_⟩) (by assumption) ?_
            rotate_left
            · (intro w hSw; (try dsimp only at hSw); go_simp <;> (with_reducible rfl))
            try simp only [Act.put, List.setIfInBounds_toArray, List.set_cons_zero, List.set_cons_succ, List.getElem_toArray, List.getElem_cons_zero, List.getElem_cons_succ]
            refine wpAnyH_take (i := 8) (v := ?_) rfl (by kernel_rfl) (by kernel_rfl) (by kernel_rfl) (fun _ _ _ h => h) (Or.inl ⟨by rfl, ?_⟩) (by assumption) ?_
            rotate_left
            · (intro w hSw; (try dsimp only at hSw); go_simp <;> (with_reducible rfl))
            try simp only [Act.put, List.setIfInBounds_toArray, List.set_cons_zero, List.set_cons_succ, List.getElem_toArray, List.getElem_cons_zero, List.getElem_cons_succ]
            refine wpAnyH_take (i := 9) (v := ?_) rfl (by kernel_rfl) (by kernel_rfl) (by kernel_rfl) (fun _ _ _ h => h) (Or.inl ⟨by rfl, ?_⟩) (by assumption) ?_
            rotate_left
            · (intro w hSw; (try dsimp only at hSw); go_simp <;> (with_reducible rfl))
            try simp only [Act.put, List.setIfInBounds_toArray, List.set_cons_zero, List.set_cons_succ, List.getElem_toArray, List.getElem_cons_zero, List.getElem_cons_succ]
            refine wpAnyH_take (i := 10) (v := ?_) rfl (by kernel_rfl) (by kernel_rfl) (by kernel_rfl) (fun _ _ _ h => h) (Or.inl ⟨by rfl, ?_⟩) (by assumption) ?_
            rotate_left
            · (intro w hSw; (try dsimp only at hSw); go_simp <;> (with_reducible rfl))
            try simp only [Act.put, List.setIfInBounds_toArray, List.set_cons_zero, List.set_cons_succ, List.getElem_toArray, List.getElem_cons_zero, List.getElem_cons_succ]
            refine wpAnyH_take (i := 11) (v := ?_) rfl (by kernel_rfl) (by kernel_rfl) (by kernel_rfl) (fun _ _ _ h => h) (Or.inl ⟨by rfl, ?_⟩) (by assumption) ?_
            rotate_left
            · (intro w hSw; (try dsimp only at hSw); go_simp <;> (with_reducible rfl))
            try simp only [Act.put, List.setIfInBounds_toArray, List.set_cons_zero, List.set_cons_succ, List.getElem_toArray, List.getElem_cons_zero, List.getElem_cons_succ]
            refine wpAnyH_take (i := 12) (v := ?_) rfl (by kernel_rfl) (by kernel_rfl) (by kernel_rfl) (fun _ _ _ h => h) (Or.inl ⟨by rfl, ?_⟩) (by assumption) ?_
            rotate_left
            · (intro w hSw; (try dsimp only at hSw); go_simp <;> (with_reducible rfl))
            try simp only [Act.put, List.setIfInBounds_toArray, List.set_cons_zero, List.set_cons_succ, List.getElem_toArray, List.getElem_cons_zero, List.getElem_cons_succ]
            refine wpAnyH_take (i := 13) (v := ?_) rfl (by kernel_rfl) (by kernel_rfl) (by kernel_rfl) (fun _ _ _ h => h) (Or.inl ⟨by rfl, ?_⟩) (by assumption) ?_
            rotate_left
            · (intro w hSw; (try dsimp only at hSw); go_simp <;> (with_reducible rfl))
            try simp only [Act.put, List.setIfInBounds_toArray, List.set_cons_zero, List.set_cons_succ, List.getElem_toArray, List.getElem_cons_zero, List.getElem_cons_succ]
            refine wpAnyH_ready (rs := [14]) (by kernel_rfl) (by simp) ?_
            refine AllReadyH.cons rfl (fun K hK => ?_) AllReadyH.nil
            have hba := (Below.refl w4.heap.size w4).alloc (Nat.le_refl _) (Obj.cells #[Value.int .i64 0, Value.int .i64 0, Value.int .i64 0, Value.int .i64 0] 82)
            go_simp
            refine hK.out _ _ ⟨(hba.cell (p := ⟨b3, o3, none⟩) hbl).trans q0, (hba.cell (p := ⟨b3, o3 + 1, none⟩) hbl).trans q1⟩ (fun hHeld => ?_)
            clear hK K
            try simp only [Act.put, List.setIfInBounds_toArray, List.set_cons_zero, List.set_cons_succ, List.getElem_toArray, List.getElem_cons_zero, List.getElem_cons_succ]
            refine wpAnyH_ready (rs := [15]) (by kernel_rfl) (by simp) ?_
            refine AllReadyH.cons rfl (fun K hK => ?_) AllReadyH.nil
            have hby := (Below.refl w4.heap.size w4).alloc (Nat.le_refl _) (Obj.cells #[Value.int .i64 0, Value.int .i64 (r0 : Nat), Value.int .i64 (r1 : Nat), Value.int .i64 (r2 : Nat)] 82)
            go_simp
            refine hK.out _ _ ⟨(hby.cell (p := ⟨b3, o3, none⟩) hbl).trans q0, (hby.cell (p := ⟨b3, o3 + 1, none⟩) hbl).trans q1⟩ (fun hHeld => ?_)
            clear hK K
            try simp only [Act.put, List.setIfInBounds_toArray, List.set_cons_zero, List.set_cons_succ, List.getElem_toArray, List.getElem_cons_zero, List.getElem_cons_succ]
            refine wpAnyH_done (by kernel_rfl) ?_ _
            go_wp2_with fail
            go_meet
            have hx5 := (Box.new w4 82 #[Value.int .i64 0, Value.int .i64 (r0 : Nat), Value.int .i64 (r1 : Nat), Value.int .i64 (r2 : Nat)]).drewN 1
            exact ⟨w4.heap.size, rfl, Lib.hid (rints_box (zs := natV (allR n)) hx5 hx5.lt (by rw [HAR.out]; rfl)), Lib.hid hby.drew⟩
          case rest =>
          obtain ⟨g5, rfl, HI5, HB5⟩ := hcut
          obtain ⟨w5, rfl⟩ : ∃ w5 : World, w5 = wc := ⟨_, rfl⟩
          have hb5 := HB5.out
          have HT := Lib.hid (show TopW w n A1 L A2 E (some ⟨b3, o3, none⟩) (natV [r0, r1]) A4 (natV Q) g5 (natV (allR n)) w5 from
            ⟨HR4.out.up hb5, HG4.out.up hb5, (HI34.out.below hb5).more hb5.size, (HI4.out.below hb5).more hb5.size, HI5.out, HB4.out.trans (hb5.mono HB4.out.size)⟩)
          clear HI5 HB5 hbl
          go_wp2_with fail
          have HAL4 := Lib.hid (show (allR n).length = 4 by rw [HAR.out]; rfl)
          clear hb5 q0 q1 hxor HI34 HI4 HG4 HR4 HB4 hql
          go_loopg [13, 15] 4 (fun gk mv iv ws => ∃ i : Nat, i + gk = 4 ∧ mv = .int .i64 (zerosR n i : Nat) ∧ iv = .int .i64 i ∧ Hid (TopW w n A1 L A2 E (some ⟨b3, o3, none⟩) (natV [r0, r1]) A4 (natV Q) g5 (natV (allR n)) ws))
          case atStart => exact ⟨0, by omega, rfl, rfl, HT⟩
          case round =>
            obtain ⟨i, hig, rfl, rfl, HT1⟩ := hrel
            have HTT := HT1
            clear HT1 HT
            have hz := zerosR_le n i
            cases gk with
            | zero =>
              obtain rfl : i = 4 := by omega
              have h16 := H16.out
              have hpb : n < 62 := by omega
              have HPW := Lib.hid (pow_w n hpb)
              have HQW := Lib.hid (pow_w Q.length (by have := HQL.out; omega))
              have HR0' := HR0
              have HR1' := HR1
              obtain ⟨P2, hP2⟩ : ∃ P, 2 ^ n = P := ⟨_, rfl⟩
              rw [hP2] at h16 HPW HR0' HR1'
              have hp0 : 0 < P2 := by rw [← hP2]; exact Nat.pow_pos (by decide)
              have hsm := small_any a1 (P2 - 1) wr (by omega)
              have hpl := remN_lt a1 (m := P2) (by omega)
              rw [show P2 - 1 + 1 = P2 by omega, show ((P2 - 1 : Nat) : Int) = (P2 : Int) - 1 by omega] at hsm
              obtain ⟨p, hp⟩ : ∃ p, remN a1 P2 = p := ⟨_, rfl⟩
              rw [hp] at hsm hpl
              have HSM := Lib.hid hsm
              have hr0b : r0 < P2 := HR0'.out
              have hr1b : r1 < P2 := HR1'.out
              have hpx := i64_xor p r0 (by omega) (by omega)
              have hs0 := i64_and r0 r0 (by omega) (by omega)
              have hs1 := i64_and r1 r0 (by omega) (by omega)
              have hs0b : r0 &&& r0 < 65536 := Nat.lt_of_le_of_lt Nat.and_le_left (by omega)
              have hs1b : r1 &&& r0 < 65536 := Nat.lt_of_le_of_lt Nat.and_le_left (by omega)
              have HAK := Lib.hid (fun (w9 : World) (h : RTri w9 w9.heap.size A1 L) => Alike_ok A1 c1 n p (p ^^^ r0) L w9 h HC.out (by rw [hP2]; exact hpl) (Nat.xor_lt_two_pow (by rw [hP2]; exact hpl) HR0.out))
              rw [show p ^^^ (p ^^^ r0) = r0 by rw [← Nat.xor_assoc, Nat.xor_self, Nat.zero_xor], HAL.out] at HAK
              obtain ⟨x0, hx0⟩ : ∃ x, p ^^^ r0 = x := ⟨_, rfl⟩
              obtain ⟨s0, hs0e⟩ : ∃ x, r0 &&& r0 = x := ⟨_, rfl⟩
              obtain ⟨s1, hs1e⟩ : ∃ x, r1 &&& r0 = x := ⟨_, rfl⟩
              rw [hx0] at hpx HAK
              rw [hs0e] at hs0 hs0b HAK
              rw [hs1e] at hs1 hs1b HAK
              have HS0 := Lib.hid (fun (y : Int) w9 (hy : y = (s0 : Int)) => tsize_of y w9 hy hs0b)
              have HS1 := Lib.hid (fun (y : Int) w9 (hy : y = (s1 : Int)) => tsize_of y w9 hy hs1b)
              obtain ⟨d0, hd0⟩ : ∃ x, popc s0 = x := ⟨_, rfl⟩
              obtain ⟨d1, hd1⟩ : ∃ x, popc s1 = x := ⟨_, rfl⟩
              rw [hd0] at HS0 HAK
              rw [hd1] at HS1 HAK
              obtain ⟨Y, hY⟩ : ∃ Y, 2 ^ Q.length = Y := ⟨_, rfl⟩
              rw [HZ4.out]
              rw [hY] at HQW ⊢
              have hPm : -9223372036854775808 ≤ (P2 : Int) - 1 ∧ (P2 : Int) - 1 ≤ 9223372036854775807 := by omega
              have hc1 := ints_cell HTT.out.2.2.2.2.1 (k := 1) (x := (r0 : Int)) (by rw [HAR.out]; rfl)
              rw [Nat.zero_add] at hc1
              have hwm := w64 hPm
              have hpw := HPW.out
              have hqw := HQW.out
              clear hP2 hp0 hsm hpl hp hr0b hr1b h16 hx0 hs0e hs1e hd0 hd1 hY hs0b hs1b hPm hpb HPW HQW HR0' HR1'
              go_wp2_with fail
              refine HSM.out.mono ?_
              rintro e w6 ⟨rfl, rfl⟩
              go_wp2_with fail
              refine (HAK.out _ HTT.out.1).mono ?_
              rintro e w6 ⟨rfl, hb6⟩
              have HT6 := Lib.hid (HTT.out.up hb6)
              clear hb6 HTT HAK HSM hc1
              go_upto_region 32 with fail
              by_cases e0 : d0 % 2 = 0
              · by_cases e1 : d1 % 2 = 0
                · skip
                  have ht0 := tmod_even e0
                  have ht1 := tmod_even e1
                  rw [decide_eq_true e0, decide_eq_true e1]
                  have q0 := ints_cell HT6.out.2.2.1 (k := 0) (x := (r0 : Int)) (by simp [natV])
                  have q1 := ints_cell HT6.out.2.2.1 (k := 1) (x := (r1 : Int)) (by simp [natV])
                  have hc1 := ints_cell HT6.out.2.2.2.2.1 (k := 1) (x := (r0 : Int)) (by rw [HAR.out]; rfl)
                  rw [Nat.add_zero] at q0
                  rw [Nat.zero_add] at hc1
                  clear e0 e1
                  go_cut [21] (fun v21 wx => v21 = .bool true ∧ Hid (Below w.heap.size w wx))
                  case first =>
                    refine wp_region_held_drew (S := (fun w' => w'.cell? ⟨b3, o3, none⟩ = some (.int .i64 (r0 : Nat)) ∧ w'.cell? ⟨b3, o3 + 1, none⟩ = some (.int .i64 (r1 : Nat)) ∧ w'.cell? ⟨g5, 1, none⟩ = some (.int .i64 (r0 : Nat)))) (by kernel_rfl) ⟨q0, q1, hc1⟩ (fun hHeld => ?_)
                    refine wpAnyH_take (i := 0) (v := ?_) rfl (by kernel_rfl) (by kernel_rfl) (by kernel_rfl) (fun _ _ _ h => h) (Or.inl ⟨by rfl, ?_⟩) (by assumption) ?_
                    rotate_left
                    · (intro w hSw; (try dsimp only at hSw); go_simp <;> (with_reducible rfl))
                    try simp only [Act.put, List.setIfInBounds_toArray, List.set_cons_zero, List.set_cons_succ, List.getElem_toArray, List.getElem_cons_zero, List.getElem_cons_succ]
                    refine wpAnyH_take (i := 1) (v := ?_) rfl (by kernel_rfl) (by kernel_rfl) (by kernel_rfl) (fun _ _ _ h => h) (Or.inl ⟨by rfl, ?_⟩) (by assumption) ?_
                    rotate_left
                    · (intro w hSw; (try dsimp only at hSw); go_simp <;> (with_reducible rfl))
                    try simp only [Act.put, List.setIfInBounds_toArray, List.set_cons_zero, List.set_cons_succ, List.getElem_toArray, List.getElem_cons_zero, List.getElem_cons_succ]
                    refine wpAnyH_take (i := 2) (v := ?_) rfl (by kernel_rfl) (by kernel_rfl) (by kernel_rfl) (fun _ _ _ h => h) (Or.inl ⟨by rfl, ?_⟩) (by assumption) ?_
                    rotate_left
                    · (intro w hSw; (try dsimp only at hSw); go_simp <;> (with_reducible rfl))
                    try simp only [Act.put, List.setIfInBounds_toArray, List.set_cons_zero, List.set_cons_succ, List.getElem_toArray, List.getElem_cons_zero, List.getElem_cons_succ]
                    refine wpAnyH_take (i := 3) (v := ?_) rfl (by kernel_rfl) (by kernel_rfl) (by kernel_rfl) (fun _ _ _ h => h) (Or.inl ⟨by rfl, ?_⟩) (by assumption) ?_
                    rotate_left
                    · (intro w hSw; (try dsimp only at hSw); go_simp <;> (with_reducible rfl))
                    try simp only [Act.put, List.setIfInBounds_toArray, List.set_cons_zero, List.set_cons_succ, List.getElem_toArray, List.getElem_cons_zero, List.getElem_cons_succ]
                    refine wpAnyH_take (i := 4) (v := ?_) rfl (by kernel_rfl) (by kernel_rfl) (by kernel_rfl) (fun _ _ _ h => h) (Or.inl ⟨by rfl, ?_⟩) (by assumption) ?_
                    rotate_left
                    · (intro w hSw; (try dsimp only at hSw); go_simp <;> (with_reducible rfl))
                    try simp only [Act.put, List.setIfInBounds_toArray, List.set_cons_zero, List.set_cons_succ, List.getElem_toArray, List.getElem_cons_zero, List.getElem_cons_succ]
                    refine wpAnyH_take (i := 5) (v := ?_) rfl (by kernel_rfl) (by kernel_rfl) (by kernel_rfl) (fun _ _ _ h => h) (Or.inl ⟨by rfl, ?_⟩) (by assumption) ?_
                    rotate_left
                    · (intro w hSw; (try dsimp only at hSw); go_simp <;> (with_reducible rfl))
                    try simp only [Act.put, List.setIfInBounds_toArray, List.set_cons_zero, List.set_cons_succ, List.getElem_toArray, List.getElem_cons_zero, List.getElem_cons_succ]
                    refine wpAnyH_ready (rs := [6]) (by kernel_rfl) (by simp) ?_
                    refine AllReadyH.cons rfl (fun K hK => ?_) AllReadyH.nil
                    go_simp
                    go_at_call 49
                    refine (HS0.out _ _ (by first | rfl | exact hs0)).mono ?_
                    rintro e w' ⟨rfl, rfl⟩
                    go_wp2_with fail
                    refine hK.out _ _ ?_ (fun hHeld => ?_)
                    · exact hHeld
                    clear hK K
                    try simp only [Act.put, List.setIfInBounds_toArray, List.set_cons_zero, List.set_cons_succ, List.getElem_toArray, List.getElem_cons_zero, List.getElem_cons_succ]
                    refine wpAnyH_take (i := 7) (v := ?_) rfl (by kernel_rfl) (by kernel_rfl) (by kernel_rfl) (fun _ _ _ h => h) (Or.inl ⟨by rfl, ?_⟩) (by assumption) ?_
                    rotate_left
                    · (intro w hSw; (try dsimp only at hSw); go_simp <;> (with_reducible rfl))
                    try simp only [Act.put, List.setIfInBounds_toArray, List.set_cons_zero, List.set_cons_succ, List.getElem_toArray, List.getElem_cons_zero, List.getElem_cons_succ]
                    refine wpAnyH_take (i := 8) (v := ?_) rfl (by kernel_rfl) (by kernel_rfl) (by kernel_rfl) (fun _ _ _ h => h) (Or.inl ⟨by rfl, ?_⟩) (by assumption) ?_
                    rotate_left
                    · (intro w hSw; (try dsimp only at hSw); go_simp <;> (with_reducible rfl))
                    try simp only [Act.put, List.setIfInBounds_toArray, List.set_cons_zero, List.set_cons_succ, List.getElem_toArray, List.getElem_cons_zero, List.getElem_cons_succ]
                    refine wpAnyH_take (i := 9) (v := ?_) rfl (by kernel_rfl) (by kernel_rfl) (by kernel_rfl) (fun _ _ _ h => h) (Or.inl ⟨by rfl, ?_⟩) (by assumption) ?_
                    rotate_left
                    · (intro w hSw; (try dsimp only at hSw); go_simp <;> (with_reducible rfl))
                    try simp only [Act.put, List.setIfInBounds_toArray, List.set_cons_zero, List.set_cons_succ, List.getElem_toArray, List.getElem_cons_zero, List.getElem_cons_succ]
                    refine wpAnyH_take (i := 10) (v := ?_) rfl (by kernel_rfl) (by kernel_rfl) (by kernel_rfl) (fun _ _ _ h => h) (Or.inl ⟨by rfl, ?_⟩) (by assumption) ?_
                    rotate_left
                    · (intro w hSw; (try dsimp only at hSw); go_simp <;> (with_reducible rfl))
                    try simp only [Act.put, List.setIfInBounds_toArray, List.set_cons_zero, List.set_cons_succ, List.getElem_toArray, List.getElem_cons_zero, List.getElem_cons_succ]
                    refine wpAnyH_take (i := 11) (v := ?_) rfl (by kernel_rfl) (by kernel_rfl) (by kernel_rfl) (fun _ _ _ h => h) (Or.inl ⟨by rfl, ?_⟩) (by assumption) ?_
                    rotate_left
                    · (intro w hSw; (try dsimp only at hSw); go_simp <;> (with_reducible rfl))
                    try simp only [Act.put, List.setIfInBounds_toArray, List.set_cons_zero, List.set_cons_succ, List.getElem_toArray, List.getElem_cons_zero, List.getElem_cons_succ]
                    refine wpAnyH_take (i := 12) (v := ?_) rfl (by kernel_rfl) (by kernel_rfl) (by kernel_rfl) (fun _ _ _ h => h) (Or.inl ⟨by rfl, ?_⟩) (by assumption) ?_
                    rotate_left
                    · (intro w hSw; (try dsimp only at hSw); go_simp <;> (with_reducible rfl))
                    try simp only [Act.put, List.setIfInBounds_toArray, List.set_cons_zero, List.set_cons_succ, List.getElem_toArray, List.getElem_cons_zero, List.getElem_cons_succ]
                    refine wpAnyH_take (i := 13) (v := ?_) rfl (by kernel_rfl) (by kernel_rfl) (by kernel_rfl) (fun _ _ _ h => h) (Or.inl ⟨by rfl, ?_⟩) (by assumption) ?_
                    rotate_left
                    · (intro w hSw; (try dsimp only at hSw); go_simp <;> (with_reducible rfl))
                    try simp only [Act.put, List.setIfInBounds_toArray, List.set_cons_zero, List.set_cons_succ, List.getElem_toArray, List.getElem_cons_zero, List.getElem_cons_succ]
                    refine wpAnyH_take (i := 14) (v := ?_) rfl (by kernel_rfl) (by kernel_rfl) (by kernel_rfl) (fun _ _ _ h => h) (Or.inl ⟨by rfl, ?_⟩) (by assumption) ?_
                    rotate_left
                    · (intro w hSw; (try dsimp only at hSw); go_simp <;> (with_reducible rfl))
                    try simp only [Act.put, List.setIfInBounds_toArray, List.set_cons_zero, List.set_cons_succ, List.getElem_toArray, List.getElem_cons_zero, List.getElem_cons_succ]
                    refine wpAnyH_take (i := 15) (v := ?_) rfl (by kernel_rfl) (by kernel_rfl) (by kernel_rfl) (fun _ _ _ h => h) (Or.inl ⟨by rfl, ?_⟩) (by assumption) ?_
                    rotate_left
                    · (intro w hSw; (try dsimp only at hSw); go_simp <;> (with_reducible rfl))
                    try simp only [Act.put, List.setIfInBounds_toArray, List.set_cons_zero, List.set_cons_succ, List.getElem_toArray, List.getElem_cons_zero, List.getElem_cons_succ]
                    refine wpAnyH_ready (rs := [16]) (by kernel_rfl) (by simp) ?_
                    refine AllReadyH.cons rfl (fun K hK => ?_) AllReadyH.nil
                    go_simp
                    go_at_call 49
                    refine (HS1.out _ _ (by first | rfl | exact hs1)).mono ?_
                    rintro e w' ⟨rfl, rfl⟩
                    go_wp2_with fail
                    refine hK.out _ _ ?_ (fun hHeld => ?_)
                    · exact hHeld
                    clear hK K
                    try simp only [Act.put, List.setIfInBounds_toArray, List.set_cons_zero, List.set_cons_succ, List.getElem_toArray, List.getElem_cons_zero, List.getElem_cons_succ]
                    refine wpAnyH_take (i := 17) (v := ?_) rfl (by kernel_rfl) (by kernel_rfl) (by kernel_rfl) (fun _ _ _ h => h) (Or.inl ⟨by rfl, ?_⟩) (by assumption) ?_
                    rotate_left
                    · (intro w hSw; (try dsimp only at hSw); go_simp <;> (with_reducible rfl))
                    try simp only [Act.put, List.setIfInBounds_toArray, List.set_cons_zero, List.set_cons_succ, List.getElem_toArray, List.getElem_cons_zero, List.getElem_cons_succ]
                    refine wpAnyH_take (i := 18) (v := ?_) rfl (by kernel_rfl) (by kernel_rfl) (by kernel_rfl) (fun _ _ _ h => h) (Or.inl ⟨by rfl, ?_⟩) (by assumption) ?_
                    rotate_left
                    · (intro w hSw; (try dsimp only at hSw); go_simp <;> (with_reducible rfl))
                    try simp only [Act.put, List.setIfInBounds_toArray, List.set_cons_zero, List.set_cons_succ, List.getElem_toArray, List.getElem_cons_zero, List.getElem_cons_succ]
                    refine wpAnyH_take (i := 19) (v := ?_) rfl (by kernel_rfl) (by kernel_rfl) (by kernel_rfl) (fun _ _ _ h => h) (Or.inl ⟨by rfl, ?_⟩) (by assumption) ?_
                    rotate_left
                    · (intro w hSw; (try dsimp only at hSw); go_simp <;> (with_reducible rfl))
                    try simp only [Act.put, List.setIfInBounds_toArray, List.set_cons_zero, List.set_cons_succ, List.getElem_toArray, List.getElem_cons_zero, List.getElem_cons_succ]
                    refine wpAnyH_take (i := 20) (v := ?_) rfl (by kernel_rfl) (by kernel_rfl) (by kernel_rfl) (fun _ _ _ h => h) (Or.inl ⟨by rfl, ?_⟩) (by assumption) ?_
                    rotate_left
                    · (intro w hSw; (try dsimp only at hSw); go_simp <;> (with_reducible rfl))
                    try simp only [Act.put, List.setIfInBounds_toArray, List.set_cons_zero, List.set_cons_succ, List.getElem_toArray, List.getElem_cons_zero, List.getElem_cons_succ]
                    refine wpAnyH_done (by kernel_rfl) ?_ _
                    go_wp2_with fail
                    go_meet
                    exact ⟨rfl, Lib.hid HT6.out.2.2.2.2.2.drew⟩
                  case rest =>
                  obtain ⟨rfl, HB7⟩ := hcut
                  clear q0 q1 hc1 HT6
                  go_wp2_with fail
                  refine (four_any _).mono ?_
                  rintro e w8 ⟨rfl, hb8⟩
                  go_wp2_with fail
                  go_ret
                  exact ⟨rfl, HB7.out.trans (hb8.mono HB7.out.size)⟩
                · skip
                  have ht0 := tmod_even e0
                  have ht1 := tmod_odd e1
                  rw [decide_eq_true e0, decide_eq_false e1]
                  have q0 := ints_cell HT6.out.2.2.1 (k := 0) (x := (r0 : Int)) (by simp [natV])
                  have q1 := ints_cell HT6.out.2.2.1 (k := 1) (x := (r1 : Int)) (by simp [natV])
                  have hc1 := ints_cell HT6.out.2.2.2.2.1 (k := 1) (x := (r0 : Int)) (by rw [HAR.out]; rfl)
                  rw [Nat.add_zero] at q0
                  rw [Nat.zero_add] at hc1
                  clear e0 e1
                  go_cut [21] (fun v21 wx => v21 = .bool false ∧ Hid (Below w.heap.size w wx))
                  case first =>
                    refine wp_region_held_drew (S := (fun w' => w'.cell? ⟨b3, o3, none⟩ = some (.int .i64 (r0 : Nat)) ∧ w'.cell? ⟨b3, o3 + 1, none⟩ = some (.int .i64 (r1 : Nat)) ∧ w'.cell? ⟨g5, 1, none⟩ = some (.int .i64 (r0 : Nat)))) (by kernel_rfl) ⟨q0, q1, hc1⟩ (fun hHeld => ?_)
                    refine wpAnyH_take (i := 0) (v := ?_) rfl (by kernel_rfl) (by kernel_rfl) (by kernel_rfl) (fun _ _ _ h => h) (Or.inl ⟨by rfl, ?_⟩) (by assumption) ?_
                    rotate_left
                    · (intro w hSw; (try dsimp only at hSw); go_simp <;> (with_reducible rfl))
                    try simp only [Act.put, List.setIfInBounds_toArray, List.set_cons_zero, List.set_cons_succ, List.getElem_toArray, List.getElem_cons_zero, List.getElem_cons_succ]
                    refine wpAnyH_take (i := 1) (v := ?_) rfl (by kernel_rfl) (by kernel_rfl) (by kernel_rfl) (fun _ _ _ h => h) (Or.inl ⟨by rfl, ?_⟩) (by assumption) ?_
                    rotate_left
                    · (intro w hSw; (try dsimp only at hSw); go_simp <;> (with_reducible rfl))
                    try simp only [Act.put, List.setIfInBounds_toArray, List.set_cons_zero, List.set_cons_succ, List.getElem_toArray, List.getElem_cons_zero, List.getElem_cons_succ]
                    refine wpAnyH_take (i := 2) (v := ?_) rfl (by kernel_rfl) (by kernel_rfl) (by kernel_rfl) (fun _ _ _ h => h) (Or.inl ⟨by rfl, ?_⟩) (by assumption) ?_
                    rotate_left
                    · (intro w hSw; (try dsimp only at hSw); go_simp <;> (with_reducible rfl))
                    try simp only [Act.put, List.setIfInBounds_toArray, List.set_cons_zero, List.set_cons_succ, List.getElem_toArray, List.getElem_cons_zero, List.getElem_cons_succ]
                    refine wpAnyH_take (i := 3) (v := ?_) rfl (by kernel_rfl) (by kernel_rfl) (by kernel_rfl) (fun _ _ _ h => h) (Or.inl ⟨by rfl, ?_⟩) (by assumption) ?_
                    rotate_left
                    · (intro w hSw; (try dsimp only at hSw); go_simp <;> (with_reducible rfl))
                    try simp only [Act.put, List.setIfInBounds_toArray, List.set_cons_zero, List.set_cons_succ, List.getElem_toArray, List.getElem_cons_zero, List.getElem_cons_succ]
                    refine wpAnyH_take (i := 4) (v := ?_) rfl (by kernel_rfl) (by kernel_rfl) (by kernel_rfl) (fun _ _ _ h => h) (Or.inl ⟨by rfl, ?_⟩) (by assumption) ?_
                    rotate_left
                    · (intro w hSw; (try dsimp only at hSw); go_simp <;> (with_reducible rfl))
                    try simp only [Act.put, List.setIfInBounds_toArray, List.set_cons_zero, List.set_cons_succ, List.getElem_toArray, List.getElem_cons_zero, List.getElem_cons_succ]
                    refine wpAnyH_take (i := 5) (v := ?_) rfl (by kernel_rfl) (by kernel_rfl) (by kernel_rfl) (fun _ _ _ h => h) (Or.inl ⟨by rfl, ?_⟩) (by assumption) ?_
                    rotate_left
                    · (intro w hSw; (try dsimp only at hSw); go_simp <;> (with_reducible rfl))
                    try simp only [Act.put, List.setIfInBounds_toArray, List.set_cons_zero, List.set_cons_succ, List.getElem_toArray, List.getElem_cons_zero, List.getElem_cons_succ]
                    refine wpAnyH_ready (rs := [6]) (by kernel_rfl) (by simp) ?_
                    refine AllReadyH.cons rfl (fun K hK => ?_) AllReadyH.nil
                    go_simp
                    go_at_call 49
                    refine (HS0.out _ _ (by first | rfl | exact hs0)).mono ?_
                    rintro e w' ⟨rfl, rfl⟩
                    go_wp2_with fail
                    refine hK.out _ _ ?_ (fun hHeld => ?_)
                    · exact hHeld
                    clear hK K
                    try simp only [Act.put, List.setIfInBounds_toArray, List.set_cons_zero, List.set_cons_succ, List.getElem_toArray, List.getElem_cons_zero, List.getElem_cons_succ]
                    refine wpAnyH_take (i := 7) (v := ?_) rfl (by kernel_rfl) (by kernel_rfl) (by kernel_rfl) (fun _ _ _ h => h) (Or.inl ⟨by rfl, ?_⟩) (by assumption) ?_
                    rotate_left
                    · (intro w hSw; (try dsimp only at hSw); go_simp <;> (with_reducible rfl))
                    try simp only [Act.put, List.setIfInBounds_toArray, List.set_cons_zero, List.set_cons_succ, List.getElem_toArray, List.getElem_cons_zero, List.getElem_cons_succ]
                    refine wpAnyH_take (i := 8) (v := ?_) rfl (by kernel_rfl) (by kernel_rfl) (by kernel_rfl) (fun _ _ _ h => h) (Or.inl ⟨by rfl, ?_⟩) (by assumption) ?_
                    rotate_left
                    · (intro w hSw; (try dsimp only at hSw); go_simp <;> (with_reducible rfl))
                    try simp only [Act.put, List.setIfInBounds_toArray, List.set_cons_zero, List.set_cons_succ, List.getElem_toArray, List.getElem_cons_zero, List.getElem_cons_succ]
                    refine wpAnyH_take (i := 9) (v := ?_) rfl (by kernel_rfl) (by kernel_rfl) (by kernel_rfl) (fun _ _ _ h => h) (Or.inl ⟨by rfl, ?_⟩) (by assumption) ?_
                    rotate_left
                    · (intro w hSw; (try dsimp only at hSw); go_simp <;> (with_reducible rfl))
                    try simp only [Act.put, List.setIfInBounds_toArray, List.set_cons_zero, List.set_cons_succ, List.getElem_toArray, List.getElem_cons_zero, List.getElem_cons_succ]
                    refine wpAnyH_take (i := 10) (v := ?_) rfl (by kernel_rfl) (by kernel_rfl) (by kernel_rfl) (fun _ _ _ h => h) (Or.inl ⟨by rfl, ?_⟩) (by assumption) ?_
                    rotate_left
                    · (intro w hSw; (try dsimp only at hSw); go_simp <;> (with_reducible rfl))
                    try simp only [Act.put, List.setIfInBounds_toArray, List.set_cons_zero, List.set_cons_succ, List.getElem_toArray, List.getElem_cons_zero, List.getElem_cons_succ]
                    refine wpAnyH_take (i := 11) (v := ?_) rfl (by kernel_rfl) (by kernel_rfl) (by kernel_rfl) (fun _ _ _ h => h) (Or.inl ⟨by rfl, ?_⟩) (by assumption) ?_
                    rotate_left
                    · (intro w hSw; (try dsimp only at hSw); go_simp <;> (with_reducible rfl))
                    try simp only [Act.put, List.setIfInBounds_toArray, List.set_cons_zero, List.set_cons_succ, List.getElem_toArray, List.getElem_cons_zero, List.getElem_cons_succ]
                    refine wpAnyH_take (i := 12) (v := ?_) rfl (by kernel_rfl) (by kernel_rfl) (by kernel_rfl) (fun _ _ _ h => h) (Or.inl ⟨by rfl, ?_⟩) (by assumption) ?_
                    rotate_left
                    · (intro w hSw; (try dsimp only at hSw); go_simp <;> (with_reducible rfl))
                    try simp only [Act.put, List.setIfInBounds_toArray, List.set_cons_zero, List.set_cons_succ, List.getElem_toArray, List.getElem_cons_zero, List.getElem_cons_succ]
                    refine wpAnyH_take (i := 13) (v := ?_) rfl (by kernel_rfl) (by kernel_rfl) (by kernel_rfl) (fun _ _ _ h => h) (Or.inl ⟨by rfl, ?_⟩) (by assumption) ?_
                    rotate_left
                    · (intro w hSw; (try dsimp only at hSw); go_simp <;> (with_reducible rfl))
                    try simp only [Act.put, List.setIfInBounds_toArray, List.set_cons_zero, List.set_cons_succ, List.getElem_toArray, List.getElem_cons_zero, List.getElem_cons_succ]
                    refine wpAnyH_take (i := 14) (v := ?_) rfl (by kernel_rfl) (by kernel_rfl) (by kernel_rfl) (fun _ _ _ h => h) (Or.inl ⟨by rfl, ?_⟩) (by assumption) ?_
                    rotate_left
                    · (intro w hSw; (try dsimp only at hSw); go_simp <;> (with_reducible rfl))
                    try simp only [Act.put, List.setIfInBounds_toArray, List.set_cons_zero, List.set_cons_succ, List.getElem_toArray, List.getElem_cons_zero, List.getElem_cons_succ]
                    refine wpAnyH_take (i := 15) (v := ?_) rfl (by kernel_rfl) (by kernel_rfl) (by kernel_rfl) (fun _ _ _ h => h) (Or.inl ⟨by rfl, ?_⟩) (by assumption) ?_
                    rotate_left
                    · (intro w hSw; (try dsimp only at hSw); go_simp <;> (with_reducible rfl))
                    try simp only [Act.put, List.setIfInBounds_toArray, List.set_cons_zero, List.set_cons_succ, List.getElem_toArray, List.getElem_cons_zero, List.getElem_cons_succ]
                    refine wpAnyH_ready (rs := [16]) (by kernel_rfl) (by simp) ?_
                    refine AllReadyH.cons rfl (fun K hK => ?_) AllReadyH.nil
                    go_simp
                    go_at_call 49
                    refine (HS1.out _ _ (by first | rfl | exact hs1)).mono ?_
                    rintro e w' ⟨rfl, rfl⟩
                    go_wp2_with fail
                    refine hK.out _ _ ?_ (fun hHeld => ?_)
                    · exact hHeld
                    clear hK K
                    try simp only [Act.put, List.setIfInBounds_toArray, List.set_cons_zero, List.set_cons_succ, List.getElem_toArray, List.getElem_cons_zero, List.getElem_cons_succ]
                    refine wpAnyH_take (i := 17) (v := ?_) rfl (by kernel_rfl) (by kernel_rfl) (by kernel_rfl) (fun _ _ _ h => h) (Or.inl ⟨by rfl, ?_⟩) (by assumption) ?_
                    rotate_left
                    · (intro w hSw; (try dsimp only at hSw); go_simp <;> (with_reducible rfl))
                    try simp only [Act.put, List.setIfInBounds_toArray, List.set_cons_zero, List.set_cons_succ, List.getElem_toArray, List.getElem_cons_zero, List.getElem_cons_succ]
                    refine wpAnyH_take (i := 18) (v := ?_) rfl (by kernel_rfl) (by kernel_rfl) (by kernel_rfl) (fun _ _ _ h => h) (Or.inl ⟨by rfl, ?_⟩) (by assumption) ?_
                    rotate_left
                    · (intro w hSw; (try dsimp only at hSw); go_simp <;> (with_reducible rfl))
                    try simp only [Act.put, List.setIfInBounds_toArray, List.set_cons_zero, List.set_cons_succ, List.getElem_toArray, List.getElem_cons_zero, List.getElem_cons_succ]
                    refine wpAnyH_take (i := 19) (v := ?_) rfl (by kernel_rfl) (by kernel_rfl) (by kernel_rfl) (fun _ _ _ h => h) (Or.inl ⟨by rfl, ?_⟩) (by assumption) ?_
                    rotate_left
                    · (intro w hSw; (try dsimp only at hSw); go_simp <;> (with_reducible rfl))
                    try simp only [Act.put, List.setIfInBounds_toArray, List.set_cons_zero, List.set_cons_succ, List.getElem_toArray, List.getElem_cons_zero, List.getElem_cons_succ]
                    refine wpAnyH_take (i := 20) (v := ?_) rfl (by kernel_rfl) (by kernel_rfl) (by kernel_rfl) (fun _ _ _ h => h) (Or.inl ⟨by rfl, ?_⟩) (by assumption) ?_
                    rotate_left
                    · (intro w hSw; (try dsimp only at hSw); go_simp <;> (with_reducible rfl))
                    try simp only [Act.put, List.setIfInBounds_toArray, List.set_cons_zero, List.set_cons_succ, List.getElem_toArray, List.getElem_cons_zero, List.getElem_cons_succ]
                    refine wpAnyH_done (by kernel_rfl) ?_ _
                    go_wp2_with fail
                    go_meet
                    exact ⟨rfl, Lib.hid HT6.out.2.2.2.2.2.drew⟩
                  case rest =>
                  obtain ⟨rfl, HB7⟩ := hcut
                  clear q0 q1 hc1 HT6
                  go_wp2_with fail
                  refine (four_any _).mono ?_
                  rintro e w8 ⟨rfl, hb8⟩
                  go_wp2_with fail
                  go_ret
                  exact ⟨rfl, HB7.out.trans (hb8.mono HB7.out.size)⟩
              · by_cases e1 : d1 % 2 = 0
                · skip
                  have ht0 := tmod_odd e0
                  have ht1 := tmod_even e1
                  rw [decide_eq_false e0, decide_eq_true e1]
                  have q0 := ints_cell HT6.out.2.2.1 (k := 0) (x := (r0 : Int)) (by simp [natV])
                  have q1 := ints_cell HT6.out.2.2.1 (k := 1) (x := (r1 : Int)) (by simp [natV])
                  have hc1 := ints_cell HT6.out.2.2.2.2.1 (k := 1) (x := (r0 : Int)) (by rw [HAR.out]; rfl)
                  rw [Nat.add_zero] at q0
                  rw [Nat.zero_add] at hc1
                  clear e0 e1
                  go_cut [21] (fun v21 wx => v21 = .bool false ∧ Hid (Below w.heap.size w wx))
                  case first =>
                    refine wp_region_held_drew (S := (fun w' => w'.cell? ⟨b3, o3, none⟩ = some (.int .i64 (r0 : Nat)) ∧ w'.cell? ⟨b3, o3 + 1, none⟩ = some (.int .i64 (r1 : Nat)) ∧ w'.cell? ⟨g5, 1, none⟩ = some (.int .i64 (r0 : Nat)))) (by kernel_rfl) ⟨q0, q1, hc1⟩ (fun hHeld => ?_)
                    refine wpAnyH_take (i := 0) (v := ?_) rfl (by kernel_rfl) (by kernel_rfl) (by kernel_rfl) (fun _ _ _ h => h) (Or.inl ⟨by rfl, ?_⟩) (by assumption) ?_
                    rotate_left
                    · (intro w hSw; (try dsimp only at hSw); go_simp <;> (with_reducible rfl))
                    try simp only [Act.put, List.setIfInBounds_toArray, List.set_cons_zero, List.set_cons_succ, List.getElem_toArray, List.getElem_cons_zero, List.getElem_cons_succ]
                    refine wpAnyH_take (i := 1) (v := ?_) rfl (by kernel_rfl) (by kernel_rfl) (by kernel_rfl) (fun _ _ _ h => h) (Or.inl ⟨by rfl, ?_⟩) (by assumption) ?_
                    rotate_left
                    · (intro w hSw; (try dsimp only at hSw); go_simp <;> (with_reducible rfl))
                    try simp only [Act.put, List.setIfInBounds_toArray, List.set_cons_zero, List.set_cons_succ, List.getElem_toArray, List.getElem_cons_zero, List.getElem_cons_succ]
                    refine wpAnyH_take (i := 2) (v := ?_) rfl (by kernel_rfl) (by kernel_rfl) (by kernel_rfl) (fun _ _ _ h => h) (Or.inl ⟨by rfl, ?_⟩) (by assumption) ?_
                    rotate_left
                    · (intro w hSw; (try dsimp only at hSw); go_simp <;> (with_reducible rfl))
                    try simp only [Act.put, List.setIfInBounds_toArray, List.set_cons_zero, List.set_cons_succ, List.getElem_toArray, List.getElem_cons_zero, List.getElem_cons_succ]
                    refine wpAnyH_take (i := 3) (v := ?_) rfl (by kernel_rfl) (by kernel_rfl) (by kernel_rfl) (fun _ _ _ h => h) (Or.inl ⟨by rfl, ?_⟩) (by assumption) ?_
                    rotate_left
                    · (intro w hSw; (try dsimp only at hSw); go_simp <;> (with_reducible rfl))
                    try simp only [Act.put, List.setIfInBounds_toArray, List.set_cons_zero, List.set_cons_succ, List.getElem_toArray, List.getElem_cons_zero, List.getElem_cons_succ]
                    refine wpAnyH_take (i := 4) (v := ?_) rfl (by kernel_rfl) (by kernel_rfl) (by kernel_rfl) (fun _ _ _ h => h) (Or.inl ⟨by rfl, ?_⟩) (by assumption) ?_
                    rotate_left
                    · (intro w hSw; (try dsimp only at hSw); go_simp <;> (with_reducible rfl))
                    try simp only [Act.put, List.setIfInBounds_toArray, List.set_cons_zero, List.set_cons_succ, List.getElem_toArray, List.getElem_cons_zero, List.getElem_cons_succ]
                    refine wpAnyH_take (i := 5) (v := ?_) rfl (by kernel_rfl) (by kernel_rfl) (by kernel_rfl) (fun _ _ _ h => h) (Or.inl ⟨by rfl, ?_⟩) (by assumption) ?_
                    rotate_left
                    · (intro w hSw; (try dsimp only at hSw); go_simp <;> (with_reducible rfl))
                    try simp only [Act.put, List.setIfInBounds_toArray, List.set_cons_zero, List.set_cons_succ, List.getElem_toArray, List.getElem_cons_zero, List.getElem_cons_succ]
                    refine wpAnyH_ready (rs := [6]) (by kernel_rfl) (by simp) ?_
                    refine AllReadyH.cons rfl (fun K hK => ?_) AllReadyH.nil
                    go_simp
                    go_at_call 49
                    refine (HS0.out _ _ (by first | rfl | exact hs0)).mono ?_
                    rintro e w' ⟨rfl, rfl⟩
                    go_wp2_with fail
                    refine hK.out _ _ ?_ (fun hHeld => ?_)
                    · exact hHeld
                    clear hK K
                    try simp only [Act.put, List.setIfInBounds_toArray, List.set_cons_zero, List.set_cons_succ, List.getElem_toArray, List.getElem_cons_zero, List.getElem_cons_succ]
                    refine wpAnyH_take (i := 7) (v := ?_) rfl (by kernel_rfl) (by kernel_rfl) (by kernel_rfl) (fun _ _ _ h => h) (Or.inl ⟨by rfl, ?_⟩) (by assumption) ?_
                    rotate_left
                    · (intro w hSw; (try dsimp only at hSw); go_simp <;> (with_reducible rfl))
                    try simp only [Act.put, List.setIfInBounds_toArray, List.set_cons_zero, List.set_cons_succ, List.getElem_toArray, List.getElem_cons_zero, List.getElem_cons_succ]
                    refine wpAnyH_take (i := 8) (v := ?_) rfl (by kernel_rfl) (by kernel_rfl) (by kernel_rfl) (fun _ _ _ h => h) (Or.inl ⟨by rfl, ?_⟩) (by assumption) ?_
                    rotate_left
                    · (intro w hSw; (try dsimp only at hSw); go_simp <;> (with_reducible rfl))
                    try simp only [Act.put, List.setIfInBounds_toArray, List.set_cons_zero, List.set_cons_succ, List.getElem_toArray, List.getElem_cons_zero, List.getElem_cons_succ]
                    refine wpAnyH_take (i := 9) (v := ?_) rfl (by kernel_rfl) (by kernel_rfl) (by kernel_rfl) (fun _ _ _ h => h) (Or.inl ⟨by rfl, ?_⟩) (by assumption) ?_
                    rotate_left
                    · (intro w hSw; (try dsimp only at hSw); go_simp <;> (with_reducible rfl))
                    try simp only [Act.put, List.setIfInBounds_toArray, List.set_cons_zero, List.set_cons_succ, List.getElem_toArray, List.getElem_cons_zero, List.getElem_cons_succ]
                    refine wpAnyH_take (i := 10) (v := undef) rfl (by kernel_rfl) (by kernel_rfl) (by kernel_rfl) (fun _ _ _ h => h) (Or.inr ⟨by rfl, rfl⟩) (by assumption) ?_
                    try simp only [Act.put, List.setIfInBounds_toArray, List.set_cons_zero, List.set_cons_succ, List.getElem_toArray, List.getElem_cons_zero, List.getElem_cons_succ]
                    refine wpAnyH_take (i := 11) (v := undef) rfl (by kernel_rfl) (by kernel_rfl) (by kernel_rfl) (fun _ _ _ h => h) (Or.inr ⟨by rfl, rfl⟩) (by assumption) ?_
                    try simp only [Act.put, List.setIfInBounds_toArray, List.set_cons_zero, List.set_cons_succ, List.getElem_toArray, List.getElem_cons_zero, List.getElem_cons_succ]
                    refine wpAnyH_take (i := 12) (v := undef) rfl (by kernel_rfl) (by kernel_rfl) (by kernel_rfl) (fun _ _ _ h => h) (Or.inr ⟨by rfl, rfl⟩) (by assumption) ?_
                    try simp only [Act.put, List.setIfInBounds_toArray, List.set_cons_zero, List.set_cons_succ, List.getElem_toArray, List.getElem_cons_zero, List.getElem_cons_succ]
                    refine wpAnyH_take (i := 13) (v := undef) rfl (by kernel_rfl) (by kernel_rfl) (by kernel_rfl) (fun _ _ _ h => h) (Or.inr ⟨by rfl, rfl⟩) (by assumption) ?_
                    try simp only [Act.put, List.setIfInBounds_toArray, List.set_cons_zero, List.set_cons_succ, List.getElem_toArray, List.getElem_cons_zero, List.getElem_cons_succ]
                    refine wpAnyH_take (i := 14) (v := undef) rfl (by kernel_rfl) (by kernel_rfl) (by kernel_rfl) (fun _ _ _ h => h) (Or.inr ⟨by rfl, rfl⟩) (by assumption) ?_
                    try simp only [Act.put, List.setIfInBounds_toArray, List.set_cons_zero, List.set_cons_succ, List.getElem_toArray, List.getElem_cons_zero, List.getElem_cons_succ]
                    refine wpAnyH_take (i := 15) (v := undef) rfl (by kernel_rfl) (by kernel_rfl) (by kernel_rfl) (fun _ _ _ h => h) (Or.inr ⟨by rfl, rfl⟩) (by assumption) ?_
                    try simp only [Act.put, List.setIfInBounds_toArray, List.set_cons_zero, List.set_cons_succ, List.getElem_toArray, List.getElem_cons_zero, List.getElem_cons_succ]
                    refine wpAnyH_take (i := 16) (v := undef) rfl (by kernel_rfl) (by kernel_rfl) (by kernel_rfl) (fun _ _ _ h => h) (Or.inr ⟨by rfl, rfl⟩) (by assumption) ?_
                    try simp only [Act.put, List.setIfInBounds_toArray, List.set_cons_zero, List.set_cons_succ, List.getElem_toArray, List.getElem_cons_zero, List.getElem_cons_succ]
                    refine wpAnyH_take (i := 17) (v := undef) rfl (by kernel_rfl) (by kernel_rfl) (by kernel_rfl) (fun _ _ _ h => h) (Or.inr ⟨by rfl, rfl⟩) (by assumption) ?_
                    try simp only [Act.put, List.setIfInBounds_toArray, List.set_cons_zero, List.set_cons_succ, List.getElem_toArray, List.getElem_cons_zero, List.getElem_cons_succ]
                    refine wpAnyH_take (i := 18) (v := undef) rfl (by kernel_rfl) (by kernel_rfl) (by kernel_rfl) (fun _ _ _ h => h) (Or.inr ⟨by rfl, rfl⟩) (by assumption) ?_
                    try simp only [Act.put, List.setIfInBounds_toArray, List.set_cons_zero, List.set_cons_succ, List.getElem_toArray, List.getElem_cons_zero, List.getElem_cons_succ]
                    refine wpAnyH_take (i := 19) (v := ?_) rfl (by kernel_rfl) (by kernel_rfl) (by kernel_rfl) (fun _ _ _ h => h) (Or.inl ⟨by rfl, ?_⟩) (by assumption) ?_
                    rotate_left
                    · (intro w hSw; (try dsimp only at hSw); go_simp <;> (with_reducible rfl))
                    try simp only [Act.put, List.setIfInBounds_toArray, List.set_cons_zero, List.set_cons_succ, List.getElem_toArray, List.getElem_cons_zero, List.getElem_cons_succ]
                    refine wpAnyH_take (i := 20) (v := ?_) rfl (by kernel_rfl) (by kernel_rfl) (by kernel_rfl) (fun _ _ _ h => h) (Or.inl ⟨by rfl, ?_⟩) (by assumption) ?_
                    rotate_left
                    · (intro w hSw; (try dsimp only at hSw); go_simp <;> (with_reducible rfl))
                    try simp only [Act.put, List.setIfInBounds_toArray, List.set_cons_zero, List.set_cons_succ, List.getElem_toArray, List.getElem_cons_zero, List.getElem_cons_succ]
                    refine wpAnyH_done (by kernel_rfl) ?_ _
                    go_wp2_with fail
                    go_meet
                    exact ⟨rfl, Lib.hid HT6.out.2.2.2.2.2.drew⟩
                  case rest =>
                  obtain ⟨rfl, HB7⟩ := hcut
                  clear q0 q1 hc1 HT6
                  go_wp2_with fail
                  refine (four_any _).mono ?_
                  rintro e w8 ⟨rfl, hb8⟩
                  go_wp2_with fail
                  go_ret
                  exact ⟨rfl, HB7.out.trans (hb8.mono HB7.out.size)⟩
                · skip
                  have ht0 := tmod_odd e0
                  have ht1 := tmod_odd e1
                  rw [decide_eq_false e0, decide_eq_false e1]
                  have q0 := ints_cell HT6.out.2.2.1 (k := 0) (x := (r0 : Int)) (by simp [natV])
                  have q1 := ints_cell HT6.out.2.2.1 (k := 1) (x := (r1 : Int)) (by simp [natV])
                  have hc1 := ints_cell HT6.out.2.2.2.2.1 (k := 1) (x := (r0 : Int)) (by rw [HAR.out]; rfl)
                  rw [Nat.add_zero] at q0
                  rw [Nat.zero_add] at hc1
                  clear e0 e1
                  go_cut [21] (fun v21 wx => v21 = .bool false ∧ Hid (Below w.heap.size w wx))
                  case first =>
                    refine wp_region_held_drew (S := (fun w' => w'.cell? ⟨b3, o3, none⟩ = some (.int .i64 (r0 : Nat)) ∧ w'.cell? ⟨b3, o3 + 1, none⟩ = some (.int .i64 (r1 : Nat)) ∧ w'.cell? ⟨g5, 1, none⟩ = some (.int .i64 (r0 : Nat)))) (by kernel_rfl) ⟨q0, q1, hc1⟩ (fun hHeld => ?_)
                    refine wpAnyH_take (i := 0) (v := ?_) rfl (by kernel_rfl) (by kernel_rfl) (by kernel_rfl) (fun _ _ _ h => h) (Or.inl ⟨by rfl, ?_⟩) (by assumption) ?_
                    rotate_left
                    · (intro w hSw; (try dsimp only at hSw); go_simp <;> (with_reducible rfl))
                    try simp only [Act.put, List.setIfInBounds_toArray, List.set_cons_zero, List.set_cons_succ, List.getElem_toArray, List.getElem_cons_zero, List.getElem_cons_succ]
                    refine wpAnyH_take (i := 1) (v := ?_) rfl (by kernel_rfl) (by kernel_rfl) (by kernel_rfl) (fun _ _ _ h => h) (Or.inl ⟨by rfl, ?_⟩) (by assumption) ?_
                    rotate_left
                    · (intro w hSw; (try dsimp only at hSw); go_simp <;> (with_reducible rfl))
                    try simp only [Act.put, List.setIfInBounds_toArray, List.set_cons_zero, List.set_cons_succ, List.getElem_toArray, List.getElem_cons_zero, List.getElem_cons_succ]
                    refine wpAnyH_take (i := 2) (v := ?_) rfl (by kernel_rfl) (by kernel_rfl) (by kernel_rfl) (fun _ _ _ h => h) (Or.inl ⟨by rfl, ?_⟩) (by assumption) ?_
                    rotate_left
                    · (intro w hSw; (try dsimp only at hSw); go_simp <;> (with_reducible rfl))
                    try simp only [Act.put, List.setIfInBounds_toArray, List.set_cons_zero, List.set_cons_succ, List.getElem_toArray, List.getElem_cons_zero, List.getElem_cons_succ]
                    refine wpAnyH_take (i := 3) (v := ?_) rfl (by kernel_rfl) (by kernel_rfl) (by kernel_rfl) (fun _ _ _ h => h) (Or.inl ⟨by rfl, ?_⟩) (by assumption) ?_
                    rotate_left
                    · (intro w hSw; (try dsimp only at hSw); go_simp <;> (with_reducible rfl))
                    try simp only [Act.put, List.setIfInBounds_toArray, List.set_cons_zero, List.set_cons_succ, List.getElem_toArray, List.getElem_cons_zero, List.getElem_cons_succ]
                    refine wpAnyH_take (i := 4) (v := ?_) rfl (by kernel_rfl) (by kernel_rfl) (by kernel_rfl) (fun _ _ _ h => h) (Or.inl ⟨by rfl, ?_⟩) (by assumption) ?_
                    rotate_left
                    · (intro w hSw; (try dsimp only at hSw); go_simp <;> (with_reducible rfl))
                    try simp only [Act.put, List.setIfInBounds_toArray, List.set_cons_zero, List.set_cons_succ, List.getElem_toArray, List.getElem_cons_zero, List.getElem_cons_succ]
                    refine wpAnyH_take (i := 5) (v := ?_) rfl (by kernel_rfl) (by kernel_rfl) (by kernel_rfl) (fun _ _ _ h => h) (Or.inl ⟨by rfl, ?_⟩) (by assumption) ?_
                    rotate_left
                    · (intro w hSw; (try dsimp only at hSw); go_simp <;> (with_reducible rfl))
                    try simp only [Act.put, List.setIfInBounds_toArray, List.set_cons_zero, List.set_cons_succ, List.getElem_toArray, List.getElem_cons_zero, List.getElem_cons_succ]
                    refine wpAnyH_ready (rs := [6]) (by kernel_rfl) (by simp) ?_
                    refine AllReadyH.cons rfl (fun K hK => ?_) AllReadyH.nil
                    go_simp
                    go_at_call 49
                    refine (HS0.out _ _ (by first | rfl | exact hs0)).mono ?_
                    rintro e w' ⟨rfl, rfl⟩
                    go_wp2_with fail
                    refine hK.out _ _ ?_ (fun hHeld => ?_)
                    · exact hHeld
                    clear hK K
                    try simp only [Act.put, List.setIfInBounds_toArray, List.set_cons_zero, List.set_cons_succ, List.getElem_toArray, List.getElem_cons_zero, List.getElem_cons_succ]
                    refine wpAnyH_take (i := 7) (v := ?_) rfl (by kernel_rfl) (by kernel_rfl) (by kernel_rfl) (fun _ _ _ h => h) (Or.inl ⟨by rfl, ?_⟩) (by assumption) ?_
                    rotate_left
                    · (intro w hSw; (try dsimp only at hSw); go_simp <;> (with_reducible rfl))
                    try simp only [Act.put, List.setIfInBounds_toArray, List.set_cons_zero, List.set_cons_succ, List.getElem_toArray, List.getElem_cons_zero, List.getElem_cons_succ]
                    refine wpAnyH_take (i := 8) (v := ?_) rfl (by kernel_rfl) (by kernel_rfl) (by kernel_rfl) (fun _ _ _ h => h) (Or.inl ⟨by rfl, ?_⟩) (by assumption) ?_
                    rotate_left
                    · (intro w hSw; (try dsimp only at hSw); go_simp <;> (with_reducible rfl))
                    try simp only [Act.put, List.setIfInBounds_toArray, List.set_cons_zero, List.set_cons_succ, List.getElem_toArray, List.getElem_cons_zero, List.getElem_cons_succ]
                    refine wpAnyH_take (i := 9) (v := ?_) rfl (by kernel_rfl) (by kernel_rfl) (by kernel_rfl) (fun _ _ _ h => h) (Or.inl ⟨by rfl, ?_⟩) (by assumption) ?_
                    rotate_left
                    · (intro w hSw; (try dsimp only at hSw); go_simp <;> (with_reducible rfl))
                    try simp only [Act.put, List.setIfInBounds_toArray, List.set_cons_zero, List.set_cons_succ, List.getElem_toArray, List.getElem_cons_zero, List.getElem_cons_succ]
                    refine wpAnyH_take (i := 10) (v := undef) rfl (by kernel_rfl) (by kernel_rfl) (by kernel_rfl) (fun _ _ _ h => h) (Or.inr ⟨by rfl, rfl⟩) (by assumption) ?_
                    try simp only [Act.put, List.setIfInBounds_toArray, List.set_cons_zero, List.set_cons_succ, List.getElem_toArray, List.getElem_cons_zero, List.getElem_cons_succ]
                    refine wpAnyH_take (i := 11) (v := undef) rfl (by kernel_rfl) (by kernel_rfl) (by kernel_rfl) (fun _ _ _ h => h) (Or.inr ⟨by rfl, rfl⟩) (by assumption) ?_
                    try simp only [Act.put, List.setIfInBounds_toArray, List.set_cons_zero, List.set_cons_succ, List.getElem_toArray, List.getElem_cons_zero, List.getElem_cons_succ]
                    refine wpAnyH_take (i := 12) (v := undef) rfl (by kernel_rfl) (by kernel_rfl) (by kernel_rfl) (fun _ _ _ h => h) (Or.inr ⟨by rfl, rfl⟩) (by assumption) ?_
                    try simp only [Act.put, List.setIfInBounds_toArray, List.set_cons_zero, List.set_cons_succ, List.getElem_toArray, List.getElem_cons_zero, List.getElem_cons_succ]
                    refine wpAnyH_take (i := 13) (v := undef) rfl (by kernel_rfl) (by kernel_rfl) (by kernel_rfl) (fun _ _ _ h => h) (Or.inr ⟨by rfl, rfl⟩) (by assumption) ?_
                    try simp only [Act.put, List.setIfInBounds_toArray, List.set_cons_zero, List.set_cons_succ, List.getElem_toArray, List.getElem_cons_zero, List.getElem_cons_succ]
                    refine wpAnyH_take (i := 14) (v := undef) rfl (by kernel_rfl) (by kernel_rfl) (by kernel_rfl) (fun _ _ _ h => h) (Or.inr ⟨by rfl, rfl⟩) (by assumption) ?_
                    try simp only [Act.put, List.setIfInBounds_toArray, List.set_cons_zero, List.set_cons_succ, List.getElem_toArray, List.getElem_cons_zero, List.getElem_cons_succ]
                    refine wpAnyH_take (i := 15) (v := undef) rfl (by kernel_rfl) (by kernel_rfl) (by kernel_rfl) (fun _ _ _ h => h) (Or.inr ⟨by rfl, rfl⟩) (by assumption) ?_
                    try simp only [Act.put, List.setIfInBounds_toArray, List.set_cons_zero, List.set_cons_succ, List.getElem_toArray, List.getElem_cons_zero, List.getElem_cons_succ]
                    refine wpAnyH_take (i := 16) (v := undef) rfl (by kernel_rfl) (by kernel_rfl) (by kernel_rfl) (fun _ _ _ h => h) (Or.inr ⟨by rfl, rfl⟩) (by assumption) ?_
                    try simp only [Act.put, List.setIfInBounds_toArray, List.set_cons_zero, List.set_cons_succ, List.getElem_toArray, List.getElem_cons_zero, List.getElem_cons_succ]
                    refine wpAnyH_take (i := 17) (v := undef) rfl (by kernel_rfl) (by kernel_rfl) (by kernel_rfl) (fun _ _ _ h => h) (Or.inr ⟨by rfl, rfl⟩) (by assumption) ?_
                    try simp only [Act.put, List.setIfInBounds_toArray, List.set_cons_zero, List.set_cons_succ, List.getElem_toArray, List.getElem_cons_zero, List.getElem_cons_succ]
                    refine wpAnyH_take (i := 18) (v := undef) rfl (by kernel_rfl) (by kernel_rfl) (by kernel_rfl) (fun _ _ _ h => h) (Or.inr ⟨by rfl, rfl⟩) (by assumption) ?_
                    try simp only [Act.put, List.setIfInBounds_toArray, List.set_cons_zero, List.set_cons_succ, List.getElem_toArray, List.getElem_cons_zero, List.getElem_cons_succ]
                    refine wpAnyH_take (i := 19) (v := ?_) rfl (by kernel_rfl) (by kernel_rfl) (by kernel_rfl) (fun _ _ _ h => h) (Or.inl ⟨by rfl, ?_⟩) (by assumption) ?_
                    rotate_left
                    · (intro w hSw; (try dsimp only at hSw); go_simp <;> (with_reducible rfl))
                    try simp only [Act.put, List.setIfInBounds_toArray, List.set_cons_zero, List.set_cons_succ, List.getElem_toArray, List.getElem_cons_zero, List.getElem_cons_succ]
                    refine wpAnyH_take (i := 20) (v := ?_) rfl (by kernel_rfl) (by kernel_rfl) (by kernel_rfl) (fun _ _ _ h => h) (Or.inl ⟨by rfl, ?_⟩) (by assumption) ?_
                    rotate_left
                    · (intro w hSw; (try dsimp only at hSw); go_simp <;> (with_reducible rfl))
                    try simp only [Act.put, List.setIfInBounds_toArray, List.set_cons_zero, List.set_cons_succ, List.getElem_toArray, List.getElem_cons_zero, List.getElem_cons_succ]
                    refine wpAnyH_done (by kernel_rfl) ?_ _
                    go_wp2_with fail
                    go_meet
                    exact ⟨rfl, Lib.hid HT6.out.2.2.2.2.2.drew⟩
                  case rest =>
                  obtain ⟨rfl, HB7⟩ := hcut
                  clear q0 q1 hc1 HT6
                  go_wp2_with fail
                  refine (four_any _).mono ?_
                  rintro e w8 ⟨rfl, hb8⟩
                  go_wp2_with fail
                  go_ret
                  exact ⟨rfl, HB7.out.trans (hb8.mono HB7.out.size)⟩
            | succ g =>
              have hi4 : i < 4 := by omega
              have hi4i : (i : Int) < 4 := by omega
              obtain ⟨h1, h2, h3, h4⟩ := HEF.out i hi4
              have HE1 := Lib.hid (HEE.out wr HTT.out.2.1 i hi4)
              rw [show comb ((allR n).getD i 0) (pathG n) = effR n i from rfl] at HE1
              have hzn : zerosR n (i + 1) = (if effR n i = 0 then zerosR n i + 1 else zerosR n i) := rfl
              have q0 := ints_cell HTT.out.2.2.2.2.1 (k := i) (topV_at (by rw [HAL4.out]; exact hi4))
              rw [Nat.zero_add] at q0
              obtain ⟨a, ha⟩ : ∃ a, (allR n).getD i 0 = a := ⟨_, rfl⟩
              have HA := Lib.hid ha
              obtain ⟨ef, hef⟩ : ∃ ef, effR n i = ef := ⟨_, rfl⟩
              rw [ha] at HE1 h3 h4 q0
              rw [hef] at HE1 h1 h2 h4 hzn
              obtain ⟨z, hzz⟩ : ∃ z, zerosR n i = z := ⟨_, rfl⟩
              rw [hzz] at hz hzn ⊢
              have h16 := H16.out
              obtain ⟨m, hm⟩ : ∃ m, n = m + 1 := ⟨n - 1, by omega⟩
              have hmi : (n : Int) - 1 = (m : Int) := by omega
              have hm16 : m ≤ 15 := by omega
              have hm62 : m < 62 := by omega
              have hP := Nat.pow_le_pow_right (n := 2) (by decide) hm16
              rw [show n - 1 = m by omega] at h1
              have hzb : -9223372036854775808 ≤ (z : Int) + 1 ∧ (z : Int) + 1 ≤ 9223372036854775807 := by omega
              have hefb : ef < 9223372036854775808 := by omega
              have HSH := Lib.hid (pow_w m hm62)
              obtain ⟨P, hPP⟩ : ∃ P, 2 ^ m = P := ⟨_, rfl⟩
              rw [hPP] at HSH hP h1
              have hPb : P < 9223372036854775808 := by omega
              have hP16 : P < 2 ^ 16 := by omega
              clear hPP hm62
              have hOb : 1 ||| P < 9223372036854775808 := Nat.lt_of_lt_of_le (Nat.or_lt_two_pow (n := 16) (by decide) hP16) (by decide)
              have hor := i64_or 1 P (by decide) hPb
              have hno := i64_andNot ef (1 ||| P) hefb hOb
              rw [h1] at hno
              have hor2 : bits BinOp.or IntKind.i64 1 (P : Int) = ((1 ||| P : Nat) : Int) := hor
              have hno2 : bits BinOp.andNot IntKind.i64 (ef : Int) ((1 ||| P : Nat) : Int) = 0 := hno
              have HZN := Lib.hid hzn
              have H4 := Lib.hid h4
              have hzw := w64 hzb
              have hsh := HSH.out
              obtain ⟨O, hO⟩ : ∃ O, 1 ||| P = O := ⟨_, rfl⟩
              rw [hO] at hor2 hno2
              clear hefb hPb hP16 hOb HSH
              clear hzn h4 h1 h2 h3 hor hno ha hef hzz hm hP h16 hm16 hzb hO hz
              go_wp2_with fail
              refine HE1.out.mono ?_
              rintro e w6 ⟨rfl, hb6⟩
              have HT6 := Lib.hid (HTT.out.up hb6)
              clear hb6 HTT HE1 q0
              by_cases he0 : ef = 0
              · have HZ := Lib.hid (HZN.out.trans (if_pos he0))
                by_cases ha0 : a = 0
                · subst he0 ha0
                  have hno3 : bits BinOp.andNot IntKind.i64 (0 : Int) (O : Int) = 0 := hno2
                  go_upto_region 28 with fail
                  have hcell := ints_cell HT6.out.2.2.2.2.1 (k := i) (x := 0) (by rw [topV_at (by rw [HAL4.out]; exact hi4), HA.out]; rfl)
                  rw [Nat.zero_add] at hcell
                  go_quiet (fail)
                  go_wp2_with fail
                  have HT7 := Lib.hid (HT6.out.drewN nq)
                  go_roundg g
                  case measure => omega
                  case rel => exact ⟨i + 1, by omega, val_int (by rw [HZ.out]; omega), by go_num, HT7⟩
                · have hq := H4.out he0 ha0
                  subst he0
                  have hno3 : bits BinOp.andNot IntKind.i64 (0 : Int) (O : Int) = 0 := hno2
                  have hq1 : (Q.length : Int) = 1 := by rw [hq]; rfl
                  obtain ⟨b4, o4, hA4⟩ := ints_some HT6.out.2.2.2.1 (by rw [hq]; simp [natV])
                  subst hA4
                  have hc4 := ints_cell HT6.out.2.2.2.1 (k := 0) (x := (a : Int)) (by rw [hq]; rfl)
                  rw [Nat.add_zero] at hc4
                  have hcell := ints_cell HT6.out.2.2.2.2.1 (k := i) (x := (a : Int)) (by rw [topV_at (by rw [HAL4.out]; exact hi4), HA.out])
                  rw [Nat.zero_add] at hcell
                  have ha0i : ¬ (a : Int) = 0 := by omega
                  have hab : ((a : Int) == 0) = false := by rw [beq_eq_false_iff_ne]; exact ha0i
                  have han : ((a : Int) != 0) = true := by simp [bne, hab]
                  clear hq ha0
                  go_upto_region 28 with fail
                  go_quiet (fail)
                  go_wp2_with fail
                  have HT7 := Lib.hid (HT6.out.drewN nq)
                  go_roundg g
                  case measure => omega
                  case rel => exact ⟨i + 1, by omega, val_int (by rw [HZ.out]; omega), by go_num, HT7⟩
              · have HZ := Lib.hid (HZN.out.trans (if_neg he0))
                have hei : ¬ (ef : Int) = 0 := by omega
                go_wp2_with fail
                go_roundg g
                case measure => omega
                case rel => exact ⟨i + 1, by omega, val_int (by rw [HZ.out]), by go_num, HT6⟩
set_option maxRecDepth 100000 in
theorem tpaths_row (os : Os) (started : os.Started) (H : Type) (enc : TypeId × Value → H) :
    ReturnsInHanded {} Try.checked os 15 .any (Rows.topPathsSpec.pre6 enc Try.prog Try.f15 Rows.topPathsRow.domain false) (Rows.topPathsSpec.post enc Try.prog Try.f15 false true false false) := by
  refine returnsInHanded_of_change (C := Try.checked) ownNone started (by kernel_rfl) Try.func15
    (ChangeSpec.witness6 (enc := enc) (C := Try.checked) false ⟨#[], #[.int .i64 0, .int .i64 0], []⟩ 8 (by kernel_rfl) (by kernel_rfl) (by kernel_rfl) (by kernel_rfl)) ?_
  intro W base args ds gs before hval hW _ _
  have hW2 := hW
  obtain ⟨p, q, hA, hV, rfl, _, _⟩ := hW2
  have hA : DataW.TrodAll enc Try.prog W 0 (fun _ => true) true Try.f15.params.toList args.toList ds p := hA
  have hAk := hA
  have hval : ∀ (j : Nat) t v, Try.f15.params[j]? = some t → args[j]? = some v → Value.okWide Try.prog W .any base t v := hval
  rw [Try.params15] at hA hval
  obtain ⟨v0, vs0, d0, ds0, p0, q0, hargs, rfl, rfl, h0, r0⟩ := trodAll_cons hA
  obtain ⟨v1, vs1, d1, ds1, p1, q1, rfl, rfl, rfl, h1, r1⟩ := trodAll_cons r0
  obtain ⟨rfl, rfl, rfl⟩ := trodAll_nil r1
  obtain rfl : args = #[v0, v1] := by cases args; simp_all
  obtain ⟨rfl, rfl⟩ := trodVars_none hV
  obtain ⟨a0, rfl, rfl, rfl, w0⟩ := open_int Try.underlying3 (hval 0 3 v0 rfl rfl) h0
  obtain ⟨a1, rfl, rfl, rfl, w1⟩ := open_int Try.underlying3 (hval 1 3 v1 rfl rfl) h1
  clear hA hval
  simp only [List.append_nil] at hW hAk
  refine (tpaths_any a0 a1 W ).mono fun e W' ⟨he, hb⟩ => ?_
  subst he
  exact ⟨_, rfl, post_bool hW hb (by rw [Try.params15]; decide) hAk (fun _ => rfl) rfl rfl (by kernel_rfl)⟩

theorem tpaths_holds : Rows.TopPathsSaid :=
  OpenClaim.holds_of_wide 15 Try.f15 rfl rfl rfl rfl rfl rfl rfl ⟨rfl, rfl, rfl, rfl, rfl⟩ rfl rfl rfl rfl rfl (by kernel_rfl) Try.func15 (by kernel_rfl)
    (of_decide_eq_true (by kernel_rfl)) (by unfold Func.isWrapper; first | (rw [if_pos (by decide +kernel)]; kernel_rfl) | (rw [if_neg (by decide +kernel)]; exact ⟨rfl, rfl⟩))
    (fun os started H enc _ => tpaths_row os started H enc)

#print axioms tpaths_holds
end Go.Proofs.Ythbhengcinkepaa
