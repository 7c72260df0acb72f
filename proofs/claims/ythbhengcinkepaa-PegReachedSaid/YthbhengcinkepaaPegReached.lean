/- For every integer n, list of triples of integers l and integer p of: the function PegReached answers true: all positions to which a game leads, and the least number of pegs, are those of the reference. No conditions. -/
import Derived.Test.YthbhengcinkepaaOpenT
import Derived.Test.YthbhengcinkepaaPg20
import Derived.Test.YthbhengcinkepaaPg21
import Derived.Test.YthbhengcinkepaaTameT
import Derived.Test.YthbhengcinkepaaRReach2
import Derived.Test.YthbhengcinkepaaRSize2
import Derived.Test.YthbhengcinkepaaInts2
namespace Go.Proofs.Ythbhengcinkepaa
open Go.ChangeShapes Go.WideShapes Go.ChangeAt Go.RowKit Go.WideMaps Lamp

theorem sortedP_found {Q : List (Nat × Tri)} {P : Nat} (ho : Once Q) (hl : ∀ e ∈ Q, e.1 < P) : sortedP Q = natV (foundL Q P) := sorted_found ho hl
/-- The fewest pegs, of n and of the positions below k that are found. -/
def leastL (n : Nat) (Q : List (Nat × Tri)) (k : Nat) : Nat := ((foundL Q k).map popc).foldl min n
theorem leastL_succ (n : Nat) (Q : List (Nat × Tri)) (k : Nat) : leastL n Q (k + 1) = if hasQ Q k = true then min (leastL n Q k) (popc k) else leastL n Q k := by
  unfold leastL
  rw [foundL_succ]
  split
  · simp
  · rfl

set_option maxRecDepth 100000 in
set_option maxHeartbeats 8000000 in
theorem preached_any (a0 : Int) (A : Option Addr) (l : List Tri) (c : Nat) (y : Int) (w : World) (hr : RTri w w.heap.size A l) (hl : l.length ≤ 9223372036854775807) :
    Calls Try.prog 6 #[.int .i64 a0, .slice A l.length c, .int .i64 y] w fun e w' => e = .returned (.bool true) ∧ Below w.heap.size w w' := by
  have hm := remN_lt a0 (m := 12) (by decide)
  obtain ⟨n, hn⟩ : ∃ n, 1 + remN a0 12 = n := ⟨_, rfl⟩
  have hn1 : 1 ≤ n := by omega
  have hn16 : n ≤ 16 := by omega
  have HT := Lib.hid (fun (w1 : World) (h : RTri w1 w1.heap.size A l) => tameT_any A a0 l c 12 20 w1 h hl (by decide) (by decide) (by decide))
  rw [hn] at HT
  have hpw := pow_split hn16
  have hp0 := Nat.two_pow_pos n
  have hpi : (2 : Int) ^ n = ((2 ^ n : Nat) : Int) := by simp
  have hr2 := rem_i64 y hp0 hpw
  have hl2 := remN_lt y hp0
  obtain ⟨p, hp⟩ : ∃ p, remN y (2 ^ n) = p := ⟨_, rfl⟩
  rw [hp] at hr2 hl2
  have HP := Lib.hid hl2
  obtain ⟨P, hP⟩ : ∃ P, 2 ^ n = P := ⟨_, rfl⟩
  have HPN := Lib.hid hP
  rw [hP] at hpw hp0 hpi hr2
  have hPw : IntKind.u64.wrap (P : Int) = (P : Int) := u64_in (by omega) (by omega)
  have hP0 : ((P : Int) = 0) = False := by simp; omega
  have HR0 := Lib.hid hr
  have hn16i : (n : Int) ≤ 16 := by omega
  clear hr hl hm hn hp hP hl2
  go_enter Try.func6, Try.ntmps6
  go_wp2_with fail
  refine (HT.out _ HR0.out).mono ?_
  rintro e w1 ⟨v1, rfl, L, hc, hLK, ho, hb⟩
  obtain ⟨A1, c1, rfl, hrd⟩ := ho.reads
  have HC := Lib.hid hc
  have HB1 := Lib.hid hb
  have HR1 := Lib.hid hrd
  clear hc hb hrd ho HT HR0
  go_wp2_with fail
  refine (RReached2_any A1 c1 n p L w1 HR1.out HC.out HP.out).mono ?_
  rintro e w2 ⟨T, rfl, hbt, hTb, hb2⟩
  obtain ⟨hn1', _, hlL, hg⟩ := checkT_zero HC.out
  have hok := jumpsL_ok (goodT_ok hg)
  have hro := bfsK_once (jumpsL L) p 65536
  have hrl := bfsK_lt hok HP.out 65536
  have HSO := Lib.hid (show sortedP (reachL (jumpsL L) p) = natV (foundL (reachL (jumpsL L) p) (2 ^ n)) from sortedP_found hro hrl)
  have HFE := Lib.hid (show fewN n (reachL (jumpsL L) p) = leastL n (reachL (jumpsL L) p) (2 ^ n) from fewest_found n hro hrl)
  have HRO := Lib.hid (fun (w8 : World) (h : RTri w8 w8.heap.size A1 L) => Reached_ok A1 c1 n p L w8 h HC.out HP.out)
  have HFO := Lib.hid (fun (w8 : World) (h : RTri w8 w8.heap.size A1 L) => Fewest_ok A1 c1 n p L w8 h HC.out HP.out)
  rw [HPN.out] at hbt HSO HFE ⊢
  obtain ⟨Q, hQ⟩ : ∃ Q, reachL (jumpsL L) p = Q := ⟨_, rfl⟩
  rw [hQ] at hbt HSO HFE HRO HFO
  have HT2 := Lib.hid hbt
  have HB2 := Lib.hid (HB1.out.trans (hb2.mono HB1.out.size))
  have HR2 := Lib.hid (HR1.out.up hb2)
  have hTl := hbt.lt
  clear hbt hb2 hg hok hro hrl hQ HB1 HR1
  go_wp2_with fail
  go_loopg [9, 10, 11] P (fun g v m i ws => ∃ (k s : Nat) (u : Value), k + g = P ∧ v = u ∧ m = .int .i64 s ∧ i = .int .i64 k ∧ Hid (leastL n Q k = s) ∧ Hid (OwnP 3 ws w2.heap.size u (natV (foundL Q k))) ∧ Hid (Below w2.heap.size w2 ws))
  case atStart => exact ⟨0, n, _, by omega, rfl, rfl, rfl, Lib.hid rfl, Lib.hid (OwnP.nil_ _ _ _), Lib.hid (Below.refl _ _)⟩
  case round =>
    obtain ⟨k, s, u, hk, rfl, rfl, rfl, HS1, HO1, HBB1⟩ := hrel
    have HS := HS1
    have HO := HO1
    have HBB := HBB1
    clear HS1 HO1 HBB1
    have HBW := Lib.hid (HB2.out.trans (HBB.out.mono HB2.out.size))
    have HRW := Lib.hid (HR2.out.up HBB.out)
    cases gk with
    | zero =>
      obtain rfl : k = P := by omega
      have hge : ¬ (k : Int) < (k : Int) := by omega
      have hgd : decide ((k : Int) < (k : Int)) = false := decide_eq_false hge
      have HFL := Lib.hid (foundL_len Q k)
      obtain ⟨A9, c9, hv9, hrd9⟩ := HO.out.reads
      rw [natV_len] at hv9
      subst hv9
      have HV9 := Lib.hid hrd9
      clear hrd9 HO
      go_wp2_with fail
      refine (HRO.out wr HRW.out).mono ?_
      rintro e w4 ⟨v4, rfl, ho4, hb4⟩
      rw [HSO.out] at ho4
      obtain ⟨A4, c4, rfl, hr4⟩ := ho4.reads
      rw [natV_len]
      have HV4 := Lib.hid hr4
      have HV94 := Lib.hid ((HV9.out.below hb4).more hb4.size)
      have HB4 := Lib.hid (HBW.out.trans (hb4.mono HBW.out.size))
      have HR4 := Lib.hid (HRW.out.up hb4)
      clear ho4 hr4 hb4 HV9 HBW HRW HBB HRO
      go_wp2_with fail
      refine (HFO.out w4 HR4.out).mono ?_
      rintro e w5 ⟨rfl, hb5⟩
      rw [HFE.out, HS.out]
      have HV5 := Lib.hid ((HV4.out.below hb5).more hb5.size)
      have HV95 := Lib.hid ((HV94.out.below hb5).more hb5.size)
      have HB5 := Lib.hid (HB4.out.trans (hb5.mono HB4.out.size))
      have hss : ((s : Int) == (s : Int)) = true := by simp
      clear hb5 HV4 HV94 HB4 HR4 HFO
      go_wp2_with fail
      have hin := ints2_any A4 A9 (natV (foundL Q k)) (natV (foundL Q k)) c4 c9 w5.heap.size w5 HV5.out HV95.out (by rw [natV_len]; have := HFL.out; omega) (by rw [natV_len]; have := HFL.out; omega)
      rw [natV_len] at hin
      refine hin.mono ?_
      rintro e w6 ⟨rfl, n6, rfl⟩
      rw [show decide (natV (foundL Q k) = natV (foundL Q k)) = true by simp]
      have HB6 := Lib.hid (below_drewN HB5.out n6)
      clear hin
      go_wp2_with fail
      refine (awake2_any _).mono ?_
      rintro e w8 ⟨rfl, hb8⟩
      have HB8 := Lib.hid (HB6.out.trans (hb8.mono HB6.out.size))
      go_wp2_with fail
      go_ret
      exact ⟨rfl, HB8.out⟩
    | succ g =>
      have hkP : k < P := by omega
      have hkP' : (k : Int) < (P : Int) := by omega
      have ht := (HT2.out.below HBB.out HT2.out.lt).cell k
      rw [boolC_at hkP] at ht
      have HLS := Lib.hid (leastL_succ n Q k)
      have HFS := Lib.hid (foundL_succ Q k)
      have HFL := Lib.hid (foundL_len Q k)
      cases hq : hasQ Q k with
      | false =>
        rw [hq] at ht HLS HFS
        have HNL := Lib.hid (show leastL n Q (k + 1) = s by rw [HLS.out, if_neg (by simp)]; exact HS.out)
        have HNF := Lib.hid (show foundL Q (k + 1) = foundL Q k by rw [HFS.out, if_neg (by simp)])
        clear hq
        go_wp2_with fail
        go_roundg g
        case measure => omega
        case rel => exact ⟨k + 1, s, _, by omega, rfl, rfl, by go_num, HNL, by rw [HNF.out]; exact HO, HBB⟩
      | true =>
        rw [hq] at ht HLS HFS
        have HNL := Lib.hid (show leastL n Q (k + 1) = min s (popc k) by rw [HLS.out, if_pos rfl, HS.out])
        have HNF := Lib.hid (show foundL Q (k + 1) = foundL Q k ++ [k] by rw [HFS.out, if_pos rfl])
        obtain ⟨q, hpk⟩ : ∃ q, popc k = q := ⟨_, rfl⟩
        have HSZ := Lib.hid (fun w => RSize2_of (x := k) (k : Int) w rfl (by omega) hpk)
        rw [hpk] at HNL
        clear hq hpk
        go_wp2_with (first
          | (at_builtin; refine wpList_addI _ rfl _ _ rfl (HO.out.alloc _) rfl wr.heap.size 1 (k : Nat) rfl (Box.new wr 3 #[Value.int .i64 (k : Nat)]) (by rw [natV_len]; have := HFL.out; omega) (by have := HBB.out.size; simp; omega) ?_; intro v7 w7 ho7 hg7 hor7)
          | (go_at_call 27; refine (HSZ.out _).mono ?_; rintro e w' ⟨rfl, rfl⟩))
        have hblk := HO.out.blk
        have HB7 := Lib.hid (show Below w2.heap.size w2 w7 from (HBB.out.alloc HBB.out.size _).grown hg7 (by have := HBB.out.size; simp; omega) (fun i hi => (hblk i hi).1))
        have HO7 := Lib.hid (show OwnP 3 w7 w2.heap.size v7 (natV (foundL Q (k + 1))) by rw [HNF.out, natV, List.map_append]; exact ho7)
        clear ho7 hg7 hor7 hblk
        go_roundg g
        case measure => omega
        case rel => exact ⟨k + 1, min s q, v7, by omega, rfl, by rw [show ((min s q : Nat) : Int) = min (s : Int) (q : Int) by omega], by go_num, HNL, HO7, HB7⟩
set_option maxRecDepth 100000 in
theorem preached_row (os : Os) (started : os.Started) (H : Type) (enc : TypeId × Value → H) :
    ReturnsInHanded {} Try.checked os 6 .any (Rows.pegReachedSpec.pre6 enc Try.prog Try.f6 Rows.pegReachedRow.domain false) (Rows.pegReachedSpec.post enc Try.prog Try.f6 false true false false) := by
  refine returnsInHanded_of_change (C := Try.checked) ownNone started (by kernel_rfl) Try.func6
    (ChangeSpec.witness6 (enc := enc) (C := Try.checked) false ⟨#[], #[.int .i64 0, .slice none 0 0, .int .i64 0], []⟩ 8 (by kernel_rfl) (by kernel_rfl) (by kernel_rfl) (by kernel_rfl)) ?_
  intro W base args ds gs before hval hW _ _
  have hW2 := hW
  obtain ⟨p, q, hA, hV, rfl, _, _⟩ := hW2
  have hA : DataW.TrodAll enc Try.prog W 0 (fun _ => true) true Try.f6.params.toList args.toList ds p := hA
  have hAk := hA
  have hval : ∀ (j : Nat) t v, Try.f6.params[j]? = some t → args[j]? = some v → Value.okWide Try.prog W .any base t v := hval
  rw [Try.params6] at hA hval
  obtain ⟨v0, vs0, d0, ds0, p0, q0, hargs, rfl, rfl, h0, r0⟩ := trodAll_cons hA
  obtain ⟨v1, vs1, d1, ds1, p1, q1, rfl, rfl, rfl, h1, r1⟩ := trodAll_cons r0
  obtain ⟨v2, vs2, d2, ds2, p2, q2, rfl, rfl, rfl, h2, r2⟩ := trodAll_cons r1
  obtain ⟨rfl, rfl, rfl⟩ := trodAll_nil r2
  obtain rfl : args = #[v0, v1, v2] := by cases args; simp_all
  obtain ⟨rfl, rfl⟩ := trodVars_none hV
  obtain ⟨a0, rfl, rfl, rfl, w0⟩ := open_int Try.underlying3 (hval 0 3 v0 rfl rfl) h0
  obtain ⟨A1, z1, c1, rfl, _, m1, hr1⟩ := open_tris (hval 1 22 v1 rfl rfl) h1
  obtain ⟨a2, rfl, rfl, rfl, w2⟩ := open_int Try.underlying3 (hval 2 3 v2 rfl rfl) h2
  clear hA hval
  simp only [List.append_nil, List.nil_append] at hW hAk
  refine (preached_any a0 A1 z1 c1 a2 W hr1 m1).mono fun e W' ⟨he, hb⟩ => ?_
  subst he
  exact ⟨_, rfl, post_bool hW hb (by rw [Try.params6]; decide) hAk (fun _ => rfl) rfl rfl (by kernel_rfl)⟩

theorem preached_holds : Rows.PegReachedSaid :=
  OpenClaim.holds_of_wide 6 Try.f6 rfl rfl rfl rfl rfl rfl rfl ⟨rfl, rfl, rfl, rfl, rfl⟩ rfl rfl rfl rfl rfl (by kernel_rfl) Try.func6 (by kernel_rfl)
    (of_decide_eq_true (by kernel_rfl)) (by unfold Func.isWrapper; first | (rw [if_pos (by decide +kernel)]; kernel_rfl) | (rw [if_neg (by decide +kernel)]; exact ⟨rfl, rfl⟩))
    (fun os started H enc _ => preached_row os started H enc)

#print axioms preached_holds
end Go.Proofs.Ythbhengcinkepaa
