/- The reference's functions Sums and Results. -/
import Derived.Test.YtkkholagmjcgiaaRWays
import Derived.Test.YtkkholagmjcgiaaSums
import Derived.Test.YtkkholagmjcgiaaRank2
namespace Go.Proofs.Ytkkholagmjcgiaa
open Go.RowKit

theorem pairEq (a b c d : Int) (w : World) : (Op.equalIn 10000 59 (.agg #[.int .i64 a, .int .i64 b]) (.agg #[.int .i64 c, .int .i64 d])).run Try.prog w = .ok (a == c && b == d) w := by
  have u3 := Try.underlying2
  have a3 := Try.isAgg2
  have z3 := Try.sizeOf2
  rw [show (10000 : Nat) = 9999 + 1 from rfl, Op.equalIn]
  simp only [Sem.run_bind, run_underlying Try.underlying59, Result.andThen_ok]
  simp only [Std.Legacy.Range.forIn_eq_forIn_range', Std.Legacy.Range.size, Nat.sub_zero, Nat.add_sub_cancel, Nat.div_one, List.range'_succ, List.range'_zero, List.forIn_cons, List.forIn_nil]
  go_simp
  by_cases h1 : a = c <;> by_cases h2 : b = d <;> simp [h1, h2]
theorem pairEq_same (a b : Int) (w : World) : (Op.equalIn 10000 59 (.agg #[.int .i64 a, .int .i64 b]) (.agg #[.int .i64 a, .int .i64 b])).run Try.prog w = .ok true w := by
  rw [pairEq]
  simp

/-- The sums below s, each with its ways. -/
def sumsTo (ds : List (List Int)) (s : Nat) : List (Int × Int) := ((evK s).filter fun x => nz (waysF ds) x).map fun s => (s, waysF ds s)
theorem sumsTo_zero (ds : List (List Int)) : sumsTo ds 0 = [] := rfl
theorem sumsTo_yes {ds : List (List Int)} {s : Nat} (h : waysF ds s ≠ 0) : sumsTo ds (s + 1) = sumsTo ds s ++ [((s : Int), waysF ds s)] := by
  unfold sumsTo
  rw [evK_snoc, List.filter_append, List.map_append]
  congr 1
  rw [List.filter_cons, if_pos (nz_iff.2 h)]
  rfl
theorem sumsTo_no {ds : List (List Int)} {s : Nat} (h : waysF ds s = 0) : sumsTo ds (s + 1) = sumsTo ds s := by
  unfold sumsTo
  rw [evK_snoc, List.filter_append]
  have : nz (waysF ds) (s : Int) = false := by simp [nz, h]
  simp [this]
theorem sumsTo_len (ds : List (List Int)) (s : Nat) : (sumsTo ds s).length ≤ s := by
  unfold sumsTo
  rw [List.length_map]
  exact Nat.le_trans (List.length_filter_le _ _) (by simp [evK])
theorem sumsTo_all {ds : List (List Int)} (hd : ∀ d ∈ ds, IsDie d) (hl : ds.length ≤ 6) : sumsTo ds (maxW ds + 1) = sumsL ds := by
  unfold sumsTo sumsL keysW
  congr 1
  refine rising_unique ((evK_rising _).filter _) ((evK_rising _).filter _) fun x => ?_
  rw [List.mem_filter, List.mem_filter, mem_evK, mem_evK]
  constructor
  · rintro ⟨h1, h2⟩
    have h3 := (waysOk_all ds (fun d h => (hd d h).ok) hl).2 x (nz_iff.1 h2)
    exact ⟨by omega, h2⟩
  · rintro ⟨h1, h2⟩
    have h3 := waysF_max ds hd ds.length (Nat.le_refl _) x (by rw [List.take_length]; exact nz_iff.1 h2)
    rw [List.take_length] at h3
    exact ⟨h3, h2⟩
theorem maxW_le : ∀ {ds : List (List Int)}, (∀ d ∈ ds, IsDie d) → maxW ds ≤ 60 * ds.length
  | [], _ => by simp [maxW]
  | d :: r, h => by
    have ih := maxW_le (ds := r) fun x hx => h x (by simp [hx])
    have h1 := (die_last (h d (by simp))).2.1
    unfold maxW at ih ⊢
    simp only [List.map_cons, List.sum_cons, List.length_cons]
    omega

set_option maxRecDepth 100000 in
set_option maxHeartbeats 2000000 in
theorem RSums_any (A : Option Addr) (ds : List (List Int)) (c : Nat) (w : World) (hr : RDice w w.heap.size A ds) (hl : ds.length ≤ 6) (hd : ∀ d ∈ ds, IsDie d) :
    Calls Try.prog 37 #[.slice A ds.length c] w fun e w' => ∃ v, e = .returned v ∧ PRow w' w.heap.size v (sumsL ds) ∧ Below w.heap.size w w' := by
  have HW := Lib.hid (RWays_any A ds c w hr hl hd)
  have HALL := Lib.hid (sumsTo_all hd hl)
  have HOK := Lib.hid (waysOk_all ds (fun d h => (hd d h).ok) hl)
  have hmx := maxW_le hd
  obtain ⟨N, hN⟩ : ∃ N, maxW ds + 1 = N := ⟨_, rfl⟩
  rw [hN] at HW HALL
  have hN1 : N ≤ 361 := by omega
  clear hr hd hN hmx
  go_enter Try.func37, Try.ntmps37
  go_wp2_with fail
  refine HW.out.mono ?_
  rintro e w1 ⟨g1, rfl, hg1, hbx1, hb1⟩
  have HX1 := Lib.hid hbx1
  have HB1 := Lib.hid hb1
  obtain ⟨i0, hi, hz0, hz1, hz2⟩ := info_parts Try.info59
  clear hbx1 hb1 HW
  go_wp2_with fail
  go_loopg [4, 5] N (fun g sv i wx => ∃ (s : Nat) (v : Value), v = sv ∧ s + g = N ∧ i = .int .i64 s ∧ Hid (PRow wx w.heap.size v (sumsTo ds s)) ∧ Hid (Box wx g1 2 (rowW N (waysF ds))) ∧ Hid (Below w.heap.size w wx))
  case atStart => exact ⟨0, _, rfl, by omega, rfl, Lib.hid (PRow.nil_ _ _), HX1, HB1⟩
  case round =>
    obtain ⟨s, v, rfl, hs, rfl, HP1, HX2, HB2⟩ := hrel
    have HP := HP1
    have HX := HX2
    have HB := HB2
    clear HP1 HX2 HB2 HX1 HB1
    cases gk with
    | zero =>
      obtain rfl : s = N := by omega
      go_wp2_with fail
      go_ret
      refine ⟨v, rfl, ?_, HB.out⟩
      rw [← HALL.out]
      exact HP.out
    | succ g =>
      have hsN : (s : Int) < (N : Int) := by omega
      have hs0 : (0 : Int) ≤ (s : Int) := by omega
      have hcw := (HX.out.cell s).trans (rowW_at (by omega))
      obtain ⟨x, hx⟩ : ∃ x, waysF ds (s : Int) = x := ⟨_, rfl⟩
      have hx0 := (HOK.out.1 s).1
      rw [hx] at hcw hx0
      by_cases hz : x = 0
      · have HN := Lib.hid (sumsTo_no (hx.trans hz))
        subst hz
        clear hx
        go_wp2_with fail
        go_roundg g
        case measure => omega
        case rel => exact ⟨s + 1, v, rfl, by omega, by go_num, by rw [HN.out]; exact HP, HX, HB⟩
      · have HN := Lib.hid (sumsTo_yes (ds := ds) (s := s) (by rw [hx]; exact hz))
        rw [hx] at HN
        have hxp : 0 < x := by omega
        have hln := sumsTo_len ds s
        obtain ⟨L, hL⟩ : ∃ L, (sumsTo ds s).length = L := ⟨_, rfl⟩
        have hp1 := HP.out
        unfold PRow at hp1
        rw [hL] at hp1 hln
        have HP1 := Lib.hid hp1
        have HLL := Lib.hid hL
        have hsz : w.heap.size ≤ (wr.alloc (Obj.cells #[Value.int .i64 (s : Int), Value.int .i64 x] 59)).heap.size := by have := HB.out.size; simp; omega
        have HSZ := Lib.hid hsz
        have HNW := Lib.hid (World.news_of_block (w := wr.alloc (Obj.cells #[Value.int .i64 (s : Int), Value.int .i64 x] 59)) (cs := #[Value.int .i64 (s : Int), Value.int .i64 x]) (t := 59) (fr := (0, 0)) (heap_alloc_new wr _))
        have hk1 : L + 1 ≤ maxLen := by unfold maxLen; omega
        have hk2 : (L + 1) * 16 ≤ 140737488355328 := by omega
        clear hx hp1 hsz hL hz
        go_wp2_with (first
          | (at_builtin; refine wpList_append_own _ rfl _ _ 30 rfl w.heap.size 59 i0 (.agg #[.int .i64 0, .int .i64 0]) 2 16 Try.underlying30 hi hz0 hz1 hz2 rfl (by decide) _ _ _ rfl (World.ownsRow.alloc HP1.out _) ⟨wr.heap.size, 0, none⟩ 1 1 [.int .i64 (s : Int), .int .i64 x] rfl rfl HNW.out (by simp [Value.oneCell']) hk1 hk2 HSZ.out ?_; intro v9 w9 hown9 hg9 _))
        have hblk := PRow.blk HP1.out
        have hsa : (wr.alloc (Obj.cells #[Value.int .i64 (s : Int), Value.int .i64 x] 59)).heap.size = wr.heap.size + 1 := by simp
        have HPN := Lib.hid (show PRow w9 w.heap.size v9 (sumsTo ds (s + 1)) by
          unfold PRow
          rw [HN.out]
          have h1 : (sumsTo ds s ++ [((s : Int), x)]).length = L + 1 := by rw [List.length_append, HLL.out]; rfl
          rw [h1, List.flatMap_append]
          exact hown9)
        have HBN := Lib.hid (show Below w.heap.size w w9 from (HB.out.alloc HB.out.size _).grown hg9 (by rw [hsa]; have := HB.out.size; omega) (fun j hj => (hblk j hj).1))
        have HXN := Lib.hid (show Box w9 g1 2 (rowW N (waysF ds)) from (HX.out.alloc _).grown hg9 (fun e => by
          obtain ⟨_, _, cur, hcur⟩ := hblk g1 e.symm
          exact HX.out.ne hcur (by decide) rfl))
        clear hown9 hg9 hblk hsa
        go_roundg g
        case measure => omega
        case rel => exact ⟨s + 1, v9, rfl, by omega, by go_num, HPN, HXN, HBN⟩

set_option maxRecDepth 100000 in
set_option maxHeartbeats 1000000 in
theorem RResults_any (A : Option Addr) (ds : List (List Int)) (c B : Nat) (w : World) (hr : RDice w B A ds) (hd : AreDice ds) :
    Calls Try.prog 38 #[.slice A ds.length c] w fun e w' => e = .returned (.int .i64 (resL ds)) ∧ w = w' := by
  have HR := Lib.hid hr
  have HD := Lib.hid hd
  clear hr
  have h6 := hd.len
  clear hd
  go_enter Try.func38, Try.ntmps38
  go_wp2_with fail
  go_loopg [3, 4] ds.length (fun g nv i wx => ∃ k : Nat, k + g = ds.length ∧ i = .int .i64 k ∧ nv = .int .i64 (resTo ds k) ∧ w = wx)
  case atStart => exact ⟨0, by omega, rfl, rfl, rfl⟩
  case round =>
    obtain ⟨k, hk, rfl, rfl, rfl⟩ := hrel
    cases gk with
    | zero =>
      obtain rfl : k = ds.length := by omega
      go_wp2_with fail
      go_ret
      exact ⟨rfl, rfl⟩
    | succ g =>
      obtain ⟨b, o, a, cc, d, hA, hb, hx, hcx, hdc, hrd⟩ := HR.out.at_ (k := k) (by omega)
      subst hA
      have HST := Lib.hid (show resTo ds (k + 1) = resTo ds k * d.length by simp [resTo, List.getD, hx])
      have hle := resTo_le HD.out k (by omega)
      have hp8 : (8 : Nat) ^ k ≤ 8 ^ 6 := Nat.pow_le_pow_right (by decide) (by omega)
      have hdl := (HD.out.die d (List.mem_of_getElem? hx)).ok.1
      obtain ⟨m, hm⟩ : ∃ m, resTo ds k = m := ⟨_, rfl⟩
      rw [hm] at HST hle ⊢
      have hmul : m * d.length ≤ 262144 * 8 := Nat.mul_le_mul (by omega) hdl
      have hmul2 : (m : Int) * (d.length : Int) ≤ 2097152 := by
        have : ((m * d.length : Nat) : Int) ≤ 2097152 := by omega
        simpa using this
      have hmul0 : (0 : Int) ≤ (m : Int) * (d.length : Int) := Int.mul_nonneg (by omega) (by omega)
      have hki : (k : Int) < (ds.length : Int) := by omega
      have hk0 : (0 : Int) ≤ (k : Int) := by omega
      clear hx hm hp8 hmul hrd
      go_wp2_with fail
      go_roundg g
      case measure => omega
      case rel => exact ⟨k + 1, by omega, by go_num, by rw [HST.out]; simp, rfl⟩

end Go.Proofs.Ytkkholagmjcgiaa
