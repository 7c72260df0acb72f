/- Rules and Alike of package peg. -/
import Derived.Test.YthbhengcinkepaaPg4
import Derived.Test.YthbhengcinkepaaOnesC
import Derived.Test.YthbhengcinkepaaRulL
namespace Go.Proofs.Ythbhengcinkepaa
open Go.RowKit Lamp

theorem Rules_ok (A : Option Addr) (c n : Nat) (l : List Tri) (w : World) (hr : RTri w w.heap.size A l) (hc : checkT n l = 0) :
    Calls Try.prog 31 #[.int .i64 n, .slice A l.length c] w fun e w' => ∃ v, e = .returned (.tuple #[v, .int .i64 0]) ∧ OwnP 3 w' w.heap.size v (natV (rulesL n (eqsL l))) ∧ Below w.heap.size w w' := by
  obtain ⟨hn1, hn16, hl, hg⟩ := checkT_zero hc
  have HC := Lib.hid (Check_any A n l c w hr (by omega))
  have HR := Lib.hid hr
  have HZ := Lib.hid hc
  clear hr hc
  go_enter Try.func31, Try.ntmps31
  go_wp2_with fail
  refine HC.out.mono ?_
  rintro e w1 ⟨rfl, hb⟩
  rw [HZ.out]
  have HB := Lib.hid hb
  have HRU := Lib.hid (rules_any A c n l w1 ((HR.out.below hb).more hb.size) hl (by omega) (goodT_ok hg))
  clear hb
  go_wp2_with fail
  refine HRU.out.mono ?_
  rintro e w2 ⟨v, rfl, hv, hb2⟩
  have HV := Lib.hid (show OwnP 3 w2 w.heap.size v (natV (rulesL n (eqsL l))) from by
    rcases hv.2 with ⟨e, hl⟩ | ⟨g, cap, cur, rfl, hb0, hh, h2, h3, h4⟩
    · exact ⟨hv.1, .inl ⟨e, hl⟩⟩
    · exact ⟨hv.1, .inr ⟨g, cap, cur, rfl, Nat.le_trans HB.out.size hb0, hh, h2, h3, h4⟩⟩)
  have HB2 := Lib.hid (HB.out.trans (hb2.mono HB.out.size))
  clear hv hb2
  go_wp2_with fail
  go_ret2
  exact ⟨v, rfl, HV.out, HB2.out⟩
theorem Rules_bad (A : Option Addr) (c : Nat) (n : Int) (l : List Tri) (w : World) (hr : RTri w w.heap.size A l) (hl : l.length ≤ 1000000) (hc : checkT n l ≠ 0) :
    Calls Try.prog 31 #[.int .i64 n, .slice A l.length c] w fun e w' => e = .returned (.tuple #[.slice none 0 0, .int .i64 (checkT n l)]) ∧ Below w.heap.size w w' := by
  have HC := Lib.hid (Check_any A n l c w hr hl)
  have he : (checkT n l == 0) = false := by simpa using hc
  have he2 : (checkT n l != 0) = true := by simpa using hc
  clear hr hc
  go_enter Try.func31, Try.ntmps31
  go_wp2_with fail
  refine HC.out.mono ?_
  rintro e w1 ⟨rfl, hb⟩
  have HB := Lib.hid hb
  clear hb
  go_wp2_with fail
  go_ret2
  exact ⟨rfl, HB.out⟩

/-- Are two positions alike, by the rules of the basis? -/
def alikeB (n : Nat) (l : List Tri) (d : Nat) : Bool := (rulesL n (eqsL l)).all fun r => !decide (popc (r &&& d) % 2 = 1)
theorem alikeB_ip (n : Nat) (l : List Tri) (d : Nat) : alikeB n l d = true ↔ ∀ r ∈ rulesL n (eqsL l), ip r d = false := by
  unfold alikeB
  rw [List.all_eq_true]
  refine forall_congr' fun r => forall_congr' fun _ => ?_
  rw [popc_par, par_and]
  simp
theorem pos_2 (w : World) (p q : Int) : RInts (w.alloc (Obj.cells #[Value.int .i64 p, Value.int .i64 q] 3)) (w.alloc (Obj.cells #[Value.int .i64 p, Value.int .i64 q] 3)).heap.size (some ⟨w.heap.size, 0, none⟩) [p, q] := fun j u hu => by
  refine ⟨w.heap.size, 0, rfl, by simp, ?_⟩
  rw [Nat.zero_add, (Box.new w 3 #[Value.int .i64 p, Value.int .i64 q]).cell j]
  simpa using hu
theorem pos_1 (w : World) (p : Int) : RInts (w.alloc (Obj.cells #[Value.int .i64 p] 3)) (w.alloc (Obj.cells #[Value.int .i64 p] 3)).heap.size (some ⟨w.heap.size, 0, none⟩) [p] := fun j u hu => by
  refine ⟨w.heap.size, 0, rfl, by simp, ?_⟩
  rw [Nat.zero_add, (Box.new w 3 #[Value.int .i64 p]).cell j]
  simpa using hu
theorem RTri.up {w W : World} {A : Option Addr} {l : List Tri} (h : RTri w w.heap.size A l) (hb : Below w.heap.size w W) : RTri W W.heap.size A l := (h.below hb).more hb.size
theorem check_2 (A : Option Addr) (n : Int) (l : List Tri) (p q : Int) (c : Nat) (w : World) (hr : RTri w w.heap.size A l) (hl : l.length ≤ 1000000) :
    Calls Try.prog 57 #[.int .i64 n, .slice A l.length c, .slice (some ⟨w.heap.size, 0, none⟩) 2 2] (w.alloc (Obj.cells #[Value.int .i64 p, Value.int .i64 q] 3)) fun e w' => e = .returned (.int .i64 (checkPs n l [p, q])) ∧ Below w.heap.size w w' := by
  have hb := (Below.refl w.heap.size w).alloc (Nat.le_refl _) (Obj.cells #[Value.int .i64 p, Value.int .i64 q] 3)
  refine (check_any A (some ⟨w.heap.size, 0, none⟩) n l [p, q] 2 c 2 0 _ rfl (hr.up hb) hl (pos_2 w p q) (by simp)).mono ?_
  rintro e w' ⟨rfl, h2⟩
  exact ⟨rfl, hb.trans (h2.mono hb.size)⟩
theorem check_1 (A : Option Addr) (n : Int) (l : List Tri) (p : Int) (c : Nat) (w : World) (hr : RTri w w.heap.size A l) (hl : l.length ≤ 1000000) :
    Calls Try.prog 57 #[.int .i64 n, .slice A l.length c, .slice (some ⟨w.heap.size, 0, none⟩) 1 1] (w.alloc (Obj.cells #[Value.int .i64 p] 3)) fun e w' => e = .returned (.int .i64 (checkPs n l [p])) ∧ Below w.heap.size w w' := by
  have hb := (Below.refl w.heap.size w).alloc (Nat.le_refl _) (Obj.cells #[Value.int .i64 p] 3)
  refine (check_any A (some ⟨w.heap.size, 0, none⟩) n l [p] 1 c 1 0 _ rfl (hr.up hb) hl (pos_1 w p) (by simp)).mono ?_
  rintro e w' ⟨rfl, h2⟩
  exact ⟨rfl, hb.trans (h2.mono hb.size)⟩
theorem checkPs_ok {n : Nat} {l : List Tri} {xs : List Nat} (hc : checkT n l = 0) (hx : ∀ x ∈ xs, x < 2 ^ n) : checkPs n l (natV xs) = 0 := by
  unfold checkPs
  rw [if_pos hc, if_pos]
  rw [List.all_eq_true]
  intro x hm
  simp only [natV, List.mem_map] at hm
  obtain ⟨y, hy, rfl⟩ := hm
  have h1 := hx y hy
  unfold inPos
  rw [Bool.and_eq_true, decide_eq_true_eq, decide_eq_true_eq]
  refine ⟨by omega, ?_⟩
  have h2 : ((2 ^ n : Nat) : Int) = (2 : Int) ^ n := by simp
  rw [Int.toNat_natCast, ← h2]
  omega

set_option maxHeartbeats 2000000 in
theorem Alike_ok (A : Option Addr) (c n p q : Nat) (l : List Tri) (w : World) (hr : RTri w w.heap.size A l) (hc : checkT n l = 0) (hp : p < 2 ^ n) (hq : q < 2 ^ n) :
    Calls Try.prog 32 #[.int .i64 n, .slice A l.length c, .int .i64 p, .int .i64 q] w fun e w' => e = .returned (.tuple #[.bool (alikeB n l (p ^^^ q)), .int .i64 0]) ∧ Below w.heap.size w w' := by
  obtain ⟨hn1, hn16, hl, hg⟩ := checkT_zero hc
  have hp16 : (2:Nat) ^ n ≤ 65536 := Nat.pow_le_pow_right (n := 2) (by decide) (by omega : n ≤ 16)
  have HC := Lib.hid (check_2 A n l p q c w hr (by omega))
  have HZ := Lib.hid (show checkPs n l [(p : Int), (q : Int)] = 0 from checkPs_ok (xs := [p, q]) hc (by simp; exact ⟨hp, hq⟩))
  have HR := Lib.hid hr
  have HOK := Lib.hid (goodT_ok hg)
  have HE := Lib.hid (Ech.all_ (eqsL_lt (goodT_ok hg)) n)
  have hp' : p < 65536 := by omega
  have hq' : q < 65536 := by omega
  have HX := Lib.hid (i64_xor p q (by omega) (by omega))
  have hd : p ^^^ q < 65536 := Nat.xor_lt_two_pow (n := 16) hp' hq'
  obtain ⟨d, hdd⟩ : ∃ d, p ^^^ q = d := ⟨_, rfl⟩
  rw [hdd] at hd HX ⊢
  have HD := Lib.hid hd
  have HAL := Lib.hid (show alikeB n l d = (rulesL n (eqsL l)).all fun r => !decide (popc (r &&& d) % 2 = 1) from rfl)
  have HRLT := Lib.hid (show ∀ x ∈ rulesL n (eqsL l), x < 65536 from fun x hx => Nat.lt_of_lt_of_le (rulesL_in (by omega : n ≤ 16) (eqsL_lt (goodT_ok hg)) hx).2.1 hp16)
  have HRLN := Lib.hid (show (rulesL n (eqsL l)).length ≤ 16 from Nat.le_trans (basisK_len _ _ _) (by omega))
  clear hr hc hg hp hq hp16 hdd hd
  go_enter Try.func32, Try.ntmps32
  go_wp2_with fail
  refine HC.out.mono ?_
  rintro e w1 ⟨rfl, hb⟩
  rw [HZ.out]
  have HB := Lib.hid hb
  have HRU := Lib.hid (rules_any A c n l w1 (HR.out.up hb) hl (by omega) HOK.out)
  clear hb HC
  go_wp2_with fail
  refine HRU.out.mono ?_
  rintro e w2 ⟨v, rfl, hv, hb2⟩
  have HB2 := Lib.hid (HB.out.trans (hb2.mono HB.out.size))
  obtain ⟨R, hR⟩ : ∃ R, rulesL n (eqsL l) = R := ⟨_, rfl⟩
  rw [hR] at hv HAL HRLT HRLN
  obtain ⟨A2, c2, rfl, hv2⟩ := hv.reads
  rw [natV_len]
  have HV := Lib.hid hv2
  have hRl := HRLN.out
  clear hv hb2 hv2 hR HRU HE HOK
  go_wp2_with fail
  go_loop [26] (fun qv => ∃ i : Nat, qv = .int .i64 i ∧ i ≤ R.length ∧ Hid ((R.take i).all (fun r => !decide (popc (r &&& d) % 2 = 1)) = true)) (fun qv => R.length - (intOf qv).toNat)
  case atStart => exact ⟨0, rfl, by omega, Lib.hid rfl⟩
  case round =>
    obtain ⟨i, rfl, hi, HI1⟩ := hrel
    have HI := HI1
    clear HI1
    by_cases hil : i < R.length
    · obtain ⟨b, o, hA, hb, hcx⟩ := HV.out.getN (i := i) hil
      subst hA
      have HT := Lib.hid (show (R.take (i + 1)).all (fun r => !decide (popc (r &&& d) % 2 = 1)) = ((R.take i).all (fun r => !decide (popc (r &&& d) % 2 = 1)) && !decide (popc (R.getD i 0 &&& d) % 2 = 1)) by
        rw [List.take_succ_eq_append_getElem hil, List.all_append, List.getD_eq_getElem?_getD, List.getElem?_eq_getElem hil]; simp)
      have HM := Lib.hid (show R.getD i 0 ∈ R by rw [List.getD_eq_getElem?_getD, List.getElem?_eq_getElem hil]; exact List.getElem_mem hil)
      have HRL := Lib.hid (HRLT.out _ HM.out)
      obtain ⟨r, hr⟩ : ∃ r, R.getD i 0 = r := ⟨_, rfl⟩
      rw [hr] at hcx HT HM HRL
      have HAN := Lib.hid (i64_and r d (by have := HRL.out; omega) (by have := HD.out; omega))
      obtain ⟨x, hx⟩ : ∃ x, r &&& d = x := ⟨_, rfl⟩
      have hx16 : x < 65536 := by rw [← hx]; exact Nat.lt_of_le_of_lt Nat.and_le_left HRL.out
      rw [hx] at HT HAN
      have HXE := Lib.hid hx
      have HU := Lib.hid (u64_in (x := (x : Int)) (by omega) (by omega))
      have HP := Lib.hid (OnesCount_any x w2 hx16)
      have hpc := popK_le x 16
      obtain ⟨m, hm⟩ : ∃ m, popc x = m := ⟨_, rfl⟩
      have hm16 : m ≤ 16 := by rw [← hm]; exact hpc
      rw [hm] at HP HT
      have HMM := Lib.hid hm
      clear hr hx hpc hm
      by_cases hodd : m % 2 = 1
      · have h1 : ((m : Int).tmod 2) = 1 := by rw [Int.tmod_eq_emod_of_nonneg (by omega)]; omega
        have h2 : ((m : Int) % 2) = 1 := by omega
        go_wp2_with (go_at_call 70; rw [HX.out, HAN.out, HU.out]; refine HP.out.mono ?_; rintro e w' ⟨rfl, rfl⟩)
        go_ret2
        refine ⟨?_, HB2.out⟩
        have h3 : R.all (fun r => !decide (popc (r &&& d) % 2 = 1)) = false := by
          rw [List.all_eq_false]
          exact ⟨r, HM.out, by rw [HXE.out, HMM.out, decide_eq_true hodd]; simp⟩
        rw [HAL.out, h3]; rfl
      · have h1 : ((m : Int).tmod 2) = 0 := by rw [Int.tmod_eq_emod_of_nonneg (by omega)]; omega
        have h2 : ((m : Int) % 2) = 0 := by omega
        go_wp2_with (go_at_call 70; rw [HX.out, HAN.out, HU.out]; refine HP.out.mono ?_; rintro e w' ⟨rfl, rfl⟩)
        go_round
        case rel => exact ⟨i + 1, by go_num, by omega, Lib.hid (by rw [HT.out, HI.out, decide_eq_false hodd]; rfl)⟩
        case measure => simp [intOf]; omega
    · obtain rfl : i = R.length := by omega
      go_wp2_with fail
      go_ret2
      refine ⟨?_, HB2.out⟩
      have h3 := HI.out
      rw [List.take_length] at h3
      rw [HAL.out, h3]; rfl
end Go.Proofs.Ythbhengcinkepaa
