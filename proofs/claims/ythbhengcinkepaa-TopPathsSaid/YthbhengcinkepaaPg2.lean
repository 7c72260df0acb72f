/- The check of a board and of positions; equations modulo 2: an unknown is asked for, taken out of one, taken out of all but one. -/
import Derived.Test.YthbhengcinkepaaPg1
import Derived.Test.YthbhengcinkepaaRowN
import Derived.Test.YthbhengcinkepaaElimL
namespace Go.Proofs.Ythbhengcinkepaa
open Go.RowKit Lamp

/-- The error of check: of the graph, or of the sets. -/
def inPos (n : Int) (x : Int) : Bool := decide (0 ≤ x) && decide (x < 2 ^ n.toNat)
def checkPs (n : Int) (l : List Tri) (xs : List Int) : Int := if checkT n l = 0 then (if xs.all (inPos n) = true then 0 else 1) else checkT n l
theorem pow_in {m : Nat} (h : m ≤ 16) : (1 : Int) ≤ 2 ^ m ∧ (2 : Int) ^ m ≤ 65536 := by
  have h1 : ((2 ^ m : Nat) : Int) = (2 : Int) ^ m := by simp
  have h2 : (2:Nat) ^ m ≤ 2 ^ 16 := Nat.pow_le_pow_right (by decide) h
  have h3 := Nat.two_pow_pos m
  omega
theorem inPos_no {n x : Int} (hn : n ≤ 16) (h : x < 0 ∨ wrap64 (2 ^ n.toNat) ≤ x) : inPos n x = false := by
  have h1 := pow_in (m := n.toNat) (by omega)
  rw [w64 (by omega)] at h
  unfold inPos
  rw [Bool.and_eq_false_iff, decide_eq_false_iff_not, decide_eq_false_iff_not]
  omega
theorem inPos_yes {n x : Int} (hn : n ≤ 16) (h : 0 ≤ x ∧ x < wrap64 (2 ^ n.toNat)) : inPos n x = true := by
  have h1 := pow_in (m := n.toNat) (by omega)
  rw [w64 (by omega)] at h
  unfold inPos
  rw [Bool.and_eq_true, decide_eq_true_eq, decide_eq_true_eq]
  exact h
theorem all_notP {p : Int → Bool} {xs : List Int} {k : Nat} {x : Int} (h : xs[k]? = some x) (hp : p x = false) : ¬ xs.all p = true := by
  rw [List.all_eq_true]
  intro hc
  rw [hc x (List.mem_of_getElem? h)] at hp
  cases hp
theorem checkT_zero {n : Int} {l : List Tri} (h : checkT n l = 0) : 1 ≤ n ∧ n ≤ 16 ∧ l.length ≤ 40 ∧ goodT n l l.length = true := by
  unfold checkT at h
  split at h
  · omega
  · split at h
    · omega
    · split at h
      · exact ⟨by omega, by omega, by omega, by assumption⟩
      · omega

set_option maxHeartbeats 1000000 in
theorem check_any (A X : Option Addr) (n : Int) (l : List Tri) (xs : List Int) (m c cx _B : Nat) (w : World) (hm : m = xs.length) (hr : RTri w w.heap.size A l) (hl : l.length ≤ 1000000) (hx : RInts w w.heap.size X xs) (hxl : xs.length ≤ 1000000) :
    Calls Try.prog 57 #[.int .i64 n, .slice A l.length c, .slice X m cx] w fun e w' => e = .returned (.int .i64 (checkPs n l xs)) ∧ Below w.heap.size w w' := by
  subst hm
  have HX := Lib.hid hx
  have HC := Lib.hid (Check_any A n l c w hr hl)
  have HD := Lib.hid (show checkPs n l xs = if checkT n l = 0 then (if xs.all (inPos n) = true then 0 else 1) else checkT n l from rfl)
  clear hr hx
  by_cases he : checkT n l = 0
  · obtain ⟨hn1, hn16, _, _⟩ := checkT_zero he
    have HE := Lib.hid he
    clear he
    go_enter Try.func57, Try.ntmps57
    go_wp2_with fail
    refine HC.out.mono ?_
    rintro e w1 ⟨rfl, hb⟩
    rw [HE.out]
    have HB := Lib.hid hb
    clear hb
    go_wp2_with fail
    go_loop [18] (fun i => ∃ k : Nat, i = .int .i64 k ∧ k ≤ xs.length ∧ Hid ((xs.take k).all (inPos n) = true)) (fun i => xs.length - (intOf i).toNat)
    case atStart => exact ⟨0, rfl, by omega, Lib.hid rfl⟩
    case round =>
      obtain ⟨k, rfl, hk, HK1⟩ := hrel
      have HK := HK1
      clear HK1
      by_cases hlt : k < xs.length
      · obtain ⟨b, o, x, hA, hb, hxk, hcx⟩ := (HX.out.below HB.out).at_ hlt
        subst hA
        have HXK := Lib.hid hxk
        clear hxk
        have HT := Lib.hid (show (xs.take (k + 1)).all (inPos n) = ((xs.take k).all (inPos n) && inPos n x) by
          have h2 := List.getElem?_eq_some_iff.1 HXK.out
          rw [List.take_succ_eq_append_getElem h2.1, h2.2, List.all_append]; simp)
        go_wp2_with fail
        · have hq : x < 0 ∨ wrap64 (2 ^ n.toNat) ≤ x := by assumption
          have HQ := Lib.hid hq
          clear hq
          go_ret
          exact ⟨ret_int (by rw [HD.out, if_pos HE.out, if_neg (all_notP HXK.out (inPos_no hn16 HQ.out))]), HB.out⟩
        · have hq : 0 ≤ x ∧ x < wrap64 (2 ^ n.toNat) := by assumption
          have HQ := Lib.hid hq
          clear hq
          go_round
          case rel => exact ⟨k + 1, by go_num, by omega, Lib.hid (by rw [HT.out, HK.out, inPos_yes hn16 HQ.out]; rfl)⟩
          case measure => simp [intOf]; omega
        · have hq : x < 0 := by assumption
          have HQ := Lib.hid hq
          clear hq
          go_ret
          exact ⟨ret_int (by rw [HD.out, if_pos HE.out, if_neg (all_notP HXK.out (inPos_no hn16 (.inl HQ.out)))]), HB.out⟩
      · obtain rfl : k = xs.length := by omega
        go_wp2_with fail
        go_ret
        exact ⟨ret_int (by rw [HD.out, if_pos HE.out, if_pos (by have := HK.out; rwa [List.take_length] at this)]), HB.out⟩
  · have he' : (checkT n l == 0) = false := by simpa using he
    have he2 : (checkT n l != 0) = true := by simpa using he
    have HE := Lib.hid he
    clear he
    go_enter Try.func57, Try.ntmps57
    go_wp2_with fail
    refine HC.out.mono ?_
    rintro e w1 ⟨rfl, hb⟩
    go_wp2_with fail
    go_ret
    exact ⟨ret_int (by rw [HD.out, if_neg HE.out]), hb⟩


theorem has_any (x u : Nat) (w : World) (hx : x < 65536) :
    Calls Try.prog 115 #[.int .i64 x, .int .i64 u] w fun e w' => e = .returned (.bool (x.testBit u)) ∧ w = w' := by
  have hb := Lib.hid (bit_test x u (by omega))
  have hu : (0 : Int) ≤ (u : Int) := by omega
  go_enter Try.func115, Try.ntmps115
  go_wp2_with fail
  go_ret
  exact ⟨ret_bool (by rw [← hb.out]), rfl⟩
theorem has_of {x u : Nat} {v : Bool} (w : World) (hx : x < 65536) (h : x.testBit u = v) :
    Calls Try.prog 115 #[.int .i64 x, .int .i64 u] w fun e w' => e = .returned (.bool v) ∧ w = w' := by
  rw [← h]; exact has_any x u w hx
theorem without_any (x y : Nat) (u : Int) (w : World) (hx : x < 65536) (hy : y < 65536) :
    Calls Try.prog 212 #[.int .i64 x, .int .i64 u, .int .i64 y] w fun e w' => e = .returned (.int .i64 ((x ^^^ y : Nat) : Int)) ∧ w = w' := by
  have hb := Lib.hid (i64_xor x y (by omega) (by omega))
  go_enter Try.func212, Try.ntmps212
  go_wp2_with fail
  go_ret
  exact ⟨ret_int (by rw [← hb.out]), rfl⟩
theorem natV_get {E : List Nat} {j : Nat} (h : j < E.length) : (natV E)[j]? = some ((E.getD j 0 : Nat) : Int) := by
  simp [natV, List.getElem?_eq_getElem h]
theorem natV_set (E : List Nat) (j x : Nat) : (natV E).set j ((x : Nat) : Int) = natV (E.set j x) := by
  unfold natV; rw [List.map_set]
theorem natV_nil {E : List Nat} (h : E ≠ []) : natV E ≠ [] := by
  unfold natV; simpa using h

set_option maxHeartbeats 2000000 in
theorem isolate_any (g k : Nat) (E : List Nat) (i u : Nat) (w : World) (hE : RowN 171 w g k (natV E)) (hi : i < E.length) (hl : E.length ≤ 1000) (hb : ∀ j, E.getD j 0 < 65536) :
    Calls Try.prog 162 #[.slice (some ⟨g, 0, none⟩) E.length k, .int .i64 i, .int .i64 u] w fun e w' => e = .returned (.tuple #[]) ∧ RowN 171 w' g k (natV (isoL E i u)) ∧ Turn (fun b => b = g) w w' := by
  have HE := Lib.hid hE
  have HBB := Lib.hid hb
  clear hE hb
  go_enter Try.func162, Try.ntmps162
  go_wp2_with fail
  go_loopw [10] (fun q wr => ∃ j : Nat, q = .int .i64 j ∧ j ≤ E.length ∧ Hid (RowN 171 wr g k (natV (isoK E i u j))) ∧ Hid (Turn (fun b => b = g) w wr)) (fun q _ => E.length - (intOf q).toNat)
  case atStart => exact ⟨0, rfl, by omega, HE, Lib.hid (Turn.refl _ _)⟩
  case round =>
    clear HE
    obtain ⟨j, rfl, hj, HR1, HT1⟩ := hrel
    have HR := HR1
    have HT := HT1
    clear HR1 HT1
    by_cases hlt : j < E.length
    · have hlen := isoK_len E i u j
      have hcj := HR.out.at_ (natV_get (j := j) (by rw [hlen]; exact hlt))
      rw [isoK_at E i u j (by omega) j, if_neg (fun h => Nat.lt_irrefl _ h.1)] at hcj
      have hci := HR.out.at_ (natV_get (j := i) (by rw [hlen]; exact hi))
      rw [isoK_at E i u j (by omega) i, if_neg (fun h => h.2.1 rfl)] at hci
      have hfr := HR.out.free j
      obtain ⟨x, hx⟩ : ∃ x, E.getD j 0 = x := ⟨_, rfl⟩
      obtain ⟨y, hy⟩ : ∃ y, E.getD i 0 = y := ⟨_, rfl⟩
      rw [hx] at hcj
      rw [hy] at hci
      have HX := Lib.hid hx
      have HY := Lib.hid hy
      have HXB := Lib.hid (show x < 65536 by rw [← hx]; exact HBB.out j)
      have HYB := Lib.hid (show y < 65536 by rw [← hy]; exact HBB.out i)
      have HD := Lib.hid (show isoK E i u (j + 1) = if j ≠ i ∧ (E.getD j 0).testBit u = true then (isoK E i u j).set j (E.getD j 0 ^^^ E.getD i 0) else isoK E i u j from rfl)
      clear hx hy hlen
      by_cases hji : j = i
      · have hne : ((j : Int) != (i : Int)) = false := by simp [hji]
        have HJI := Lib.hid hji
        clear hji
        go_wp2_with fail
        go_roundw
        case rel => exact ⟨j + 1, by go_num, by omega, by rw [HD.out, if_neg (fun h => h.1 HJI.out)]; exact HR, HT⟩
        case measure => simp [intOf]; omega
      · have hne : ((j : Int) != (i : Int)) = true := by simp; omega
        have HJI := Lib.hid hji
        clear hji
        cases hbit : x.testBit u
        · have HBT := Lib.hid hbit
          clear hbit
          go_wp2_with (go_at_call 115; refine (has_of _ HXB.out HBT.out).mono ?_; rintro e w' ⟨rfl, rfl⟩)
          go_roundw
          case rel => exact ⟨j + 1, by go_num, by omega, by rw [HD.out, if_neg (fun h => by have h2 := h.2; rw [HX.out, HBT.out] at h2; cases h2)]; exact HR, HT⟩
          case measure => simp [intOf]; omega
        · have HBT := Lib.hid hbit
          clear hbit
          go_wp2_with (first
            | (go_at_call 115; refine (has_of _ HXB.out HBT.out).mono ?_; rintro e w' ⟨rfl, rfl⟩)
            | (go_at_call 212; refine (without_any x y _ _ HXB.out HYB.out).mono ?_; rintro e w' ⟨rfl, rfl⟩))
          clear hcj hci hfr
          go_roundw
          case rel =>
            refine ⟨j + 1, by go_num, by omega, ?_, Lib.hid (HT.out.setCell (.inl rfl) _)⟩
            have h1 := HR.out.put j ((x ^^^ y : Nat) : Int)
            rw [natV_set] at h1
            rw [HD.out, if_pos ⟨HJI.out, by rw [HX.out]; exact HBT.out⟩, HX.out, HY.out]
            exact Lib.hid h1
          case measure => simp [intOf]; omega
    · obtain rfl : j = E.length := by omega
      go_wp2_with fail
      go_end0
      exact ⟨rfl, HR.out, HT.out⟩
end Go.Proofs.Ythbhengcinkepaa
