/- The reference's Size, top and Rule (package peg): the number of holes of a set, its greatest hole, whether it is a rule. -/
import Derived.Test.YthbhengcinkepaaPg5
import Derived.Test.YthbhengcinkepaaGames
namespace Go.Proofs.Ythbhengcinkepaa
open Go.RowKit Lamp

theorem popK_stop2 {x k : Nat} (h : x / 2 ^ k = 0) : ∀ j, k ≤ j → popK x j = popK x k
  | 0, hj => by obtain rfl : k = 0 := by omega
                rfl
  | j + 1, hj => by
    by_cases e : k = j + 1
    · rw [e]
    · rw [popK, popK_stop2 h j (by omega)]
      have h1 : x < 2 ^ k := by
        have := Nat.lt_mul_div_succ x (Nat.two_pow_pos k)
        rw [h] at this
        simpa using this
      rw [Nat.div_eq_of_lt (Nat.lt_of_lt_of_le h1 (Nat.pow_le_pow_right (by decide) (by omega)))]
      simp
set_option maxRecDepth 100000 in
theorem RSize2_any (x : Nat) (w : World) (hx : x < 65536) :
    Calls Try.prog 27 #[.int .i64 x] w fun e w' => e = .returned (.int .i64 ((popc x : Nat) : Int)) ∧ w = w' := by
  have hx' : (x : Int) < 65536 := by omega
  go_enter Try.func27, Try.ntmps27
  go_wp2_with fail
  go_loop [3, 4] (fun t i => ∃ k : Nat, i = .int .i64 k ∧ k ≤ 16 ∧ t = .int .i64 ((popK x k : Nat) : Int)) (fun _ i => 16 - (intOf i).toNat)
  case atStart => exact ⟨0, rfl, by omega, rfl⟩
  case round =>
    obtain ⟨k, rfl, hk, rfl⟩ := hrel
    obtain ⟨d, hd⟩ : ∃ d, x / 2 ^ k = d := ⟨_, rfl⟩
    have hdi : (x : Int) / 2 ^ k = (d : Int) := by rw [← hd]; simp
    have HD := Lib.hid hd
    have hp := popK_le x k
    have HP := Lib.hid (show popK x (k + 1) = popK x k + d % 2 by rw [popK, hd])
    have HS := Lib.hid (fun h0 : d = 0 => popK_stop2 (x := x) (k := k) (by rw [hd]; exact h0) 16 hk)
    have HK := Lib.hid (show d ≠ 0 → k < 16 from fun h0 => by
      apply Decidable.byContradiction
      intro hc
      obtain rfl : k = 16 := by omega
      exact h0 (by rw [← hd]; exact Nat.div_eq_of_lt hx))
    obtain ⟨t, ht⟩ : ∃ t, popK x k = t := ⟨_, rfl⟩
    rw [ht] at hp HP HS ⊢
    clear hd ht hx hx'
    by_cases h0 : d = 0
    · have HE := Lib.hid (HS.out h0)
      have hd0 : ¬ (0 : Int) < (d : Int) := by omega
      clear h0
      go_wp2
      go_ret
      exact ⟨ret_int (by show _ = ((popK x 16 : Nat) : Int); rw [HE.out]), rfl⟩
    · have hd0 : (0 : Int) < (d : Int) := by omega
      have hk16 := HK.out h0
      go_wp2
      go_round
      case rel => exact ⟨k + 1, by go_num, by omega, val_int (by rw [HP.out]; omega)⟩
      case measure => simp [intOf]; omega
theorem RSize2_of {x : Nat} (a : Int) (w : World) (ha : a = (x : Int)) (hx : x < 65536) {v : Nat} (hv : popc x = v) :
    Calls Try.prog 27 #[.int .i64 a] w fun e w' => e = .returned (.int .i64 (v : Int)) ∧ w = w' := by
  subst ha hv; exact RSize2_any x w hx

theorem div_logP {x k : Nat} (hx : x ≠ 0) : (1 < x / 2 ^ k ↔ k < x.log2) := by
  have h1 := log2_le hx
  have h2 := lt_log2 x
  constructor
  · intro h
    apply Decidable.byContradiction
    intro hc
    have h3 : (2:Nat) ^ (x.log2 + 1) ≤ 2 ^ (k + 1) := Nat.pow_le_pow_right (by decide) (by omega)
    have h4 : x / 2 ^ k < 2 := by
      rw [Nat.div_lt_iff_lt_mul (Nat.two_pow_pos k)]
      rw [Nat.pow_succ] at h3
      omega
    omega
  · intro h
    have h3 : (2:Nat) ^ (k + 1) ≤ 2 ^ x.log2 := Nat.pow_le_pow_right (by decide) (by omega)
    have h4 : 2 ≤ x / 2 ^ k := by
      rw [Nat.le_div_iff_mul_le (Nat.two_pow_pos k)]
      rw [Nat.pow_succ] at h3
      omega
    omega
set_option maxRecDepth 100000 in
theorem top2_any (x : Nat) (w : World) (hx0 : x ≠ 0) (hx : x < 65536) {t : Nat} (ht : x.log2 = t) :
    Calls Try.prog 72 #[.int .i64 x] w fun e w' => e = .returned (.int .i64 (t : Int)) ∧ w = w' := by
  have hl : x.log2 < 16 := log2_lt' hx0 hx
  rw [ht] at hl
  have HD := Lib.hid (fun k => div_logP (k := k) hx0)
  rw [ht] at HD
  clear hx ht hx0
  go_enter Try.func72, Try.ntmps72
  go_wp2_with fail
  go_loop [3] (fun i => ∃ k : Nat, i = .int .i64 k ∧ k ≤ t) (fun i => 16 - (intOf i).toNat)
  case atStart => exact ⟨0, rfl, by omega⟩
  case round =>
    obtain ⟨k, rfl, hk⟩ := hrel
    obtain ⟨d, hd⟩ : ∃ d, x / 2 ^ k = d := ⟨_, rfl⟩
    have hdi : (x : Int) / 2 ^ k = (d : Int) := by rw [← hd]; simp
    have h := HD.out k
    rw [hd] at h
    clear hd
    by_cases hkt : k < t
    · have hd0 : (1 : Int) < (d : Int) := by have := h.2 hkt; omega
      clear h
      go_wp2
      go_round
      case rel => exact ⟨k + 1, by go_num, by omega⟩
      case measure => simp [intOf]; omega
    · obtain rfl : k = t := by omega
      have hd0 : ¬ (1 : Int) < (d : Int) := fun hc => by have := h.1 (by omega); omega
      clear h
      go_wp2
      go_ret
      exact ⟨rfl, rfl⟩

theorem isRule_take {l : List Tri} {k : Nat} {x : Nat} {e : Tri} (h : l[k]? = some e) : isRule (eqsL (l.take (k + 1))) x = (isRule (eqsL (l.take k)) x && !ip x (holesM e)) := by
  rw [eqsL_take l k e h]
  unfold isRule
  rw [List.all_append]
  simp
theorem isRule_not {l : List Tri} {x : Nat} {k : Nat} {e : Tri} (h : l[k]? = some e) (hp : ip x (holesM e) = true) : isRule (eqsL l) x = false := by
  unfold isRule eqsL
  rw [List.all_eq_false]
  exact ⟨holesM e, List.mem_map.2 ⟨e, List.mem_of_getElem? h, rfl⟩, by simp [hp]⟩

set_option maxHeartbeats 4000000 in
theorem RRule_any (A : Option Addr) (c n x : Nat) (l : List Tri) (w : World) (hr : RTri w w.heap.size A l) (hl : l.length ≤ 1000000) (hn : n ≤ 16) (ho : LinesOk n l) (hx : x < 65536) :
    Calls Try.prog 44 #[.slice A l.length c, .int .i64 x] w fun e w' => e = .returned (.bool (isRule (eqsL l) x)) ∧ Below w.heap.size w w' := by
  have HR := Lib.hid hr
  have HOK := Lib.hid ho
  have HX := Lib.hid hx
  clear hr ho hx
  go_enter Try.func44, Try.ntmps44
  go_wp2_with fail
  go_loopw [5] (fun qv ws => ∃ i : Nat, qv = .int .i64 i ∧ i ≤ l.length ∧ Hid (isRule (eqsL (l.take i)) x = true) ∧ Hid (Below w.heap.size w ws)) (fun qv _ => l.length - (intOf qv).toNat)
  case atStart => exact ⟨0, rfl, by omega, Lib.hid rfl, Lib.hid (Below.refl _ _)⟩
  case round =>
    obtain ⟨i, rfl, hi, HI1, HB1⟩ := hrel
    have HI := HI1
    have HB := HB1
    clear HI1 HB1
    by_cases hil : i < l.length
    · obtain ⟨b, o, y0, y1, y2, hA, hb, hy, hc0, hc1, hc2⟩ := (HR.out.up HB.out).at_ (k := i) hil
      subst hA
      obtain ⟨p, q, r, he, hp, hq, hr, hpq, hpr, hqr⟩ := (HOK.out _ (List.mem_of_getElem? hy)).nats
      cases he
      have HT := Lib.hid (isRule_take (x := x) hy)
      have HNO := Lib.hid (isRule_not (x := x) hy)
      have HP := Lib.hid (rule_par x (by omega : p < 16) (by omega : q < 16) (by omega : r < 16) hpq hpr hqr)
      obtain ⟨u, hu⟩ : ∃ u, x / 2 ^ p = u := ⟨_, rfl⟩
      obtain ⟨v, hv⟩ : ∃ v, x / 2 ^ q = v := ⟨_, rfl⟩
      obtain ⟨t, ht⟩ : ∃ t, x / 2 ^ r = t := ⟨_, rfl⟩
      have hui : (x : Int) / 2 ^ p = (u : Int) := by rw [← hu]; simp
      have hvi : (x : Int) / 2 ^ q = (v : Int) := by rw [← hv]; simp
      have hti : (x : Int) / 2 ^ r = (t : Int) := by rw [← ht]; simp
      have hu6 : u < 65536 := by rw [← hu]; exact Nat.lt_of_le_of_lt (Nat.div_le_self _ _) HX.out
      have hv6 : v < 65536 := by rw [← hv]; exact Nat.lt_of_le_of_lt (Nat.div_le_self _ _) HX.out
      have ht6 : t < 65536 := by rw [← ht]; exact Nat.lt_of_le_of_lt (Nat.div_le_self _ _) HX.out
      rw [hu, hv, ht] at HP
      clear hu hv ht hy
      go_upto_region 5 with fail
      have hbx := Box.new wr 30 #[Value.int .i64 p, Value.int .i64 q, Value.int .i64 r]
      have hB1 := HB.out.alloc HB.out.size (Obj.cells #[Value.int .i64 p, Value.int .i64 q, Value.int .i64 r] 30)
      obtain ⟨W1, hW1⟩ : ∃ W1, wr.alloc (Obj.cells #[Value.int .i64 p, Value.int .i64 q, Value.int .i64 r] 30) = W1 := ⟨_, rfl⟩
      rw [hW1] at hbx hB1 ⊢
      have x0 := hbx.cell 0
      have x1 := hbx.cell 1
      have x2 := hbx.cell 2
      simp only [List.getElem?_toArray, List.getElem?_cons_zero, List.getElem?_cons_succ] at x0 x1 x2
      have HB2 := Lib.hid hB1
      clear hW1 hbx hB1 hc0 hc1 hc2
      by_cases hodd : (u + v + t) % 2 = 1
      · have HF := Lib.hid (HNO.out (by rw [HP.out]; exact decide_eq_true hodd))
        have h1 : ((u : Int) + (v : Int) + (t : Int)) % 2 = 1 := by omega
        have h2 : ((u : Int) + (v : Int) + (t : Int)).tmod 2 = 1 := by rw [Int.tmod_eq_emod_of_nonneg (by omega)]; omega
        clear hodd
        go_quiet (fail)
        go_wp2_with fail
        go_ret
        exact ⟨ret_bool HF.out.symm, below_drewN HB2.out nq⟩
      · have HF := Lib.hid (show isRule (eqsL (l.take (i + 1))) x = true by rw [HT.out, HI.out, HP.out, decide_eq_false hodd]; rfl)
        have h1 : ((u : Int) + (v : Int) + (t : Int)) % 2 = 0 := by omega
        have h2 : ((u : Int) + (v : Int) + (t : Int)).tmod 2 = 0 := by rw [Int.tmod_eq_emod_of_nonneg (by omega)]; omega
        clear hodd
        go_quiet (fail)
        go_wp2_with fail
        go_roundw
        case rel => exact ⟨i + 1, by go_num, by omega, HF, Lib.hid (below_drewN HB2.out nq)⟩
        case measure => simp [intOf]; omega
    · obtain rfl : i = l.length := by omega
      go_wp2_with fail
      go_ret
      refine ⟨ret_bool ?_, HB.out⟩
      have h3 := HI.out
      rw [List.take_length] at h3
      exact h3.symm
end Go.Proofs.Ythbhengcinkepaa
