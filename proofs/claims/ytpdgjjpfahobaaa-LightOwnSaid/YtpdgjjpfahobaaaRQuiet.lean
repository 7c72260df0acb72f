/- The reference's Quiet: it goes through all sets; what it returns is the program's quiet basis. -/
import Derived.Test.YtpdgjjpfahobaaaRSize
import Derived.Test.YtpdgjjpfahobaaaQuiL
namespace Go.Proofs.Ytpdgjjpfahobaaa
open Go.RowKit Lamp

theorem div_log2 {x k : Nat} (hx : x ≠ 0) : (1 < x / 2 ^ k ↔ k < x.log2) := by
  have h1 := log2_le hx
  have h2 := lt_log2 x
  constructor
  · intro h
    apply Decidable.byContradiction
    intro hc
    have h3 : (2:Nat) ^ (x.log2 + 1) ≤ 2 ^ (k + 1) := Nat.pow_le_pow_right (by decide) (by omega)
    have h4 : x / 2 ^ k < 2 := by
      rw [Nat.div_lt_iff_lt_mul (Nat.two_pow_pos k)]
      rw [Nat.pow_succ] at h3
      omega
    omega
  · intro h
    have h3 : (2:Nat) ^ (k + 1) ≤ 2 ^ x.log2 := Nat.pow_le_pow_right (by decide) (by omega)
    have h4 : 2 ≤ x / 2 ^ k := by
      rw [Nat.le_div_iff_mul_le (Nat.two_pow_pos k)]
      rw [Nat.pow_succ] at h3
      omega
    omega

set_option maxRecDepth 100000 in
theorem top_any (x : Nat) (w : World) (hx0 : x ≠ 0) (hx : x < 65536) {t : Nat} (ht : x.log2 = t) :
    Calls Try.prog 74 #[.int .i64 x] w fun e w' => e = .returned (.int .i64 (t : Int)) ∧ w = w' := by
  have hl : x.log2 < 16 := log2_lt' hx0 hx
  rw [ht] at hl
  have HD := Lib.hid (fun k => div_log2 (k := k) hx0)
  rw [ht] at HD
  clear hx ht hx0
  go_enter Try.func74, Try.ntmps74
  go_wp2_with fail
  go_loop [3] (fun i => ∃ k : Nat, i = .int .i64 k ∧ k ≤ t) (fun i => 16 - (intOf i).toNat)
  case atStart => exact ⟨0, rfl, by omega⟩
  case round =>
    obtain ⟨k, rfl, hk⟩ := hrel
    obtain ⟨d, hd⟩ : ∃ d, x / 2 ^ k = d := ⟨_, rfl⟩
    have hdi : (x : Int) / 2 ^ k = (d : Int) := by rw [← hd]; simp
    have h := HD.out k
    rw [hd] at h
    clear hd
    by_cases hkt : k < t
    · have hd0 : (1 : Int) < (d : Int) := by have := h.2 hkt; omega
      clear h
      go_wp2
      go_round
      case rel => exact ⟨k + 1, by go_num, by omega⟩
      case measure => simp [intOf]; omega
    · obtain rfl : k = t := by omega
      have hd0 : ¬ (1 : Int) < (d : Int) := fun hc => by have := h.1 (by omega); omega
      clear h
      go_wp2
      go_ret
      exact ⟨rfl, rfl⟩
theorem rqK_len (s : List Nat) (k : Nat) : (rqK s k).1.length ≤ k := by
  induction k with
  | zero => exact Nat.le_refl _
  | succ k ih =>
    rw [rqK]
    split
    · rw [List.length_append]; simp; exact ih
    · omega
theorem rqK_tops {s : List Nat} {n : Nat} (hn : n ≤ 16) : ∀ k, k < 2 ^ n → (rqK s k).2 < 2 ^ n
  | 0, _ => Nat.two_pow_pos n
  | k + 1, h => by
    rw [rqK]
    split
    · exact Nat.or_lt_two_pow (rqK_tops hn k (by omega)) (Nat.pow_lt_pow_right (by decide) (log2_lt' (by omega) h))
    · exact rqK_tops hn k (by omega)

set_option maxRecDepth 100000 in
set_option maxHeartbeats 4000000 in
theorem RQuiet_any {w : World} {g n : Nat} {s : List Nat} (hb : Box w g 3 (iC s)) (hn : s.length = n) (hn16 : n ≤ 16) (hn1 : 1 ≤ n) (hs : ∀ x ∈ s, x < 65536) :
    Calls Try.prog 38 #[.slice (some ⟨g, 0, none⟩) n n] w fun e w' => ∃ v, e = .returned v ∧ OwnB w' w.heap.size v (natV (rqK s (2 ^ n - 1)).1) ∧ Below w.heap.size w w' := by
  have HB0 := Lib.hid hb
  have HSL := Lib.hid hn
  have HS := Lib.hid hs
  have hp16 := pow_split hn16
  have hp0 := Nat.two_pow_pos n
  have hpi : ((2 ^ n : Nat) : Int) = (2 : Int) ^ n := by simp
  have HTP := Lib.hid (fun k hk => rqK_tops (s := s) hn16 k hk)
  obtain ⟨P, hP⟩ : ∃ P, 2 ^ n = P := ⟨_, rfl⟩
  have hP2 : (2 : Int) ^ n = (P : Int) := by rw [← hpi, hP]
  have hwP : IntKind.i64.wrap (P : Int) = (P : Int) := IntWalk.i64_in _ (by omega)
  have hnp : ∀ k : Nat, k + 1 < P → (k + 1).log2 < 16 := fun k h => log2_lt' (by omega) (by omega)
  rw [hP] at hp16 hp0 HTP ⊢
  obtain ⟨i0, hi, hz0, hz1, hz2⟩ := info_parts Try.info3
  have HNP := Lib.hid hnp
  clear hb hn hs hP hpi hnp
  go_enter Try.func38, Try.ntmps38
  go_wp2_with fail
  go_loopw [3, 4, 5] (fun sv tv i wr => ∃ (k tp : Nat) (Q : List Nat) (v : Value), v = sv ∧ i = .int .i64 ((k : Int) + 1) ∧ tv = .int .i64 (tp : Nat) ∧ k + 1 ≤ P ∧ Hid (rqK s k = (Q, tp)) ∧ Hid (OwnB wr w.heap.size v (natV Q)) ∧ Hid (Below w.heap.size w wr)) (fun _ _ i _ => P - (intOf i).toNat)
  case atStart => exact ⟨0, 0, [], _, rfl, rfl, rfl, by omega, Lib.hid rfl, Lib.hid (OwnB.nil_ _ _), Lib.hid (Below.refl _ _)⟩
  case round =>
    obtain ⟨k, tp, Q, v, rfl, rfl, rfl, hk, HQ1, HO1, HB1⟩ := hrel
    have HQ := HQ1
    have HO := HO1
    have HB := HB1
    clear HQ1 HO1 HB1
    have HX := Lib.hid (HB0.out.below HB.out HB0.out.lt)
    by_cases hlt : k + 1 < P
    · have htp : tp < 65536 := by have := HTP.out k (by omega); rw [HQ.out] at this; simp only at this; omega
      obtain ⟨x, hx⟩ : ∃ x, k + 1 = x := ⟨_, rfl⟩
      have hxi : (k : Int) + 1 = (x : Int) := by omega
      have hx16 : x < 65536 := by omega
      have hx0 : x ≠ 0 := by omega
      have hand := i64_and x tp (by omega) (by omega)
      obtain ⟨a, ha⟩ : ∃ a, x &&& tp = a := ⟨_, rfl⟩
      rw [ha] at hand
      obtain ⟨e, he⟩ : ∃ e, comb x s = e := ⟨_, rfl⟩
      have HE := Lib.hid he
      have HR := Lib.hid (show rqK s (k + 1) = if a = 0 ∧ e = 0 then (Q ++ [x], tp ||| 2 ^ x.log2) else (Q, tp) by
        rw [rqK, HQ.out]; simp only [hx, ha, he])
      obtain ⟨t, ht⟩ : ∃ t, x.log2 = t := ⟨_, rfl⟩
      have HTT := Lib.hid ht
      have ht16 : t < 16 := by rw [← ht, ← hx]; exact HNP.out k hlt
      rw [ht] at HR
      have hQL : Q.length ≤ k := by have := rqK_len s k; rw [HQ.out] at this; exact this
      clear ht he ha
      have hlt' : (x : Int) < (P : Int) := by omega
      rw [hxi]
      by_cases ha0 : a = 0
      · subst ha0
        by_cases he0 : e = 0
        · subst he0
          have HEE := Lib.hid (show rqK s (k + 1) = (Q ++ [x], tp ||| 2 ^ t) by rw [HR.out, if_pos ⟨rfl, rfl⟩])
          have hor := or_bit (a := tp) (j := t) htp ht16
          have ho := HO.out
          unfold OwnB at ho
          rw [natV_len] at ho
          have HO2 := Lib.hid ho
          have HN := Lib.hid (World.news_of_block (w := wr.alloc (Obj.cells #[Value.int .i64 (x : Int)] 3)) (cs := #[Value.int .i64 (x : Int)]) (t := 3) (fr := (0, 0)) (heap_alloc_new wr _))
          have HK1 := Lib.hid (show Q.length + 1 ≤ maxLen by unfold maxLen; omega)
          have HK2 := Lib.hid (show (Q.length + 1) * 8 ≤ 140737488355328 by omega)
          have HSZ := Lib.hid (show w.heap.size ≤ (wr.alloc (Obj.cells #[Value.int .i64 (x : Int)] 3)).heap.size by have := HB.out.size; simp; omega)
          clear ho
          go_wp2_with (first
            | (go_at_call 34; refine (REffect_box HX.out HSL.out hn16 HS.out hx16 HE.out).mono ?_; rintro e w' ⟨rfl, rfl⟩)
            | (go_at_call 74; refine (top_any x _ hx0 hx16 HTT.out).mono ?_; rintro e w' ⟨rfl, rfl⟩)
            | (at_builtin; refine wpList_append_own _ rfl _ _ 28 rfl w.heap.size 3 i0 (.int .i64 0) 1 8 Try.underlying28 hi hz0 hz1 hz2 rfl (by decide) _ _ _ rfl (World.ownsRow.alloc HO2.out _) ⟨wr.heap.size, 0, none⟩ 1 1 [.int .i64 (x : Int)] rfl rfl HN.out (by simp [Value.oneCell']) HK1.out HK2.out HSZ.out ?_; intro v9 w9 hown9 hg9 _))
          have hsa : (wr.alloc (Obj.cells #[Value.int .i64 (x : Int)] 3)).heap.size = wr.heap.size + 1 := by simp
          have hblk := HO.out.blk
          have HPN := Lib.hid (show OwnB w9 w.heap.size v9 (natV (Q ++ [x])) by
            unfold OwnB
            rw [natV_len, List.length_append, natV, List.map_append, List.map_append]
            exact hown9)
          have HBN := Lib.hid (show Below w.heap.size w w9 from (HB.out.alloc HB.out.size _).grown hg9 (by rw [hsa]; have := HB.out.size; omega) (fun j hj => (hblk j hj).1))
          clear hown9 hg9 hblk hsa
          go_roundw
          case rel => exact ⟨k + 1, _, _, v9, rfl, by rw [← hx], rfl, by omega, HEE, HPN, HBN⟩
          case measure => simp [intOf]; omega
        · have he1 : ((e : Int) == 0) = false := by rw [beq_eq_false_iff_ne]; omega
          have HEE := Lib.hid (show rqK s (k + 1) = (Q, tp) by rw [HR.out, if_neg (fun h => he0 h.2)])
          go_wp2_with (go_at_call 34; refine (REffect_box HX.out HSL.out hn16 HS.out hx16 HE.out).mono ?_; rintro e w' ⟨rfl, rfl⟩)
          go_roundw
          case rel => exact ⟨k + 1, tp, Q, v, rfl, by rw [← hx], rfl, by omega, HEE, HO, HB⟩
          case measure => simp [intOf]; omega
      · have ha1 : ((a : Int) == 0) = false := by rw [beq_eq_false_iff_ne]; omega
        have HEE := Lib.hid (show rqK s (k + 1) = (Q, tp) by rw [HR.out, if_neg (fun h => ha0 h.1)])
        go_wp2_with fail
        go_roundw
        case rel => exact ⟨k + 1, tp, Q, v, rfl, by rw [← hx], rfl, by omega, HEE, HO, HB⟩
        case measure => simp [intOf]; omega
    · have hkP : k = P - 1 := by omega
      subst hkP
      have hge : ¬ ((P - 1 : Nat) : Int) + 1 < (P : Int) := by omega
      go_wp2_with fail
      go_ret
      exact ⟨v, rfl, by rw [HQ.out]; exact HO.out, HB.out⟩
end Go.Proofs.Ytpdgjjpfahobaaa
