/- The reference's Rules (package peg): it goes through all sets; what it returns is the program's rules' basis. -/
import Derived.Test.YthbhengcinkepaaRSize2
namespace Go.Proofs.Ythbhengcinkepaa
open Go.RowKit Lamp

theorem rqP_len (P : Nat → Bool) (k : Nat) : (rqP P k).1.length ≤ k := by
  induction k with
  | zero => exact Nat.le_refl _
  | succ k ih =>
    rw [rqP]
    split
    · rw [List.length_append]; simp; exact ih
    · omega
theorem rqP_tops {P : Nat → Bool} {n : Nat} : ∀ k, k < 2 ^ n → (rqP P k).2 < 2 ^ n
  | 0, _ => Nat.two_pow_pos n
  | k + 1, h => by
    rw [rqP]
    split
    · exact Nat.or_lt_two_pow (rqP_tops k (by omega)) (Nat.pow_lt_pow_right (by decide) (log2_lt' (by omega) h))
    · exact rqP_tops k (by omega)
theorem or_one (a x : Nat) (ha : a < 65536) (hx : x < 16) : bits BinOp.or IntKind.i64 (a : Int) (wrap64 (2 ^ x)) = ((a ||| 2 ^ x : Nat) : Int) := by
  have h1 := pow_l16 hx
  rw [shl_1 x hx, i64_or a (2 ^ x) (by omega) (by omega)]
theorem and_top {x tp : Nat} (hx : x ≠ 0) (h : tp / 2 ^ x.log2 % 2 = 1) : x &&& tp ≠ 0 := fun h0 => by
  have h1 : (x &&& tp).testBit x.log2 = true := by
    rw [Nat.testBit_and, testBit_log2 hx, Nat.testBit_eq_decide_div_mod_eq, h]
    rfl
  rw [h0, Nat.zero_testBit] at h1
  cases h1

set_option maxRecDepth 100000 in
set_option maxHeartbeats 8000000 in
theorem RRules2_any (A : Option Addr) (c n : Nat) (l : List Tri) (w : World) (hr : RTri w w.heap.size A l) (hc : checkT n l = 0) :
    Calls Try.prog 33 #[.int .i64 n, .slice A l.length c] w fun e w' => ∃ v, e = .returned v ∧ OwnP 3 w' w.heap.size v (natV (rulesL n (eqsL l))) ∧ Below w.heap.size w w' := by
  obtain ⟨hn1, hn16, hl, hg⟩ := checkT_zero hc
  have HR0 := Lib.hid hr
  have HOK := Lib.hid (goodT_ok hg)
  have HEND := Lib.hid (rulesL_ref (by omega : n ≤ 16) (eqsL_lt (goodT_ok hg)))
  have hp16 := pow_split (by omega : n ≤ 16)
  have hp0 := Nat.two_pow_pos n
  have hpi : ((2 ^ n : Nat) : Int) = (2 : Int) ^ n := by simp
  have HTP := Lib.hid (fun k (hk : k < 2 ^ n) => rqP_tops (P := isRule (eqsL l)) k hk)
  obtain ⟨P, hP⟩ : ∃ P, 2 ^ n = P := ⟨_, rfl⟩
  have hP2 : (2 : Int) ^ n = (P : Int) := by rw [← hpi, hP]
  have hwP : IntKind.i64.wrap (P : Int) = (P : Int) := IntWalk.i64_in _ (by omega)
  have hwP2 : wrap64 (P : Int) = (P : Int) := w64 (by omega)
  have hnp : ∀ k : Nat, k + 1 < P → (k + 1).log2 < 16 := fun k h => log2_lt' (by omega) (by omega)
  rw [hP] at hp16 hp0 HTP HEND
  obtain ⟨R, hR⟩ : ∃ R, rulesL n (eqsL l) = R := ⟨_, rfl⟩
  rw [hR] at HEND ⊢
  have HDEF := Lib.hid (fun k => show rqP (isRule (eqsL l)) (k + 1) = if (k + 1) &&& (rqP (isRule (eqsL l)) k).2 = 0 ∧ isRule (eqsL l) (k + 1) = true then ((rqP (isRule (eqsL l)) k).1 ++ [k + 1], (rqP (isRule (eqsL l)) k).2 ||| 2 ^ (k + 1).log2) else rqP (isRule (eqsL l)) k from rfl)
  have HLE := Lib.hid (fun k => rqP_len (isRule (eqsL l)) k)
  have HRU := Lib.hid (fun (w1 : World) (x : Nat) (h : RTri w1 w1.heap.size A l) (hx : x < 65536) => RRule_any A c n x l w1 h (by omega) (by omega) (goodT_ok hg) hx)
  obtain ⟨F, hF⟩ : ∃ F, rqP (isRule (eqsL l)) = F := ⟨_, rfl⟩
  rw [hF] at HEND HDEF HLE HTP
  have HF0 := Lib.hid (show F 0 = ([], 0) by rw [← hF]; rfl)
  obtain ⟨T, hT⟩ : ∃ T, isRule (eqsL l) = T := ⟨_, rfl⟩
  rw [hT] at HDEF HRU
  obtain ⟨i0, hi, hz0, hz1, hz2⟩ := info_parts Try.info3
  have HNP := Lib.hid hnp
  clear hr hc hg hP hpi hnp hR hF hT HOK
  go_enter Try.func33, Try.ntmps33
  go_wp2_with fail
  go_loopw [5, 6, 7] (fun sv tv i wr => ∃ (k tp : Nat) (Q : List Nat) (v : Value), v = sv ∧ i = .int .i64 ((k : Int) + 1) ∧ tv = .int .i64 (tp : Nat) ∧ k + 1 ≤ P ∧ Hid (F k = (Q, tp)) ∧ Hid (OwnP 3 wr w.heap.size v (natV Q)) ∧ Hid (Below w.heap.size w wr)) (fun _ _ i _ => P - (intOf i).toNat)
  case atStart => exact ⟨0, 0, [], _, rfl, rfl, rfl, by omega, Lib.hid HF0.out, Lib.hid (OwnP.nil_ _ _ _), Lib.hid (Below.refl _ _)⟩
  case round =>
    obtain ⟨k, tp, Q, v, rfl, rfl, rfl, hk, HQ1, HO1, HB1⟩ := hrel
    have HQ := HQ1
    have HO := HO1
    have HB := HB1
    clear HQ1 HO1 HB1
    have HX := Lib.hid (HR0.out.up HB.out)
    by_cases hlt : k + 1 < P
    · have htp : tp < 65536 := by have := HTP.out k (by omega); rw [HQ.out] at this; simp only at this; omega
      obtain ⟨x, hx⟩ : ∃ x, k + 1 = x := ⟨_, rfl⟩
      have hxi : (k : Int) + 1 = (x : Int) := by omega
      have hx16 : x < 65536 := by omega
      have hx0 : x ≠ 0 := by omega
      have hand := i64_and x tp (by omega) (by omega)
      have HTOP := Lib.hid (and_top (tp := tp) hx0)
      obtain ⟨a, ha⟩ : ∃ a, x &&& tp = a := ⟨_, rfl⟩
      rw [ha] at hand HTOP
      have HR := Lib.hid (show F (k + 1) = if a = 0 ∧ T x = true then (Q ++ [x], tp ||| 2 ^ x.log2) else (Q, tp) by
        rw [HDEF.out, HQ.out]; simp only [hx, ha])
      obtain ⟨t, ht⟩ : ∃ t, x.log2 = t := ⟨_, rfl⟩
      have HTT := Lib.hid ht
      have ht16 : t < 16 := by rw [← ht, ← hx]; exact HNP.out k hlt
      rw [ht] at HR HTOP
      have hQL : Q.length ≤ k := by have := HLE.out k; rw [HQ.out] at this; exact this
      obtain ⟨d, hd⟩ : ∃ d, tp / 2 ^ t = d := ⟨_, rfl⟩
      have hdi : (tp : Int) / 2 ^ t = (d : Int) := by rw [← hd]; simp
      have hd6 : d < 65536 := by rw [← hd]; exact Nat.lt_of_le_of_lt (Nat.div_le_self _ _) htp
      rw [hd] at HTOP
      clear ht ha hd
      have hlt' : (x : Int) < (P : Int) := by omega
      rw [hxi]
      have HRX := Lib.hid (HRU.out wr x HX.out hx16)
      by_cases hd1 : d % 2 = 1
      · have HEE := Lib.hid (show F (k + 1) = (Q, tp) by rw [HR.out, if_neg (fun h => HTOP.out hd1 h.1)])
        go_wp2_with (go_at_call 72; refine (top2_any x _ hx0 hx16 HTT.out).mono ?_; rintro e w' ⟨rfl, rfl⟩)
        go_roundw
        case rel => exact ⟨k + 1, tp, Q, v, rfl, by rw [← hx], rfl, by omega, HEE, HO, HB⟩
        case measure => simp [intOf]; omega
      by_cases ha0 : a = 0
      · subst ha0
        cases hTx : T x with
        | true =>
          have HEE := Lib.hid (show F (k + 1) = (Q ++ [x], tp ||| 2 ^ t) by rw [HR.out, if_pos ⟨rfl, hTx⟩])
          have hor := or_one tp t htp ht16
          have HK1 := Lib.hid (show Q.length + 1 ≤ maxLen by unfold maxLen; omega)
          have HK2 := Lib.hid (show (Q.length + 1) * 8 ≤ 140737488355328 by omega)
          rw [hTx] at HRX
          clear hTx
          go_wp2_with (first
            | (go_at_call 44; refine HRX.out.mono ?_; rintro e wq ⟨rfl, hbq⟩; have HBQ := Lib.hid (HB.out.trans (hbq.mono HB.out.size)); have HOQ := Lib.hid (HO.out.below hbq (fun g e => (HO.out.blk g e).2.1)); clear hbq)
            | (go_at_call 72; refine (top2_any x _ hx0 hx16 HTT.out).mono ?_; rintro e w' ⟨rfl, rfl⟩)
            | (at_builtin; refine wpList_append_own _ rfl _ _ 47 rfl w.heap.size 3 i0 (.int .i64 0) 1 8 Try.underlying47 hi hz0 hz1 hz2 rfl (by decide) _ _ _ rfl (World.ownsRow.alloc (show World.ownsRow wq w.heap.size 3 1 v Q.length ((natV Q).map (Value.int .i64)) by have h := HOQ.out; unfold OwnP at h; rw [natV_len] at h; exact h) _) ⟨wq.heap.size, 0, none⟩ 1 1 [.int .i64 (x : Int)] rfl rfl (World.news_of_block (w := wq.alloc (Obj.cells #[Value.int .i64 (x : Int)] 3)) (cs := #[Value.int .i64 (x : Int)]) (t := 3) (fr := (0, 0)) (heap_alloc_new wq _)) (by simp [Value.oneCell']) HK1.out HK2.out (by have := HBQ.out.size; simp; omega) ?_; intro v9 w9 hown9 hg9 _))
          have hsa : (wq.alloc (Obj.cells #[Value.int .i64 (x : Int)] 3)).heap.size = wq.heap.size + 1 := by simp
          have hblk := HOQ.out.blk
          have HPN := Lib.hid (show OwnP 3 w9 w.heap.size v9 (natV (Q ++ [x])) by
            unfold OwnP
            rw [natV_len, List.length_append, natV, List.map_append, List.map_append]
            exact hown9)
          have HBN := Lib.hid (show Below w.heap.size w w9 from (HBQ.out.alloc HBQ.out.size _).grown hg9 (by rw [hsa]; have := HBQ.out.size; omega) (fun j hj => (hblk j hj).1))
          clear hown9 hg9 hblk hsa
          go_roundw
          case rel => exact ⟨k + 1, _, _, v9, rfl, by rw [← hx], rfl, by omega, HEE, HPN, HBN⟩
          case measure => simp [intOf]; omega
        | false =>
          have HEE := Lib.hid (show F (k + 1) = (Q, tp) by rw [HR.out, if_neg (fun h => by rw [hTx] at h; cases h.2)])
          rw [hTx] at HRX
          clear hTx
          go_wp2_with (first
            | (go_at_call 44; refine HRX.out.mono ?_; rintro e wq ⟨rfl, hbq⟩; have HBQ := Lib.hid (HB.out.trans (hbq.mono HB.out.size)); have HOQ := Lib.hid (HO.out.below hbq (fun g e => (HO.out.blk g e).2.1)); clear hbq)
            | (go_at_call 72; refine (top2_any x _ hx0 hx16 HTT.out).mono ?_; rintro e w' ⟨rfl, rfl⟩))
          go_roundw
          case rel => exact ⟨k + 1, tp, Q, v, rfl, by rw [← hx], rfl, by omega, HEE, HOQ, HBQ⟩
          case measure => simp [intOf]; omega
      · have ha1 : ((a : Int) == 0) = false := by rw [beq_eq_false_iff_ne]; omega
        have HEE := Lib.hid (show F (k + 1) = (Q, tp) by rw [HR.out, if_neg (fun h => ha0 h.1)])
        go_wp2_with (go_at_call 72; refine (top2_any x _ hx0 hx16 HTT.out).mono ?_; rintro e w' ⟨rfl, rfl⟩)
        go_roundw
        case rel => exact ⟨k + 1, tp, Q, v, rfl, by rw [← hx], rfl, by omega, HEE, HO, HB⟩
        case measure => simp [intOf]; omega
    · have hkP : k = P - 1 := by omega
      subst hkP
      have hge : ¬ ((P - 1 : Nat) : Int) + 1 < (P : Int) := by omega
      go_wp2_with fail
      go_ret
      exact ⟨v, rfl, by have h := HEND.out; rw [HQ.out] at h; rw [← h]; exact HO.out, HB.out⟩
end Go.Proofs.Ythbhengcinkepaa
