/- Equations modulo 2 are reduced: each unknown is given to the first equation that may get it. -/
import Derived.Test.YthbhengcinkepaaPg2
namespace Go.Proofs.Ythbhengcinkepaa
open Go.RowKit Lamp

theorem redP_len (E : List Nat) (u : Nat) : (redP E u).1.length = E.length ∧ (redP E u).2.length = E.length := by
  induction u with
  | zero => simp [redP]
  | succ u ih =>
    rw [redP]
    unfold stepP
    split
    · simp only [isoL_len, List.length_set]; exact ih
    · exact ih
theorem stepP_lt {E : List Nat} {O : List Int} {u : Nat} (h : ∀ j, E.getD j 0 < 65536) : ∀ j, (stepP u (E, O)).1.getD j 0 < 65536 := by
  intro j
  unfold stepP
  split
  · simp only [isoL_at]
    split
    · exact Nat.xor_lt_two_pow (n := 16) (h j) (h _)
    · exact h j
  · exact h j
theorem redP_lt {E : List Nat} (h : ∀ j, E.getD j 0 < 65536) : ∀ u j, (redP E u).1.getD j 0 < 65536
  | 0 => h
  | u + 1 => by
    intro j
    rw [redP]
    exact stepP_lt (redP_lt h u) j
theorem getD_get {O : List Int} {j : Nat} (h : j < O.length) : O[j]? = some (O.getD j 0) := by
  simp [List.getElem?_eq_getElem h]

set_option maxHeartbeats 4000000 in
theorem reduce_some (g k : Nat) (E : List Nat) (n : Nat) (w : World) (h0 : E ≠ []) (hE : RowN 171 w g k (natV E)) (hl : E.length ≤ 1000) (hb : ∀ j, E.getD j 0 < 65536) (hn : n ≤ 16) :
    Calls Try.prog 114 #[.slice (some ⟨g, 0, none⟩) E.length k, .int .i64 n] w fun e w' => e = .returned (.slice (some ⟨w.heap.size + 1, 0, none⟩) E.length E.length) ∧ RowN 3 w' (w.heap.size + 1) E.length (redP E n).2 ∧ RowN 171 w' g k (natV (redP E n).1) ∧ Turn (fun b => b = g) w w' := by
  have hpos : 1 ≤ E.length := by
    cases E with
    | nil => exact absurd rfl h0
    | cons a l => simp
  have hgl := hE.lt
  have HE := Lib.hid hE
  have HBB := Lib.hid hb
  clear hE hb h0
  go_enter Try.func114, Try.ntmps114
  go_wp2_with fail
  have hc0 := (Box.new w 3 #[Value.int .i64 (-1)]).cell 0
  simp only [List.getElem?_toArray, List.getElem?_cons_zero] at hc0
  refine (Repeat_int w.heap.size 1 E.length (-1) (w.alloc (Obj.cells #[Value.int .i64 (-1)] 3)) hc0 (by simp) hpos hl).mono ?_
  rintro e w1 ⟨rfl, hbx, hbl⟩
  rw [show (w.alloc (Obj.cells #[Value.int .i64 (-1)] 3)).heap.size = w.heap.size + 1 by simp] at hbx hbl ⊢
  have HBL := Lib.hid (((Below.refl _ w).alloc (Nat.le_refl _) (Obj.cells #[Value.int .i64 (-1)] 3)).trans (hbl.mono (Nat.le_succ _)))
  have HO0 := Lib.hid (show RowN 3 w1 (w.heap.size + 1) E.length (redP E 0).2 from ⟨_, hbx, by simp, by simp [redP], by unfold maxLen; omega, by simp [redP]⟩)
  have HE0 := Lib.hid (show RowN 171 w1 g k (natV (redP E 0).1) from HE.out.below HBL.out hgl)
  have HT0 := Lib.hid (show Turn (fun b => b = g) w w1 from (Turn.refl _ w).below HBL.out (Nat.le_refl _))
  clear hc0 hbx hbl HE
  go_wp2_with fail
  go_loopw [14] (fun q wr => ∃ u : Nat, q = .int .i64 u ∧ u ≤ n ∧ Hid (RowN 3 wr (w.heap.size + 1) E.length (redP E u).2) ∧ Hid (RowN 171 wr g k (natV (redP E u).1)) ∧ Hid (Turn (fun b => b = g) w wr)) (fun q _ => n - (intOf q).toNat)
  case atStart => exact ⟨0, rfl, by omega, HO0, HE0, HT0⟩
  case round =>
    clear HO0 HE0 HT0 HBL
    obtain ⟨u, rfl, hu, HO1, HE1, HT1⟩ := hrel
    have HO := HO1
    have HE := HE1
    have HT := HT1
    clear HO1 HE1 HT1
    by_cases hlt : u < n
    · have HS := Lib.hid (show redP E (u + 1) = stepP u (redP E u) from rfl)
      have hlen := redP_len E u
      have hb := redP_lt HBB.out u
      obtain ⟨F, hF⟩ : ∃ F, (redP E u).1 = F := ⟨_, rfl⟩
      obtain ⟨O, hO⟩ : ∃ O, (redP E u).2 = O := ⟨_, rfl⟩
      have HFO := Lib.hid (show redP E u = (F, O) by rw [← hF, ← hO])
      rw [hF, hO] at hlen
      rw [hF] at HE hb
      rw [hO] at HO
      have HB := Lib.hid hb
      have HL := Lib.hid hlen
      clear hF hO hb hlen
      go_upto_region 6 with fail
      go_loop [19] (fun q => ∃ i : Nat, q = .int .i64 i ∧ i ≤ E.length ∧ Hid (∀ j, j < i → candP F O u j = false)) (fun q => E.length - (intOf q).toNat)
      case atStart => exact ⟨0, rfl, by omega, Lib.hid fun j hj => absurd hj (Nat.not_lt_zero _)⟩
      case round =>
        obtain ⟨i, rfl, hi, HN1⟩ := hrel
        have HN := HN1
        clear HN1
        by_cases hil : i < E.length
        · have hco := HO.out.at_ (getD_get (j := i) (by rw [HL.out.2]; exact hil))
          have hcf := HE.out.at_ (natV_get (j := i) (by rw [HL.out.1]; exact hil))
          have hfo := HO.out.free i
          obtain ⟨x, hx⟩ : ∃ x, F.getD i 0 = x := ⟨_, rfl⟩
          obtain ⟨z, hz⟩ : ∃ z, O.getD i 0 = z := ⟨_, rfl⟩
          rw [hx] at hcf
          rw [hz] at hco
          have HX := Lib.hid hx
          have HZ := Lib.hid hz
          have HXB := Lib.hid (show x < 65536 by rw [← hx]; exact HB.out i)
          clear hx hz
          by_cases hneg : z < 0
          · cases hbit : x.testBit u
            · have HBT := Lib.hid hbit
              clear hbit
              have HN2 := Lib.hid (show ∀ j, j < i + 1 → candP F O u j = false from fun j hj => by
                by_cases e : j = i
                · subst e; unfold candP; rw [HX.out, HBT.out, Bool.and_false]
                · exact HN.out j (by omega))
              go_wp2_with (go_at_call 115; refine (has_of _ HXB.out HBT.out).mono ?_; rintro e w' ⟨rfl, rfl⟩)
              go_round
              case rel => exact ⟨i + 1, by go_num, by omega, HN2⟩
              case measure => simp [intOf]; omega
            · have HBT := Lib.hid hbit
              clear hbit
              have HC := Lib.hid (show candP F O u i = true by unfold candP; rw [HX.out, HZ.out, HBT.out, decide_eq_true hneg]; rfl)
              have HST := Lib.hid (show redP E (u + 1) = (isoL F i u, O.set i (u : Int)) by
                rw [HS.out, HFO.out]
                exact stepP_hit (by rw [HL.out.1]; exact hil) HC.out HN.out)
              have hne := HO.out.ne HE.out (by decide)
              have HO2 := Lib.hid (HO.out.put i (u : Int))
              have HE2 := Lib.hid (HE.out.far (p := ⟨w.heap.size + 1, i, none⟩) (fun e => hne e.symm) (.int .i64 (u : Int)))
              have HT2 := Lib.hid (HT.out.setCell (p := ⟨w.heap.size + 1, i, none⟩) (.inr (Nat.le_succ _)) (.int .i64 (u : Int)))
              have hFl := HL.out.1
              have HI := Lib.hid (isolate_any g k F i u (wr.setCell ⟨w.heap.size + 1, i, none⟩ (.int .i64 (u : Int))) HE2.out (by rw [hFl]; exact hil) (by rw [hFl]; exact hl) HB.out)
              rw [hFl] at HI
              clear hFl
              go_wp2_with (first
                | (go_at_call 115; refine (has_of _ HXB.out HBT.out).mono ?_; rintro e w' ⟨rfl, rfl⟩)
                | (go_at_call 162; refine HI.out.mono ?_; clear HI; rintro e w3 ⟨rfl, hE3, hT3⟩; have HE3 := Lib.hid hE3; have HT3 := Lib.hid hT3; clear hE3 hT3))
              clear hco hcf hfo
              go_roundw
              case rel =>
                refine ⟨u + 1, by go_num, by omega, ?_, ?_, Lib.hid (HT2.out.trans HT3.out fun _ _ h => h)⟩
                · rw [HST.out]; exact Lib.hid (HO2.out.turn HT3.out (fun e => hne e))
                · rw [HST.out]; exact HE3
              case measure => simp [intOf]; omega
          · have HN2 := Lib.hid (show ∀ j, j < i + 1 → candP F O u j = false from fun j hj => by
              by_cases e : j = i
              · subst e; unfold candP; rw [HZ.out, decide_eq_false hneg]; rfl
              · exact HN.out j (by omega))
            go_wp2_with fail
            go_round
            case rel => exact ⟨i + 1, by go_num, by omega, HN2⟩
            case measure => simp [intOf]; omega
        · obtain rfl : i = E.length := by omega
          have HST := Lib.hid (show redP E (u + 1) = (F, O) by
            rw [HS.out, HFO.out]
            exact stepP_miss (by rw [HL.out.1]; exact HN.out))
          go_wp2_with fail
          go_roundw
          case rel =>
            refine ⟨u + 1, by go_num, by omega, ?_, ?_, HT⟩
            · rw [HST.out]; exact HO
            · rw [HST.out]; exact HE
          case measure => simp [intOf]; omega
    · obtain rfl : u = n := by omega
      go_wp2_with fail
      go_ret
      exact ⟨rfl, HO.out, HE.out, HT.out⟩

set_option maxHeartbeats 2000000 in
theorem reduce_none (A : Option Addr) (k n : Nat) (w : World) (hn : n ≤ 16) :
    Calls Try.prog 114 #[.slice A 0 k, .int .i64 n] w fun e w' => e = .returned (.slice (some ⟨w.heap.size + 1, 0, none⟩) 0 0) ∧ Below w.heap.size w w' := by
  go_enter Try.func114, Try.ntmps114
  go_wp2_with fail
  refine (Repeat_int0 w.heap.size 1 (w.alloc (Obj.cells #[Value.int .i64 (-1)] 3)) (by simp)).mono ?_
  rintro e w1 ⟨rfl, hbl⟩
  rw [show (w.alloc (Obj.cells #[Value.int .i64 (-1)] 3)).heap.size = w.heap.size + 1 by simp] at hbl ⊢
  have HBL := Lib.hid (((Below.refl _ w).alloc (Nat.le_refl _) (Obj.cells #[Value.int .i64 (-1)] 3)).trans (hbl.mono (Nat.le_succ _)))
  clear hbl
  go_wp2_with fail
  go_loop [14] (fun q => ∃ u : Nat, q = .int .i64 u ∧ u ≤ n) (fun q => n - (intOf q).toNat)
  case atStart => exact ⟨0, rfl, by omega⟩
  case round =>
    obtain ⟨u, rfl, hu⟩ := hrel
    by_cases hlt : u < n
    · go_upto_region 6 with fail
      go_loop [19] (fun q => q = .int .i64 0) (fun _ => 0)
      case atStart => rfl
      case round =>
        obtain rfl := hrel
        go_wp2_with fail
        go_round
        case rel => exact ⟨u + 1, by go_num, by omega⟩
        case measure => simp [intOf]; omega
    · obtain rfl : u = n := by omega
      go_wp2_with fail
      go_ret
      exact ⟨rfl, HBL.out⟩
end Go.Proofs.Ythbhengcinkepaa
