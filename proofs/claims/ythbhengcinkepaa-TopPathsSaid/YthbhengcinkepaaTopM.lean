/- What the statements through the layers ask of stage 4's program whatever the input is: four answers true. -/
import Derived.Test.YthbhengcinkepaaResT
import Derived.Test.YthbhengcinkepaaPg5
import Derived.Test.YthbhengcinkepaaLig6
import Derived.Test.YthbhengcinkepaaHan3
import Derived.Test.YthbhengcinkepaaAppT
namespace Go.Proofs.Ythbhengcinkepaa
open Go.RowKit Lamp

theorem small_any (x : Int) (m : Nat) (w : World) (hm : m < 65536) :
    Calls Try.prog 46 #[.int .i64 x, .int .i64 m] w fun e w' => e = .returned (.int .i64 (remN x (m + 1) : Nat)) ∧ w = w' := by
  have h1 := remN_tmod x (m := m + 1) (by omega)
  have hl := remN_lt x (m := m + 1) (by omega)
  have hb1 : -9223372036854775808 ≤ (m : Int) + 1 ∧ (m : Int) + 1 ≤ 9223372036854775807 := by omega
  have hw := w64 hb1
  have hu : IntKind.u64.wrap ((m : Int) + 1) = (m : Int) + 1 := u64_in (by omega) (by omega)
  have hne : ¬ (m : Int) + 1 = 0 := by omega
  have hz : ((m : Int) + 1 = 0) = False := eq_false hne
  obtain ⟨r, hr⟩ : ∃ r, remN x (m + 1) = r := ⟨_, rfl⟩
  rw [hr] at h1 hl ⊢
  have h2 : wrap64 ((IntKind.u64.wrap x).tmod ((m : Int) + 1)) = (r : Int) := by
    rw [show (m : Int) + 1 = ((m + 1 : Nat) : Int) by omega, h1]
    exact w64 (by omega)
  clear h1 hl hr hb1
  go_enter Try.func46, Try.ntmps46
  go_wp2_with fail
  go_ret
  rw [h2]
  exact ⟨rfl, rfl⟩

theorem popK_over {x k : Nat} (h : x / 2 ^ k = 0) : ∀ j, k ≤ j → popK x j = popK x k
  | 0, hj => by obtain rfl : k = 0 := by omega
                rfl
  | j + 1, hj => by
    by_cases e : k = j + 1
    · rw [e]
    · rw [popK, popK_over h j (by omega)]
      have h1 : x < 2 ^ k := by
        have := Nat.lt_mul_div_succ x (Nat.two_pow_pos k)
        rw [h] at this
        simpa using this
      rw [Nat.div_eq_of_lt (Nat.lt_of_lt_of_le h1 (Nat.pow_le_pow_right (by decide) (by omega)))]
      simp
set_option maxRecDepth 100000 in
theorem tsize_any (x : Nat) (w : World) (hx : x < 65536) :
    Calls Try.prog 49 #[.int .i64 x] w fun e w' => e = .returned (.int .i64 ((popc x : Nat) : Int)) ∧ w = w' := by
  have hx' : (x : Int) < 65536 := by omega
  go_enter Try.func49, Try.ntmps49
  go_wp2_with fail
  go_loop [3, 4] (fun t i => ∃ k : Nat, i = .int .i64 k ∧ k ≤ 16 ∧ t = .int .i64 ((popK x k : Nat) : Int)) (fun _ i => 16 - (intOf i).toNat)
  case atStart => exact ⟨0, rfl, by omega, rfl⟩
  case round =>
    obtain ⟨k, rfl, hk, rfl⟩ := hrel
    obtain ⟨d, hd⟩ : ∃ d, x / 2 ^ k = d := ⟨_, rfl⟩
    have hdi : (x : Int) / 2 ^ k = (d : Int) := by rw [← hd]; simp
    have HD := Lib.hid hd
    have hp := popK_le x k
    have HP := Lib.hid (show popK x (k + 1) = popK x k + d % 2 by rw [popK, hd])
    have HS := Lib.hid (fun h0 : d = 0 => popK_over (x := x) (k := k) (by rw [hd]; exact h0) 16 hk)
    have HK := Lib.hid (show d ≠ 0 → k < 16 from fun h0 => by
      apply Decidable.byContradiction
      intro hc
      obtain rfl : k = 16 := by omega
      exact h0 (by rw [← hd]; exact Nat.div_eq_of_lt hx))
    obtain ⟨t, ht⟩ : ∃ t, popK x k = t := ⟨_, rfl⟩
    rw [ht] at hp HP HS ⊢
    have hk62 : (k : Int) < 62 := by omega
    clear hd ht hx hx'
    by_cases h0 : d = 0
    · have HE := Lib.hid (HS.out h0)
      have hd0 : ¬ (0 : Int) < (d : Int) := by omega
      clear h0
      go_wp2
      go_ret
      exact ⟨ret_int (by show _ = ((popK x 16 : Nat) : Int); rw [HE.out]), rfl⟩
    · have hd0 : (0 : Int) < (d : Int) := by omega
      have hk16 := HK.out h0
      go_wp2
      go_round
      case rel => exact ⟨k + 1, by go_num, by omega, val_int (by rw [HP.out]; omega)⟩
      case measure => simp [intOf]; omega

theorem rints_box {w : World} {g B : Nat} {t : TypeId} {cs : Array Value} {zs : List Int} (h : Box w g t cs) (hb : g < B) (he : cs.toList = zs.map (Value.int .i64)) : RInts w B (some ⟨g, 0, none⟩) zs := fun j u hu => by
  refine ⟨g, 0, rfl, hb, ?_⟩
  rw [Nat.zero_add, h.cell j, ← Array.getElem?_toList, he]
  exact hu
theorem rdice_two {w : World} {g g1 g2 : Nat} {t t1 t2 : TypeId} {cs1 cs2 : Array Value} {d1 d2 : List Int} (h : Box w g t #[.slice (some ⟨g1, 0, none⟩) d1.length d1.length, .slice (some ⟨g2, 0, none⟩) d2.length d2.length])
    (h1 : Box w g1 t1 cs1) (h2 : Box w g2 t2 cs2) (e1 : cs1.toList = d1.map (Value.int .i64)) (e2 : cs2.toList = d2.map (Value.int .i64)) : RDice w w.heap.size (some ⟨g, 0, none⟩) [d1, d2] := by
  refine ⟨[.slice (some ⟨g1, 0, none⟩) d1.length d1.length, .slice (some ⟨g2, 0, none⟩) d2.length d2.length], rfl, fun j u hu => ⟨_, 0, rfl, h.lt, ?_⟩, fun i v x hv hx => ?_⟩
  · rw [Nat.zero_add, h.cell j]
    simpa using hu
  · match i with
    | 0 => simp at hv hx; subst hv hx; exact ⟨_, _, rfl, Nat.le_refl _, rints_box h1 h1.lt e1⟩
    | 1 => simp at hv hx; subst hv hx; exact ⟨_, _, rfl, Nat.le_refl _, rints_box h2 h2.lt e2⟩
    | i + 2 => simp at hv
theorem rtri_box {w : World} {g : Nat} {t : TypeId} (h : Box w g t #[.int .i64 0, .int .i64 1, .int .i64 2]) : RTri w w.heap.size (some ⟨g, 0, none⟩) [(0, 1, 2)] := fun j u hu => by
  refine ⟨g, 0, rfl, h.lt, ?_⟩
  rw [Nat.zero_add, h.cell j]
  simpa [triV] using hu
theorem redge_box {w : World} {g : Nat} {t : TypeId} (h : Box w g t #[.int .i64 0, .int .i64 1]) : Lig.REdges w w.heap.size (some ⟨g, 0, none⟩) [(0, 1)] := fun j u hu => by
  refine ⟨g, 0, rfl, h.lt, ?_⟩
  rw [Nat.zero_add, h.cell j]
  match j with
  | 0 => simpa [Lig.edgeV] using hu
  | 1 => simpa [Lig.edgeV] using hu
  | j + 2 => simp [Lig.edgeV] at hu

theorem four_dice : Dic.AreDice [[1, 2], [3]] := Dic.areDice_of (by decide +kernel)
theorem four_res : Dic.resL [[1, 2], [3]] = 2 := by decide +kernel
theorem four_chk : checkT 3 [(0, 1, 2)] = 0 := by decide +kernel
theorem four_rules : (rulesL 3 (eqsL [(0, 1, 2)])).length = 2 := by decide +kernel
theorem four_dist : distK (atL [0]) (atL [2]) 1 = 1 := by decide +kernel
theorem four_good : Lig.goodK (2 : Nat) [(0, 1)] 1 = true := by decide +kernel
theorem four_eff : comb 1 (Lig.grL 2 [(0, 1)] false) = 2 := by decide +kernel
end Go.Proofs.Ythbhengcinkepaa
