/- The polynomials f(k) of package light. -/
import Derived.Test.YtpdgjjpfahobaaaPoly1
namespace Go.Proofs.Ytpdgjjpfahobaaa
open Go.RowKit Lamp

def memK (sh : Bool) : Nat → List Nat × List Nat
  | 0 => ([1], [])
  | k + 1 => ((memK sh k).2, if sh then plusL (plusL (memK sh k).1 1 (memK sh k).2) 0 (memK sh k).2 else plusL (memK sh k).1 1 (memK sh k).2)
def memberL (k : Nat) (sh : Bool) : List Nat := (memK sh k).2

theorem plusL_len (f : List Nat) (s : Nat) (g : List Nat) : (plusL f s g).length ≤ max f.length (s + g.length) := by
  unfold plusL
  rw [cutL_len]
  have h1 := cutN_le (sumK f s g (max f.length (s + g.length)) g.length) (sumK f s g (max f.length (s + g.length)) g.length).length
  rw [sumK_len] at h1 ⊢
  exact h1
theorem plusL_bits {f g : List Nat} {s : Nat} (hf : ∀ x ∈ f, x < 2) (hg : ∀ x ∈ g, x < 2) : ∀ x ∈ plusL f s g, x < 2 := by
  intro x hx
  obtain ⟨i, _, rfl⟩ := List.mem_map.1 (List.mem_of_mem_take hx)
  refine Nat.xor_lt_two_pow (n := 1) (getD_lt (M := 2) hf (by decide) i) ?_
  split
  · exact getD_lt (M := 2) hg (by decide) _
  · decide
theorem memK_ok (sh : Bool) (k : Nat) : ((memK sh k).1.length ≤ k + 1 ∧ (memK sh k).2.length ≤ k) ∧ (∀ x ∈ (memK sh k).1, x < 2) ∧ ∀ x ∈ (memK sh k).2, x < 2 := by
  induction k with
  | zero => exact ⟨⟨by simp [memK], by simp [memK]⟩, by simp [memK], by simp [memK]⟩
  | succ k ih =>
    obtain ⟨⟨h1, h2⟩, h3, h4⟩ := ih
    have h5 := plusL_len (memK sh k).1 1 (memK sh k).2
    have h6 := plusL_bits (s := 1) h3 h4
    have h7 := plusL_len (plusL (memK sh k).1 1 (memK sh k).2) 0 (memK sh k).2
    refine ⟨⟨?_, ?_⟩, ?_, ?_⟩
    · show (memK sh k).2.length ≤ k + 1 + 1
      omega
    · show (if sh then plusL (plusL (memK sh k).1 1 (memK sh k).2) 0 (memK sh k).2 else plusL (memK sh k).1 1 (memK sh k).2).length ≤ k + 1
      cases sh
      · simp only [Bool.false_eq_true, if_false]; omega
      · simp only [if_true]; omega
    · exact h4
    · show ∀ x ∈ (if sh then plusL (plusL (memK sh k).1 1 (memK sh k).2) 0 (memK sh k).2 else plusL (memK sh k).1 1 (memK sh k).2), x < 2
      cases sh
      · exact h6
      · exact plusL_bits h6 h4

theorem RU8.up {w W : World} {A : Option Addr} {l : List Nat} (h : RU8 w w.heap.size A l) (hb : Below w.heap.size w W) : RU8 W W.heap.size A l := Lies.more (Lies.below h hb) hb.size

set_option maxHeartbeats 2000000 in
theorem member_any (k : Nat) (sh : Bool) (w : World) (hk : k ≤ 1000) :
    Calls Try.prog 77 #[.int .i64 k, .bool sh] w fun e w' => ∃ g c, e = .returned (.slice (some ⟨g, 0, none⟩) (memberL k sh).length c) ∧ RU8 w' w'.heap.size (some ⟨g, 0, none⟩) (memberL k sh) ∧ Below w.heap.size w w' := by
  go_enter Try.func77, Try.ntmps77
  go_wp2_with fail
  go_loopw [5, 6, 11] (fun sb sf i wr => ∃ (j gb cb gf cf : Nat), i = .int .i64 j ∧ j ≤ k ∧ sb = .slice (some ⟨gb, 0, none⟩) (memK sh j).1.length cb ∧ sf = .slice (some ⟨gf, 0, none⟩) (memK sh j).2.length cf ∧ Hid (RU8 wr wr.heap.size (some ⟨gb, 0, none⟩) (memK sh j).1) ∧ Hid (RU8 wr wr.heap.size (some ⟨gf, 0, none⟩) (memK sh j).2) ∧ Hid (Below w.heap.size w wr)) (fun _ _ i _ => k - (intOf i).toNat)
  case atStart =>
    refine ⟨0, w.heap.size, 1, w.heap.size + 1, 0, rfl, by omega, rfl, rfl, Lib.hid ?_, Lib.hid (fun j u hu => by simp [memK, u8V] at hu), Lib.hid (((Below.refl _ _).alloc (Nat.le_refl _) _).alloc (by simp) _)⟩
    have h1 := (Box.new w 5 (pCells [1])).alloc (Obj.cells #[] 5)
    exact RU8.of_box h1 1
  case round =>
    obtain ⟨j, gb, cb, gf, cf, rfl, hj, rfl, rfl, HB1, HF1, HW1⟩ := hrel
    have HBx := HB1
    have HFx := HF1
    have HWx := HW1
    clear HB1 HF1 HW1
    by_cases hlt : j < k
    · have hok := memK_ok sh j
      obtain ⟨b, hb⟩ : ∃ b, (memK sh j).1 = b := ⟨_, rfl⟩
      obtain ⟨f, hf⟩ : ∃ f, (memK sh j).2 = f := ⟨_, rfl⟩
      have HS := Lib.hid (show memK sh (j + 1) = (f, if sh then plusL (plusL b 1 f) 0 f else plusL b 1 f) by rw [memK, hb, hf])
      rw [hb, hf] at hok
      rw [hb] at HBx ⊢
      rw [hf] at HFx ⊢
      obtain ⟨⟨hbl, hfl⟩, hb2, hf2⟩ := hok
      have HB2 := Lib.hid hb2
      have HF2 := Lib.hid hf2
      clear hb hf hb2 hf2
      cases sh
      · go_wp2_with fail
        refine (plus_any gb 0 cb gf 0 cf 1 b f wr HBx.out HFx.out (by omega) (by omega) (by omega) HB2.out HF2.out).mono ?_
        rintro e w1 ⟨g1, rfl, hr1, hb1⟩
        have HR1 := Lib.hid hr1
        have HB3 := Lib.hid hb1
        clear hr1 hb1
        go_wp2_with fail
        go_roundw
        case rel =>
          refine ⟨j + 1, gf, cf, g1, (plusL b 1 f).length, by go_num, by omega, by rw [HS.out], by rw [HS.out]; rfl, ?_, ?_, ?_⟩
          · rw [HS.out]; exact Lib.hid (HFx.out.up HB3.out)
          · rw [HS.out]; exact HR1
          · exact Lib.hid (HWx.out.trans (HB3.out.mono HWx.out.size))
        case measure => simp [intOf]; omega
      · have hl1 := plusL_len b 1 f
        go_wp2_with fail
        refine (plus_any gb 0 cb gf 0 cf 1 b f wr HBx.out HFx.out (by omega) (by omega) (by omega) HB2.out HF2.out).mono ?_
        rintro e w1 ⟨g1, rfl, hr1, hb1⟩
        have HR1 := Lib.hid hr1
        have HB3 := Lib.hid hb1
        clear hr1 hb1
        go_wp2_with fail
        refine (plus_any g1 0 _ gf 0 cf 0 (plusL b 1 f) f w1 HR1.out (HFx.out.up HB3.out) (by omega) (by omega) (by omega) (plusL_bits HB2.out HF2.out) HF2.out).mono ?_
        rintro e w2 ⟨g2, rfl, hr2, hb2⟩
        have HR2 := Lib.hid hr2
        have HB4 := Lib.hid (HB3.out.trans (hb2.mono HB3.out.size))
        clear hr2 hb2
        go_wp2_with fail
        go_roundw
        case rel =>
          refine ⟨j + 1, gf, cf, g2, (plusL (plusL b 1 f) 0 f).length, by go_num, by omega, by rw [HS.out], by rw [HS.out]; rfl, ?_, ?_, ?_⟩
          · rw [HS.out]; exact Lib.hid (HFx.out.up HB4.out)
          · rw [HS.out]; exact HR2
          · exact Lib.hid (HWx.out.trans (HB4.out.mono HWx.out.size))
        case measure => simp [intOf]; omega
    · obtain rfl : j = k := by omega
      go_wp2_with fail
      go_ret
      exact ⟨gf, cf, rfl, HFx.out, HWx.out⟩

/-- The places of a list that hold 1, of the first k. -/
def onesK (l : List Nat) (k : Nat) : List Nat := (List.range k).filter fun i => decide (l.getD i 0 = 1)
theorem onesK_succ (l : List Nat) (k : Nat) : onesK l (k + 1) = if l.getD k 0 = 1 then onesK l k ++ [k] else onesK l k := by
  unfold onesK
  rw [List.range_succ, List.filter_append]
  by_cases h : l.getD k 0 = 1
  · rw [if_pos h, List.filter_cons, if_pos (decide_eq_true h)]; rfl
  · rw [if_neg h, List.filter_cons, if_neg (by rw [decide_eq_true_eq]; exact h), List.filter_nil, List.append_nil]
theorem onesK_len (l : List Nat) (k : Nat) : (onesK l k).length ≤ k := by
  unfold onesK
  exact Nat.le_trans (List.length_filter_le _ _) (by simp)
def polyL (k : Nat) : List Nat := onesK (memberL k false) (memberL k false).length

end Go.Proofs.Ytpdgjjpfahobaaa
