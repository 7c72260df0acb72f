/- Remainders and greatest common divisors of polynomials, the function GridQuiet of package light. -/
import Derived.Test.YtpdgjjpfahobaaaPoly2
import Derived.Deep.LoopGhost
namespace Go.Proofs.Ytpdgjjpfahobaaa
open Go.RowKit Lamp

/-- A polynomial: bits, the last one 1. -/
def NormP (l : List Nat) : Prop := (∀ x ∈ l, x < 2) ∧ (1 ≤ l.length → l.getD (l.length - 1) 0 = 1)
theorem cutN_top (l : List Nat) (n : Nat) : 1 ≤ cutN l n → l.getD (cutN l n - 1) 0 ≠ 0 := by
  induction n with
  | zero => intro h; simp [cutN] at h
  | succ n ih =>
    unfold cutN
    split
    · exact ih
    · rename_i h; intro _; exact h
theorem cut_getD {s : List Nat} {n k : Nat} (h : k < n) : (s.take n).getD k 0 = s.getD k 0 := by
  simp only [List.getD_eq_getElem?_getD, List.getElem?_take, if_pos h]
theorem cutL_norm {l : List Nat} (h : ∀ x ∈ l, x < 2) : NormP (cutL l) := by
  refine ⟨fun x hx => h x (List.mem_of_mem_take hx), fun h1 => ?_⟩
  rw [cutL_len] at h1 ⊢
  have h2 := cutN_top l l.length h1
  have h3 := getD_lt (M := 2) h (by decide) (cutN l l.length - 1)
  unfold cutL
  rw [cut_getD (by omega)]
  omega
theorem plusL_norm {f g : List Nat} {s : Nat} (hf : ∀ x ∈ f, x < 2) (hg : ∀ x ∈ g, x < 2) : NormP (plusL f s g) := by
  refine cutL_norm fun x hx => ?_
  obtain ⟨i, _, rfl⟩ := List.mem_map.1 hx
  refine Nat.xor_lt_two_pow (n := 1) (getD_lt (M := 2) hf (by decide) i) ?_
  split
  · exact getD_lt (M := 2) hg (by decide) _
  · decide
theorem memK_norm (sh : Bool) (k : Nat) : NormP (memK sh k).1 ∧ NormP (memK sh k).2 := by
  induction k with
  | zero => exact ⟨⟨by simp [memK], by simp [memK]⟩, ⟨by simp [memK], by simp [memK]⟩⟩
  | succ k ih =>
    refine ⟨ih.2, ?_⟩
    show NormP (if sh then plusL (plusL (memK sh k).1 1 (memK sh k).2) 0 (memK sh k).2 else plusL (memK sh k).1 1 (memK sh k).2)
    split
    · exact plusL_norm (plusL_norm ih.1.1 ih.2.1).1 ih.2.1
    · exact plusL_norm ih.1.1 ih.2.1
/-- Adding so that the greatest powers meet takes the greatest one away. -/
theorem plusL_drop {f g : List Nat} (hf : NormP f) (hg : NormP g) (h1 : 1 ≤ g.length) (h2 : g.length ≤ f.length) : (plusL f (f.length - g.length) g).length < f.length := by
  unfold plusL
  rw [cutL_len]
  have hm : max f.length (f.length - g.length + g.length) = f.length := by omega
  rw [hm, sumK_len]
  obtain ⟨m, hm⟩ : ∃ m, f.length = m + 1 := ⟨f.length - 1, by omega⟩
  have h3 : (sumK f (f.length - g.length) g f.length g.length).getD m 0 = 0 := by
    rw [sumK_getD _ _ _ _ _ _ (by omega), if_pos (by omega)]
    have h4 := hf.2 (by omega)
    have h5 := hg.2 h1
    rw [show f.length - 1 = m by omega] at h4
    rw [show m - (f.length - g.length) = g.length - 1 by omega, h4, h5]
    rfl
  have h6 : cutN (sumK f (f.length - g.length) g f.length g.length) f.length = cutN (sumK f (f.length - g.length) g f.length g.length) m := by
    conv => lhs; arg 2; rw [hm]
    rw [cutN, if_pos h3]
  rw [h6]
  have := cutN_le (sumK f (f.length - g.length) g f.length g.length) m
  omega

def remL : Nat → List Nat → List Nat → List Nat
  | 0, f, _ => f
  | k + 1, f, g => if g.length ≤ f.length then remL k (plusL f (f.length - g.length) g) g else f
def remF (f g : List Nat) : List Nat := remL (f.length + 1) f g
theorem remL_ok {g : List Nat} (hg : NormP g) (h1 : 1 ≤ g.length) (k : Nat) : ∀ f, NormP f → f.length ≤ k → NormP (remL (k + 1) f g) ∧ (remL (k + 1) f g).length < g.length := by
  induction k with
  | zero =>
    intro f hf hl
    rw [remL, if_neg (by omega)]
    exact ⟨hf, by omega⟩
  | succ k ih =>
    intro f hf hl
    rw [remL]
    split
    · rename_i h2
      have h3 := plusL_drop hf hg h1 h2
      exact ih _ (plusL_norm hf.1 hg.1) (by omega)
    · exact ⟨hf, by omega⟩
def divL : Nat → List Nat → List Nat → List Nat
  | 0, f, _ => f
  | k + 1, f, g => if g.length = 0 then f else divL k g (remF f g)
def divF (f g : List Nat) : List Nat := divL (g.length + 1) f g

/-- A polynomial is returned, in new memory or in that which was there. -/
def PolyOut (w : World) (l : List Nat) (e : Ending) (w' : World) : Prop := ∃ b c, e = .returned (.slice (some ⟨b, 0, none⟩) l.length c) ∧ RU8 w' w'.heap.size (some ⟨b, 0, none⟩) l ∧ Below w.heap.size w w'

set_option maxHeartbeats 2000000 in
theorem remainder_any (b1 c1 b2 c2 : Nat) (f g : List Nat) (w : World) (hf : RU8 w w.heap.size (some ⟨b1, 0, none⟩) f) (hg : RU8 w w.heap.size (some ⟨b2, 0, none⟩) g) (hfn : NormP f) (hgn : NormP g) (h1 : 1 ≤ g.length) (hfl : f.length ≤ 10000) (hgl : g.length ≤ 10000) :
    Calls Try.prog 106 #[.slice (some ⟨b1, 0, none⟩) f.length c1, .slice (some ⟨b2, 0, none⟩) g.length c2] w (PolyOut w (remF f g)) := by
  have HG := Lib.hid hg
  have HGN := Lib.hid hgn
  have HF := Lib.hid hf
  have HFN := Lib.hid hfn
  clear hf hg hfn hgn
  go_enter Try.func106, Try.ntmps106
  go_wp2_with fail
  go_loopg [0] f.length (fun gk sv wr => ∃ (l : List Nat) (b c : Nat), sv = .slice (some ⟨b, 0, none⟩) l.length c ∧ Hid (NormP l) ∧ l.length ≤ gk ∧ gk ≤ 10000 ∧ Hid (remL (gk + 1) l g = remF f g) ∧ Hid (RU8 wr wr.heap.size (some ⟨b, 0, none⟩) l) ∧ Hid (Below w.heap.size w wr))
  case atStart => exact ⟨f, b1, c1, rfl, HFN, Nat.le_refl _, hfl, Lib.hid rfl, HF, Lib.hid (Below.refl _ _)⟩
  case round =>
    obtain ⟨l, b, c, rfl, HN1, hlk, hgk, HE1, HR1, HB1⟩ := hrel
    have HN := HN1
    have HE := HE1
    have HR := HR1
    have HB := HB1
    clear HN1 HE1 HR1 HB1 HF HFN
    by_cases hle : g.length ≤ l.length
    · have HD := Lib.hid (plusL_drop HN.out HGN.out h1 hle)
      have HST := Lib.hid (show remL (gk + 1) l g = remL gk (plusL l (l.length - g.length) g) g by rw [remL, if_pos hle])
      have hsub : (l.length : Int) - (g.length : Int) = ((l.length - g.length : Nat) : Int) := by omega
      have HSUB := Lib.hid hsub
      have hle' : (g.length : Int) ≤ (l.length : Int) := by omega
      clear hsub
      go_wp2_with fail
      rw [HSUB.out]
      refine (plus_any b 0 c b2 0 c2 (l.length - g.length) l g wr HR.out (HG.out.up HB.out) (by omega) (by omega) (by omega) HN.out.1 HGN.out.1).mono ?_
      rintro e w1 ⟨g1, rfl, hr1, hb1⟩
      have HR2 := Lib.hid hr1
      have HB2 := Lib.hid (HB.out.trans (hb1.mono HB.out.size))
      clear hr1 hb1
      go_wp2_with fail
      go_roundg (gk - 1)
      case rel =>
        have hd := HD.out
        refine ⟨plusL l (l.length - g.length) g, g1, _, rfl, Lib.hid (plusL_norm HN.out.1 HGN.out.1), by omega, by omega, Lib.hid ?_, HR2, HB2⟩
        rw [Nat.sub_add_cancel (by omega), ← HE.out, HST.out]
      case measure => omega
    · have hle' : (l.length : Int) < (g.length : Int) := by omega
      have HST := Lib.hid (show remF f g = l by rw [← HE.out, remL, if_neg hle])
      clear hle
      go_wp2_with fail
      go_ret
      exact ⟨b, c, by rw [HST.out]; rfl, by rw [HST.out]; exact HR.out, HB.out⟩

set_option maxHeartbeats 2000000 in
theorem divisor_any (b1 c1 b2 c2 : Nat) (f g : List Nat) (w : World) (hf : RU8 w w.heap.size (some ⟨b1, 0, none⟩) f) (hg : RU8 w w.heap.size (some ⟨b2, 0, none⟩) g) (hfn : NormP f) (hgn : NormP g) (hfl : f.length ≤ 10000) (hgl : g.length ≤ 10000) :
    Calls Try.prog 76 #[.slice (some ⟨b1, 0, none⟩) f.length c1, .slice (some ⟨b2, 0, none⟩) g.length c2] w (PolyOut w (divF f g)) := by
  have HG := Lib.hid hg
  have HGN := Lib.hid hgn
  have HF := Lib.hid hf
  have HFN := Lib.hid hfn
  clear hf hg hfn hgn
  go_enter Try.func76, Try.ntmps76
  go_wp2_with fail
  go_loopg [0, 1] g.length (fun gk sv su wr => ∃ (l m : List Nat) (b c b' c' : Nat), sv = .slice (some ⟨b, 0, none⟩) l.length c ∧ su = .slice (some ⟨b', 0, none⟩) m.length c' ∧ Hid (NormP l) ∧ Hid (NormP m) ∧ l.length ≤ 10000 ∧ m.length ≤ gk ∧ gk ≤ 10000 ∧ Hid (divL (gk + 1) l m = divF f g) ∧ Hid (RU8 wr wr.heap.size (some ⟨b, 0, none⟩) l) ∧ Hid (RU8 wr wr.heap.size (some ⟨b', 0, none⟩) m) ∧ Hid (Below w.heap.size w wr))
  case atStart => exact ⟨f, g, b1, c1, b2, c2, rfl, rfl, HFN, HGN, hfl, Nat.le_refl _, hgl, Lib.hid rfl, HF, HG, Lib.hid (Below.refl _ _)⟩
  case round =>
    obtain ⟨l, m, b, c, b', c', rfl, rfl, HN1, HM1, hll, hmk, hgk, HE1, HR1, HS1, HB1⟩ := hrel
    have HN := HN1
    have HM := HM1
    have HE := HE1
    have HR := HR1
    have HS := HS1
    have HB := HB1
    clear HN1 HM1 HE1 HR1 HS1 HB1 HF HFN HG HGN
    by_cases h0 : m.length = 0
    · have hle' : ¬ (0 : Int) < (m.length : Int) := by omega
      have HST := Lib.hid (show divF f g = l by rw [← HE.out, divL, if_pos h0])
      clear h0
      go_wp2_with fail
      go_ret
      exact ⟨b, c, by rw [HST.out]; rfl, by rw [HST.out]; exact HR.out, HB.out⟩
    · have hm1 : 1 ≤ m.length := by omega
      have hle' : (0 : Int) < (m.length : Int) := by omega
      have HST := Lib.hid (show divL (gk + 1) l m = divL gk m (remF l m) by rw [divL, if_neg h0])
      have HRM := Lib.hid (remL_ok HM.out hm1 l.length l HN.out (Nat.le_refl _))
      clear h0
      go_wp2_with fail
      refine (remainder_any b c b' c' l m wr HR.out HS.out HN.out HM.out hm1 hll (by omega)).mono ?_
      rintro e w1 ⟨g1, cc, rfl, hr1, hb1⟩
      have HR2 := Lib.hid hr1
      have HB2 := Lib.hid hb1
      clear hr1 hb1
      go_wp2_with fail
      go_roundg (gk - 1)
      case rel =>
        have hd : (remF l m).length < m.length := HRM.out.2
        refine ⟨m, remF l m, b', c', g1, cc, rfl, rfl, HM, Lib.hid HRM.out.1, by omega, by omega, by omega, Lib.hid ?_, Lib.hid (HS.out.up HB2.out), HR2, Lib.hid (HB.out.trans (HB2.out.mono HB.out.size))⟩
        rw [Nat.sub_add_cancel (by omega), ← HE.out, HST.out]
      case measure => omega

theorem divL_len (k : Nat) : ∀ f g : List Nat, NormP f → NormP g → (divL k f g).length ≤ max f.length g.length := by
  induction k with
  | zero => intro f g _ _; exact Nat.le_max_left _ _
  | succ k ih =>
    intro f g hf hg
    rw [divL]
    split
    · exact Nat.le_max_left _ _
    · rename_i h0
      have h1 := remL_ok hg (by omega) f.length f hf (Nat.le_refl _)
      have h2 := ih g (remF f g) hg h1.1
      have h3 : (remF f g).length < g.length := h1.2
      omega
theorem degree_any (A : Option Addr) (m c : Nat) (w : World) (hm : m ≤ 10000) :
    Calls Try.prog 78 #[.slice A m c] w fun e w' => e = .returned (.int .i64 ((m : Int) - 1)) ∧ w = w' := by
  have h1 : wrap64 ((m : Int) - 1) = (m : Int) - 1 := w64 (by omega)
  go_enter Try.func78, Try.ntmps78
  go_wp2_with fail
  go_ret
  exact ⟨rfl, rfl⟩
theorem isSide_any (n : Int) (w : World) :
    Calls Try.prog 75 #[.int .i64 n] w fun e w' => e = .returned (.bool (decide (1 ≤ n) && decide (n ≤ 60))) ∧ w = w' := by
  go_enter Try.func75, Try.ntmps75
  go_wp2_with fail
  all_goals
    go_ret
    exact ⟨ret_bool (by first | (simp [*]; done) | (simp; omega)), rfl⟩

/-- The number of sets in the quiet basis of a grid, as the program counts it. -/
def gridQ (r c : Nat) (own : Bool) : Int := ((divF (memberL (c + 1) false) (memberL (r + 1) own)).length : Int) - 1
set_option maxHeartbeats 2000000 in
theorem GridQuiet_ok (r c : Nat) (own : Bool) (w : World) (hr1 : 1 ≤ r) (hr : r ≤ 60) (hc1 : 1 ≤ c) (hc : c ≤ 60) :
    Calls Try.prog 44 #[.int .i64 r, .int .i64 c, .bool own] w fun e w' => e = .returned (.tuple #[.int .i64 (gridQ r c own), .int .i64 0]) ∧ Below w.heap.size w w' := by
  have hsr : (decide ((1 : Int) ≤ (r : Int)) && decide ((r : Int) ≤ 60)) = true := by simp; omega
  have hsc : (decide ((1 : Int) ≤ (c : Int)) && decide ((c : Int) ≤ 60)) = true := by simp; omega
  have HSR := Lib.hid hsr
  have HSC := Lib.hid hsc
  have hcr : (c : Int) + 1 = ((c + 1 : Nat) : Int) := rfl
  have hrr : (r : Int) + 1 = ((r + 1 : Nat) : Int) := rfl
  have HCR := Lib.hid hcr
  have HRR := Lib.hid hrr
  have HN1 := Lib.hid (memK_norm false (c + 1)).2
  have HN2 := Lib.hid (memK_norm own (r + 1)).2
  have HL1 := Lib.hid (memK_ok false (c + 1)).1.2
  have HL2 := Lib.hid (memK_ok own (r + 1)).1.2
  have HQ := Lib.hid (show gridQ r c own = ((divF (memberL (c + 1) false) (memberL (r + 1) own)).length : Int) - 1 from rfl)
  clear hsr hsc hcr hrr
  go_enter Try.func44, Try.ntmps44
  go_wp2_with fail
  refine (isSide_any r w).mono ?_
  rintro e w' ⟨rfl, rfl⟩
  rw [HSR.out]
  go_wp2_with fail
  refine (isSide_any c _).mono ?_
  rintro e w' ⟨rfl, rfl⟩
  rw [HSC.out]
  go_wp2_with fail
  rw [HCR.out]
  refine (member_any (c + 1) false _ (by omega)).mono ?_
  rintro e w1 ⟨g1, c1, rfl, hr1, hb1⟩
  have HA := Lib.hid hr1
  have HB := Lib.hid hb1
  clear hr1 hb1
  go_wp2_with fail
  rw [HRR.out]
  refine (member_any (r + 1) own _ (by omega)).mono ?_
  rintro e w2 ⟨g2, c2, rfl, hr2, hb2⟩
  have HA2 := Lib.hid hr2
  have HB2 := Lib.hid hb2
  clear hr2 hb2
  go_wp2_with fail
  refine (divisor_any g1 c1 g2 c2 (memberL (c + 1) false) (memberL (r + 1) own) w2 (HA.out.up HB2.out) HA2.out HN1.out HN2.out (Nat.le_trans HL1.out (by omega)) (Nat.le_trans HL2.out (by omega))).mono ?_
  rintro e w3 ⟨g3, c3, rfl, _, hb3⟩
  have HB3 := Lib.hid (HB.out.trans ((HB2.out.trans (hb3.mono HB2.out.size)).mono HB.out.size))
  obtain ⟨m, hm⟩ : ∃ m, (divF (memberL (c + 1) false) (memberL (r + 1) own)).length = m := ⟨_, rfl⟩
  rw [hm]
  have HM := Lib.hid hm
  have HMB := Lib.hid (show m ≤ 10000 by have h1 := divL_len ((memberL (r + 1) own).length + 1) _ _ HN1.out HN2.out; have h2 := HL1.out; have h3 := HL2.out; rw [← hm]; exact Nat.le_trans h1 (Nat.max_le.2 ⟨Nat.le_trans h2 (by omega), Nat.le_trans h3 (by omega)⟩))
  clear hb3 hm
  go_wp2_with fail
  refine (degree_any _ m _ w3 HMB.out).mono ?_
  rintro e w4 ⟨rfl, rfl⟩
  go_wp2_with fail
  go_ret2
  exact ⟨by rw [HQ.out, HM.out]; rfl, HB3.out⟩
end Go.Proofs.Ytpdgjjpfahobaaa
