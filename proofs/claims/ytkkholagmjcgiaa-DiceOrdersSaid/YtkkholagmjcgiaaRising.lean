/- The function rising of the reference: in how many results the sides rise along a list of the indices. -/
import Derived.Test.YtkkholagmjcgiaaRisesL
import Derived.Test.YtkkholagmjcgiaaBeats2
namespace Go.Proofs.Ytkkholagmjcgiaa
open Go.RowKit

/-- In how many ways sides above the last one rise along the rest of a list. -/
def rgL (ds : List (List Int)) (l : List Int) : Nat → Nat → Int → Int
  | 0, _, _ => 1
  | g + 1, p, last => ((ds.getD (l.getD p 0).toNat []).map fun x => if last < x then rgL ds l g (p + 1) x else 0).sum
theorem rgL_in {ds : List (List Int)} (l : List Int) (h8 : ∀ d ∈ ds, d.length ≤ 8) : ∀ (g p : Nat) (last : Int), 0 ≤ rgL ds l g p last ∧ rgL ds l g p last ≤ (8 : Int) ^ g
  | 0, _, _ => by simp [rgL]
  | g + 1, p, last => by
    have hp : (0 : Int) ≤ 8 ^ g := by
      have := (rgL_in l h8 g p last)
      omega
    have h := tot_in hp ((ds.getD (l.getD p 0).toNat []).map fun x => if last < x then rgL ds l g (p + 1) x else 0) fun z hz => by
      obtain ⟨x, _, rfl⟩ := List.mem_map.1 hz
      have := rgL_in l h8 g (p + 1) x
      split <;> omega
    have hlen : ∀ q, (ds.getD q []).length ≤ 8 := fun q => by
      rcases Nat.lt_or_ge q ds.length with hlt | hge
      · have e : ds.getD q [] = ds[q] := by simp [List.getD, hlt]
        rw [e]
        exact h8 _ (List.getElem_mem hlt)
      · have e : ds.getD q [] = [] := by simp [List.getD, hge]
        rw [e]
        simp
    have hlen := hlen (l.getD p 0).toNat
    rw [List.length_map] at h
    have h2 : (8 : Int) ^ g * ((ds.getD (l.getD p 0).toNat []).length : Int) ≤ 8 ^ g * 8 := Int.mul_le_mul_of_nonneg_left (by omega) hp
    rw [Int.pow_succ]
    unfold rgL
    omega

set_option maxRecDepth 100000 in
set_option maxHeartbeats 2000000 in
theorem rising_any (A A2 : Option Addr) (ds : List (List Int)) (l : List Int) (c c2 B : Nat) (h8 : ∀ d ∈ ds, d.length ≤ 8) (hin : Inds l ds.length) (hl : l.length ≤ 6) (h6 : ds.length ≤ 6) : ∀ (g p : Nat) (last : Int) (w : World), g + p = l.length → RDice w B A ds → RInts w B A2 l →
    Calls Try.prog 102 #[.slice A ds.length c, .slice A2 l.length c2, .int .i64 p, .int .i64 last] w fun e w' => e = .returned (.int .i64 (rgL ds l g p last)) ∧ w = w'
  | 0, p, last, w, hp, hd, hr => by
    obtain rfl : p = l.length := by omega
    clear hd hr h8 hin
    go_enter Try.func102, Try.ntmps102
    go_wp2_with fail
    go_ret
    exact ⟨rfl, rfl⟩
  | g + 1, p, last, w, hp, hd, hr => by
    have HIH := Lib.hid (fun (x : Int) => rising_any A A2 ds l c c2 B h8 hin hl h6 g (p + 1) x w (by omega) hd hr)
    obtain ⟨b1, o1, x, hA, hb1, hx, hcx⟩ := hr.at_ (k := p) (by omega)
    subst hA
    have hxr := hin x (List.mem_of_getElem? hx)
    obtain ⟨q, rfl⟩ := Int.eq_ofNat_of_zero_le hxr.1
    have hqn : q < ds.length := by omega
    obtain ⟨b2, o2, a1, c3, d, hA, hb2, hd1, hcd, hcl, hrd⟩ := hd.at_ (k := q) hqn
    subst hA
    have hd8 : d.length ≤ 8 := h8 d (List.mem_of_getElem? hd1)
    have HE := Lib.hid (show ∀ s, rgL ds l (g + 1) p s = (d.map fun x => if s < x then rgL ds l g (p + 1) x else 0).sum from fun s => by
      have e1 : l.getD p 0 = (q : Int) := by simp [List.getD, hx]
      have e2 : ds.getD q [] = d := by simp [List.getD, hd1]
      rw [rgL, e1, Int.toNat_natCast, e2])
    have HIN := Lib.hid (show ∀ x, 0 ≤ rgL ds l g (p + 1) x ∧ rgL ds l g (p + 1) x ≤ 262144 from fun x => by
      have h1 := rgL_in l h8 g (p + 1) x
      have h2 : (8 : Int) ^ g ≤ 262144 := by
        have : g ≤ 5 := by omega
        match g, this with
        | 0, _ => decide
        | 1, _ => decide
        | 2, _ => decide
        | 3, _ => decide
        | 4, _ => decide
        | 5, _ => decide
      omega)
    have HRD := Lib.hid hrd
    have hpl : p < l.length := by omega
    have hpl1 : (p : Int) < (l.length : Int) := by omega
    have hqn1 : (q : Int) < (ds.length : Int) := by omega
    have hpe : ((p : Int) == (l.length : Int)) = false := by rw [beq_eq_false_iff_ne]; omega
    clear hd hr h8 hin hx hxr hd1 hrd hp
    rw [HE.out]
    obtain ⟨F, hF⟩ : ∃ F : Int → Int, (fun x => if last < x then rgL ds l g (p + 1) x else 0) = F := ⟨_, rfl⟩
    rw [hF]
    have HF := Lib.hid (show ∀ x, F x = if last < x then rgL ds l g (p + 1) x else 0 from fun x => by rw [← hF])
    clear hF
    go_enter Try.func102, Try.ntmps102
    go_wp2_with fail
    go_loopg [9, 11] d.length (fun g s z wx => ∃ (k : Nat) (S : Int), k + g = d.length ∧ z = .int .i64 k ∧ s = .int .i64 S ∧ Hid (((d.take k).map F).sum = S) ∧ w = wx)
    case atStart => exact ⟨0, 0, by omega, rfl, rfl, rfl, rfl⟩
    case round =>
      obtain ⟨k, S, hk, rfl, rfl, HS1, rfl⟩ := hrel
      have HS := HS1
      clear HS1
      cases gk with
      | zero =>
        obtain rfl : k = d.length := by omega
        go_wp2_with fail
        go_ret
        have h := HS.out
        rw [List.take_length] at h
        exact ⟨ret_int h.symm, rfl⟩
      | succ gk =>
        have hkl : k < d.length := by omega
        have hkl1 : (k : Int) < (d.length : Int) := by omega
        obtain ⟨b3, o3, s, hA, hb3, hs, hcs⟩ := HRD.out.at_ (k := k) hkl
        subst hA
        have hFI : ∀ z ∈ (d.take k).map F, 0 ≤ z ∧ z ≤ 262144 := fun z hz => by
          obtain ⟨x, _, rfl⟩ := List.mem_map.1 hz
          have := HIN.out x
          rw [HF.out]
          split <;> omega
        have hsb := tot_in (by decide : (0 : Int) ≤ 262144) ((d.take k).map F) hFI
        rw [HS.out] at hsb
        have hs0 := hsb.1
        have hs1 : S ≤ 100000000 := by
          have h1 := hsb.2
          have h2 : (((d.take k).map F).length : Int) ≤ 8 := by simp; omega
          omega
        have HST := Lib.hid (show ((d.take (k + 1)).map F).sum = S + F s by
          rw [take_snoc hs, List.map_append, List.sum_append, HS.out]
          simp)
        have hr0 := (HIN.out s).1
        have hr1 := (HIN.out s).2
        have HCI := Lib.hid (HIH.out s)
        obtain ⟨R, hR⟩ : ∃ R, rgL ds l g (p + 1) s = R := ⟨_, rfl⟩
        have HFS := Lib.hid (HF.out s)
        rw [hR] at hr0 hr1 HFS
        have HR := Lib.hid hR
        clear hsb hFI hs hR
        by_cases hzp : last < s
        · have hzd : decide (last < s) = true := decide_eq_true hzp
          rw [if_pos hzp] at HFS
          rw [HFS.out] at HST
          go_wp2_with fail
          refine HCI.out.mono ?_
          rintro e w' ⟨rfl, rfl⟩
          rw [HR.out]
          go_wp2_with fail
          go_roundg gk
          case measure => omega
          case rel => exact ⟨k + 1, S + R, by omega, by go_num, by go_num, HST, rfl⟩
        · have hzd : decide (last < s) = false := decide_eq_false hzp
          rw [if_neg hzp] at HFS
          rw [HFS.out, Int.add_zero] at HST
          go_wp2_with fail
          go_roundg gk
          case measure => omega
          case rel => exact ⟨k + 1, S, by omega, by go_num, rfl, HST, rfl⟩

end Go.Proofs.Ytkkholagmjcgiaa
