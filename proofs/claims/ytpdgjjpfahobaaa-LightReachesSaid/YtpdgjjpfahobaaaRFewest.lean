/- The reference's Fewest: for each target the best set, found by going through all sets. -/
import Derived.Test.YtpdgjjpfahobaaaRSize
import Derived.Test.YtpdgjjpfahobaaaFewL
namespace Go.Proofs.Ytpdgjjpfahobaaa
open Go.RowKit Lamp

/-- Integers as cells. -/
def zC (l : List Int) : Array Value := (l.map fun x => Value.int .i64 x).toArray
theorem zC_at (l : List Int) (k : Nat) (h : k < l.length) : (zC l)[k]? = some (.int .i64 (l.getD k 0)) := by
  simp [zC, List.getElem?_eq_getElem h, List.getD_eq_getElem?_getD]
theorem zC_set (l : List Int) (i : Nat) (v : Int) : (zC l).setIfInBounds i (.int .i64 v) = zC (l.set i v) := by
  simp [zC, List.map_set]
/-- The first k cells are -1, the others 0. -/
def minus (P k : Nat) : List Int := (List.range P).map fun j => if j < k then -1 else 0
theorem minus_zero (P : Nat) : iC (List.replicate P 0) = zC (minus P 0) := by
  unfold iC zC minus
  congr 1
  apply List.ext_getElem?
  intro i
  by_cases hi : i < P <;> simp [hi]
theorem minus_set (P k : Nat) : (minus P k).set k (-1) = minus P (k + 1) := by
  unfold minus
  apply List.ext_getElem?
  intro i
  rw [List.getElem?_set]
  by_cases hi : i < P
  · by_cases hk : k = i
    · subst hk; simp [hi]
    · rw [if_neg hk]
      simp only [List.getElem?_map, List.getElem?_range hi, Option.map_some]
      congr 1
      by_cases h2 : i < k
      · rw [if_pos h2, if_pos (by omega)]
      · rw [if_neg h2, if_neg (by omega)]
  · by_cases hk : k = i
    · subst hk; simp [hi]
    · simp [hi, hk]
/-- The best sets among those below k, for the targets below P. -/
def fcells (s : List Nat) (P k : Nat) : List Int := (List.range P).map fun t => fT s t k
theorem fcells_len (s : List Nat) (P k : Nat) : (fcells s P k).length = P := by simp [fcells]
theorem fcells_at (s : List Nat) (P k t : Nat) (h : t < P) : (fcells s P k).getD t 0 = fT s t k := by
  simp [fcells, List.getD_eq_getElem?_getD, h]
theorem fcells_zero (s : List Nat) (P : Nat) : minus P P = fcells s P 0 := by
  unfold minus fcells
  refine List.map_congr_left fun j hj => ?_
  have := List.mem_range.1 hj
  rw [if_pos this]; rfl
theorem fcells_put (s : List Nat) (P k : Nat) {t : Nat} (ht : comb k s = t) (h : fT s t k < 0 ∨ popc k < popc (fT s t k).toNat) : (fcells s P k).set t (k : Int) = fcells s P (k + 1) := by
  unfold fcells
  apply List.ext_getElem?
  intro i
  rw [List.getElem?_set]
  by_cases hi : i < P
  · by_cases hk : t = i
    · subst hk
      simp only [List.length_map, List.length_range, hi, if_true, List.getElem?_map, List.getElem?_range hi, Option.map_some]
      rw [fT, if_pos ⟨ht, h⟩]
    · rw [if_neg hk]
      simp only [List.getElem?_map, List.getElem?_range hi, Option.map_some]
      rw [fT, if_neg (fun h2 => hk (ht.symm.trans h2.1))]
  · by_cases hk : t = i
    · subst hk; simp [hi]
    · simp [hi, hk]
theorem fcells_keep (s : List Nat) (P k : Nat) {t : Nat} (ht : comb k s = t) (h : ¬ (fT s t k < 0 ∨ popc k < popc (fT s t k).toNat)) : fcells s P (k + 1) = fcells s P k := by
  unfold fcells
  refine List.map_congr_left fun j _ => ?_
  rw [fT, if_neg]
  rintro ⟨h1, h2⟩
  rw [ht] at h1
  subst h1
  exact h h2

set_option maxRecDepth 100000 in
set_option maxHeartbeats 8000000 in
theorem RFewest_any {w : World} {g n P : Nat} {s : List Nat} (hb : Box w g 3 (iC s)) (hn : s.length = n) (hn16 : n ≤ 16) (hP : 2 ^ n = P) (hs : ∀ x ∈ s, x < P) :
    Calls Try.prog 36 #[.slice (some ⟨g, 0, none⟩) n n] w fun e w' => e = .returned (.slice (some ⟨w.heap.size, 0, none⟩) P P) ∧ Box w' w.heap.size 3 (zC (fcells s P P)) ∧ Below w.heap.size w w' := by
  have hp16 := pow_split hn16
  have hp0 := Nat.two_pow_pos n
  have hpi : ((2 ^ n : Nat) : Int) = (2 : Int) ^ n := by simp
  have hP2 : (2 : Int) ^ n = (P : Int) := by rw [← hpi, hP]
  have hwP : IntKind.i64.wrap (P : Int) = (P : Int) := IntWalk.i64_in _ (by omega)
  rw [hP] at hp16 hp0
  have hmk := make_ic P (by omega) w
  have HB0 := Lib.hid hb
  have HSL := Lib.hid hn
  have HS := Lib.hid (show ∀ x ∈ s, x < 65536 from fun x hx => by have := hs x hx; omega)
  have HT := Lib.hid (show ∀ k, comb k s < P from fun k => by rw [← hP]; exact comb_lt k s (by rw [hP]; exact hs))
  clear hb hn hs hP hpi
  go_enter Try.func36, Try.ntmps36
  go_wp2_with fail
  clear hmk
  go_loopw [5] (fun i wr => ∃ k : Nat, i = .int .i64 k ∧ k ≤ P ∧ Hid (Box wr w.heap.size 3 (zC (minus P k))) ∧ Hid (Below w.heap.size w wr)) (fun i _ => P - (intOf i).toNat)
  case atStart => exact ⟨0, rfl, by omega, Lib.hid (by rw [← minus_zero]; exact Box.new w _ _), Lib.hid ((Below.refl _ w).alloc (Nat.le_refl _) _)⟩
  case round =>
    obtain ⟨k, rfl, hk, HX1, HB1⟩ := hrel
    have HX := HX1
    have HB := HB1
    clear HX1 HB1
    by_cases hlt : k < P
    · have hlt' : (k : Int) < (P : Int) := by omega
      have hck := HX.out.cell k
      rw [zC_at _ _ (by simpa [minus] using hlt)] at hck
      have hfk := HX.out.free k
      go_wp2_with fail
      clear hck hfk
      go_roundw
      case rel =>
        refine ⟨k + 1, by go_num, by omega, Lib.hid ?_, Lib.hid (HB.out.setCell (p := ⟨w.heap.size, k, none⟩) (Nat.le_refl _) _)⟩
        have h1 := HX.out.put k (.int .i64 (-1))
        rw [zC_set, minus_set] at h1
        exact h1
      case measure => simp [intOf]; omega
    · obtain rfl : k = P := by omega
      obtain ⟨wo, rfl⟩ : ∃ wo : World, wo = wr := ⟨_, rfl⟩
      have HX0 := Lib.hid (show Box wo w.heap.size 3 (zC (fcells s k 0)) by rw [← fcells_zero]; exact HX.out)
      clear HX
      go_wp2_with fail
      go_loopw [6] (fun i wr => ∃ j : Nat, i = .int .i64 j ∧ j ≤ k ∧ Hid (Box wr w.heap.size 3 (zC (fcells s k j))) ∧ Hid (Below w.heap.size w wr)) (fun i _ => k - (intOf i).toNat)
      case atStart => exact ⟨0, rfl, by omega, HX0, HB⟩
      case round =>
        obtain ⟨j, rfl, hj, HX1, HB1⟩ := hrel
        have HX := HX1
        have HB2 := HB1
        clear HX1 HB1 HX0 HB
        by_cases hlt : j < k
        · have hlt' : (j : Int) < (k : Int) := by omega
          have hj16 : j < 65536 := by omega
          obtain ⟨t, ht⟩ : ∃ t, comb j s = t := ⟨_, rfl⟩
          have HCT := Lib.hid ht
          have htP : t < k := by rw [← ht]; exact HT.out j
          have htP' : (t : Int) < (k : Int) := by omega
          have HN := Lib.hid (HB0.out.below HB2.out HB0.out.lt)
          have HPUT := Lib.hid (fcells_put s k j ht)
          have HKEEP := Lib.hid (fcells_keep s k j ht)
          have hct := HX.out.cell t
          rw [zC_at _ _ (by rw [fcells_len]; exact htP), fcells_at _ _ _ _ htP] at hct
          have hft := HX.out.free t
          have hcase : fT s t j = -1 ∨ ∃ f : Nat, fT s t j = f ∧ f < j := by
            rcases fT_is s t j with h | ⟨f, h1, h2, _⟩
            · exact .inl h.1
            · exact .inr ⟨f, h1, h2⟩
          obtain ⟨z, hz⟩ : ∃ z, fT s t j = z := ⟨_, rfl⟩
          rw [hz] at hct hcase HPUT HKEEP
          clear ht hz
          by_cases hz0 : z < 0
          · have hz1 : decide (z < 0) = true := by simpa using hz0
            have HP1 := Lib.hid (HPUT.out (.inl hz0))
            clear hz0 hcase
            go_wp2_with (go_at_call 34; refine (REffect_box HN.out HSL.out hn16 HS.out hj16 HCT.out).mono ?_; rintro e w' ⟨rfl, rfl⟩)
            go_quiet (fail)
            have hft2 : (wr.drewN nq).frozen? ⟨w.heap.size, t, none⟩ = false := hft
            have hct2 : (wr.drewN nq).cell? ⟨w.heap.size, t, none⟩ = some (.int .i64 z) := hct
            go_wp2_with fail
            clear hct hft hct2 hft2
            go_roundw
            case rel =>
              refine ⟨j + 1, by go_num, by omega, Lib.hid ?_, Lib.hid ((below_drewN HB2.out nq).setCell (p := ⟨w.heap.size, t, none⟩) (Nat.le_refl _) _)⟩
              have h1 := (HX.out.drewN nq).put t (.int .i64 (j : Int))
              rw [zC_set, HP1.out] at h1
              exact h1
            case measure => simp [intOf]; omega
          · obtain ⟨f, rfl, hfj⟩ : ∃ f : Nat, z = f ∧ f < j := hcase.resolve_left (by omega)
            have hz1 : decide ((f : Int) < 0) = false := by simp
            have hf16 : f < 65536 := by omega
            obtain ⟨pf, hpf⟩ : ∃ y, popc f = y := ⟨_, rfl⟩
            obtain ⟨pj, hpj⟩ : ∃ y, popc j = y := ⟨_, rfl⟩
            have HSF := Lib.hid (fun W => RSize_of (x := f) (f : Int) W rfl hf16 hpf)
            have HSJ := Lib.hid (fun W => RSize_of (x := j) (j : Int) W rfl hj16 hpj)
            rw [show ((f : Int)).toNat = f from rfl, hpf, hpj] at HPUT HKEEP
            clear hz0 hcase hpf hpj
            by_cases hsz : pj < pf
            · have hsz' : (pj : Int) < (pf : Int) := by omega
              have HP1 := Lib.hid (HPUT.out (.inr hsz))
              clear hsz
              go_wp2_with (go_at_call 34; refine (REffect_box HN.out HSL.out hn16 HS.out hj16 HCT.out).mono ?_; rintro e w' ⟨rfl, rfl⟩)
              go_quiet ((go_at_call 49; first | (with_reducible exact quiet_w _ (HSF.out _) rfl) | (with_reducible exact quiet_w _ (HSJ.out _) rfl)))
              have hft2 : (wr.drewN nq).frozen? ⟨w.heap.size, t, none⟩ = false := hft
              have hct2 : (wr.drewN nq).cell? ⟨w.heap.size, t, none⟩ = some (.int .i64 (f : Int)) := hct
              go_wp2_with fail
              clear hct hft hct2 hft2
              go_roundw
              case rel =>
                refine ⟨j + 1, by go_num, by omega, Lib.hid ?_, Lib.hid ((below_drewN HB2.out nq).setCell (p := ⟨w.heap.size, t, none⟩) (Nat.le_refl _) _)⟩
                have h1 := (HX.out.drewN nq).put t (.int .i64 (j : Int))
                rw [zC_set, HP1.out] at h1
                exact h1
              case measure => simp [intOf]; omega
            · have hsz' : ¬ (pj : Int) < (pf : Int) := by omega
              have HP1 := Lib.hid (HKEEP.out (by omega))
              clear hsz
              go_wp2_with (go_at_call 34; refine (REffect_box HN.out HSL.out hn16 HS.out hj16 HCT.out).mono ?_; rintro e w' ⟨rfl, rfl⟩)
              go_quiet ((go_at_call 49; first | (with_reducible exact quiet_w _ (HSF.out _) rfl) | (with_reducible exact quiet_w _ (HSJ.out _) rfl)))
              go_wp2_with fail
              clear hct hft
              go_roundw
              case rel => exact ⟨j + 1, by go_num, by omega, Lib.hid (by rw [HP1.out]; exact HX.out.drewN nq), Lib.hid (below_drewN HB2.out nq)⟩
              case measure => simp [intOf]; omega
        · obtain rfl : j = k := by omega
          go_wp2_with fail
          go_ret
          exact ⟨rfl, HX.out, HB2.out⟩
end Go.Proofs.Ytpdgjjpfahobaaa
