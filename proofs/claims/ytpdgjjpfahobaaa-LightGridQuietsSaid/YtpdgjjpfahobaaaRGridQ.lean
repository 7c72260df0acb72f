/- The reference's GridQuiet: c less the rank of what the presses of the first row lead to. -/
import Derived.Test.YtpdgjjpfahobaaaRankC
import Derived.Test.YtpdgjjpfahobaaaNear
import Derived.Laws.BitsAllLaws
import Derived.RegionTactic
namespace Go.Proofs.Ytpdgjjpfahobaaa
open Go.RowKit Lamp

/-- One row's step, as the machine counts it. -/
theorem step_mask2 {c : Nat} (hc : c ≤ 60) : IntKind.u64.wrap (IntKind.u64.wrap ((2 : Int) ^ c) - 1) = ((2 ^ c - 1 : Nat) : Int) := by
  have h : (2 : Int) ^ c = ((2 ^ c : Nat) : Int) := by simp
  rw [h]
  have h1 : 0 < 2 ^ c := Nat.two_pow_pos c
  have h2 : 2 ^ c ≤ 2 ^ 60 := Nat.pow_le_pow_right (by decide) hc
  generalize 2 ^ c = e at h1 h2 ⊢
  rw [IntKind.wrap_u64, IntKind.wrap_u64]
  omega
theorem step_half (y : Nat) : (y : Int) / 2 = ((y / 2 : Nat) : Int) := by omega
theorem step_mask {c : Nat} (hc : c ≤ 60) : IntKind.u64.wrap (IntKind.u64.wrap (((2 ^ c : Nat) : Int)) - 1) = ((2 ^ c - 1 : Nat) : Int) := by
  have h1 : 0 < 2 ^ c := Nat.two_pow_pos c
  have h2 : 2 ^ c ≤ 2 ^ 60 := Nat.pow_le_pow_right (by decide) hc
  rw [IntKind.wrap_u64, IntKind.wrap_u64]
  omega
theorem step_twice {c y : Nat} (hc : c ≤ 60) (hy : y < 2 ^ c) : IntKind.u64.wrap ((y : Int) * 2) = ((y * 2 : Nat) : Int) := by
  have h2 : 2 ^ c ≤ 2 ^ 60 := Nat.pow_le_pow_right (by decide) hc
  rw [IntKind.wrap_u64]
  omega
theorem step_own {c x y : Nat} (hc : c ≤ 60) (hx : x < 2 ^ c) (hy : y < 2 ^ c) :
    bits .and .u64 (bits .xor .u64 (bits .xor .u64 (bits .xor .u64 (x : Int) ((y * 2 : Nat) : Int)) ((y / 2 : Nat) : Int)) (y : Int)) ((2 ^ c - 1 : Nat) : Int) = ((x ^^^ nbrO c true y : Nat) : Int) := by
  have h2 : 2 ^ c ≤ 2 ^ 60 := Nat.pow_le_pow_right (by decide) hc
  have a1 : x ^^^ y * 2 < 2 ^ 64 := Nat.xor_lt_two_pow (by omega) (by omega)
  have a2 : x ^^^ y * 2 ^^^ y / 2 < 2 ^ 64 := Nat.xor_lt_two_pow a1 (by omega)
  have a3 : x ^^^ y * 2 ^^^ y / 2 ^^^ y < 2 ^ 64 := Nat.xor_lt_two_pow a2 (by omega)
  rw [u64_xor_nat _ _ (by omega) (by omega), u64_xor_nat _ _ a1 (by omega), u64_xor_nat _ _ a2 (by omega), u64_and_nat _ _ a3 (by omega), Nat.and_two_pow_sub_one_eq_mod]
  congr 1
  unfold nbrO nbr
  rw [if_pos rfl, Nat.xor_mod_two_pow, Nat.xor_mod_two_pow, Nat.xor_mod_two_pow, Nat.xor_mod_two_pow, Nat.mod_eq_of_lt hx, Nat.mod_eq_of_lt hy, Nat.xor_assoc, Nat.xor_assoc, Nat.xor_assoc]
theorem step_no {c x y : Nat} (hc : c ≤ 60) (hx : x < 2 ^ c) (hy : y < 2 ^ c) :
    bits .and .u64 (bits .xor .u64 (bits .xor .u64 (x : Int) ((y * 2 : Nat) : Int)) ((y / 2 : Nat) : Int)) ((2 ^ c - 1 : Nat) : Int) = ((x ^^^ nbrO c false y : Nat) : Int) := by
  have h2 : 2 ^ c ≤ 2 ^ 60 := Nat.pow_le_pow_right (by decide) hc
  have a1 : x ^^^ y * 2 < 2 ^ 64 := Nat.xor_lt_two_pow (by omega) (by omega)
  have a2 : x ^^^ y * 2 ^^^ y / 2 < 2 ^ 64 := Nat.xor_lt_two_pow a1 (by omega)
  rw [u64_xor_nat _ _ (by omega) (by omega), u64_xor_nat _ _ a1 (by omega), u64_and_nat _ _ a2 (by omega), Nat.and_two_pow_sub_one_eq_mod]
  congr 1
  unfold nbrO nbr
  rw [if_neg (by decide), Nat.xor_mod_two_pow, Nat.xor_mod_two_pow, Nat.xor_mod_two_pow, Nat.mod_eq_of_lt hx, Nat.xor_assoc]

theorem Try.info109 : (Try.prog.info? 109).map (fun i => (i.zero, i.size, i.bytes)) = some (some (.int .u64 0), 1, 8) := by kernel_rfl
/-- A row of words of our own. -/
def natW (l : List Nat) : List Value := l.map fun x => Value.int .u64 (x : Nat)
theorem natW_len (l : List Nat) : (natW l).length = l.length := by simp [natW]
def OwnW (w : World) (base : Nat) (v : Value) (l : List Nat) : Prop := w.ownsRow base 109 1 v l.length (natW l)
theorem OwnW.nil_ (w : World) (base : Nat) : OwnW w base (.slice none 0 0) [] := ⟨by simp [natW], .inl ⟨rfl, rfl⟩⟩
theorem waysL_take (r c : Nat) (own : Bool) {k : Nat} (h : k < c) : (waysL r c own).take (k + 1) = (waysL r c own).take k ++ [rowN (nbrO c own) (2 ^ k) r] := by
  rw [List.take_succ_eq_append_getElem (by rw [waysL_len]; exact h)]
  simp [waysL]

theorem clearL_zero (S : List Nat) (b ρ w : Nat) : clearL S b ρ w 0 = S := by
  apply List.ext_getElem (clearL_len _ _ _ _ _)
  intro i h1 h2
  simp [clearL, List.getD_eq_getElem?_getD, h2]
theorem clearL_stay {S : List Nat} {b ρ w m : Nat} (h : ¬ (m ≠ ρ ∧ (S.getD m 0).testBit b = true)) : clearL S b ρ w (m + 1) = clearL S b ρ w m := by
  unfold clearL
  refine List.map_congr_left fun j _ => ?_
  by_cases e : j = m
  · subst e; rw [if_neg (fun h2 => h h2.2), if_neg (fun h2 => h h2.2)]
  · have : (j < m + 1) = (j < m) := by rw [eq_iff_iff]; omega
    simp only [this]
theorem clearL_put {S : List Nat} {b ρ w m : Nat} (h : m ≠ ρ ∧ (S.getD m 0).testBit b = true) : clearL S b ρ w (m + 1) = (clearL S b ρ w m).set m (S.getD m 0 ^^^ w) := by
  apply List.ext_getElem (by rw [List.length_set, clearL_len, clearL_len])
  intro i h1 h2
  have h3 : i < S.length := by rwa [clearL_len] at h1
  rw [List.getElem_set]
  by_cases e : m = i
  · subst e
    rw [if_pos rfl]
    simp only [clearL, List.getElem_map, List.getElem_range]
    rw [if_pos ⟨by omega, h⟩]
  · rw [if_neg e]
    simp only [clearL, List.getElem_map, List.getElem_range]
    have : (i < m + 1) = (i < m) := by rw [eq_iff_iff]; omega
    simp only [this]
/-- A bit of a word, as the machine reads it. -/
theorem word_bit (x b : Nat) : ((x : Int) / 2 ^ b).tmod 2 = if x.testBit b = true then 1 else 0 := by
  have h : ((x : Int) / 2 ^ b) = ((x / 2 ^ b : Nat) : Int) := by simp
  rw [h, Nat.testBit_eq_decide_div_mod_eq]
  generalize x / 2 ^ b = e
  rw [Int.tmod_eq_emod_of_nonneg (by omega)]
  by_cases h1 : e % 2 = 1
  · rw [if_pos (by simp [h1])]; omega
  · rw [if_neg (by simp [h1])]; omega
/-- The first cells of a block are these words. -/
def RowU (w : World) (g : Nat) (l : List Nat) : Prop := ∃ cs, Box w g 109 cs ∧ l.length ≤ cs.size ∧ ∀ i, i < l.length → cs[i]? = some (.int .u64 (l.getD i 0 : Nat))
section
variable {w w' : World} {g : Nat} {l : List Nat}
theorem RowU.cell (h : RowU w g l) {i : Nat} (hi : i < l.length) : w.cell? ⟨g, i, none⟩ = some (.int .u64 (l.getD i 0 : Nat)) := by
  obtain ⟨cs, hb, _, hc⟩ := h
  rw [hb.cell]; exact hc i hi
theorem RowU.free (h : RowU w g l) (i : Nat) : w.frozen? ⟨g, i, none⟩ = false := by
  obtain ⟨cs, hb, _⟩ := h; exact hb.free i
theorem RowU.lt (h : RowU w g l) : g < w.heap.size := by obtain ⟨cs, hb, _⟩ := h; exact hb.lt
theorem RowU.drewN (h : RowU w g l) (n : Nat) : RowU (w.drewN n) g l := h
theorem RowU.put (h : RowU w g l) {i : Nat} (hi : i < l.length) (v : Nat) (u : Int) (hu : u = (v : Int)) : RowU (w.setCell ⟨g, i, none⟩ (.int .u64 u)) g (l.set i v) := by
  obtain ⟨cs, hx, h1, h2⟩ := h
  refine ⟨_, hx.put i _, by simpa using h1, fun j hj => ?_⟩
  rw [List.length_set] at hj
  rw [Array.getElem?_setIfInBounds, hu]
  by_cases e : i = j
  · subst e
    rw [if_pos rfl, if_pos (by omega)]
    simp [List.getD_eq_getElem?_getD, hi]
  · rw [if_neg e, h2 j hj]
    simp [List.getD_eq_getElem?_getD, e]
end
/-- A row of our own that is not empty lies in a block. -/
theorem OwnW.row {w : World} {base : Nat} {v : Value} {l : List Nat} (h : OwnW w base v l) (hl : 0 < l.length) : ∃ g cap, v = .slice (some ⟨g, 0, none⟩) l.length cap ∧ base ≤ g ∧ RowU w g l := by
  rcases h.2 with ⟨_, h0⟩ | ⟨g, cap, cur, hv, hb, hg, h1, _, h3, h4⟩
  · omega
  · refine ⟨g, cap, hv, hb, cur, hg, by omega, fun i hi => ?_⟩
    rw [Nat.mul_one] at h4
    have h5 : (cur.toList.take l.length)[i]? = (natW l)[i]? := by rw [h4]
    rw [List.getElem?_take_of_lt hi] at h5
    rw [← Array.getElem?_toList, h5]
    simp [natW, List.getD_eq_getElem?_getD, hi]

set_option maxRecDepth 100000 in
set_option maxHeartbeats 8000000 in
theorem RGridQuiet_any (r c : Nat) (own : Bool) (w : World) (hr : r ≤ 60) (hc1 : 1 ≤ c) (hc : c ≤ 60) :
    Calls Try.prog 45 #[.int .i64 r, .int .i64 c, .bool own] w fun e w' => e = .returned (.int .i64 (gridQ r c own)) ∧ Below w.heap.size w w' := by
  obtain ⟨i0, hi, hz0, hz1, hz2⟩ := info_parts Try.info109
  go_enter Try.func45, Try.ntmps45
  go_wp2_with fail
  go_loopw [7, 8] (fun wv i wr => ∃ (k : Nat) (v : Value), v = wv ∧ i = .int .i64 k ∧ k ≤ c ∧ Hid (OwnW wr w.heap.size v ((waysL r c own).take k)) ∧ Hid (Below w.heap.size w wr)) (fun _ i _ => c - (intOf i).toNat)
  case atStart => exact ⟨0, _, rfl, rfl, by omega, Lib.hid (OwnW.nil_ _ _), Lib.hid (Below.refl _ _)⟩
  case round =>
    obtain ⟨k, v, rfl, rfl, hk, HO1, HB1⟩ := hrel
    have HB := HB1
    have HO := HO1
    clear HB1 HO1
    by_cases hlt : k < c
    · have hlt' : (k : Int) < (c : Int) := by omega
      have hk60 : (k : Int) < 60 := by omega
      have hk0 : (0 : Int) ≤ (k : Int) := by omega
      go_upto_region 5 with fail
      go_region
      go_wp2_with fail
      go_loop [9, 10, 11] (fun b n i => ∃ j : Nat, i = .int .i64 j ∧ j ≤ r ∧ b = .int .u64 ((rowsN (nbrO c own) (2 ^ k) j).1 : Nat) ∧ n = .int .u64 ((rowsN (nbrO c own) (2 ^ k) j).2 : Nat)) (fun _ _ i => r - (intOf i).toNat)
      case atStart =>
        refine ⟨0, rfl, by omega, rfl, ?_⟩
        have h1 : 2 ^ k ≤ 2 ^ 60 := Nat.pow_le_pow_right (by decide) (by omega)
        have h2 : IntKind.u64.wrap (((2 ^ k : Nat) : Int)) = ((2 ^ k : Nat) : Int) := by
          generalize 2 ^ k = e at h1 ⊢
          rw [IntKind.wrap_u64]; omega
        rw [show ((2 ^ k : Nat) : Int) = 2 ^ k by simp] at h2
        simp only [rowsN]
        rw [h2]
        simp
      case round =>
        obtain ⟨j, rfl, hj, rfl, rfl⟩ := hrel
        by_cases hj2 : j < r
        · have hj3 : (j : Int) < (r : Int) := by omega
          obtain ⟨hl1, hl2⟩ := rowsN_lt (c := c) (own := own) (w := 2 ^ k) (Nat.pow_lt_pow_right (by decide) hlt) j
          have hs : rowsN (nbrO c own) (2 ^ k) (j + 1) = ((rowsN (nbrO c own) (2 ^ k) j).2, (rowsN (nbrO c own) (2 ^ k) j).1 ^^^ nbrO c own (rowsN (nbrO c own) (2 ^ k) j).2) := rfl
          generalize hx : (rowsN (nbrO c own) (2 ^ k) j).1 = x at *
          generalize hy : (rowsN (nbrO c own) (2 ^ k) j).2 = y at *
          cases own
          · go_wp2_with fail
            refine ⟨⟨j + 1, by go_num, by omega, by rw [hs], ?_⟩, by simp [intOf]; omega⟩
            rw [hs, step_mask2 hc, step_twice hc hl2, step_half, step_no hc hl1 hl2]
          · go_wp2_with fail
            refine ⟨⟨j + 1, by go_num, by omega, by rw [hs], ?_⟩, by simp [intOf]; omega⟩
            rw [hs, step_mask2 hc, step_twice hc hl2, step_half, step_own hc hl1 hl2]
        · obtain rfl : j = r := by omega
          have HLN := Lib.hid (show ((waysL j c own).take k).length = k by rw [List.length_take, waysL_len]; omega)
          have ho := HO.out
          unfold OwnW at ho
          have HO2 := Lib.hid ho
          obtain ⟨x, hx⟩ : ∃ x, (rowsN (nbrO c own) (2 ^ k) j).2 = x := ⟨_, rfl⟩
          rw [hx]
          have HX := Lib.hid hx
          have HN := Lib.hid (World.news_of_block (w := wr.alloc (Obj.cells #[Value.int .u64 (x : Nat)] 109)) (cs := #[Value.int .u64 (x : Nat)]) (t := 109) (fr := (0, 0)) (heap_alloc_new wr _))
          have HK1 := Lib.hid (show ((waysL j c own).take k).length + 1 ≤ maxLen by have := HLN.out; unfold maxLen; omega)
          have HK2 := Lib.hid (show (((waysL j c own).take k).length + 1) * 8 ≤ 140737488355328 by have := HLN.out; omega)
          have HSZ := Lib.hid (show w.heap.size ≤ (wr.alloc (Obj.cells #[Value.int .u64 (x : Nat)] 109)).heap.size by have := HB.out.size; simp; omega)
          clear ho hx
          go_wp2_with (at_builtin; refine wpList_append_own _ rfl _ _ 108 rfl w.heap.size 109 i0 (.int .u64 0) 1 8 Try.underlying108 hi hz0 hz1 hz2 rfl (by decide) _ _ _ rfl (World.ownsRow.alloc HO2.out _) ⟨wr.heap.size, 0, none⟩ 1 1 [.int .u64 (x : Nat)] rfl rfl HN.out (by simp [Value.oneCell']) HK1.out HK2.out HSZ.out ?_; intro v9 w9 hown9 hg9 _)
          have hT : (waysL j c own).take (k + 1) = (waysL j c own).take k ++ [x] := by rw [waysL_take _ _ _ hlt]; unfold rowN; rw [HX.out]
          have hPN : OwnW w9 w.heap.size v9 ((waysL j c own).take (k + 1)) := by
            rw [hT]
            unfold OwnW
            rw [List.length_append, natW, List.map_append]
            exact hown9
          have hblk := HO2.out.lt
          have hBN : Below w.heap.size w w9 := (below_drewN (HB.out.alloc HB.out.size _) 1).grown hg9 HSZ.out (fun j hj => (hblk j hj).1)
          exact ⟨⟨k + 1, v9, rfl, by go_num, by omega, Lib.hid hPN, Lib.hid hBN⟩, by simp [intOf]; omega⟩
    · obtain rfl : k = c := by omega
      rw [List.take_of_length_le (by rw [waysL_len]; exact Nat.le_refl _)] at HO
      obtain ⟨g, cap, rfl, hg, hR⟩ := HO.out.row (by rw [waysL_len]; omega)
      have HR := Lib.hid hR
      clear hR HO
      rw [waysL_len]
      go_upto_region 18 with fail
      go_loopw [13, 14] (fun ρv bv wx => ∃ (ρ b : Nat) (L : List Nat), ρv = .int .i64 ρ ∧ bv = .int .i64 b ∧ b ≤ k ∧ Elim (waysL r k own) L k ρ b ∧ Hid (RowU wx g L) ∧ Hid (Below w.heap.size w wx)) (fun _ b _ => k - (intOf b).toNat)
      case atStart => exact ⟨0, 0, _, rfl, rfl, by omega, Elim.start (waysL_len _ _ _) (waysL_lt r k own), HR, HB⟩
      case round =>
        obtain ⟨ρ, b, L, rfl, rfl, hb, hE, HR1, HB1⟩ := hrel
        have HR2 := HR1
        have HB2 := HB1
        clear HR1 HB1 HR HB
        by_cases hbk : b < k
        · have hbk2 : (b : Int) < (k : Int) := by omega
          have hb60 : (b : Int) < 60 := by omega
          have hb0 : (0 : Int) ≤ (b : Int) := by omega
          have hLL := hE.len
          have hsm := hE.small
          have h60 : 2 ^ k ≤ 2 ^ 60 := Nat.pow_le_pow_right (by decide) hc
          go_upto_region 21 with fail
          go_loop [15] (fun q => ∃ j : Nat, q = .int .i64 j ∧ ρ ≤ j ∧ j ≤ k ∧ ∀ t, ρ ≤ t → t < j → (L.getD t 0).testBit b = false) (fun q => k - (intOf q).toNat)
          case atStart => exact ⟨ρ, rfl, by omega, hE.le, fun t h1 h2 => by omega⟩
          case round =>
            obtain ⟨j, rfl, hj1, hj2, hjt⟩ := hrel
            by_cases hjk : j < k
            · have hjk2 : (j : Int) < (k : Int) := by omega
              have hj0 : (0 : Int) ≤ (j : Int) := by omega
              have hcx := HR2.out.cell (i := j) (by omega)
              have hxs := hsm j
              obtain ⟨x, hx⟩ : ∃ x, L.getD j 0 = x := ⟨_, rfl⟩
              rw [hx] at hcx hxs
              have hwb := word_bit x b
              by_cases hxb : x.testBit b = true
              · rw [if_pos hxb] at hwb
                have hq : (((x : Int) / 2 ^ b).tmod 2 == 0) = false := by rw [hwb]; rfl
                clear hwb
                go_upto_region 23 with fail
                have hjk3 : ((j : Int) == (k : Int)) = false := by rw [beq_eq_false_iff_ne]; omega
                have hρk : ρ < k := by omega
                have hρ2 : (ρ : Int) < (k : Int) := by omega
                have hρ0 : (0 : Int) ≤ (ρ : Int) := by omega
                have hcr := HR2.out.cell (i := ρ) (by omega)
                have hfj := HR2.out.free j
                obtain ⟨y, hy⟩ : ∃ y, L.getD ρ 0 = y := ⟨_, rfl⟩
                rw [hy] at hcr
                have hR3 := HR2.out.put (i := j) (by omega) y y rfl
                have hfr := hR3.free ρ
                have hcr3 := hR3.cell (i := ρ) (by rw [List.length_set]; omega)
                have hR4 := hR3.put (i := ρ) (by rw [List.length_set]; omega) x x rfl
                have hSW : (L.set j y).set ρ x = swapL L j ρ := by unfold swapL; rw [hx, hy]
                rw [hSW] at hR4
                have HR4 := Lib.hid hR4
                have HB4 := Lib.hid ((HB2.out.setCell (p := ⟨g, j, none⟩) hg (.int .u64 (y : Nat))).setCell (p := ⟨g, ρ, none⟩) hg (.int .u64 (x : Nat)))
                clear hR3 hR4 hSW
                go_upto_region 28 with fail
                have HC0 := Lib.hid (clearL_zero (swapL L j ρ) b ρ x)
                obtain ⟨S, hS⟩ : ∃ S, swapL L j ρ = S := ⟨_, rfl⟩
                have hSl : S.length = k := by rw [← hS, swapL_len]; exact hLL
                have hSs : ∀ i, S.getD i 0 < 2 ^ k := fun i => by
                  rw [← hS, swapL_at (by omega) (by omega)]
                  split
                  · exact hsm j
                  · split
                    · exact hsm ρ
                    · exact hsm i
                have HE := Lib.hid (hE.some hj1 hjk (by rw [hx]; exact hxb))
                rw [hS] at HC0 HR4
                rw [hS, hx] at HE
                clear hfr hfj hcr hcx hcr3
                go_loopw [17] (fun q wy => ∃ m : Nat, q = .int .i64 m ∧ m ≤ k ∧ Hid (RowU wy g (clearL S b ρ x m)) ∧ Hid (Below w.heap.size w wy)) (fun q _ => k - (intOf q).toNat)
                case atStart => exact ⟨0, rfl, by omega, by rw [HC0.out]; exact HR4, HB4⟩
                case round =>
                  obtain ⟨m, rfl, hm, HR5, HB5⟩ := hrel
                  have HR6 := HR5
                  have HB6 := HB5
                  clear HR5 HB5 HR4 HB4
                  by_cases hmk : m < k
                  · have hmk2 : (m : Int) < (k : Int) := by omega
                    have hm0 : (0 : Int) ≤ (m : Int) := by omega
                    have hcm := HR6.out.cell (i := m) (by rw [clearL_len]; omega)
                    rw [clearL_at (by omega), if_neg (by omega)] at hcm
                    have hfm := HR6.out.free m
                    have hzs := hSs m
                    have hput := clearL_put (S := S) (b := b) (ρ := ρ) (w := x) (m := m)
                    have hstay := clearL_stay (S := S) (b := b) (ρ := ρ) (w := x) (m := m)
                    obtain ⟨z, hz⟩ : ∃ z, S.getD m 0 = z := ⟨_, rfl⟩
                    rw [hz] at hcm hzs hput hstay
                    have hwz := word_bit z b
                    by_cases hmρ : m = ρ
                    · have HST := Lib.hid (hstay (fun h => h.1 hmρ))
                      subst hmρ
                      go_wp2_with fail
                      exact ⟨⟨m + 1, by go_num, by omega, Lib.hid (by rw [HST.out]; exact HR6.out), HB6⟩, by simp [intOf]; omega⟩
                    · have hne1 : ((m : Int) == (ρ : Int)) = false := by rw [beq_eq_false_iff_ne]; omega
                      by_cases hzb : z.testBit b = true
                      · rw [if_pos hzb] at hwz
                        have hq1 : (((z : Int) / 2 ^ b).tmod 2 == 1) = true := by rw [hwz]; rfl
                        have HST := Lib.hid (hput ⟨hmρ, hzb⟩)
                        have hxo : bits .xor .u64 (z : Int) (x : Int) = ((z ^^^ x : Nat) : Int) := u64_xor_nat _ _ (by omega) (by omega)
                        clear hwz hput hstay
                        go_wp2_with fail
                        refine ⟨⟨m + 1, by go_num, by omega, Lib.hid ?_, Lib.hid (HB6.out.setCell (p := ⟨g, m, none⟩) hg _)⟩, by simp [intOf]; omega⟩
                        rw [HST.out]
                        exact HR6.out.put (i := m) (by rw [clearL_len]; omega) _ _ rfl
                      · rw [if_neg hzb] at hwz
                        have hq1 : (((z : Int) / 2 ^ b).tmod 2 == 1) = false := by rw [hwz]; rfl
                        have HST := Lib.hid (hstay (fun h => hzb h.2))
                        clear hwz hput hstay
                        go_wp2_with fail
                        exact ⟨⟨m + 1, by go_num, by omega, Lib.hid (by rw [HST.out]; exact HR6.out), HB6⟩, by simp [intOf]; omega⟩
                  · obtain rfl : m = k := by omega
                    go_wp2_with fail
                    go_roundw
                    case rel => exact ⟨ρ + 1, b + 1, _, by go_num, by go_num, by omega, HE.out, HR6, HB6⟩
                    case measure => simp [intOf]; omega
              · rw [if_neg hxb] at hwb
                have hq : (((x : Int) / 2 ^ b).tmod 2 == 0) = true := by rw [hwb]; rfl
                clear hwb
                go_wp2_with fail
                refine ⟨⟨j + 1, by go_num, by omega, by omega, fun t h1 h2 => ?_⟩, by simp [intOf]; omega⟩
                by_cases e : t = j
                · subst e; rw [hx]; simpa using hxb
                · exact hjt t h1 (by omega)
            · obtain rfl : j = k := by omega
              go_wp2_with fail
              go_roundw
              case rel => exact ⟨ρ, b + 1, L, rfl, by go_num, by omega, hE.none hjt, HR2, HB2⟩
              case measure => simp [intOf]; omega
        · obtain rfl : b = k := by omega
          go_wp2_with fail
          go_ret
          have hE1 := hE.le
          exact ⟨ret_int (by rw [gridQ_rank hc1 hE]; unfold wrap64; omega), HB2.out⟩
end Go.Proofs.Ytpdgjjpfahobaaa
