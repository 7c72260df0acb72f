/- The function grown of the reference: it puts into a rising list all pairs of dice that go on from two that are begun and show each sum as often as is asked. · The reference's Twins. -/
import Derived.Test.YtkkholagmjcgiaaRPut
import Derived.Test.YtkkholagmjcgiaaRSums
import Derived.Test.YtkkholagmjcgiaaTwins
import Derived.Test.YtkkholagmjcgiaaMade
namespace Go.Proofs.Ytkkholagmjcgiaa
open Go.RowKit

theorem one_cnt (z : Int) : ∀ c : List Int, (c.map fun u => one0 (z - u)).sum = cnt 0 c z
  | [] => rfl
  | u :: c => by
    rw [List.map_cons, List.sum_cons, one_cnt z c, cnt_cons, Int.zero_add]
    congr 1
    unfold one0
    by_cases h : z = u
    · rw [if_pos h, if_pos (by omega)]
    · rw [if_neg h, if_neg (by omega)]
theorem cnt_shift (x y : Int) (c : List Int) : cnt 0 c (y - x) = cnt x c y := by
  unfold cnt
  rw [List.filter_congr (q := fun s => decide (x + s = y)) fun s _ => ?_]
  rw [Bool.eq_iff_iff, decide_eq_true_eq, decide_eq_true_eq]
  omega
theorem ways_cp (c d : List Int) (y : Int) : waysF [c, d] y = cp c d y := by
  have e : waysF [c, d] = conv (conv one0 c) d := rfl
  rw [e, conv_sum, cp_swap]
  unfold cp
  congr 1
  refine List.map_congr_left fun x _ => ?_
  rw [conv_sum, one_cnt, cnt_shift]
theorem asc_of {d : List Int} (h : IsDie d) : Asc d := by
  unfold Asc
  rw [List.pairwise_iff_getElem]
  intro i j hi hj hij
  have h1 := sortTo_le h.sorted j i (by omega) (by omega)
  simpa [List.getD, hi, hj] using h1
theorem die_more {c : List Int} (h : IsDie c) {x : Int} (h8 : c.length < 8) (hx : c.getD (c.length - 1) 0 ≤ x) (h60 : x ≤ 60) : IsDie (c ++ [x]) := by
  have ha := asc_of h
  have hlast := fun u (hu : u ∈ c) => last_le ha h.ne hu
  have hx0 : 0 ≤ x := by
    have := (h.ok.2 _ (mem_getD (l := c) (k := c.length - 1) (by have := h.ne; omega))).1
    omega
  refine ⟨⟨by simp; omega, fun u hu => ?_⟩, by simp, sortB_of (ha.snoc fun u hu => Int.le_trans (hlast u hu) hx)⟩
  rcases List.mem_append.1 hu with hu | hu
  · exact h.ok.2 u hu
  · rw [List.mem_singleton.1 hu]
    exact ⟨hx0, h60⟩

/-- How far the sums have been looked through: as long as nothing is left the place is -1. -/
def Seen (W h : Int → Int) (k : Nat) (at_ : Int) : Prop := (∀ j : Nat, j < k → h j ≤ W j) ∧ (at_ = -1 ∧ (∀ j : Nat, j < k → h j = W j) ∨ ∃ s : Nat, s < k ∧ at_ = (s : Int) ∧ h s < W s ∧ ∀ j : Nat, j < s → h j = W j)
theorem Seen.zero (W h : Int → Int) : Seen W h 0 (-1) := ⟨fun _ hj => absurd hj (Nat.not_lt_zero _), .inl ⟨rfl, fun _ hj => absurd hj (Nat.not_lt_zero _)⟩⟩
theorem Seen.same {W h : Int → Int} {k : Nat} {at_ : Int} (hs : Seen W h k at_) (he : h k = W k) : Seen W h (k + 1) at_ := by
  refine ⟨fun j hj => ?_, ?_⟩
  · rcases Nat.lt_or_ge j k with h1 | h1
    · exact hs.1 j h1
    · obtain rfl : j = k := by omega
      omega
  · rcases hs.2 with ⟨h1, h2⟩ | ⟨s, h1, h2, h3, h4⟩
    · refine .inl ⟨h1, fun j hj => ?_⟩
      rcases Nat.lt_or_ge j k with h5 | h5
      · exact h2 j h5
      · obtain rfl : j = k := by omega
        exact he
    · exact .inr ⟨s, by omega, h2, h3, h4⟩
theorem Seen.first {W h : Int → Int} {k : Nat} (hs : Seen W h k (-1)) (he : h k < W k) : Seen W h (k + 1) k := by
  refine ⟨fun j hj => ?_, ?_⟩
  · rcases Nat.lt_or_ge j k with h1 | h1
    · exact hs.1 j h1
    · obtain rfl : j = k := by omega
      omega
  · rcases hs.2 with ⟨_, h2⟩ | ⟨s, _, h2, _, _⟩
    · exact .inr ⟨k, by omega, rfl, he, h2⟩
    · omega
theorem Seen.more {W h : Int → Int} {k : Nat} {at_ : Int} (hs : Seen W h k at_) (h0 : 0 ≤ at_) (he : h k < W k) : Seen W h (k + 1) at_ := by
  refine ⟨fun j hj => ?_, ?_⟩
  · rcases Nat.lt_or_ge j k with h1 | h1
    · exact hs.1 j h1
    · obtain rfl : j = k := by omega
      omega
  · rcases hs.2 with ⟨h1, h2⟩ | ⟨s, h1, h2, h3, h4⟩
    · omega
    · exact .inr ⟨s, by omega, h2, h3, h4⟩
theorem Seen.neg {W h : Int → Int} {k : Nat} {at_ : Int} (hs : Seen W h k at_) (h0 : at_ < 0) : at_ = -1 := by
  rcases hs.2 with ⟨h1, _⟩ | ⟨s, _, h2, _⟩
  · exact h1
  · omega

/-- What grown has put in. -/
structure Put (n m : Nat) (L L' : List (List Int × List Int)) (P : List Int × List Int → Prop) (k : Nat) : Prop where
  rise : RiseP L'
  len : ∀ p ∈ L', p.1.length = n ∧ p.2.length = m
  mem : ∀ p, p ∈ L' ↔ p ∈ L ∨ P p
  more : L'.length ≤ L.length + 2 ^ k
theorem putL_len (x : List Int × List Int) (l : List (List Int × List Int)) : (putL x l).length ≤ l.length + 1 := by
  unfold putL
  split
  · omega
  · have := putK_le x l
    rw [List.length_append, List.length_cons, List.length_take, List.length_drop]
    omega
theorem Put.none {n m : Nat} {L : List (List Int × List Int)} {P : List Int × List Int → Prop} {k : Nat} (hr : RiseP L) (hl : ∀ p ∈ L, p.1.length = n ∧ p.2.length = m) (h : ∀ p, ¬ P p) : Put n m L L P k :=
  ⟨hr, hl, fun p => ⟨.inl, fun h2 => h2.elim id fun h3 => absurd h3 (h p)⟩, Nat.le_add_right _ _⟩
theorem Put.one {n m : Nat} {L : List (List Int × List Int)} {P : List Int × List Int → Prop} {k : Nat} {x : List Int × List Int} (hr : RiseP L) (hl : ∀ p ∈ L, p.1.length = n ∧ p.2.length = m) (hx : x.1.length = n ∧ x.2.length = m) (h : ∀ p, P p ↔ p = x) : Put n m L (putL x L) P k :=
  ⟨putL_rise hx hl hr, fun p hp => ((putL_mem x L p).1 hp).elim (hl p) fun e => by rw [e]; exact hx, fun p => by rw [putL_mem, h], by
    have := putL_len x L
    have : 1 ≤ 2 ^ k := Nat.one_le_two_pow
    omega⟩
theorem Put.two {n m : Nat} {L L1 L2 : List (List Int × List Int)} {P P1 P2 : List Int × List Int → Prop} {k : Nat} (h1 : Put n m L L1 P1 k) (h2 : Put n m L1 L2 P2 k) (h : ∀ p, P p ↔ P1 p ∨ P2 p) : Put n m L L2 P (k + 1) :=
  ⟨h2.rise, h2.len, fun p => by rw [h2.mem, h1.mem, h]; exact or_assoc, by
    have a := h1.more
    have b := h2.more
    rw [Nat.pow_succ]
    omega⟩
theorem Put.up {n m : Nat} {L L1 : List (List Int × List Int)} {P Q : List Int × List Int → Prop} {k k' : Nat} (h : Put n m L L1 P k) (hk : k ≤ k') (hq : ∀ p, Q p ↔ P p) : Put n m L L1 Q k' :=
  ⟨h.rise, h.len, fun p => by rw [h.mem, hq], Nat.le_trans h.more (Nat.add_le_add_left (Nat.pow_le_pow_right (by omega) hk) _)⟩

theorem pq_cases (p q : Prop) (h : p ∨ q) : (p ∧ q) ∨ (p ∧ ¬ q) ∨ (¬ p ∧ q) := by
  rcases Classical.em p with hp | hp <;> rcases Classical.em q with hq | hq
  · exact .inl ⟨hp, hq⟩
  · exact .inr (.inl ⟨hp, hq⟩)
  · exact .inr (.inr ⟨hp, hq⟩)
  · exact absurd h (by rintro (h | h) <;> contradiction)
theorem meas1 {n m a b k : Nat} (h : (n - a) + (m - b) + 1 ≤ k) (h1 : a < n) : (n - (a + 1)) + (m - b) + 1 ≤ k - 1 := by omega
theorem meas2 {n m a b k : Nat} (h : (n - a) + (m - b) + 1 ≤ k) (h1 : b < m) : (n - a) + (m - (b + 1)) + 1 ≤ k - 1 := by omega
theorem pow_halves {k : Nat} (h : 1 ≤ k) : 2 ^ k = 2 ^ (k - 1) + 2 ^ (k - 1) := by
  obtain ⟨q, rfl⟩ : ∃ q, k = q + 1 := ⟨k - 1, by omega⟩
  rw [Nat.pow_succ, Nat.add_sub_cancel]
  omega
theorem half_le {L k : Nat} (h : L + 2 ^ k ≤ 100000) (h1 : 1 ≤ k) : L + 2 ^ (k - 1) ≤ 100000 := by
  rw [pow_halves h1] at h
  generalize 2 ^ (k - 1) = p at h ⊢
  omega
theorem half_two {L L1 k : Nat} (h : L + 2 ^ k ≤ 100000) (h1 : 1 ≤ k) (h2 : L1 ≤ L + 2 ^ (k - 1)) : L1 + 2 ^ (k - 1) ≤ 100000 := by
  rw [pow_halves h1] at h
  generalize 2 ^ (k - 1) = p at h h2 ⊢
  omega
theorem small_app {a n : Nat} (h : a ≤ n) (h8 : n ≤ 8) : 0 + a ≤ 1000000 := by omega
theorem small_le {a n : Nat} (h : a ≤ n) (h8 : n ≤ 8) : a ≤ 1000000 := by omega
/-- The row of ways of which grown is handed. -/
def WRow (w : World) (A : Option Addr) (N : Nat) (W : Int → Int) : Prop := ∃ g, A = some ⟨g, 0, none⟩ ∧ g < w.heap.size ∧ ∀ j : Nat, j < N → w.cell? ⟨g, j, none⟩ = some (.int .i64 (W j))
theorem WRow.below {w w' : World} {A : Option Addr} {N : Nat} {W : Int → Int} (h : WRow w A N W) (hb : Below w.heap.size w w') : WRow w' A N W := by
  obtain ⟨g, e, hg, hc⟩ := h
  exact ⟨g, e, Nat.lt_of_lt_of_le hg hb.size, fun j hj => (hb.cell (p := ⟨g, j, none⟩) hg).trans (hc j hj)⟩

/-- What a call of grown leaves. -/
def Grew (w : World) (n m : Nat) (L : List (List Int × List Int)) (P : List Int × List Int → Prop) (k : Nat) (e : Ending) (w' : World) : Prop :=
  ∃ v' L', e = .returned v' ∧ PutIn w' v' L' ∧ Put n m L L' P k ∧ Below w.heap.size w w'

theorem append_below {w w1 w2 : World} {v1 : Value} {o : Obj} (h1 : w.grownBy w1 none) (ha : v1.ownBlock = none ∨ v1.ownBlock = some w.heap.size) (h2 : (w1.alloc o).grownBy w2 v1.ownBlock) : Below w.heap.size w w2 := by
  have s1 := h1.size
  have e1 : (w1.alloc o).heap.size = w1.heap.size + 1 := by simp
  exact (((Below.refl w.heap.size w).grown h1 (Nat.le_refl _) (fun k hk => by cases hk)).alloc (by omega) o).grown h2 (by omega) (fun k hk => by
    rcases ha with h | h <;> rw [h] at hk
    · cases hk
    · have := Option.some.inj hk
      omega)

set_option maxRecDepth 100000 in
set_option maxHeartbeats 40000000 in
theorem RGrown_any (n m N c0 : Nat) (W : Int → Int) (hn : n ≤ 8 ∧ m ≤ 8) (hN : N ≤ 1000) (hW : ∀ y, W y ≠ 0 → 0 ≤ y ∧ y < (N : Int)) : ∀ (k : Nat) (c d : List Int) (a1 a2 aW : Option Addr) (c1 c2 : Nat) (v : Value) (L : List (List Int × List Int)) (w : World), IsDie c → IsDie d → c.length ≤ n → d.length ≤ m → (n - c.length) + (m - d.length) + 1 ≤ k →
    RInts w w.heap.size a1 c → RInts w w.heap.size a2 d → c.length ≤ c1 → d.length ≤ c2 → WRow w aW N W → PutIn w v L → RiseP L → (∀ p ∈ L, p.1.length = n ∧ p.2.length = m) → L.length + 2 ^ k ≤ 100000 →
    Calls Try.prog 101 #[.int .i64 n, .int .i64 m, .slice a1 c.length c1, .slice a2 d.length c2, .slice aW N c0, v] w (Grew w n m L (fun p => Two n m W p.1 p.2 ∧ Ext c d p.1 p.2) k) := by
  intro k
  induction k using Nat.strongRecOn with
  | _ k ih =>
  intro c d a1 a2 aW c1 c2 v L w hc hd hcn hdm hk h1 h2 hc1 hc2 hw hv hL hlen hb
  have HIH := Lib.hid ih
  clear ih
  obtain ⟨w1, hw1⟩ : ∃ w1, w.alloc (Obj.cells #[.slice a1 c.length c1, .slice a2 d.length c2] 36) = w1 := ⟨_, rfl⟩
  have hb1 : Below w.heap.size w w1 := by rw [← hw1]; exact (Below.refl _ w).alloc (Nat.le_refl _) _
  have HRD := Lib.hid (show RDice w1 w1.heap.size (some ⟨w.heap.size, 0, none⟩) [c, d] by
    have := RDice.two h1 h2 hc1 hc2 (Nat.le_refl _)
    rw [hw1] at this
    exact this.more (by rw [← hw1]; simp))
  have hdd : ∀ x ∈ [c, d], IsDie x := fun x hx => by
    simp only [List.mem_cons, List.not_mem_nil, or_false] at hx
    rcases hx with rfl | rfl
    · exact hc
    · exact hd
  have HWA := Lib.hid (RWays_any (some ⟨w.heap.size, 0, none⟩) [c, d] 2 w1 HRD.out (by simp) hdd)
  have hM := maxW_le hdd
  have hmx := waysF_max [c, d] hdd 2 (by simp)
  have et : [c, d].take 2 = [c, d] := rfl
  rw [et] at hmx
  obtain ⟨M, hM2⟩ : ∃ M, maxW [c, d] + 1 = M := ⟨_, rfl⟩
  rw [hM2] at HWA hmx
  have hM3 : M ≤ 121 := by simp at hM; omega
  have HCP := Lib.hid (show ∀ y, cp c d y ≠ 0 → 0 ≤ y ∧ y < (M : Int) from fun y hy => hmx y (by rw [ways_cp]; exact hy))
  have HWY := Lib.hid (ways_cp c d)
  have HWN := Lib.hid hW
  have HC := Lib.hid hc
  have HD := Lib.hid hd
  have HB1 := Lib.hid hb1
  have HW1 := Lib.hid hw1
  have H12 := Lib.hid (fun (X : World) (hb : Below w.heap.size w X) => (⟨h1.below hb, h2.below hb⟩ : RInts X w.heap.size a1 c ∧ RInts X w.heap.size a2 d))
  have HWR := Lib.hid hw
  have HV := Lib.hid hv
  have HL := Lib.hid hL
  have HLEN := Lib.hid hlen
  have HBO := Lib.hid hb
  have hcl1 := hc.ne
  have hdl1 := hd.ne
  have hcap1 := hc1
  have hcap2 := hc2
  have HN8 := Lib.hid hn
  have hk1 : 1 ≤ k := by omega
  clear hc hd h1 h2 hc1 hc2 hw hv hL hlen hb hb1 hw1 hdd hM hmx et hM2 hW hn
  go_enter Try.func101, Try.ntmps101
  go_wp2_with fail
  rw [HW1.out]
  refine HWA.out.mono ?_
  rintro e w2 ⟨gh, rfl, hgh, hbx, hb2⟩
  have HB2 := Lib.hid (keepC HB1.out hb2)
  have HHV := Lib.hid (fun (j : Nat) (hj : j < M) => show w2.cell? ⟨gh, j, none⟩ = some (.int .i64 (cp c d j)) by rw [hbx.cell j, rowW_at hj, HWY.out])
  have HWV := Lib.hid (HWR.out.below HB2.out)
  obtain ⟨gw, rfl, _, _⟩ := HWR.out
  clear hgh hbx hb2
  obtain ⟨T, hT⟩ : ∃ T, max M N = T := ⟨_, rfl⟩
  have hTM : M ≤ T := by omega
  have hTN : N ≤ T := by omega
  have hT3 : T ≤ M ∨ T ≤ N := by omega
  clear hT
  go_wp2_with fail
  go_loopg [14, 15] T (fun g a i wx => ∃ (j : Nat) (at_ : Int), j + g = T ∧ i = .int .i64 j ∧ a = .int .i64 at_ ∧ Hid (Seen W (cp c d) j at_) ∧ w2 = wx)
  case atStart => exact ⟨0, -1, by omega, rfl, rfl, Lib.hid (Seen.zero _ _), rfl⟩
  case round =>
    obtain ⟨j, at_, hj, rfl, rfl, HS0, rfl⟩ := hrel
    have HS := HS0
    clear HS0
    cases gk with
    | succ gj =>
      have hjT : j < T := by omega
      obtain ⟨hv, hhv⟩ : ∃ x, cp c d j = x := ⟨_, rfl⟩
      obtain ⟨wv, hwv⟩ : ∃ x, W j = x := ⟨_, rfl⟩
      have hM0 : ¬ j < M → hv = 0 := fun h => by
        rw [← hhv]
        rcases Classical.em (cp c d j = 0) with h0 | h0
        · exact h0
        · have := (HCP.out _ h0).2
          omega
      have hN0 : ¬ j < N → wv = 0 := fun h => by
        rw [← hwv]
        rcases Classical.em (W j = 0) with h0 | h0
        · exact h0
        · have := (HWN.out _ h0).2
          omega
      have HOV := Lib.hid (fun (h : wv < hv) => none_over (n := n) (m := m) (W := W) (c := c) (d := d) (s := (j : Int)) (by rw [hhv, hwv]; exact h))
      have HSS := Lib.hid (fun (h : hv = wv) => HS.out.same (by rw [hhv, hwv]; exact h))
      have HSF := Lib.hid (fun (h : hv < wv) (h0 : at_ = -1) => Seen.first (h0 ▸ HS.out) (by rw [hhv, hwv]; exact h))
      have HSM := Lib.hid (fun (h : hv < wv) (h0 : 0 ≤ at_) => HS.out.more h0 (by rw [hhv, hwv]; exact h))
      have hneg : at_ < 0 → at_ = -1 := fun h => HS.out.neg h
      have hcm : j < M → w2.cell? ⟨gh, j, none⟩ = some (.int .i64 hv) := fun h => by rw [← hhv]; exact HHV.out j h
      have hcn2 : j < N → w2.cell? ⟨gw, j, none⟩ = some (.int .i64 wv) := fun h => by
        obtain ⟨g', e, _, hc⟩ := HWV.out
        cases e
        rw [← hwv]
        exact hc j h
      clear hhv hwv
      rcases pq_cases (j < M) (j < N) (by omega) with ⟨hjm, hjn⟩ | ⟨hjm, hjn⟩ | ⟨hjm, hjn⟩
      · have hcm1 := hcm hjm
        have hcn1 := hcn2 hjn
        have hjm1 : (j : Int) < (M : Int) := by omega
        have hjn1 : (j : Int) < (N : Int) := by omega
        clear hcm hcn2 hM0 hN0
        rcases Int.lt_trichotomy hv wv with hlt | heq | hgt
        · have hng : ¬ wv < hv := by omega
          by_cases h0 : at_ < 0
          · have hat := hneg h0
            subst hat
            have HSE := Lib.hid (HSF.out hlt rfl)
            clear hneg h0
            go_wp2_with fail
            go_roundg gj
            case measure => omega
            case rel => exact ⟨j + 1, j, by omega, by go_num, by go_num, HSE, rfl⟩
          · have h00 : 0 ≤ at_ := by omega
            have HSE := Lib.hid (HSM.out hlt h00)
            clear hneg
            go_wp2_with fail
            go_roundg gj
            case measure => omega
            case rel => exact ⟨j + 1, at_, by omega, by go_num, rfl, HSE, rfl⟩
        · have HSE := Lib.hid (HSS.out heq)
          have hng : ¬ wv < hv := by omega
          have hnl : ¬ hv < wv := by omega
          clear hneg heq
          go_wp2_with fail
          go_roundg gj
          case measure => omega
          case rel => exact ⟨j + 1, at_, by omega, by go_num, rfl, HSE, rfl⟩
        · have HNO := Lib.hid (HOV.out hgt)
          clear hneg
          go_wp2_with fail
          go_ret
          exact ⟨_, L, rfl, HV.out.below HB2.out, Put.none HL.out HLEN.out HNO.out, HB2.out⟩
      · have hcm1 := hcm hjm
        obtain rfl := hN0 hjn
        have hjm1 : (j : Int) < (M : Int) := by omega
        have hjn1 : ¬ (j : Int) < (N : Int) := by omega
        clear hcm hcn2 hM0 hN0
        rcases Int.lt_trichotomy hv 0 with hlt | heq | hgt
        · have hng : ¬ 0 < hv := by omega
          by_cases h0 : at_ < 0
          · have hat := hneg h0
            subst hat
            have HSE := Lib.hid (HSF.out hlt rfl)
            clear hneg h0
            go_wp2_with fail
            go_roundg gj
            case measure => omega
            case rel => exact ⟨j + 1, j, by omega, by go_num, by go_num, HSE, rfl⟩
          · have h00 : 0 ≤ at_ := by omega
            have HSE := Lib.hid (HSM.out hlt h00)
            clear hneg
            go_wp2_with fail
            go_roundg gj
            case measure => omega
            case rel => exact ⟨j + 1, at_, by omega, by go_num, rfl, HSE, rfl⟩
        · have HSE := Lib.hid (HSS.out heq)
          have hng : ¬ 0 < hv := by omega
          have hnl : ¬ hv < 0 := by omega
          clear hneg heq
          go_wp2_with fail
          go_roundg gj
          case measure => omega
          case rel => exact ⟨j + 1, at_, by omega, by go_num, rfl, HSE, rfl⟩
        · have HNO := Lib.hid (HOV.out hgt)
          clear hneg
          go_wp2_with fail
          go_ret
          exact ⟨_, L, rfl, HV.out.below HB2.out, Put.none HL.out HLEN.out HNO.out, HB2.out⟩
      · have hcn1 := hcn2 hjn
        obtain rfl := hM0 hjm
        have hjm1 : ¬ (j : Int) < (M : Int) := by omega
        have hjn1 : (j : Int) < (N : Int) := by omega
        clear hcm hcn2 hM0 hN0
        rcases Int.lt_trichotomy 0 wv with hlt | heq | hgt
        · have hng : ¬ wv < 0 := by omega
          by_cases h0 : at_ < 0
          · have hat := hneg h0
            subst hat
            have HSE := Lib.hid (HSF.out hlt rfl)
            clear hneg h0
            go_wp2_with fail
            go_roundg gj
            case measure => omega
            case rel => exact ⟨j + 1, j, by omega, by go_num, by go_num, HSE, rfl⟩
          · have h00 : 0 ≤ at_ := by omega
            have HSE := Lib.hid (HSM.out hlt h00)
            clear hneg
            go_wp2_with fail
            go_roundg gj
            case measure => omega
            case rel => exact ⟨j + 1, at_, by omega, by go_num, rfl, HSE, rfl⟩
        · have HSE := Lib.hid (HSS.out heq)
          have hng : ¬ wv < 0 := by omega
          have hnl : ¬ 0 < wv := by omega
          clear hneg heq
          go_wp2_with fail
          go_roundg gj
          case measure => omega
          case rel => exact ⟨j + 1, at_, by omega, by go_num, rfl, HSE, rfl⟩
        · have HNO := Lib.hid (HOV.out hgt)
          clear hneg
          go_wp2_with fail
          go_ret
          exact ⟨_, L, rfl, HV.out.below HB2.out, Put.none HL.out HLEN.out HNO.out, HB2.out⟩
    | zero =>
      obtain rfl : j = T := by omega
      have hjM : ¬ (j : Int) < (M : Int) := by omega
      have hjN : ¬ (j : Int) < (N : Int) := by omega
      have hout : ∀ y, ¬ (0 ≤ y ∧ y < (j : Int)) → cp c d y = W y := fun y hy => by
        have e1 : cp c d y = 0 := by
          rcases Classical.em (cp c d y = 0) with h0 | h0
          · exact h0
          · have := HCP.out _ h0
            omega
        have e2 : W y = 0 := by
          rcases Classical.em (W y = 0) with h0 | h0
          · exact h0
          · have := HWN.out _ h0
            omega
        rw [e1, e2]
      have HAC := Lib.hid (asc_of HC.out)
      have HAD := Lib.hid (asc_of HD.out)
      rcases HS.out.2 with ⟨rfl, hall⟩ | ⟨s, hsT, rfl, hss, hbelow⟩
      · have hq : ∀ y, cp c d y = W y := fun y => by
          by_cases hy : 0 ≤ y ∧ y < (j : Int)
          · have := hall y.toNat (by omega)
            rw [show ((y.toNat : Nat) : Int) = y by omega] at this
            exact this
          · exact hout y hy
        have HFO := Lib.hid (fun p => full_only hq hcl1 hdl1 hcn hdm HAC.out HAD.out (fun x hx => (HC.out.ok.2 x hx).2) (fun x hx => (HD.out.ok.2 x hx).2) p)
        clear hq hall hout
        by_cases e1 : c.length = n
        · by_cases e2 : d.length = m
          · have b1 : ((c.length : Int) == (n : Int)) = true := by rw [beq_iff_eq]; omega
            have b2 : ((d.length : Int) == (m : Int)) = true := by rw [beq_iff_eq]; omega
            have HLL := Lib.hid (show (c, d).1.length = n ∧ (c, d).2.length = m from ⟨e1, e2⟩)
            clear e1 e2
            go_wp2_with fail
            refine (put_any n m v L (c, d) a1 a2 c1 c2 w2 (HV.out.below HB2.out) HLEN.out HLL.out ((H12.out w2 HB2.out).1.more HB2.out.size) ((H12.out w2 HB2.out).2.more HB2.out.size) hcap1 hcap2 HN8.out (Nat.le_trans (Nat.le_add_right _ _) HBO.out)).mono ?_
            rintro e w3 ⟨v3, rfl, hp3, hb3⟩
            have HP3 := Lib.hid hp3
            have HB3 := Lib.hid (keepC HB2.out hb3)
            clear hp3 hb3
            go_wp2_with fail
            go_ret
            exact ⟨_, _, rfl, HP3.out, Put.one HL.out HLEN.out HLL.out (fun p => (HFO.out p).trans ⟨fun h => h.2, fun h => ⟨HLL.out, h⟩⟩), HB3.out⟩
          · have b1 : ((c.length : Int) == (n : Int)) = true := by rw [beq_iff_eq]; omega
            have b2 : ((d.length : Int) == (m : Int)) = false := by rw [beq_eq_false_iff_ne]; omega
            have HNO := Lib.hid (fun p => show ¬ (Two n m W p.1 p.2 ∧ Ext c d p.1 p.2) from fun h => e2 ((HFO.out p).1 h).1.2)
            clear e1 e2
            go_wp2_with fail
            go_ret
            exact ⟨_, L, rfl, HV.out.below HB2.out, Put.none HL.out HLEN.out HNO.out, HB2.out⟩
        · have b1 : ((c.length : Int) == (n : Int)) = false := by rw [beq_eq_false_iff_ne]; omega
          have HNO := Lib.hid (fun p => show ¬ (Two n m W p.1 p.2 ∧ Ext c d p.1 p.2) from fun h => e1 ((HFO.out p).1 h).1.1)
          clear e1
          go_wp2_with fail
          go_ret
          exact ⟨_, L, rfl, HV.out.below HB2.out, Put.none HL.out HLEN.out HNO.out, HB2.out⟩
      · have hleast : ∀ y, (fun y => W y - cp c d y) y ≠ 0 → (s : Int) ≤ y := fun y hy => by
          by_cases hr : 0 ≤ y ∧ y < (s : Int)
          · have := hbelow y.toNat (by omega)
            rw [show ((y.toNat : Nat) : Int) = y by omega] at this
            exact absurd (show W y - cp c d y = 0 by omega) hy
          · rcases Int.lt_or_le y 0 with h0 | h0
            · have := hout y (by omega)
              exact absurd (show W y - cp c d y = 0 by omega) hy
            · omega
        have HST := Lib.hid (fun p => step_ext (n := n) (m := m) (W := W) (f := fun y => W y - cp c d y) (fun y => rfl) HAC.out hcl1 hdl1 (s := (s : Int)) (show W s - cp c d s ≠ 0 by omega) hleast p)
        clear hleast hout hbelow hss
        obtain ⟨bc, oc, xc, hA1, hbc, hxc, hcc⟩ := (H12.out w2 HB2.out).1.at_ (k := 0) (by omega)
        obtain ⟨bd, od, xd, hA2, hbd, hxd, hcd⟩ := (H12.out w2 HB2.out).2.at_ (k := 0) (by omega)
        subst hA1 hA2
        obtain ⟨_, _, yc, hA1, _, hyc, hcy⟩ := (H12.out w2 HB2.out).1.at_ (k := c.length - 1) (by omega)
        cases hA1
        obtain ⟨_, _, yd, hA2, _, hyd, hdy⟩ := (H12.out w2 HB2.out).2.at_ (k := d.length - 1) (by omega)
        cases hA2
        have ec : c.headD 0 = xc := by have := head_at hcl1; rw [hxc] at this; exact (Option.some.inj this).symm
        have ed : d.headD 0 = xd := by have := head_at hdl1; rw [hxd] at this; exact (Option.some.inj this).symm
        have ecl : c.getD (c.length - 1) 0 = yc := by simp [List.getD, hyc]
        have edl : d.getD (d.length - 1) 0 = yd := by simp [List.getD, hyd]
        have hxr := HC.out.ok.2 xc (List.mem_of_getElem? hxc)
        have hdr := HD.out.ok.2 xd (List.mem_of_getElem? hxd)
        rw [ec, ed, ecl, edl] at HST
        have HEL := Lib.hid (And.intro ecl edl)
        have hcc0 : w2.cell? ⟨bc, oc, none⟩ = some (.int .i64 xc) := hcc
        have hcd0 : w2.cell? ⟨bd, od, none⟩ = some (.int .i64 xd) := hcd
        have hs1 : (s : Int) ≤ 2000 := by omega
        have hs0 : ¬ (s : Int) < 0 := by omega
        have hcli : (0 : Int) < (c.length : Int) := by omega
        have hdli : (0 : Int) < (d.length : Int) := by omega
        have hcc2 : w2.cell? ⟨bc, oc + (c.length - 1), none⟩ = some (.int .i64 yc) := hcy
        have hdd2 : w2.cell? ⟨bd, od + (d.length - 1), none⟩ = some (.int .i64 yd) := hdy
        clear hxc hxd hyc hyd ec ed ecl edl hcc hcd hcy hdy HHV HWV HCP HWA HRD
        obtain ⟨x1, hx1⟩ : ∃ x, (s : Int) - xd = x := ⟨_, rfl⟩
        obtain ⟨x2, hx2⟩ : ∃ x, (s : Int) - xc = x := ⟨_, rfl⟩
        rw [hx1, hx2] at HST
        have HX1 := Lib.hid hx1
        have HX2 := Lib.hid hx2
        have hn8 := HN8.out
        have hct : IntKind.i64.wrap ((c.length : Int) - 1) = ((c.length - 1 : Nat) : Int) := by rw [IntWalk.i64_in _ (by omega)]; omega
        have hdt : IntKind.i64.wrap ((d.length : Int) - 1) = ((d.length - 1 : Nat) : Int) := by rw [IntWalk.i64_in _ (by omega)]; omega
        have hct2 : wrap64 ((c.length : Int) - 1) = ((c.length - 1 : Nat) : Int) := by unfold wrap64; omega
        have hdt2 : wrap64 ((d.length : Int) - 1) = ((d.length - 1 : Nat) : Int) := by unfold wrap64; omega
        have hcw : ((c.length - 1 : Nat) : Int) < (c.length : Int) := by omega
        have hdw : ((d.length - 1 : Nat) : Int) < (d.length : Int) := by omega
        have hcz : (0 : Int) ≤ ((c.length - 1 : Nat) : Int) := by omega
        have hdz : (0 : Int) ≤ ((d.length - 1 : Nat) : Int) := by omega
        clear hn8
        go_upto_region 20 with fail
        go_cut [106] (fun v6 wx => v6 = .bool (decide (c.length < n ∧ yc ≤ x1 ∧ x1 ≤ 60)) ∧ w2 = wx)
        case first =>
          by_cases hA1 : c.length < n
          · have hA1i : (c.length : Int) < (n : Int) := by omega
            by_cases hA2 : yc ≤ x1
            · by_cases hA3 : x1 ≤ 60
              · have HDE := Lib.hid (show decide (c.length < n ∧ yc ≤ x1 ∧ x1 ≤ 60) = true from decide_eq_true ⟨hA1, hA2, hA3⟩)
                go_wp2_with fail
                go_meet
                exact ⟨by rw [HDE.out], rfl⟩
              · have HDE := Lib.hid (show decide (c.length < n ∧ yc ≤ x1 ∧ x1 ≤ 60) = false from decide_eq_false fun h => hA3 h.2.2)
                go_wp2_with fail
                go_meet
                exact ⟨by rw [HDE.out], rfl⟩
            · have HDE := Lib.hid (show decide (c.length < n ∧ yc ≤ x1 ∧ x1 ≤ 60) = false from decide_eq_false fun h => hA2 h.2.1)
              go_wp2_with fail
              go_meet
              exact ⟨by rw [HDE.out], rfl⟩
          · have hA1i : ¬ (c.length : Int) < (n : Int) := by omega
            have HDE := Lib.hid (show decide (c.length < n ∧ yc ≤ x1 ∧ x1 ≤ 60) = false from decide_eq_false fun h => hA1 h.1)
            go_wp2_with fail
            go_meet
            exact ⟨by rw [HDE.out], rfl⟩
        case rest =>
        obtain ⟨rfl, rfl⟩ := hcut
        obtain ⟨bA, hbA⟩ : ∃ b, decide (c.length < n ∧ yc ≤ x1 ∧ x1 ≤ 60) = b := ⟨_, rfl⟩
        have HBA := Lib.hid hbA
        rw [hbA]
        clear hbA
        go_upto_if 106 with fail
        go_cut [5] (fun v5 wx => ∃ (v1 : Value) (L1 : List (List Int × List Int)), v1 = v5 ∧ Hid (PutIn wx v1 L1) ∧ Hid (Put n m L L1 (fun p => (c.length < n ∧ yc ≤ x1 ∧ x1 ≤ 60) ∧ Two n m W p.1 p.2 ∧ Ext (c ++ [x1]) d p.1 p.2) (k - 1)) ∧ Hid (Below w2.heap.size w2 wx))
        case first =>
          have hno : ¬ (c.length < n ∧ yc ≤ x1 ∧ x1 ≤ 60) → (∃ (v1 : Value) (L1 : List (List Int × List Int)), v1 = v ∧ Hid (PutIn w2 v1 L1) ∧ Hid (Put n m L L1 (fun p => (c.length < n ∧ yc ≤ x1 ∧ x1 ≤ 60) ∧ Two n m W p.1 p.2 ∧ Ext (c ++ [x1]) d p.1 p.2) (k - 1)) ∧ Hid (Below w2.heap.size w2 w2)) := fun h =>
            ⟨v, L, rfl, Lib.hid (HV.out.below HB2.out), Lib.hid (Put.none HL.out HLEN.out fun p hp => h hp.1), Lib.hid (Below.refl _ _)⟩
          have HNO := Lib.hid hno
          clear hno
          cases bA with
          | true =>
            have hcond := of_decide_eq_true HBA.out
            obtain ⟨hA1, hA2, hA3⟩ := hcond
            have HDM := Lib.hid (die_more HC.out (Nat.lt_of_lt_of_le hA1 HN8.out.1) (x := x1) (by rw [HEL.out.1]; exact hA2) hA3)
            have hlm : (c ++ [x1]).length = c.length + 1 := by simp
            have HLM := Lib.hid hlm
            clear hlm
            go_wp2_with (first
              | (at_builtin; (refine wpList_app0 _ rfl _ _ rfl (World.ownsRow.alloc HO3.out _) rfl w3.heap.size 1 x1 rfl ((Box.new w3 3 #[_]).cell 0) (small_le (a := c.length) hcn HN8.out.1) ?_; intro g4 k4 w4 ho4 hg4 ha4; have HO4 := Lib.hid ho4; have HB24 := Lib.hid (append_below HG3.out HA3.out hg4); clear ho4 hg4 ha4))
              | (at_builtin; (refine wpList_appV _ rfl _ _ rfl (OwnV.nil_ _) rfl (some ⟨bc, oc, none⟩) c.length c c1 w2.heap.size rfl rfl ((H12.out w2 HB2.out).1.more HB2.out.size) (small_app hcn HN8.out.1) ?_; intro v3 w3 ho3 hg3 ha3; have HO3 := Lib.hid (show OwnV w3 v3 c from ho3); have HG3 := Lib.hid hg3; have HA3 := Lib.hid ha3; clear ho3 hg3 ha3)))
            have HB4 := Lib.hid (keepC HB2.out HB24.out)
            have hcall := HIH.out (k - 1) (Nat.sub_lt hk1 Nat.one_pos) (c ++ [x1]) d (some ⟨g4, 0, none⟩) (some ⟨bd, od, none⟩) (some ⟨gw, 0, none⟩) k4 c2 v L w4 HDM.out HD.out (by rw [HLM.out]; exact hA1) hdm (by rw [HLM.out]; exact meas1 hk hA1) HO4.out.reads ((H12.out w4 HB4.out).2.more HB4.out.size) HO4.out.cap hcap2 (HWR.out.below HB4.out) (HV.out.below HB4.out) HL.out HLEN.out (half_le HBO.out hk1)
            rw [HLM.out] at hcall
            refine hcall.mono ?_
            rintro e w5 ⟨v5, L5, rfl, hp5, hq5, hb5⟩
            have HP5 := Lib.hid hp5
            have HQ5 := Lib.hid (hq5.up (Nat.le_refl _) (Q := fun p => (c.length < n ∧ yc ≤ x1 ∧ x1 ≤ 60) ∧ Two n m W p.1 p.2 ∧ Ext (c ++ [x1]) d p.1 p.2) (fun p => ⟨fun h => h.2, fun h => ⟨⟨hA1, hA2, hA3⟩, h⟩⟩))
            have HB5 := Lib.hid (keepC HB24.out hb5)
            clear hp5 hq5 hb5 hcall
            go_wp2_with fail
            go_meet
            exact ⟨_, L5, rfl, HP5, HQ5, HB5⟩
          | false =>
            have HN1 := Lib.hid (HNO.out (of_decide_eq_false HBA.out))
            go_wp2_with fail
            go_meet
            exact HN1.out
        case rest =>
          obtain ⟨v1, L1, rfl, HP10, HQ10, HB30⟩ := hcut
          obtain ⟨w3, rfl⟩ : ∃ w3 : World, w3 = wc := ⟨_, rfl⟩
          have HP1 := HP10
          have HQ1 := HQ10
          have HB23 := HB30
          clear HP10 HQ10 HB30
          have HB3 := Lib.hid (keepC HB2.out HB23.out)
          have hcc3 : w3.cell? ⟨bc, oc, none⟩ = some (.int .i64 xc) := (HB23.out.cell (p := ⟨bc, oc, none⟩) (Nat.lt_of_lt_of_le hbc HB2.out.size)).trans hcc0
          have hdd3 : w3.cell? ⟨bd, od + (d.length - 1), none⟩ = some (.int .i64 yd) := (HB23.out.cell (p := ⟨bd, od + (d.length - 1), none⟩) (Nat.lt_of_lt_of_le hbd HB2.out.size)).trans hdd2
          have hno : ¬ (d.length < m ∧ yd ≤ x2 ∧ x2 ≤ 60) → Put n m L L1 (fun p => Two n m W p.1 p.2 ∧ Ext c d p.1 p.2) k := fun h =>
            HQ1.out.up (Nat.sub_le _ _) (fun p => (HST.out p).trans ⟨fun h2 => h2.elim id (fun h3 => absurd h3.1 h), .inl⟩)
          have HNO := Lib.hid hno
          clear hno hcc0 hcd0 hcc2 hdd2
          by_cases hA1 : d.length < m
          · have hA1i : (d.length : Int) < (m : Int) := Int.ofNat_lt.2 hA1
            by_cases hA2 : yd ≤ x2
            · by_cases hA3 : x2 ≤ 60
              · have HDM := Lib.hid (die_more HD.out (Nat.lt_of_lt_of_le hA1 HN8.out.2) (x := x2) (by rw [HEL.out.2]; exact hA2) hA3)
                have hlm : (d ++ [x2]).length = d.length + 1 := by simp
                have HLM := Lib.hid hlm
                clear hlm
                go_wp2_with (first
                  | (at_builtin; (refine wpList_app0 _ rfl _ _ rfl (World.ownsRow.alloc HO4.out _) rfl w4.heap.size 1 x2 rfl ((Box.new w4 3 #[_]).cell 0) (small_le (a := d.length) hdm HN8.out.2) ?_; intro g5 k5 w5 ho5 hg5 ha5; have HO5 := Lib.hid ho5; have HB35 := Lib.hid (append_below HG4.out HA4.out hg5); clear ho5 hg5 ha5))
                  | (at_builtin; (refine wpList_appV _ rfl _ _ rfl (OwnV.nil_ _) rfl (some ⟨bd, od, none⟩) d.length d c2 w3.heap.size rfl rfl ((H12.out w3 HB3.out).2.more HB3.out.size) (small_app hdm HN8.out.2) ?_; intro v4 w4 ho4 hg4 ha4; have HO4 := Lib.hid (show OwnV w4 v4 d from ho4); have HG4 := Lib.hid hg4; have HA4 := Lib.hid ha4; clear ho4 hg4 ha4)))
                have HB5 := Lib.hid (keepC HB3.out HB35.out)
                have hcall := HIH.out (k - 1) (Nat.sub_lt hk1 Nat.one_pos) c (d ++ [x2]) (some ⟨bc, oc, none⟩) (some ⟨g5, 0, none⟩) (some ⟨gw, 0, none⟩) c1 k5 v1 L1 w5 HC.out HDM.out hcn (by rw [HLM.out]; exact hA1) (by rw [HLM.out]; exact meas2 hk hA1) ((H12.out w5 HB5.out).1.more HB5.out.size) HO5.out.reads hcap1 HO5.out.cap (HWR.out.below HB5.out) (HP1.out.below HB35.out) HQ1.out.rise HQ1.out.len (half_two HBO.out hk1 HQ1.out.more)
                rw [HLM.out] at hcall
                refine hcall.mono ?_
                rintro e w6 ⟨v6, L6, rfl, hp6, hq6, hb6⟩
                have HP6 := Lib.hid hp6
                have HQ6 := Lib.hid (show Put n m L L6 (fun p => Two n m W p.1 p.2 ∧ Ext c d p.1 p.2) k from by
                  have h5 := Put.two (P := fun p => Two n m W p.1 p.2 ∧ Ext c d p.1 p.2) HQ1.out hq6 (fun p => (HST.out p).trans ⟨fun h2 => h2.elim .inl (fun h3 => .inr h3.2), fun h2 => h2.elim .inl (fun h3 => .inr ⟨⟨hA1, hA2, hA3⟩, h3⟩)⟩)
                  rw [Nat.sub_add_cancel hk1] at h5
                  exact h5)
                have HB6 := Lib.hid (keepC HB5.out hb6)
                clear hp6 hq6 hb6 hcall
                go_wp2_with fail
                go_ret
                exact ⟨_, L6, rfl, HP6.out, HQ6.out, HB6.out⟩
              · have HN1 := Lib.hid (HNO.out (fun h => hA3 h.2.2))
                go_wp2_with fail
                go_ret
                exact ⟨_, L1, rfl, HP1.out, HN1.out, HB3.out⟩
            · have HN1 := Lib.hid (HNO.out (fun h => hA2 h.2.1))
              go_wp2_with fail
              go_ret
              exact ⟨_, L1, rfl, HP1.out, HN1.out, HB3.out⟩
          · have hA1i : ¬ (d.length : Int) < (m : Int) := fun h => hA1 (Int.ofNat_lt.1 h)
            have HN1 := Lib.hid (HNO.out (fun h => hA1 h.1))
            go_wp2_with fail
            go_ret
            exact ⟨_, L1, rfl, HP1.out, HN1.out, HB3.out⟩

end Go.Proofs.Ytkkholagmjcgiaa
