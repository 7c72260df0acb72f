/- Dice made of any numbers, as plain lists: each number's remainder is put into its place. · The statements' function made: a die of any numbers, in memory of its own. -/
import Derived.Test.YtkkholagmjcgiaaRCheck
import Derived.Test.YtkkholagmjcgiaaResults
import Derived.Test.YtkkholagmjcgiaaAppV
namespace Go.Proofs.Ytkkholagmjcgiaa
open Go.RowKit

/-- The remainder of a number, read without a sign. -/
def remU (y most : Int) : Int := IntKind.u64.wrap y % (most + 1)
theorem remU_in (y : Int) {most : Int} (h : 0 ≤ most) : 0 ≤ remU y most ∧ remU y most ≤ most := by
  unfold remU
  have h1 := Int.emod_nonneg (IntKind.u64.wrap y) (show most + 1 ≠ 0 by omega)
  have h2 := Int.emod_lt_of_pos (IntKind.u64.wrap y) (show 0 < most + 1 by omega)
  omega

/-- The place of the first number above x. -/
def insAt (x : Int) (out : List Int) : Nat := out.findIdx fun y => decide (x < y)
def insL (x : Int) (out : List Int) : List Int := out.take (insAt x out) ++ x :: out.drop (insAt x out)
theorem insAt_le (x : Int) (out : List Int) : insAt x out ≤ out.length := List.findIdx_le_length
theorem insAt_of {x : Int} {out : List Int} {k : Nat} (hk : k ≤ out.length) (h : ∀ j, j < k → out.getD j 0 ≤ x) (he : k = out.length ∨ x < out.getD k 0) : k = insAt x out := by
  have hg : ∀ j (hj : j < out.length), out.getD j 0 = out[j] := fun j hj => by simp [List.getD, hj]
  symm
  unfold insAt
  rcases Nat.lt_or_ge k out.length with hlt | hge
  · rw [List.findIdx_eq hlt]
    rw [hg k hlt] at he
    refine ⟨decide_eq_true (by omega), fun j hj => decide_eq_false ?_⟩
    have := h j hj
    rw [hg j (by omega)] at this
    omega
  · obtain rfl : k = out.length := by omega
    rw [List.findIdx_eq_length]
    intro y hy
    obtain ⟨j, hj, rfl⟩ := List.mem_iff_getElem.1 hy
    have := h j hj
    rw [hg j hj] at this
    exact decide_eq_false (by omega)
theorem insL_length (x : Int) (out : List Int) : (insL x out).length = out.length + 1 := by
  have := insAt_le x out
  simp [insL]
  omega
theorem insL_mem {x y : Int} {out : List Int} (h : y ∈ insL x out) : y = x ∨ y ∈ out := by
  unfold insL at h
  rw [List.mem_append, List.mem_cons] at h
  rcases h with h | h | h
  · exact .inr (List.mem_of_mem_take h)
  · exact .inl h
  · exact .inr (List.mem_of_mem_drop h)
theorem insL_sorted {x : Int} {out : List Int} (h : out.Pairwise (· ≤ ·)) : (insL x out).Pairwise (· ≤ ·) := by
  have h1 : ∀ a ∈ out.take (insAt x out), a ≤ x := fun a ha => by
    obtain ⟨j, hj, rfl⟩ := List.mem_iff_getElem.1 ha
    rw [List.length_take] at hj
    rw [List.getElem_take]
    have := List.not_of_lt_findIdx (p := fun y => decide (x < y)) (xs := out) (i := j) (by unfold insAt at hj; omega)
    simpa using this
  have h2 : ∀ b ∈ out.drop (insAt x out), x ≤ b := fun b hb => by
    obtain ⟨j, hj, rfl⟩ := List.mem_iff_getElem.1 hb
    rw [List.length_drop] at hj
    rw [List.getElem_drop]
    have hlt : insAt x out < out.length := by omega
    have h3 : decide (x < out[insAt x out]) = true := List.findIdx_getElem (w := hlt)
    have h3 := of_decide_eq_true h3
    rcases Nat.eq_zero_or_pos j with h0 | h0
    · subst h0
      simp only [Nat.add_zero]
      omega
    · have := (List.pairwise_iff_getElem.1 h) (insAt x out) (insAt x out + j) hlt (by omega) (by omega)
      omega
  unfold insL
  rw [List.pairwise_append]
  refine ⟨h.sublist (List.take_sublist _ _), ?_, fun a ha b hb => ?_⟩
  · rw [List.pairwise_cons]
    exact ⟨h2, h.sublist (List.drop_sublist _ _)⟩
  · rw [List.mem_cons] at hb
    rcases hb with rfl | hb
    · exact h1 a ha
    · exact Int.le_trans (h1 a ha) (h2 b hb)

/-- The first k numbers, put in order. -/
def madeTo (l : List Int) (most : Int) (k : Nat) : List Int := (l.take k).foldl (fun out y => insL (remU y most) out) []
theorem madeTo_zero (l : List Int) (most : Int) : madeTo l most 0 = [] := by simp [madeTo]
theorem madeTo_succ {l : List Int} {most y : Int} {k : Nat} (h : l[k]? = some y) : madeTo l most (k + 1) = insL (remU y most) (madeTo l most k) := by
  have hk := List.getElem?_eq_some_iff.1 h
  unfold madeTo
  rw [List.take_succ_eq_append_getElem hk.1, hk.2, List.foldl_append]
  rfl
theorem madeTo_facts (l : List Int) {most : Int} (hm : 0 ≤ most) : ∀ k, k ≤ l.length → (madeTo l most k).length = k ∧ (madeTo l most k).Pairwise (· ≤ ·) ∧ ∀ x ∈ madeTo l most k, 0 ≤ x ∧ x ≤ most
  | 0, _ => by rw [madeTo_zero]; simp
  | k + 1, hk => by
    obtain ⟨h1, h2, h3⟩ := madeTo_facts l hm k (by omega)
    rw [madeTo_succ (List.getElem?_eq_getElem (by omega))]
    refine ⟨by rw [insL_length, h1], insL_sorted h2, fun x hx => ?_⟩
    rcases insL_mem hx with rfl | hx
    · exact remU_in _ hm
    · exact h3 x hx

/-- The die that is made of any numbers. -/
def madeL (l : List Int) (most : Int) : List Int := if l.length = 0 then [0] else madeTo l most (min l.length 8)
theorem sortB_of {d : List Int} (h : d.Pairwise (· ≤ ·)) : sortB d = true := by
  unfold sortB
  rw [sortTo_iff]
  intro j hj
  have h1 : d.getD j 0 = d[j]'(by omega) := by simp [List.getD, show j < d.length by omega]
  have h2 : d.getD (j + 1) 0 = d[j + 1]'(by omega) := by simp [List.getD, show j + 1 < d.length by omega]
  rw [h1, h2]
  exact (List.pairwise_iff_getElem.1 h) j (j + 1) (by omega) (by omega) (by omega)
theorem madeL_facts (l : List Int) {most : Int} (hm : 0 ≤ most) : 1 ≤ (madeL l most).length ∧ (madeL l most).length ≤ 8 ∧ (madeL l most).Pairwise (· ≤ ·) ∧ ∀ x ∈ madeL l most, 0 ≤ x ∧ x ≤ most := by
  unfold madeL
  split
  · refine ⟨by simp, by simp, by simp, fun x hx => ?_⟩
    simp at hx
    omega
  · obtain ⟨h1, h2, h3⟩ := madeTo_facts l hm (min l.length 8) (by omega)
    exact ⟨by omega, by omega, h2, h3⟩
theorem madeL_die (l : List Int) {most : Int} (hm : 0 ≤ most) (h60 : most ≤ 60) : IsDie (madeL l most) := by
  obtain ⟨h1, h2, h3, h4⟩ := madeL_facts l hm
  exact ⟨⟨h2, fun x hx => by have := h4 x hx; omega⟩, h1, sortB_of h3⟩

/-- The dice that are made of any numbers. -/
def someL (l : List (List Int)) (many : Nat) (most : Int) : List (List Int) := if (l.take many).length = 0 then [[0]] else (l.take many).map fun d => madeL d most
theorem someL_dice (l : List (List Int)) {many : Nat} {most : Int} (hm : 0 ≤ most) (h60 : most ≤ 60) (h6 : many ≤ 6) : AreDice (someL l many most) := by
  unfold someL
  split
  · exact ⟨by simp, by simp, fun d hd => by
      rw [List.mem_singleton] at hd
      subst hd
      exact ⟨⟨by simp, fun x hx => by simp at hx; omega⟩, by simp, by decide⟩⟩
  · refine ⟨by rw [List.length_map]; omega, by rw [List.length_map, List.length_take]; omega, fun d hd => ?_⟩
    obtain ⟨x, _, rfl⟩ := List.mem_map.1 hd
    exact madeL_die x hm h60

end Go.Proofs.Ytkkholagmjcgiaa

namespace Go.Proofs.Ytkkholagmjcgiaa
open Go.RowKit

theorem u64_small {m : Int} (h : 0 ≤ m ∧ m ≤ 1000000) : IntKind.u64.wrap m = m := by
  simp only [IntKind.wrap, IntKind.signed, Bool.false_and, Bool.false_eq_true, if_false]
  exact Int.emod_eq_of_lt (by omega) (by simp [IntKind.bits]; omega)

theorem rem_walk (y : Int) {m : Int} (h : 0 ≤ m ∧ m ≤ 1000000) : wrap64 ((IntKind.u64.wrap y).tmod (m + 1)) = remU y m := by
  have h0 : 0 ≤ IntKind.u64.wrap y := by
    simp only [IntKind.wrap, IntKind.signed, Bool.false_and, Bool.false_eq_true, if_false]
    exact Int.emod_nonneg _ (by decide)
  have h1 := remU_in y h.1
  rw [Int.tmod_eq_emod_of_nonneg h0]
  show wrap64 (remU y m) = remU y m
  unfold wrap64
  omega
theorem OwnR.toVn {w : World} {g k n : Nat} {zs : List Int} (h : OwnR w g k zs) (hn : n = zs.length) : OwnV w (.slice (some ⟨g, 0, none⟩) n k) zs := by subst hn; exact h
theorem OwnR.toV {w : World} {g k : Nat} {zs : List Int} (h : OwnR w g k zs) : OwnV w (.slice (some ⟨g, 0, none⟩) zs.length k) zs := h

/-- The end of a row, as a slice from a place on: at the capacity's end Go keeps the old address. -/
theorem OwnR.cut {w : World} {g k : Nat} {zs : List Int} (h : OwnR w g k zs) (n : Nat) : RInts w w.heap.size (if k = n then some ⟨g, 0, none⟩ else some ⟨g, n, none⟩) (zs.drop n) := by
  split
  · have := h.cap
    rw [List.drop_eq_nil_of_le (by omega)]
    exact RInts.nil_
  · exact h.ends n

section
variable {w wr w1 w2 w3 : World} {v1 : Value} {o : Obj} {g g' g2 cap : Nat} {out : List Int}
/-- The row from which the parts come is kept while the new one is laid. -/
theorem made_keep (h : OwnR wr g' cap out) (h1 : wr.grownBy w1 none) (ha : v1.ownBlock = none ∨ v1.ownBlock = some wr.heap.size) (h2 : (w1.alloc o).grownBy w2 v1.ownBlock) : OwnR w2 g' cap out := by
  have hlt := h.lt
  refine ((h.grown h1 (by simp)).alloc o).grown h2 fun e => ?_
  rcases ha with ha | ha
  · rw [ha] at e; cases e
  · rw [ha] at e
    have := Option.some.inj e
    omega
theorem made_below (h : Below w.heap.size w wr) (h1 : wr.grownBy w1 none) (ha : v1.ownBlock = none ∨ v1.ownBlock = some wr.heap.size) (h2 : (w1.alloc o).grownBy w2 v1.ownBlock)
    (hg : v1.ownBlock = some g2 ∨ g2 = (w1.alloc o).heap.size) (h3 : w2.grownBy w3 (some g2)) : Below w.heap.size w w3 ∧ w.heap.size ≤ g2 ∧ w.heap.size ≤ w2.heap.size := by
  have s0 := h.size
  have s1 := h1.size
  have s2 := h2.size
  have e1 : (w1.alloc o).heap.size = w1.heap.size + 1 := by simp
  have hg2 : w.heap.size ≤ g2 := by
    rcases hg with hg | hg
    · rcases ha with ha | ha
      · rw [ha] at hg; cases hg
      · rw [ha] at hg
        have := Option.some.inj hg
        omega
    · omega
  have b1 := h.grown h1 s0 (fun k hk => by cases hk)
  have b2 := b1.alloc (by omega) o
  have b3 := b2.grown h2 (by omega) (fun k hk => by
    rcases ha with ha | ha
    · rw [ha] at hk; cases hk
    · rw [ha] at hk
      have := Option.some.inj hk
      omega)
  exact ⟨b3.grown h3 (by omega) (fun k hk => by have := Option.some.inj hk; omega), hg2, by omega⟩
end

set_option maxRecDepth 100000 in
set_option maxHeartbeats 4000000 in
theorem made_any (A : Option Addr) (l : List Int) (c most : Nat) (w : World) (hr : RInts w w.heap.size A l) (hm : l.length ≤ 9223372036854775807) (hmost : most ≤ 1000) :
    Calls Try.prog 45 #[.slice A l.length c, .int .i64 most] w fun e w' => ∃ g k, e = .returned (.slice (some ⟨g, 0, none⟩) (madeL l most).length k) ∧ w.heap.size ≤ g ∧ OwnR w' g k (madeL l most) ∧ Below w.heap.size w w' := by
  have HR := Lib.hid hr
  have hu : IntKind.u64.wrap ((most : Int) + 1) = (most : Int) + 1 := u64_small (by omega)
  have hmost0 : (0 : Int) ≤ (most : Int) := by omega
  clear hr
  go_enter Try.func45, Try.ntmps45
  go_wp2_with fail
  go_loopg [5, 6] (min l.length 8) (fun g v i wx => ∃ k : Nat, k + g = min l.length 8 ∧ i = .int .i64 k ∧ OwnV wx v (madeTo l most k) ∧ (∀ b, v.ownBlock = some b → w.heap.size ≤ b) ∧ Below w.heap.size w wx)
  case atStart => exact ⟨0, by omega, rfl, by rw [madeTo_zero]; exact OwnV.nil_ _, (fun b hb => by cases hb), Below.refl _ _⟩
  case round =>
    obtain ⟨k, hkg, rfl, hv, hvb, hB⟩ := hrel
    cases gk with
    | zero =>
      have HB := Lib.hid hB
      rcases Nat.eq_zero_or_pos l.length with h0 | h0
      · obtain rfl : k = 0 := by omega
        rw [madeTo_zero] at hv
        have HM := Lib.hid (show madeL l most = [0] by unfold madeL; rw [if_pos h0])
        have hl0 : ¬ (0 : Int) < (l.length : Int) := by omega
        rw [show ((0 : Nat) : Int) = 0 from rfl]
        clear h0 hkg hB
        rcases hv.2 with ⟨e1, _⟩ | ⟨g', cap, cur, e1, _⟩
        all_goals
          subst e1
          clear hv hvb
          go_wp2_with fail
          go_ret
          rw [HM.out]
          exact ⟨wr.heap.size, 1, rfl, HB.out.size, OwnR.of_box (Box.new _ _ _) rfl (by simp) (by decide) rfl, HB.out.alloc HB.out.size _⟩
      · have HM := Lib.hid (show madeL l most = madeTo l most k by unfold madeL; rw [if_neg (by omega)]; congr 1; omega)
        have hlen := (madeTo_facts l hmost0 k (by omega)).1
        obtain ⟨g, cap, e1, ho⟩ := hv.form (by omega)
        have hgb := hvb g (by rw [e1]; rfl)
        have HO := Lib.hid ho
        have HLEN := Lib.hid hlen
        rw [hlen] at e1
        subst e1
        have hk1 : ((k : Int) == 0) = false := by rw [beq_eq_false_iff_ne]; omega
        clear hv hvb ho hlen hB
        by_cases h8 : k = 8
        · have HK8 := Lib.hid h8
          have hk8 : ¬ (k : Int) < 8 := by omega
          have hkl : (k : Int) ≤ (l.length : Int) := by omega
          clear h8
          by_cases hl8 : (k : Int) < (l.length : Int)
          all_goals
            go_wp2_with fail
            go_ret
            rw [HM.out, HLEN.out]
            exact ⟨g, cap, rfl, hgb, HO.out, HB.out⟩
        · have hkl : ¬ (k : Int) < (l.length : Int) := by omega
          clear h8
          go_wp2_with fail
          go_ret
          rw [HM.out, HLEN.out]
          exact ⟨g, cap, rfl, hgb, HO.out, HB.out⟩
    | succ g =>
      have hki : (k : Int) < (l.length : Int) := by omega
      have hk8 : (k : Int) < 8 := by omega
      have hk0 : (0 : Int) ≤ (k : Int) := by omega
      obtain ⟨b, o, y, hA, hb, hy, hcy⟩ := HR.out.at_ (k := k) (by omega)
      subst hA
      have hcy2 : wr.cell? ⟨b, o + k, none⟩ = some (.int .i64 y) := (hB.cell (p := ⟨b, o + k, none⟩) hb).trans hcy
      have HS := Lib.hid (madeTo_succ (most := (most : Int)) hy)
      obtain ⟨out, hout⟩ : ∃ out, madeTo l most k = out := ⟨_, rfl⟩
      obtain ⟨x, hx⟩ : ∃ x, remU y most = x := ⟨_, rfl⟩
      have HW := Lib.hid ((rem_walk y (m := (most : Int)) (by omega)).trans hx)
      have HL := Lib.hid (show out.length = k by rw [← hout]; exact (madeTo_facts l hmost0 k (by omega)).1)
      rw [hout] at hv
      rw [hout, hx] at HS
      have HB := Lib.hid hB
      clear hcy hx hout hy hB
      rcases hv.2 with ⟨e1, hn⟩ | ⟨g', cap, cur, e1, hb', hh, h1, h2, h3, h4⟩
      · obtain rfl : out = [] := by
          have h9 : out.length = 0 := hn
          exact List.eq_nil_of_length_eq_zero h9
        have HK0 := Lib.hid (show k = 0 from HL.out.symm)
        subst e1
        clear hv hvb hn
        go_wp2_with fail
        rw [HW.out]
        go_loopg [8] 0 (fun gg i wx => gg = 0 ∧ i = .int .i64 0 ∧ wr = wx)
        case atStart => exact ⟨rfl, rfl, rfl⟩
        case round =>
          obtain ⟨rfl, rfl, rfl⟩ := hrel
          go_wp2_with (first
            | (at_builtin; (refine wpList_appV _ rfl _ _ rfl (OwnV.nil_ _) rfl none 0 [] 0 wr.heap.size rfl rfl (show RInts wr wr.heap.size none [] from RInts.nil_) (by simp) ?_; intro v1 w1 ho1 hg1 hat1; have hcn : ∀ (o : Value), (w1.alloc (Obj.cells #[o] 3)).cell? ⟨w1.heap.size, 0, none⟩ = some o := fun o => (Box.new w1 3 #[o]).cell 0; have HCN := Lib.hid hcn; clear hcn; have HO1 := Lib.hid ho1; have HG1 := Lib.hid hg1; have HAT1 := Lib.hid hat1; clear ho1 hg1 hat1))
            | (at_builtin; (refine wpList_app0 _ rfl _ _ rfl (World.ownsRow.alloc HO1.out _) rfl w1.heap.size 1 x rfl (HCN.out _) (by simp) ?_; intro g2 k2 w2 ho2 hg2 hat2; have HO2 := Lib.hid ho2; have HG2 := Lib.hid hg2; have HAT2 := Lib.hid hat2; clear ho2 hg2 hat2))
            | (at_builtin; (refine wpList_appV _ rfl _ _ rfl (OwnR.toVn (n := 1) HO2.out rfl) rfl none 0 [] 0 w2.heap.size rfl rfl RInts.nil_ (by simp) ?_; intro v3 w3 ho3 hg3 hat3; have HO3 := Lib.hid ho3; have HG3 := Lib.hid (made_below HB.out HG1.out HAT1.out HG2.out HAT2.out hg3); have HAT3 := Lib.hid hat3; clear ho3 hg3 hat3)))
          all_goals
            go_roundg g
            case measure => omega
            case rel => exact ⟨k + 1, by omega, by go_num, by rw [HS.out]; have h9 := HO3.out; simpa [insL, insAt] using h9, (fun b hb => by
              have h9 := HG3.out
              rcases HAT3.out with h8 | h8
              · rw [h8] at hb
                have e9 : g2 = b := by simpa [Value.ownBlock] using hb
                omega
              · rw [h8] at hb
                have := Option.some.inj hb
                omega), HG3.out.1⟩
      · have HO := Lib.hid (OwnR.of_box hh (by simpa using h3) h1 h2 (by simpa using h4) : Hid (OwnR wr g' cap out))
        have hvb' := hvb g' (by rw [e1]; rfl)
        rw [HL.out] at e1 h1
        subst e1
        unfold maxLen at h2
        obtain ⟨jx, hjx⟩ : ∃ jx, insAt x out = jx := ⟨_, rfl⟩
        have hjk : jx ≤ k := by rw [← hjx]; have := insAt_le x out; have := HL.out; omega
        have HJ := Lib.hid hjx
        clear hv h3 h4 hh hvb hb' hjx
        go_wp2_with fail
        rw [HW.out]
        go_loopg [8] jx (fun gg i wx => ∃ j : Nat, j + gg = jx ∧ i = .int .i64 j ∧ wr = wx)
        case atStart => exact ⟨0, by omega, rfl, rfl⟩
        case round =>
          obtain ⟨j, hjg, rfl, rfl⟩ := hrel
          cases gk with
          | succ gg =>
            obtain ⟨_, _, z, hA2, hzb, hz, hcz⟩ := HO.out.reads.at_ (k := j) (by rw [HL.out]; omega)
            cases hA2
            have hzx : z ≤ x := by
              have h9 := List.not_of_lt_findIdx (p := fun q => decide (x < q)) (xs := out) (i := j) (by have := HJ.out; unfold insAt at this; omega)
              have e9 : out[j]'(by rw [HL.out]; omega) = z := (List.getElem?_eq_some_iff.1 hz).2
              rw [e9] at h9
              simpa using h9
            have hjl : (j : Int) < (k : Int) := by omega
            have hj0 : (0 : Int) ≤ (j : Int) := by omega
            rw [Nat.zero_add] at hcz
            clear hz
            go_wp2_with fail
            go_roundg gg
            case measure => omega
            case rel => exact ⟨j + 1, by omega, by go_num, rfl⟩
          | zero =>
            obtain rfl : j = jx := by omega
            have hj0 : (0 : Int) ≤ (j : Int) := by omega
            have HE : j = k ∨ ∃ z, j < k ∧ wr.cell? ⟨g', j, none⟩ = some (.int .i64 z) ∧ x < z := by
              rcases Nat.lt_or_ge j k with hlt | hge
              · right
                obtain ⟨_, _, z, hA2, hzb, hz, hcz⟩ := HO.out.reads.at_ (k := j) (by rw [HL.out]; omega)
                cases hA2
                rw [Nat.zero_add] at hcz
                refine ⟨z, hlt, hcz, ?_⟩
                have e9 : out[j]'(by rw [HL.out]; omega) = z := (List.getElem?_eq_some_iff.1 hz).2
                have hlt0 : insAt x out < out.length := by rw [HJ.out, HL.out]; exact hlt
                have h3 : decide (x < out[insAt x out]) = true := List.findIdx_getElem (w := hlt0)
                have h4 := of_decide_eq_true h3
                have h5 := HJ.out
                simp only [h5] at h4
                omega
              · exact .inl (by omega)
            rcases HE with hjk2 | ⟨z, hjl, hcz, hxz⟩
            · have hcap1 : (k : Int) ≤ (cap : Int) := by omega
              have hjl' : ¬ (j : Int) < (k : Int) := by omega
              have hcap0 : (j : Int) ≤ (cap : Int) := by omega
              have HK := Lib.hid hjk2
              clear hjk2
              have HT := Lib.hid (show j = (out.take j).length by rw [List.length_take, HL.out]; omega)
              have HT2 := Lib.hid (show k - j = (out.drop j).length by rw [List.length_drop, HL.out])
              go_wp2_with (first
                | (at_builtin; (refine wpList_appV _ rfl _ _ rfl (OwnV.nil_ _) rfl (some ⟨g', 0, none⟩) j (out.take j) cap wr.heap.size rfl HT.out HO.out.pre.reads (by have := HT.out; have := HL.out; simp; omega) ?_; intro v1 w1 ho1 hg1 hat1; have hcn : ∀ (o : Value), (w1.alloc (Obj.cells #[o] 3)).cell? ⟨w1.heap.size, 0, none⟩ = some o := fun o => (Box.new w1 3 #[o]).cell 0; have HCN := Lib.hid hcn; clear hcn; have HO1 := Lib.hid ho1; have HG1 := Lib.hid hg1; have HAT1 := Lib.hid hat1; clear ho1 hg1 hat1))
                | (at_builtin; (refine wpList_app0 _ rfl _ _ rfl (World.ownsRow.alloc HO1.out _) rfl w1.heap.size 1 x rfl (HCN.out _) (by have := HL.out; simp; omega) ?_; intro g2 k2 w2 ho2 hg2 hat2; have HO2 := Lib.hid ho2; have HG2 := Lib.hid hg2; have HAT2 := Lib.hid hat2; clear ho2 hg2 hat2))
                | (at_builtin; (refine wpList_appV _ rfl _ _ rfl (OwnR.toVn (n := min j out.length + 1) HO2.out (by simp)) rfl _ (k - j) (out.drop j) _ w2.heap.size rfl HT2.out ((made_keep HO.out HG1.out HAT1.out HG2.out).cut j) (by have := HL.out; simp; omega) ?_; intro v3 w3 ho3 hg3 hat3; have HO3 := Lib.hid ho3; have HG3 := Lib.hid (made_below HB.out HG1.out HAT1.out HG2.out HAT2.out hg3); have HAT3 := Lib.hid hat3; clear ho3 hg3 hat3)))
              all_goals
                go_roundg g
                case measure => omega
                case rel => exact ⟨k + 1, by omega, by go_num, by rw [HS.out]; have h9 := HO3.out; have hj9 := HJ.out; simpa [insL, hj9] using h9, (fun b hb => by
                  have h9 := HG3.out
                  rcases HAT3.out with h8 | h8
                  · rw [h8] at hb
                    have e9 : g2 = b := by simpa [Value.ownBlock] using hb
                    omega
                  · rw [h8] at hb
                    have := Option.some.inj hb
                    omega), HG3.out.1⟩
            · have hjl' : (j : Int) < (k : Int) := by omega
              have hcap1 : (k : Int) ≤ (cap : Int) := by omega
              have hcap0 : (j : Int) ≤ (cap : Int) := by omega
              have hxz' : ¬ z ≤ x := by omega
              have HT := Lib.hid (show j = (out.take j).length by rw [List.length_take, HL.out]; omega)
              have HT2 := Lib.hid (show k - j = (out.drop j).length by rw [List.length_drop, HL.out])
              go_wp2_with (first
                | (at_builtin; (refine wpList_appV _ rfl _ _ rfl (OwnV.nil_ _) rfl (some ⟨g', 0, none⟩) j (out.take j) cap wr.heap.size rfl HT.out HO.out.pre.reads (by have := HT.out; have := HL.out; simp; omega) ?_; intro v1 w1 ho1 hg1 hat1; have hcn : ∀ (o : Value), (w1.alloc (Obj.cells #[o] 3)).cell? ⟨w1.heap.size, 0, none⟩ = some o := fun o => (Box.new w1 3 #[o]).cell 0; have HCN := Lib.hid hcn; clear hcn; have HO1 := Lib.hid ho1; have HG1 := Lib.hid hg1; have HAT1 := Lib.hid hat1; clear ho1 hg1 hat1))
                | (at_builtin; (refine wpList_app0 _ rfl _ _ rfl (World.ownsRow.alloc HO1.out _) rfl w1.heap.size 1 x rfl (HCN.out _) (by have := HL.out; simp; omega) ?_; intro g2 k2 w2 ho2 hg2 hat2; have HO2 := Lib.hid ho2; have HG2 := Lib.hid hg2; have HAT2 := Lib.hid hat2; clear ho2 hg2 hat2))
                | (at_builtin; (refine wpList_appV _ rfl _ _ rfl (OwnR.toVn (n := min j out.length + 1) HO2.out (by simp)) rfl _ (k - j) (out.drop j) _ w2.heap.size rfl HT2.out ((made_keep HO.out HG1.out HAT1.out HG2.out).ends j) (by have := HL.out; simp; omega) ?_; intro v3 w3 ho3 hg3 hat3; have HO3 := Lib.hid ho3; have HG3 := Lib.hid (made_below HB.out HG1.out HAT1.out HG2.out HAT2.out hg3); have HAT3 := Lib.hid hat3; clear ho3 hg3 hat3)))
              all_goals
                go_roundg g
                case measure => omega
                case rel => exact ⟨k + 1, by omega, by go_num, by rw [HS.out]; have h9 := HO3.out; have hj9 := HJ.out; simpa [insL, hj9] using h9, (fun b hb => by
                  have h9 := HG3.out
                  rcases HAT3.out with h8 | h8
                  · rw [h8] at hb
                    have e9 : g2 = b := by simpa [Value.ownBlock] using hb
                    omega
                  · rw [h8] at hb
                    have := Option.some.inj hb
                    omega), HG3.out.1⟩
end Go.Proofs.Ytkkholagmjcgiaa
