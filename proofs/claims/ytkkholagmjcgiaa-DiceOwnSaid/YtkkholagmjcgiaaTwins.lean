/- The ways of two dice, as plain mathematics: from the least sum on, as many as the product of the numbers of sides. No program is spoken of. · The function Twins of package dice: of two dice it returns just the pairs that the plain search finds; nothing that was there turns. -/
import Derived.Test.YtkkholagmjcgiaaResults
namespace Go.Proofs.Ytkkholagmjcgiaa
open Go.RowKit Go.Maps

theorem evK_succ (k : Nat) : evK (k + 1) = evK k ++ [(k : Int)] := by simp [evK, List.range_succ]
theorem sumF_append (f : Int → Int) (a b : List Int) : sumF f (a ++ b) = sumF f a + sumF f b := by simp [sumF]
theorem sumF_ext {f : Int → Int} {K : Nat} (h : ∀ z : Int, (K : Int) ≤ z → f z = 0) : ∀ j, sumF f (evK (K + j)) = sumF f (evK K)
  | 0 => rfl
  | j + 1 => by
    rw [← Nat.add_assoc, evK_succ, sumF_append, sumF_ext h j]
    simp only [sumF, List.map_cons, List.map_nil, List.sum_cons, List.sum_nil]
    rw [h _ (by omega)]
    omega
theorem sumF_shift {f : Int → Int} (y : Nat) (h : ∀ z : Int, z < 0 → f z = 0) : ∀ K : Nat, sumF (fun s => f (s - (y : Int))) (evK (K + y)) = sumF f (evK K)
  | 0 => by
    rw [sumF_none]
    · rfl
    · intro z hz
      have := mem_evK.1 hz
      exact h _ (by omega)
  | K + 1 => by
    rw [show K + 1 + y = K + y + 1 by omega, evK_succ, evK_succ, sumF_append, sumF_append, sumF_shift y h K]
    simp only [sumF, List.map_cons, List.map_nil, List.sum_cons, List.sum_nil]
    rw [show ((K + y : Nat) : Int) - (y : Int) = (K : Int) by push_cast; omega]
theorem sumF_conv {f : Int → Int} {K : Nat} (h0 : ∀ z : Int, z < 0 → f z = 0) (h1 : ∀ z : Int, (K : Int) ≤ z → f z = 0) : ∀ (d : List Int) (i : Nat), (∀ x ∈ d, 0 ≤ x ∧ x ≤ 60) → sumF (cv f (fun _ _ => false) d i) (evK (K + 60)) = d.length * sumF f (evK K)
  | [], i, _ => by
    rw [sumF_none (f := cv f (fun _ _ => false) [] i) _ fun _ _ => rfl]
    simp
  | x :: r, i, hd => by
    have hx := hd x (by simp)
    have ih := sumF_conv h0 h1 r (i + 1) fun y hy => hd y (by simp [hy])
    have e : cv f (fun _ _ => false) (x :: r) i = fun s => f (s - x) + cv f (fun _ _ => false) r (i + 1) s := by funext s; simp [cv]
    obtain ⟨y, rfl⟩ := Int.eq_ofNat_of_zero_le hx.1
    have hs : sumF (fun s => f (s - (y : Int))) (evK (K + 60)) = sumF f (evK K) := by
      rw [show K + 60 = K + y + (60 - y) by omega, sumF_ext (K := K + y) (fun z hz => h1 _ (by push_cast at hz; omega)), sumF_shift y h0 K]
    rw [e, sumF_add, hs, ih]
    simp only [List.length_cons, Int.natCast_add, Int.natCast_one, Int.add_mul, Int.one_mul]
    omega
theorem sumF_filter (f : Int → Int) : ∀ l : List Int, sumF f (l.filter fun x => nz f x) = sumF f l
  | [] => rfl
  | x :: r => by
    have ih := sumF_filter f r
    by_cases h : f x = 0
    · rw [List.filter_cons_of_neg (by simp [nz, h]), ih]
      simp [sumF, h]
    · rw [List.filter_cons_of_pos (by simp [nz, h])]
      simp only [sumF, List.map_cons, List.sum_cons] at ih ⊢
      rw [ih]

/-- The keys of a map of ways of two dice. -/
def keys2 (f : Int → Int) : List Int := (evK 121).filter fun x => nz f x
/-- All twins of two dice, as the plain search finds them. -/
def twinsL (a b : List Int) : List (List Int × List Int) := pairsL a.length b.length (a.headD 0) (b.headD 0) (waysF [a, b]) (keys2 (waysF [a, b]))

theorem cv_ne {f : Int → Int} : ∀ (d : List Int) (i : Nat) (s : Int), cv f (fun _ _ => false) d i s ≠ 0 → ∃ x ∈ d, f (s - x) ≠ 0
  | [], _, _, h => absurd rfl h
  | x :: r, i, s, h => by
    by_cases e : f (s - x) = 0
    · have h2 : cv f (fun _ _ => false) r (i + 1) s ≠ 0 := by
        intro e2
        apply h
        simp [cv, e, e2]
      obtain ⟨y, hy, h3⟩ := cv_ne r (i + 1) s h2
      exact ⟨y, by simp [hy], h3⟩
    · exact ⟨x, by simp, e⟩
theorem cv_pos {f : Int → Int} (hf : ∀ y, 0 ≤ f y) : ∀ (d : List Int) (i : Nat) (s x : Int), x ∈ d → f (s - x) ≠ 0 → cv f (fun _ _ => false) d i s ≠ 0
  | y :: r, i, s, x, hx, h => by
    have h1 := hf (s - y)
    have h2 : 0 ≤ cv f (fun _ _ => false) r (i + 1) s := by
      have hg : ∀ (d : List Int) (i : Nat), 0 ≤ cv f (fun _ _ => false) d i s := by
        intro d
        induction d with
        | nil => intro i; simp [cv]
        | cons z t ih => intro i; have := ih (i + 1); have := hf (s - z); simp [cv]; omega
      exact hg r (i + 1)
    simp only [cv]
    rcases List.mem_cons.1 hx with rfl | hx
    · simp; omega
    · have h3 := cv_pos hf r (i + 1) s x hx h
      simp; omega

theorem head_le {d : List Int} (h : IsDie d) {x : Int} (hx : x ∈ d) : d.headD 0 ≤ x := by
  obtain ⟨i, hi⟩ := List.mem_iff_getElem?.1 hx
  have hil : i < d.length := (List.getElem?_eq_some_iff.1 hi).1
  have e : d.getD i 0 = x := by simp [List.getD, hi]
  have e0 : d.getD 0 0 = d.headD 0 := by
    have := head_at h.ne
    simp only [List.getD, this, Option.getD_some]
  have := sortTo_le h.sorted i 0 (by omega) (by omega)
  omega
theorem head_mem {d : List Int} (h : 1 ≤ d.length) : d.headD 0 ∈ d := List.mem_of_getElem? (head_at h)

theorem twinIn {a b : List Int} (ha : IsDie a) (hb : IsDie b) : PairsIn a.length b.length (a.headD 0) (b.headD 0) (waysF [a, b]) (nz (waysF [a, b])) (keys2 (waysF [a, b])) := by
  have hd : ∀ d ∈ [a, b], DieOk d := fun d h => by
    simp at h
    rcases h with rfl | rfl
    · exact ha.ok
    · exact hb.ok
  have hw2 := waysOk_take [a, b] hd 2 (by simp)
  have hw1 := waysOk_take [a, b] hd 1 (by simp)
  have e2 : [a, b].take 2 = [a, b] := rfl
  have e1 : [a, b].take 1 = [a] := rfl
  rw [e2] at hw2
  rw [e1] at hw1
  have hf : waysF [a, b] = conv (waysF [a]) b := rfl
  have hf1 : waysF [a] = conv one0 a := rfl
  have hA := ha.ok.2 _ (head_mem ha.ne)
  have hB := hb.ok.2 _ (head_mem hb.ne)
  have la := ha.ok.1
  have lb := hb.ok.1
  have na := ha.ne
  have nb := hb.ne
  have one_ne : ∀ z, one0 z ≠ 0 → z = 0 := fun z h => by unfold one0 at h; split at h <;> simp_all
  have split2 : ∀ x, waysF [a, b] x ≠ 0 → ∃ p ∈ a, ∃ q ∈ b, x = p + q := fun x hx => by
    rw [hf] at hx
    obtain ⟨q, hq, h2⟩ := cv_ne b 0 x hx
    rw [hf1] at h2
    obtain ⟨p, hp, h3⟩ := cv_ne a 0 (x - q) h2
    have := one_ne _ h3
    exact ⟨p, hp, q, hq, by omega⟩
  have mem_keys2 : ∀ x, x ∈ keys2 (waysF [a, b]) ↔ waysF [a, b] x ≠ 0 := fun x => by
    simp only [keys2, List.mem_filter, mem_evK, nz_iff]
    constructor
    · exact fun h => h.2
    · intro h
      have := hw2.2 x h
      exact ⟨by omega, h⟩
  refine ⟨⟨na, la, nb, lb⟩, by omega, ?_, fun x _ => by rw [mem_keys2, nz_iff], fun x hx => ?_, fun y => ?_, fun y hy => (mem_keys2 y).2 hy, ?_, ?_, ?_⟩
  · refine List.Pairwise.filter _ ?_
    rw [evK, List.pairwise_map]
    exact List.pairwise_lt_range.imp fun h => by omega
  · obtain ⟨p, hp, q, hq, e⟩ := split2 x ((mem_keys2 x).1 hx)
    have h1 := head_le ha hp
    have h2 := head_le hb hq
    have h3 := ha.ok.2 p hp
    have h4 := hb.ok.2 q hq
    omega
  · have := hw2.1 y
    have e : (8 : Nat) ^ 2 = 64 := rfl
    rw [e] at this
    omega
  · have z0 : ∀ z : Int, z < 0 → one0 z = 0 := fun z h => by unfold one0; rw [if_neg (by omega)]
    have z1 : ∀ z : Int, ((1 : Nat) : Int) ≤ z → one0 z = 0 := fun z h => by unfold one0; rw [if_neg (by omega)]
    have s1 := sumF_conv z0 z1 a 0 ha.ok.2
    have y0 : ∀ z : Int, z < 0 → waysF [a] z = 0 := fun z h => by
      by_cases e : waysF [a] z = 0
      · exact e
      · have := hw1.2 z e
        omega
    have y1 : ∀ z : Int, ((1 + 60 : Nat) : Int) ≤ z → waysF [a] z = 0 := fun z h => by
      by_cases e : waysF [a] z = 0
      · exact e
      · have := hw1.2 z e
        omega
    have s2 := sumF_conv y0 y1 b 0 hb.ok.2
    rw [keys2, sumF_filter]
    have s3 : sumF (waysF [a, b]) (evK 121) = b.length * sumF (waysF [a]) (evK 61) := s2
    have s4 : sumF (waysF [a]) (evK 61) = a.length * sumF one0 (evK 1) := s1
    have s5 : sumF one0 (evK 1) = 1 := by decide
    rw [s3, s4, s5, Int.mul_one, Int.mul_comm]
  · rw [hf]
    refine cv_pos (fun y => (hw1.1 y).1) b 0 _ (b.headD 0) (head_mem nb) ?_
    rw [hf1]
    refine cv_pos (fun y => by unfold one0; split <;> omega) a 0 _ (a.headD 0) (head_mem na) ?_
    unfold one0
    rw [if_pos (by omega)]
    omega
  · have h1 : (keys2 (waysF [a, b])).length ≤ (evK 121).length := List.length_filter_le _ _
    have h2 : (evK 121).length = 121 := by simp [evK]
    omega

end Go.Proofs.Ytkkholagmjcgiaa

namespace Go.Proofs.Ytkkholagmjcgiaa
open Go.RowKit Go.Maps

/-- Two slices, laid into a slice of slices. -/
theorem RDice.two {w : World} {B : Nat} {A1 A2 : Option Addr} {a b : List Int} {c1 c2 : Nat} (h1 : RInts w B A1 a) (h2 : RInts w B A2 b) (hc1 : a.length ≤ c1) (hc2 : b.length ≤ c2) (hB : B ≤ w.heap.size) :
    RDice (w.alloc (Obj.cells #[.slice A1 a.length c1, .slice A2 b.length c2] 36)) (w.heap.size + 1) (some ⟨w.heap.size, 0, none⟩) [a, b] := by
  have hx := Box.new w 36 #[.slice A1 a.length c1, .slice A2 b.length c2]
  have hk : ∀ g o, g < B → (w.alloc (Obj.cells #[.slice A1 a.length c1, .slice A2 b.length c2] 36)).cell? ⟨g, o, none⟩ = w.cell? ⟨g, o, none⟩ := fun g o hg => World.cell?_of_block (Below.heap_alloc w _ g (by omega))
  refine ⟨[.slice A1 a.length c1, .slice A2 b.length c2], rfl, fun j u hu => ⟨w.heap.size, 0, rfl, by omega, ?_⟩, fun i v d hv hd => ?_⟩
  · rw [Nat.zero_add, hx.cell j]
    simpa using hu
  · match i, hv, hd with
    | 0, hv, hd =>
      simp at hv hd
      subst hv
      subst hd
      exact ⟨A1, c1, rfl, hc1, (h1.keep hk).more (by omega)⟩
    | 1, hv, hd =>
      simp at hv hd
      subst hv
      subst hd
      exact ⟨A2, c2, rfl, hc2, (h2.keep hk).more (by omega)⟩
    | k + 2, hv, hd => simp at hv

theorem areTwo {a b : List Int} (ha : IsDie a) (hb : IsDie b) : AreDice [a, b] :=
  ⟨by simp, by simp, fun d h => by
    simp at h
    rcases h with rfl | rfl
    · exact ha
    · exact hb⟩

set_option maxRecDepth 100000 in
set_option maxHeartbeats 2000000 in
theorem Twins_fresh (A1 A2 : Option Addr) (a b : List Int) (c1 c2 : Nat) (w : World) (h1 : RInts w w.heap.size A1 a) (h2 : RInts w w.heap.size A2 b) (hc1 : a.length ≤ c1) (hc2 : b.length ≤ c2) (ha : IsDie a) (hb : IsDie b) :
    Calls Try.prog 34 #[.slice A1 a.length c1, .slice A2 b.length c2] w fun e w' => ∃ fv, e = .returned (.tuple #[fv, .int .i64 0]) ∧ OutOk (fun i => i < w.heap.size) w' fv (twinsL a b) ∧ Below w.heap.size w w' := by
  have H1 := Lib.hid h1
  have H2 := Lib.hid h2
  have HIN := Lib.hid (twinIn ha hb)
  have HD := Lib.hid (areTwo ha hb)
  have HZ := Lib.hid (checkL_zero HD.out)
  have HL := Lib.hid (show twinsL a b = pairsL a.length b.length (a.headD 0) (b.headD 0) (waysF [a, b]) (keys2 (waysF [a, b])) from rfl)
  obtain ⟨ba, oa, xa, hA1, hba, hxa, hca0⟩ := h1.at_ (k := 0) ha.ne
  obtain ⟨bb, ob, xb, hA2, hbb, hxb, hcb0⟩ := h2.at_ (k := 0) hb.ne
  have hca : w.cell? ⟨ba, oa, none⟩ = some (.int .i64 xa) := hca0
  have hcb : w.cell? ⟨bb, ob, none⟩ = some (.int .i64 xb) := hcb0
  subst hA1
  subst hA2
  have eA : a.headD 0 = xa := by have := head_at ha.ne; rw [hxa] at this; injection this with e; exact e.symm
  have eB : b.headD 0 = xb := by have := head_at hb.ne; rw [hxb] at this; injection this with e; exact e.symm
  rw [eA, eB] at HIN HL
  have la : (0 : Int) < (a.length : Int) := by have := ha.ne; omega
  have lb : (0 : Int) < (b.length : Int) := by have := hb.ne; omega
  clear h1 h2 ha hb hxa hxb eA eB hca0 hcb0
  go_enter Try.func34, Try.ntmps34
  go_wp2_with fail
  refine (check_any (some ⟨w.heap.size, 0, none⟩) [a, b] 2 _ _ (RDice.two H1.out H2.out hc1 hc2 (Nat.le_refl _)) (by simp) (fun d h => by have := (HD.out.die d h).ok.1; omega)).mono ?_
  rintro e w' ⟨rfl, n, rfl⟩
  rw [HZ.out]
  obtain ⟨w1, hw1⟩ : ∃ w1, (w.alloc (Obj.cells #[.slice (some ⟨ba, oa, none⟩) a.length c1, .slice (some ⟨bb, ob, none⟩) b.length c2] 36)).drewN n = w1 := ⟨_, rfl⟩
  have hB1 : Below w.heap.size w w1 := by
    rw [← hw1]
    have := (Below.refl w.heap.size w).alloc (Nat.le_refl _) (Obj.cells #[.slice (some ⟨ba, oa, none⟩) a.length c1, .slice (some ⟨bb, ob, none⟩) b.length c2] 36)
    exact ⟨this.os, this.tape, this.output, this.size, this.block⟩
  rw [hw1]
  have hs1 := hB1.size
  have hca1 := (hB1.cell (p := ⟨ba, oa, none⟩) hba).trans hca
  have hcb1 := (hB1.cell (p := ⟨bb, ob, none⟩) hbb).trans hcb
  have R1 := Lib.hid ((H1.out.below hB1).more hs1)
  have R2 := Lib.hid ((H2.out.below hB1).more hs1)
  clear hw1 hca hcb
  go_wp2_with fail
  have RD := Lib.hid (RDice.two (w := w1.drew) R1.out R2.out hc1 hc2 (Nat.le_refl _))
  have HOK := Lib.hid (fun d h => (HD.out.die d h).ok)
  have HA0 : ∀ o : Obj, (w1.drew.alloc o).cell? ⟨ba, oa, none⟩ = some (.int .i64 xa) ∧ (w1.drew.alloc o).cell? ⟨bb, ob, none⟩ = some (.int .i64 xb) := fun o =>
    ⟨(World.cell?_of_block (Below.heap_alloc w1.drew o ba (Nat.lt_of_lt_of_le hba hs1))).trans hca1, (World.cell?_of_block (Below.heap_alloc w1.drew o bb (Nat.lt_of_lt_of_le hbb hs1))).trans hcb1⟩
  have HA := Lib.hid HA0
  clear HA0
  have ltA : ba < w1.heap.size := Nat.lt_of_lt_of_le hba hs1
  have ltB : bb < w1.heap.size := Nat.lt_of_lt_of_le hbb hs1
  have la2 : 0 < a.length := by omega
  have lb2 : 0 < b.length := by omega
  have la3 : (0 : Int) < (a.length : Int) := by omega
  have lb3 : (0 : Int) < (b.length : Int) := by omega
  go_region_held3 (fun w' => w'.cell? ⟨ba, oa, none⟩ = some (.int .i64 xa) ∧ w'.cell? ⟨bb, ob, none⟩ = some (.int .i64 xb))
    (first
      | exact ⟨hca1, hcb1⟩
      | exact HA.out _
      | exact k2
      | exact k3)
    (first
      | (go_at_call 58; refine (waysOf_any (some ⟨w1.heap.size, 0, none⟩) [a, b] 2 _ (RD.out.more (by simp)) (by simp) HOK.out).mono ?_; rintro e w2 ⟨M, rfl, hMb, hm2, hB2⟩; have k2 : w2.cell? ⟨ba, oa, none⟩ = some (.int .i64 xa) ∧ w2.cell? ⟨bb, ob, none⟩ = some (.int .i64 xb) := ⟨(hB2.cell (p := ⟨ba, oa, none⟩) (by simp; omega)).trans (HA.out _).1, (hB2.cell (p := ⟨bb, ob, none⟩) (by simp; omega)).trans (HA.out _).2⟩)
      | (go_at_call 72; refine (pairs_fresh M 262144 a.length b.length xa xb (waysF [a, b]) (nz (waysF [a, b])) (keys2 (waysF [a, b])) _ hm2 (by omega) HIN.out).mono ?_; rintro e w3 ⟨fv, rfl, ho, hg3⟩; have hMs : w1.heap.size + 1 ≤ M := (by simpa using hMb); have k3 : w3.cell? ⟨ba, oa, none⟩ = some (.int .i64 xa) ∧ w3.cell? ⟨bb, ob, none⟩ = some (.int .i64 xb) := ⟨(World.cell?_of_block (hg3.block ba (by have := hB2.size; simp at this; omega) (fun e => by injection e with e; omega))).trans k2.1, (World.cell?_of_block (hg3.block bb (by have := hB2.size; simp at this; omega) (fun e => by injection e with e; omega))).trans k2.2⟩))
  go_wp2_with fail
  go_ret2
  have hB12 : Below w.heap.size w w2 := (hB1.drew.alloc hs1 _).trans (hB2.mono (by simp; omega))
  exact ⟨fv, rfl, by rw [HL.out]; exact ho.fewer (fun i hi => Nat.lt_of_lt_of_le hi hB12.size), hB12.grown hg3 hB12.size (fun j hj => by cases hj; omega)⟩

theorem Twins_ok (A1 A2 : Option Addr) (a b : List Int) (c1 c2 : Nat) (w : World) (h1 : RInts w w.heap.size A1 a) (h2 : RInts w w.heap.size A2 b) (hc1 : a.length ≤ c1) (hc2 : b.length ≤ c2) (ha : IsDie a) (hb : IsDie b) :
    Calls Try.prog 34 #[.slice A1 a.length c1, .slice A2 b.length c2] w fun e w' => ∃ fv, e = .returned (.tuple #[fv, .int .i64 0]) ∧ OutOk (fun _ => False) w' fv (twinsL a b) ∧ Below w.heap.size w w' :=
  (Twins_fresh A1 A2 a b c1 c2 w h1 h2 hc1 hc2 ha hb).mono fun _ _ ⟨fv, e1, e2, e3⟩ => ⟨fv, e1, e2.any, e3⟩

end Go.Proofs.Ytkkholagmjcgiaa
