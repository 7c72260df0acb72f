/- The orders that the reference lists, and what it counts along each: they are the numbers that Orders returns. Whether dice share a side, said in two ways. · The function orders of the reference: it appends, for each order of the indices, what rising counts. -/
import Derived.Test.YtkkholagmjcgiaaRising
import Derived.Test.YtkkholagmjcgiaaRApart
namespace Go.Proofs.Ytkkholagmjcgiaa
open Go.RowKit

/-- The orders of n indices that begin with a list, as the reference lists them. -/
def ordR (n : Nat) : Nat → List Int → List (List Int)
  | 0, l => [l]
  | g + 1, l => (List.range n).flatMap fun (i : Nat) => if l.contains (i : Int) then [] else ordR n g (l ++ [(i : Int)])
theorem ordR_orders : ∀ n, 1 ≤ n → n ≤ 4 → ordR n n [] = ordersL n
  | 1, _, _ => by decide +kernel
  | 2, _, _ => by decide +kernel
  | 3, _, _ => by decide +kernel
  | 4, _, _ => by decide +kernel
theorem orders_perm : ∀ n, 1 ≤ n → n ≤ 4 → ∀ o ∈ ordersL n, (o.map Int.toNat).Perm (List.range n)
  | 1, _, _ => by decide +kernel
  | 2, _, _ => by decide +kernel
  | 3, _, _ => by decide +kernel
  | 4, _, _ => by decide +kernel

/-- A choice with one more place set. -/
def updE (e : Nat → Int) (i : Nat) (x : Int) : Nat → Int := fun k => if k = i then x else e k
/-- The sum over all choices of sides for the places of a list. -/
def sumP (F : (Nat → Int) → Int) : List (Nat × List Int) → (Nat → Int) → Int
  | [], e => F e
  | (i, d) :: ps, e => (d.map fun x => sumP F ps (updE e i x)).sum
theorem updE_swap (e : Nat → Int) {i j : Nat} (h : i ≠ j) (x y : Int) : updE (updE e i x) j y = updE (updE e j y) i x := by
  funext k
  unfold updE
  by_cases h1 : k = j
  · subst h1
    rw [if_pos rfl, if_neg (fun e => h e.symm), if_pos rfl]
  · rw [if_neg h1, if_neg h1]
theorem sums_zip (f g : Int → Int) : ∀ b : List Int, (b.map fun y => f y + g y).sum = (b.map f).sum + (b.map g).sum
  | [] => rfl
  | y :: b => by
    simp only [List.map_cons, List.sum_cons, sums_zip f g b]
    omega
theorem sums_zeros : ∀ b : List Int, (b.map fun _ => (0 : Int)).sum = 0
  | [] => rfl
  | _ :: b => by rw [List.map_cons, List.sum_cons, sums_zeros b]; rfl
theorem sums_swap (f : Int → Int → Int) (b : List Int) : ∀ a : List Int, (a.map fun x => (b.map fun y => f x y).sum).sum = (b.map fun y => (a.map fun x => f x y).sum).sum
  | [] => by
    rw [List.map_nil, List.sum_nil]
    exact (sums_zeros b).symm
  | x :: a => by
    simp only [List.map_cons, List.sum_cons]
    rw [sums_swap f b a, sums_zip]
theorem sumP_perm (F : (Nat → Int) → Int) {ps ps' : List (Nat × List Int)} (h : ps.Perm ps') : (ps.map Prod.fst).Nodup → ∀ e, sumP F ps e = sumP F ps' e := by
  induction h with
  | nil => intro _ _; rfl
  | cons a h ih =>
    intro hn e
    rw [List.map_cons, List.nodup_cons] at hn
    show (a.2.map fun x => sumP F _ (updE e a.1 x)).sum = (a.2.map fun x => sumP F _ (updE e a.1 x)).sum
    congr 1
    exact List.map_congr_left fun x _ => ih hn.2 _
  | swap a b l =>
    intro hn e
    rw [List.map_cons, List.map_cons, List.nodup_cons] at hn
    have hne : b.1 ≠ a.1 := fun h => hn.1 (by rw [h]; exact List.mem_cons_self ..)
    show (b.2.map fun y => (a.2.map fun x => sumP F l (updE (updE e b.1 y) a.1 x)).sum).sum = (a.2.map fun x => (b.2.map fun y => sumP F l (updE (updE e a.1 x) b.1 y)).sum).sum
    rw [sums_swap]
    congr 1
    refine List.map_congr_left fun x _ => ?_
    congr 1
    exact List.map_congr_left fun y _ => by rw [updE_swap e hne]
  | trans h1 _ ih1 ih2 =>
    intro hn e
    rw [ih1 hn e]
    exact ih2 ((h1.map _).nodup_iff.1 hn) e
theorem sumP_congr {F G : (Nat → Int) → Int} : ∀ (ps : List (Nat × List Int)) (e : Nat → Int), (ps.map Prod.fst).Nodup →
    (∀ e', (∀ k, k ∉ ps.map Prod.fst → e' k = e k) → (∀ p ∈ ps, e' p.1 ∈ p.2) → F e' = G e') → sumP F ps e = sumP G ps e
  | [], e, _, h => h e (fun _ _ => rfl) (fun p hp => by cases hp)
  | (i, d) :: ps, e, hn, h => by
    rw [List.map_cons, List.nodup_cons] at hn
    unfold sumP
    congr 1
    refine List.map_congr_left fun x hx => sumP_congr ps _ hn.2 fun e' h1 h2 => h e' (fun k hk => ?_) (fun p hp => ?_)
    · rw [List.map_cons, List.mem_cons, not_or] at hk
      rw [h1 k hk.2, updE, if_neg hk.1]
    · rcases List.mem_cons.1 hp with rfl | hp
      · have e1 := h1 i hn.1
        rw [updE, if_pos rfl] at e1
        show e' i ∈ d
        rw [e1]
        exact hx
      · exact h2 p hp
theorem sumP_zero : ∀ (ps : List (Nat × List Int)) (e : Nat → Int), sumP (fun _ => 0) ps e = 0
  | [], _ => rfl
  | (i, d) :: ps, e => by
    unfold sumP
    rw [List.map_congr_left (g := fun _ => (0 : Int)) fun x _ => sumP_zero ps _]
    exact sums_zeros d

/-- Do the sides of a choice rise along a list, the first one above the last? -/
def chainB (e : Nat → Int) (last : Int) : List Nat → Bool
  | [] => true
  | i :: s => decide (last < e i) && chainB e (e i) s
def rgS (ds : List (List Int)) : List Nat → Int → Int
  | [], _ => 1
  | i :: s, last => ((ds.getD i []).map fun x => if last < x then rgS ds s x else 0).sum
theorem rgL_S (ds : List (List Int)) (l : List Int) : ∀ (g p : Nat) (last : Int), g + p = l.length → rgL ds l g p last = rgS ds ((l.drop p).map Int.toNat) last
  | 0, p, last, h => by
    rw [List.drop_of_length_le (by omega)]
    rfl
  | g + 1, p, last, h => by
    have hp : p < l.length := by omega
    rw [List.drop_eq_getElem_cons hp]
    have e : l.getD p 0 = l[p] := by simp [List.getD, hp]
    unfold rgL
    rw [List.map_cons, rgS, e]
    congr 1
    refine List.map_congr_left fun x _ => ?_
    rw [rgL_S ds l g (p + 1) x (by omega)]
theorem rgS_sum (ds : List (List Int)) : ∀ (s : List Nat) (last : Int) (e : Nat → Int), s.Nodup → rgS ds s last = sumP (fun e => if chainB e last s = true then 1 else 0) (s.map fun i => (i, ds.getD i [])) e
  | [], last, e, _ => by simp [rgS, sumP, chainB]
  | i :: s, last, e, hn => by
    rw [List.nodup_cons] at hn
    have hkeys : (s.map fun i => (i, ds.getD i [])).map Prod.fst = s := by
      rw [List.map_map]
      exact List.map_id _
    rw [rgS, List.map_cons, sumP]
    congr 1
    refine List.map_congr_left fun x _ => ?_
    have hi : ∀ e' : Nat → Int, (∀ k, k ∉ (s.map fun i => (i, ds.getD i [])).map Prod.fst → e' k = updE e i x k) → e' i = x := fun e' h => by
      have := h i (by rw [hkeys]; exact hn.1)
      rw [this, updE, if_pos rfl]
    by_cases hlt : last < x
    · rw [if_pos hlt, rgS_sum ds s x (updE e i x) hn.2]
      refine sumP_congr _ _ (by rw [hkeys]; exact hn.2) fun e' h1 _ => ?_
      rw [chainB, hi e' h1, decide_eq_true hlt, Bool.true_and]
    · rw [if_neg hlt]
      refine (sumP_zero (s.map fun i => (i, ds.getD i [])) (updE e i x)).symm.trans (sumP_congr _ _ (by rw [hkeys]; exact hn.2) fun e' h1 _ => ?_)
      rw [chainB, hi e' h1, decide_eq_false hlt, Bool.false_and]
      rfl
theorem roll_sum (G : List Int → Bool) : ∀ (ds : List (List Int)) (p : List Int) (e : Nat → Int), (List.range p.length).map e = p →
    (((rollL ds p).countP G : Nat) : Int) = sumP (fun e => if G ((List.range (p.length + ds.length)).map e) = true then 1 else 0) ((List.range ds.length).map fun k => (p.length + k, ds.getD k [])) e
  | [], p, e, h => by
    simp only [rollL, List.length_nil, List.range_zero, List.map_nil, sumP, Nat.add_zero, h, List.countP_cons, List.countP_nil]
    cases G p <;> rfl
  | d :: ds, p, e, h => by
    have hr : ((List.range (d :: ds).length).map fun k => (p.length + k, (d :: ds).getD k [])) = (p.length, d) :: (List.range ds.length).map fun k => (p.length + 1 + k, ds.getD k []) := by
      rw [List.length_cons, List.range_succ_eq_map, List.map_cons, List.map_map]
      congr 1
      refine List.map_congr_left fun k _ => ?_
      simp only [Function.comp_apply, List.getD_cons_succ]
      congr 1
      omega
    rw [hr, sumP]
    have key : ∀ d' : List Int, (((d'.flatMap fun s => rollL ds (p ++ [s])).countP G : Nat) : Int) = (d'.map fun x => (((rollL ds (p ++ [x])).countP G : Nat) : Int)).sum := fun d' => by
      induction d' with
      | nil => rfl
      | cons y d' ih =>
        rw [List.flatMap_cons, List.countP_append, List.map_cons, List.sum_cons, ← ih]
        omega
    show ((((d.flatMap fun s => rollL ds (p ++ [s])).countP G : Nat) : Int)) = _
    rw [key]
    congr 1
    refine List.map_congr_left fun x _ => ?_
    have h2 := roll_sum G ds (p ++ [x]) (updE e p.length x) (by
      rw [List.length_append, List.length_singleton, List.range_succ, List.map_append]
      congr 1
      · rw [← List.map_congr_left (f := e) (g := updE e p.length x) fun k hk => ?_]
        · exact h
        · have := List.mem_range.1 hk
          rw [updE, if_neg (by omega)]
      · rw [List.map_singleton, updE, if_pos rfl])
    rw [h2]
    simp only [List.length_append, List.length_cons, List.length_nil, Nat.zero_add]
    have e1 : p.length + 1 + ds.length = p.length + (ds.length + 1) := by omega
    rw [e1]
theorem chain_rises (e : Nat → Int) (n : Nat) : ∀ (o : List Int) (last : Int), (∀ x ∈ o, x.toNat < n) → (∀ x, o.head? = some x → last < e x.toNat) →
    chainB e last (o.map Int.toNat) = (List.range (o.length - 1)).all fun i => decide (((List.range n).map e).getD (o.getD i 0).toNat 0 < ((List.range n).map e).getD (o.getD (i + 1) 0).toNat 0)
  | [], _, _, _ => rfl
  | [x], last, _, h => by
    simp [chainB, h x rfl]
  | x :: y :: o, last, hn, h => by
    have hx := hn x (by simp)
    have hy := hn y (by simp)
    have hg : ∀ z : Int, z.toNat < n → ((List.range n).map e).getD z.toNat 0 = e z.toNat := fun z hz => by simp [List.getD, hz]
    have ih := chain_rises e n (y :: o) (e x.toNat) (fun z hz => hn z (List.mem_cons_of_mem _ hz))
    have e2 : (x :: y :: o).length - 1 = ((y :: o).length - 1) + 1 := by simp
    rw [List.map_cons, chainB, decide_eq_true (h x rfl), Bool.true_and, e2, List.range_succ_eq_map, List.all_cons, List.all_map]
    have e3 : ((x :: y :: o).getD 0 0) = x := rfl
    have e4 : ((x :: y :: o).getD (0 + 1) 0) = y := rfl
    rw [e3, e4, hg x hx, hg y hy]
    by_cases hlt : e x.toNat < e y.toNat
    · rw [ih (fun z hz => by
        have : y = z := by simpa using hz
        rw [← this]; exact hlt), decide_eq_true hlt, Bool.true_and]
      rfl
    · rw [decide_eq_false hlt, Bool.false_and, List.map_cons, chainB, decide_eq_false hlt, Bool.false_and]
/-- What the reference counts along an order is the number of the results that rise along it. -/
theorem rg_nums {ds : List (List Int)} (h0 : ∀ d ∈ ds, ∀ x ∈ d, 0 ≤ x) (h1 : 1 ≤ ds.length) (h4 : ds.length ≤ 4) {o : List Int} (ho : o ∈ ordersL ds.length) :
    rgL ds o o.length 0 (-1) = (((rollL ds []).countP fun r => risesL r o : Nat) : Int) := by
  have hp := orders_perm ds.length h1 h4 o ho
  have hnd : (o.map Int.toNat).Nodup := hp.nodup_iff.2 List.nodup_range
  have hmem : ∀ x ∈ o, x.toNat < ds.length := fun x hx => List.mem_range.1 (hp.mem_iff.1 (List.mem_map_of_mem (f := Int.toNat) hx))
  have hkeys : ∀ s : List Nat, (s.map fun i => (i, ds.getD i [])).map Prod.fst = s := fun s => by
    rw [List.map_map]
    exact List.map_id _
  rw [rgL_S ds o o.length 0 (-1) rfl, List.drop_zero, rgS_sum ds _ (-1) (fun _ => 0) hnd, roll_sum (fun r => risesL r o) ds [] (fun _ => 0) rfl,
    sumP_perm _ (hp.map fun i => (i, ds.getD i [])) (by rw [hkeys]; exact hnd)]
  have e1 : ((List.range ds.length).map fun k => (([] : List Int).length + k, ds.getD k [])) = (List.range ds.length).map fun i => (i, ds.getD i []) := by
    refine List.map_congr_left fun k _ => ?_
    rw [List.length_nil, Nat.zero_add]
  rw [e1]
  refine sumP_congr _ _ (by rw [hkeys]; exact List.nodup_range) fun e' _ h2 => ?_
  have e2 := chain_rises e' ds.length o (-1) hmem fun x hx => by
    have hlt := hmem x (List.mem_of_head? hx)
    have h3 := h2 (x.toNat, ds.getD x.toNat []) (List.mem_map_of_mem (f := fun i => (i, ds.getD i [])) (List.mem_range.2 hlt))
    have e5 : ds.getD x.toNat [] = ds[x.toNat] := by simp [List.getD, hlt]
    rw [e5] at h3
    have := h0 _ (List.getElem_mem hlt) _ h3
    show -1 < e' x.toNat
    have h6 : 0 ≤ e' x.toNat := this
    omega
  rw [e2, List.length_nil, Nat.zero_add]
  rfl
/-- The reference's numbers are those of Orders. -/
theorem ordR_nums {ds : List (List Int)} (h0 : ∀ d ∈ ds, ∀ x ∈ d, 0 ≤ x) (h1 : 1 ≤ ds.length) (h4 : ds.length ≤ 4) :
    (ordR ds.length ds.length []).map (fun o => rgL ds o o.length 0 (-1)) = numsL ds (ordersL ds.length) := by
  rw [ordR_orders _ h1 h4]
  unfold numsL
  exact List.map_congr_left fun o ho => rg_nums h0 h1 h4 ho

theorem common_true {ds : List (List Int)} {i k : Nat} {x : Int} (hk : k < i) (hi : i < ds.length) (hx : x ∈ ds.getD i []) (hy : x ∈ ds.getD k []) : commonL ds = true := by
  unfold commonL commonTo
  refine List.any_eq_true.2 ⟨i, List.mem_range.2 hi, List.any_eq_true.2 ⟨x, hx, ?_⟩⟩
  unfold seen
  have hkl : k < ds.length := by omega
  have e : ds.getD k [] = ds[k] := by simp [List.getD, hkl]
  rw [e] at hy
  refine List.any_eq_true.2 ⟨ds[k], ?_, by simpa using hy⟩
  rw [List.mem_take_iff_getElem]
  exact ⟨k, by omega, rfl⟩
theorem apB_common (ds : List (List Int)) : apB ds = !commonL ds := by
  cases h : commonL ds with
  | false =>
    refine apB_true fun i k hki hi => same_none fun i' j' hij hj x hx y hy exy => ?_
    have hj2 : j' < 2 := hj
    obtain rfl : j' = 1 := by omega
    obtain rfl : i' = 0 := by omega
    subst exy
    have := common_true hki hi (show x ∈ ds.getD i [] from hx) (show x ∈ ds.getD k [] from hy)
    rw [h] at this
    cases this
  | true =>
    unfold commonL commonTo at h
    obtain ⟨i, hi, h⟩ := List.any_eq_true.1 h
    have hi := List.mem_range.1 hi
    obtain ⟨x, hx, h⟩ := List.any_eq_true.1 h
    unfold seen at h
    obtain ⟨d, hd, h⟩ := List.any_eq_true.1 h
    rw [List.mem_take_iff_getElem] at hd
    obtain ⟨k, hk, rfl⟩ := hd
    have hkl : k < ds.length := by omega
    have e : ds.getD k [] = ds[k] := by simp [List.getD, hkl]
    have hy : x ∈ ds.getD k [] := by
      rw [e]
      simpa using h
    refine apB_false (i := i) (k := k) (by omega) hi fun h0 => ?_
    unfold sameL at h0
    have h1 := List.countP_eq_zero.1 h0 [x, x] (by
      simp only [rollL, List.mem_flatMap, List.nil_append]
      exact ⟨x, hx, x, hy, by simp⟩)
    simp at h1
/-- Dice that have been turned apart, five at most. -/
theorem apartL_dice5 {ds : List (List Int)} (hd : AreDice ds) (h5 : ds.length ≤ 5) (h11 : ∀ d ∈ ds, ∀ x ∈ d, 0 ≤ x ∧ x ≤ 11) : AreDice (apartL ds) := by
  refine ⟨by rw [apartL_len]; exact hd.pos, by rw [apartL_len]; exact hd.len, fun d h => ?_⟩
  obtain ⟨j, hj, rfl⟩ := List.mem_map.1 h
  have hj := List.mem_range.1 hj
  have e : ds.getD j [] = ds[j] := by simp [List.getD, hj]
  rw [e]
  have hi := hd.die _ (List.getElem_mem hj)
  have h12 := h11 _ (List.getElem_mem hj)
  refine ⟨⟨by rw [List.length_map]; exact hi.ok.1, fun x hx => ?_⟩, by rw [List.length_map]; exact hi.ne, ?_⟩
  · obtain ⟨s, hs, rfl⟩ := List.mem_map.1 hx
    have := h12 s hs
    omega
  · have := hi.ne
    unfold sortB
    rw [List.length_map]
    exact sortTo_map _ (fun x y h => by omega) _ _ (by omega) hi.sorted

end Go.Proofs.Ytkkholagmjcgiaa

namespace Go.Proofs.Ytkkholagmjcgiaa
open Go.RowKit

theorem Try.info2i : (Try.prog.info? 2).map (fun i => (i.zero, i.size, i.bytes)) = some (some (.int .i64 0), 1, 8) := by kernel_rfl
/-- The append of one number to a row of int64 of one's own. -/
theorem wpList_app64 (w : World) {ops : Array Oper} {rest : List Oper} {o : Oper} {a : Act} {Q : Exit → Act → World → Prop} (hg : o.guard = none) (s x : Operand)
    (hop : o.op = Op.call { callee := Callee.builtin Builtin.append, args := #[s, x], argTypes := #[42, 42] }) {B : Nat} {v : Value} {zs : List Int} (h : I64Row w B v zs) (hs : a.eval s = v)
    (ad : Nat) (c : Nat) (y : Int) (hx : a.eval x = .slice (some ⟨ad, 0, none⟩) 1 c) (hc : w.cell? ⟨ad, 0, none⟩ = some (.int .i64 y)) (hl : zs.length ≤ 1000000) (hB : B ≤ w.heap.size)
    (hK : ∀ (v' : Value) (w' : World), I64Row w' B v' (zs ++ [y]) → w.grownBy w' v.ownBlock → (v'.ownBlock = v.ownBlock ∨ v'.ownBlock = some w.heap.size) → wpList Try.prog ops Q rest (a.put o.dst v') w') :
    wpList Try.prog ops Q (o :: rest) a w := by
  obtain ⟨i0, hi, hz0, hz1, hz2⟩ := info_parts Try.info2i
  have hmap : zs.map (Value.int .i64) ++ [Value.int .i64 y] = (zs ++ [y]).map (Value.int .i64) := by simp
  have hnew : ∀ (j : Nat) (u : Value), [Value.int .i64 y][j]? = some u → w.cell? ((⟨ad, 0, none⟩ : Addr).add j) = some u := fun j u hu => by
    cases j with
    | zero => simp at hu; subst hu; simpa [Addr.add] using hc
    | succ j => simp at hu
  have hb8 := len8 (show zs.length ≤ 1000000 from hl)
  refine wpList_append_own_at w hg s x 42 hop B 2 i0 (.int .i64 0) 1 8 Try.underlying42 hi hz0 hz1 hz2 rfl (by omega) v zs.length (zs.map (Value.int .i64)) hs h ⟨ad, 0, none⟩ 1 c [.int .i64 y] hx rfl hnew (by simp [Value.oneCell']) (by unfold maxLen; omega) (by omega) hB fun v' w' h1 h2 _ h4 => ?_
  rw [hmap] at h1
  refine hK v' w' ?_ h2 h4
  unfold I64Row
  rw [List.length_append, List.length_singleton]
  exact h1

/-- The lists that the reference has appended when it has tried some indices. -/
def ordTo (n g : Nat) (l : List Int) (k : Nat) : List (List Int) := (List.range k).flatMap fun (i : Nat) => if l.contains (i : Int) then [] else ordR n g (l ++ [(i : Int)])
theorem ordTo_succ (n g : Nat) (l : List Int) (k : Nat) : ordTo n g l (k + 1) = ordTo n g l k ++ if l.contains (k : Int) then [] else ordR n g (l ++ [(k : Int)]) := by
  simp [ordTo, List.range_succ]
theorem ordR_len (n : Nat) : ∀ (g : Nat) (l : List Int), (ordR n g l).length ≤ n ^ g
  | 0, _ => by simp [ordR]
  | g + 1, l => by
    have key : ∀ k, (ordTo n g l k).length ≤ k * n ^ g := fun k => by
      induction k with
      | zero => simp [ordTo]
      | succ k ih =>
        have h1 := ordR_len n g (l ++ [(k : Int)])
        rw [ordTo_succ, List.length_append, Nat.succ_mul]
        split
        · simp
          omega
        · omega
    have h := key n
    have e : ordR n (g + 1) l = ordTo n g l n := rfl
    rw [e, Nat.pow_succ, Nat.mul_comm]
    exact h
theorem ordTo_len (n g : Nat) (l : List Int) : ∀ k, (ordTo n g l k).length ≤ k * n ^ g
  | 0 => by simp [ordTo]
  | k + 1 => by
    have h1 := ordR_len n g (l ++ [(k : Int)])
    have h2 := ordTo_len n g l k
    rw [ordTo_succ, List.length_append, Nat.succ_mul]
    split
    · simp
      omega
    · omega

/-- What a call of orders leaves: more numbers, in the row that was given or in a new one; nothing else has turned. -/
def GotO (w : World) (B : Nat) (vo : Value) (zs : List Int) (e : Ending) (w' : World) : Prop :=
  ∃ v', e = .returned v' ∧ I64Row w' B v' zs ∧ Turn (fun b => vo.ownBlock = some b) w w' ∧ (v'.ownBlock = vo.ownBlock ∨ ∃ b, v'.ownBlock = some b ∧ w.heap.size ≤ b)

/-- What is kept through the loop over the indices. -/
structure OSt (w0 w : World) (B : Nat) (vo v : Value) (zs : List Int) : Prop where
  row : I64Row w B v zs
  turn : Turn (fun b => vo.ownBlock = some b) w0 w
  blk : v.ownBlock = vo.ownBlock ∨ ∃ b, v.ownBlock = some b ∧ w0.heap.size ≤ b

set_option maxRecDepth 100000 in
set_option maxHeartbeats 4000000 in
theorem ROrders_any (A : Option Addr) (ds : List (List Int)) (c B : Nat) (h8 : ∀ d ∈ ds, d.length ≤ 8) (h4 : ds.length ≤ 4) : ∀ (g : Nat) (l zs : List Int) (vl vo : Value) (w : World), g + l.length = ds.length → Inds l ds.length → OwnV w vl l → I64Row w B vo zs →
    (∀ b, vl.ownBlock = some b → vo.ownBlock ≠ some b) → RDice w B A ds → B ≤ w.heap.size → zs.length + ds.length ^ g ≤ 1000 →
    Calls Try.prog 78 #[.slice A ds.length c, vl, vo] w (GotO w B vo (zs ++ (ordR ds.length g l).map fun o => rgL ds o o.length 0 (-1)))
  | 0, l, zs, vl, vo, w, hg, hin, hvl, hvo, hne, hd, hB, hz => by
    obtain ⟨A2, c2, rfl, hc2, _, hrl⟩ := hvl.reads
    have HRS := Lib.hid (rising_any A A2 ds l c c2 w.heap.size h8 hin (by omega) (by omega) l.length 0 (-1) w rfl (hd.more hB) hrl)
    obtain ⟨R, hR⟩ : ∃ R, rgL ds l l.length 0 (-1) = R := ⟨_, rfl⟩
    have HVO := Lib.hid hvo
    have hlen : ((l.length : Int) == (ds.length : Int)) = true := by rw [beq_iff_eq]; omega
    have e : (ordR ds.length 0 l).map (fun o => rgL ds o o.length 0 (-1)) = [R] := by simp [ordR, hR]
    rw [e]
    rw [hR] at HRS
    have hzl : zs.length ≤ 1000 := by omega
    clear hd hrl hvl hvo hin h8 hR e hne hg hz hc2
    go_enter Try.func78, Try.ntmps78
    go_wp2_with fail
    refine HRS.out.mono ?_
    rintro e w' ⟨rfl, rfl⟩
    go_wp2_with (first
      | (at_builtin; (refine wpList_app64 _ rfl _ _ rfl (World.ownsRow.alloc HVO.out _) rfl w.heap.size 1 R rfl ((Box.new w 2 #[_]).cell 0) (by omega) (by simp; omega) ?_; intro v1 w1 ho1 hg1 hat1; have HO1 := Lib.hid ho1; have HG1 := Lib.hid hg1; have HAT1 := Lib.hid hat1; clear ho1 hg1 hat1)))
    go_ret
    refine ⟨_, rfl, HO1.out, ((Turn.refl _ w).alloc _).grown HG1.out (fun k hk => .inl hk), ?_⟩
    rcases HAT1.out with h | h
    · exact .inl h
    · exact .inr ⟨_, h, by simp⟩
  | g + 1, l, zs, vl, vo, w, hg, hin, hvl, hvo, hne, hd, hB, hz => by
    have HIH := Lib.hid (ROrders_any A ds c B h8 h4 g)
    have HD := Lib.hid hd
    have HIN := Lib.hid hin
    have HVL := Lib.hid hvl
    have HNE := Lib.hid hne
    have HZ := Lib.hid hz
    have hlen : ((l.length : Int) == (ds.length : Int)) = false := by rw [beq_eq_false_iff_ne]; omega
    have hll : l.length < ds.length := by omega
    have H0 := Lib.hid (show OSt w w B vo vo (zs ++ (ordTo ds.length g l 0).map fun o => rgL ds o o.length 0 (-1)) from ⟨by simpa [ordTo] using hvo, Turn.refl _ _, .inl rfl⟩)
    have HVOB := Lib.hid (fun b (hb : vo.ownBlock = some b) => (hvo.base b hb).1)
    obtain ⟨A2, c2, rfl, hc2, hc3, _⟩ := hvl.reads
    have HBB := Lib.hid hB
    clear hd hin hvl hne hz h8 hvo hB
    go_enter Try.func78, Try.ntmps78
    go_wp2_with fail
    go_loopg [2, 7] ds.length (fun gg o i wx => ∃ (k : Nat) (v : Value), k + gg = ds.length ∧ i = .int .i64 k ∧ v = o ∧ Hid (OSt w wx B vo v (zs ++ (ordTo ds.length g l k).map fun o => rgL ds o o.length 0 (-1))))
    case atStart => exact ⟨0, vo, by omega, rfl, rfl, H0⟩
    case round =>
      obtain ⟨k, v, hk, rfl, rfl, HS1⟩ := hrel
      have HS := HS1
      clear HS1
      cases gk with
      | zero =>
        obtain rfl : k = ds.length := by omega
        go_wp2_with fail
        go_ret
        exact ⟨_, rfl, HS.out.row, HS.out.turn, HS.out.blk⟩
      | succ gg =>
        have hkn : k < ds.length := by omega
        have hkn1 : (k : Int) < (ds.length : Int) := by omega
        have HVR := Lib.hid (show OwnV wr (.slice A2 l.length c2) l from HVL.out.same fun b hb => HS.out.turn.2 b (HVL.out.blk b hb).1 (HNE.out b hb))
        obtain ⟨A3, c3, e3, _, _, hrl⟩ := HVR.out.reads
        cases e3
        have HRL := Lib.hid hrl
        clear hrl
        go_wp2_with fail
        go_loopg [8, 9] l.length (fun gg u i wx => ∃ j : Nat, j + gg = l.length ∧ i = .int .i64 j ∧ u = .bool ((l.take j).contains (k : Int)) ∧ wr = wx)
        case atStart => exact ⟨0, by omega, rfl, by simp, rfl⟩
        case round =>
          obtain ⟨j, hj, rfl, rfl, rfl⟩ := hrel
          cases gk with
          | succ gj =>
            have hjl : j < l.length := by omega
            have hjl1 : (j : Int) < (l.length : Int) := by omega
            obtain ⟨b, o, x, hA, hb, hx, hcx⟩ := HRL.out.at_ (k := j) hjl
            subst hA
            have HT := Lib.hid (show (l.take (j + 1)).contains (k : Int) = ((l.take j).contains (k : Int) || (x == (k : Int))) by
              have e : ((k : Int) == x) = (x == (k : Int)) := by rw [Bool.eq_iff_iff, beq_iff_eq, beq_iff_eq]; exact eq_comm
              rw [take_snoc hx, List.contains_eq_any_beq, List.contains_eq_any_beq, List.any_append, List.any_cons, List.any_nil, Bool.or_false, e])
            clear hx
            cases hu : (l.take j).contains (k : Int) with
            | true =>
              have HU := Lib.hid hu
              clear hu
              go_wp2_with fail
              go_roundg gj
              case measure => omega
              case rel => exact ⟨j + 1, by omega, by go_num, by rw [HT.out, HU.out]; rfl, rfl⟩
            | false =>
              have HU := Lib.hid hu
              clear hu
              go_wp2_with fail
              go_roundg gj
              case measure => omega
              case rel => exact ⟨j + 1, by omega, by go_num, by rw [HT.out, HU.out]; rfl, rfl⟩
          | zero =>
            obtain rfl : j = l.length := by omega
            have hz1 : zs.length + ((ordTo ds.length g l k).map fun o => rgL ds o o.length 0 (-1)).length + ds.length ^ g ≤ 1000 := by
              have h1 := ordTo_len ds.length g l k
              have h2 := HZ.out
              have h3 : (k + 1) * ds.length ^ g ≤ ds.length * ds.length ^ g := Nat.mul_le_mul_right _ (by omega)
              rw [Nat.pow_succ, Nat.mul_comm] at h2
              rw [Nat.succ_mul] at h3
              rw [List.length_map]
              omega
            have HT := Lib.hid (ordTo_succ ds.length g l k)
            have HTK := Lib.hid (show (l.take l.length).contains (k : Int) = l.contains (k : Int) by rw [List.take_length])
            rw [HTK.out]
            cases hu : l.contains (k : Int) with
            | true =>
              rw [hu] at HT
              clear hu
              go_wp2_with fail
              go_roundg gg
              case measure => omega
              case rel =>
                refine ⟨k + 1, v, by omega, by go_num, rfl, ?_⟩
                rw [HT.out]
                simpa using HS
            | false =>
              have HI2 := Lib.hid (show Inds (l ++ [(k : Int)]) ds.length from fun x hx => (List.mem_append.1 hx).elim (HIN.out x) fun h => by
                rw [List.mem_singleton.1 h]
                omega)
              rw [hu, if_neg (by decide)] at HT
              have HZ1 := Lib.hid hz1
              clear hu hz1
              go_wp2_with (first
                | (at_builtin; (refine wpList_appV _ rfl _ _ rfl (OwnV.nil_ _) rfl A2 l.length l c2 wr.heap.size rfl rfl HRL.out (by simp; omega) ?_; intro v1 w1 ho1 hg1 hat1; have HO1 := Lib.hid ho1; have HG1 := Lib.hid hg1; have HAT1 := Lib.hid hat1; clear ho1 hg1 hat1))
                | (at_builtin; (refine wpList_app0 _ rfl _ _ rfl (World.ownsRow.alloc HO1.out _) rfl w1.heap.size 1 (k : Int) rfl ((Box.new w1 3 #[_]).cell 0) (by simp; omega) ?_; intro g2 k2 w2 ho2 hg2 hat2; have HO2 := Lib.hid ho2; have HG2 := Lib.hid hg2; have HAT2 := Lib.hid hat2; clear ho2 hg2 hat2)))
              have HG2L := Lib.hid (show wr.heap.size ≤ g2 by
                have hs1 := HG1.out.size
                rcases HAT2.out with h | h
                · rcases HAT1.out with h1 | h1
                  · rw [h1] at h
                    cases h
                  · rw [h1] at h
                    have := Option.some.inj h
                    omega
                · rw [h]
                  simp
                  omega)
              have HV1 := Lib.hid (fun b (hb : v1.ownBlock = some b) => show wr.heap.size ≤ b by
                rcases HAT1.out with h1 | h1
                · rw [h1] at hb
                  cases hb
                · rw [h1] at hb
                  have := Option.some.inj hb
                  omega)
              have HTW := Lib.hid (show Turn (fun _ => False) wr w2 from (((Turn.refl _ wr).grown HG1.out (fun k hk => by cases hk)).alloc _).grown HG2.out (fun k hk => .inr (HV1.out k hk)))
              have HT2 := Lib.hid (HS.out.turn.trans HTW.out (fun _ _ h => h.elim))
              have hs2 := HT2.out.size
              have hB2 := HBB.out
              refine (HIH.out (l ++ [(k : Int)]) (zs ++ (ordTo ds.length g l k).map fun o => rgL ds o o.length 0 (-1)) _ v w2 (by simp; omega) HI2.out (OwnR.toVn (n := l.length + 1) HO2.out (by simp)) (HS.out.row.turn HTW.out (fun _ _ h => h)) (fun b hb h => by
                have h1 := (HS.out.row.base b h).2.1
                have h2 : g2 = b := by simpa [Value.ownBlock] using hb
                have := HG2L.out
                omega) (HD.out.below (HT2.out.toBelow hB2 (fun i hi h => by have := HVOB.out i h; omega))) (by omega) (by rw [List.length_append]; exact HZ1.out)).mono ?_
              rintro e w3 ⟨v3, rfl, hr3, ht3, hb3⟩
              have HR3 := Lib.hid hr3
              have HT3 := Lib.hid ht3
              have HB3 := Lib.hid hb3
              clear hr3 ht3 hb3 hs2 hB2
              go_wp2_with fail
              go_roundg gg
              case measure => omega
              case rel =>
                refine ⟨k + 1, v3, by omega, by go_num, rfl, Lib.hid ⟨?_, HT2.out.trans HT3.out (fun i hi hx => ?_), ?_⟩⟩
                · rw [HT.out, List.map_append, ← List.append_assoc]
                  exact HR3.out
                · rcases HS.out.blk with h | ⟨b, h, hb⟩
                  · rw [← h]
                    exact hx
                  · have h2 : b = i := Option.some.inj (h.symm.trans hx)
                    omega
                · rcases HB3.out with h | ⟨b, h, hb⟩
                  · rw [h]
                    exact HS.out.blk
                  · exact .inr ⟨b, h, Nat.le_trans HT2.out.size hb⟩

set_option maxRecDepth 100000 in
set_option maxHeartbeats 1000000 in
theorem ROrders_ok (A : Option Addr) (ds : List (List Int)) (c : Nat) (w : World) (hr : RDice w w.heap.size A ds) (hd : AreDice ds) (h4 : ds.length ≤ 4) :
    Calls Try.prog 54 #[.slice A ds.length c] w fun e w' => ∃ v, e = .returned v ∧ I64Row w' w.heap.size v (numsL ds (ordersL ds.length)) ∧ Below w.heap.size w w' := by
  have h1 := hd.pos
  have hp : ds.length ^ ds.length ≤ 1000 := by
    obtain ⟨n, hn⟩ : ∃ n, ds.length = n := ⟨_, rfl⟩
    rw [hn] at h4 ⊢
    match n, h4 with
    | 0, _ => decide
    | 1, _ => decide
    | 2, _ => decide
    | 3, _ => decide
    | 4, _ => decide
  have HRO := Lib.hid (ROrders_any A ds c w.heap.size (fun d h => (hd.die d h).ok.1) h4 ds.length [] [] (.slice none 0 0) (.slice none 0 0) w (by simp) (fun x hx => by cases hx) (OwnV.nil_ _) (I64Row.nil_ _ _) (fun b hb => by cases hb) hr (Nat.le_refl _) (by simpa using hp))
  rw [List.nil_append, ordR_nums (fun d h x hx => ((hd.die d h).ok.2 x hx).1) h1 h4] at HRO
  clear hr hd hp
  go_enter Try.func54, Try.ntmps54
  go_wp2_with fail
  refine HRO.out.mono ?_
  rintro e w' ⟨v, rfl, hrow, ht, _⟩
  have HROW := Lib.hid hrow
  have HT := Lib.hid ht
  clear hrow ht
  go_wp2_with fail
  go_ret
  exact ⟨_, rfl, HROW.out, HT.out.toBelow (Nat.le_refl _) (fun i _ h => by cases h)⟩

end Go.Proofs.Ytkkholagmjcgiaa
