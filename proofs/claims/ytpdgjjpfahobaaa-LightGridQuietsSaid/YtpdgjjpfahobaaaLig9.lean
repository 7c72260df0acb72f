/- The set with the fewest lamps: cmp.Or of two numbers, the search over all sets that come of the quiet ones. -/
import Derived.Test.YtpdgjjpfahobaaaLig8
import Derived.Test.YtpdgjjpfahobaaaRoundL
import Derived.Test.YtpdgjjpfahobaaaLig7
namespace Go.Proofs.Ytpdgjjpfahobaaa
open Go.RowKit Go.Shelf Lamp

/-- The first number that is not 0. -/
def orI (x y : Int) : Int := if x = 0 then y else x
set_option maxHeartbeats 1000000 in
theorem Or_two (b c : Nat) (x y : Int) (w : World) (h1 : w.cell? ⟨b, 0, none⟩ = some (.int .i64 x)) (h2 : w.cell? ⟨b, 1, none⟩ = some (.int .i64 y)) :
    Calls Try.prog 102 #[.slice (some ⟨b, 0, none⟩) 2 c] w fun e w' => e = .returned (.int .i64 (orI x y)) ∧ w = w' := by
  go_enter Try.func102, Try.ntmps102
  go_wp2_with fail
  go_loop [8] (fun i => ∃ k : Nat, i = .int .i64 k ∧ k ≤ 2 ∧ Hid (1 ≤ k → x = 0) ∧ Hid (2 ≤ k → y = 0)) (fun i => 2 - (intOf i).toNat)
  case atStart => exact ⟨0, rfl, by omega, Lib.hid (by omega), Lib.hid (by omega)⟩
  case round =>
    obtain ⟨k, rfl, hk, HE1, HE2⟩ := hrel
    have HF1 := HE1
    have HF2 := HE2
    clear HE1 HE2
    match k, hk with
    | 0, _ =>
      by_cases h0 : x = 0
      · subst h0
        go_wp2_with fail
        go_round
        case rel => exact ⟨1, rfl, by omega, Lib.hid (fun _ => by trivial), Lib.hid (by omega)⟩
        case measure => simp [intOf]
      · have hx0 : (x == 0) = false := by simpa using h0
        have hx1 : (x != 0) = true := by simpa using h0
        have H0 := Lib.hid h0
        clear h0
        go_wp2_with fail
        go_ret
        exact ⟨ret_int (by unfold orI; rw [if_neg H0.out]), rfl⟩
    | 1, _ =>
      by_cases h0 : y = 0
      · subst h0
        go_wp2_with fail
        go_round
        case rel => exact ⟨2, rfl, by omega, Lib.hid (fun _ => HF1.out (by omega)), Lib.hid (fun _ => by trivial)⟩
        case measure => simp [intOf]
      · have hx0 : (y == 0) = false := by simpa using h0
        have hx1 : (y != 0) = true := by simpa using h0
        clear h0
        go_wp2_with fail
        go_ret
        exact ⟨ret_int (by unfold orI; rw [if_pos (HF1.out (by omega))]), rfl⟩
    | 2, _ =>
      go_wp2_with fail
      go_ret
      exact ⟨ret_int (by unfold orI; rw [if_pos (HF1.out (by omega)), HF2.out (by omega)]), rfl⟩
    | k + 3, hk => omega

/-- Fewer lamps, or as many and less. -/
def keyLt (a b : Nat) : Bool := decide (popc a < popc b) || (decide (popc a = popc b) && decide (a < b))
theorem or_lt0 (a b : Nat) : decide (orI (Lib.compareInt (popc a : Nat) (popc b : Nat)) (Lib.compareInt (a : Int) (b : Int)) < 0) = keyLt a b := by
  unfold orI Lib.compareInt keyLt
  rw [Bool.eq_iff_iff]
  simp only [decide_eq_true_eq, Bool.or_eq_true, Bool.and_eq_true]
  repeat' split
  all_goals omega
/-- The best of the sets that come of one by some of the quiet ones. -/
def bestL (s : Nat) (Q : List Nat) (cs : List Nat) : Nat := cs.foldl (fun best c => if keyLt (s ^^^ comb c Q) best then s ^^^ comb c Q else best) s
theorem bestL_snoc (s : Nat) (Q cs : List Nat) (c : Nat) : bestL s Q (cs ++ [c]) = if keyLt (s ^^^ comb c Q) (bestL s Q cs) then s ^^^ comb c Q else bestL s Q cs := by
  unfold bestL; rw [List.foldl_append]; rfl
def fewestL (s : Nat) (Q : List Nat) : Nat := bestL s Q (List.range (2 ^ Q.length))

theorem bestL_lt {s : Nat} {Q : List Nat} (hs : s < 65536) (hq : ∀ q ∈ Q, q < 65536) (cs : List Nat) : bestL s Q cs < 65536 := by
  unfold bestL
  suffices h : ∀ (cs : List Nat) (b : Nat), b < 65536 → cs.foldl (fun best c => if keyLt (s ^^^ comb c Q) best then s ^^^ comb c Q else best) b < 65536 from h cs s hs
  intro cs
  induction cs with
  | nil => exact fun b hb => hb
  | cons c cs ih =>
    intro b hb
    refine ih _ ?_
    show (if keyLt (s ^^^ comb c Q) b = true then s ^^^ comb c Q else b) < 65536
    split
    · exact Nat.xor_lt_two_pow (n := 16) hs (comb_lt (m := 16) c Q hq)
    · exact hb
theorem size_of {x : Nat} (a : Int) (w : World) (ha : a = (x : Int)) (h : x < 65536) :
    Calls Try.prog 105 #[.int .i64 a] w fun e w' => e = .returned (.int .i64 ((popc x : Nat) : Int)) ∧ w = w' := by
  subst ha; exact size_any x w h
theorem within_any (s : Int) (w : World) :
    Calls Try.prog 104 #[.int .i64 s] w fun e w' => e = .returned (.func (.func 126) #[] #[.pointer (some ⟨w.heap.size, 0, none⟩)]) ∧ w.alloc (.cells #[.int .i64 s] 3) = w' := by
  go_enter Try.func104, Try.ntmps104
  go_wp2_with fail
  go_ret
  exact ⟨rfl, rfl⟩

attribute [local go_sem] Oper.semAt_some

set_option maxRecDepth 100000 in
set_option maxHeartbeats 4000000 in
theorem fewest_any (A : Option Addr) (s n c : Nat) (Q : List Nat) (w : World) (hn : n = Q.length) (hr : RInts w w.heap.size A (natV Q)) (hl : Q.length ≤ 16) (hs : s < 65536) (hq : ∀ q ∈ Q, q < 65536) :
    Calls Try.prog 71 #[.int .i64 s, .slice A n c] w fun e w' => e = .returned (.int .i64 (fewestL s Q : Nat)) ∧ Below w.heap.size w w' := by
  subst hn
  refine (callsIn_wide (n := 3)).1 ?_
  have HR := Lib.hid hr
  have HQ := Lib.hid hq
  have HP := Lib.hid (And.intro (pow_split hl) (Nat.two_pow_pos Q.length))
  have HW := Lib.hid (pow_w hl)
  have hw1 : wrap64 (wrap64 (2 ^ Q.length) - 1) = ((2 ^ Q.length - 1 : Nat) : Int) := by
    rw [HW.out, w64 (by have := HP.out; omega)]; have := HP.out; omega
  have HW1 := Lib.hid hw1
  clear hr hq hw1
  refine callsIn_of_wp_marks Try.func71 rfl trivial ?_ rfl
  simp only [Try.ntmps71, List.size_toArray, List.length_cons, List.length_nil, Nat.reduceAdd, Nat.reduceSub, Array.replicate_succ, Array.replicate_zero, List.push_toArray, List.append_toArray, List.nil_append, List.cons_append]
  gi_wp2
  refine ⟨trivial, (callsIn_wide.2 (within_any _ _)).mono ?_⟩
  rintro e w' ⟨rfl, rfl⟩
  gi_wp2
  rw [HW1.out]
  obtain ⟨w4, hw4⟩ : ∃ w4, (((w.alloc (Obj.cells #[Value.int IntKind.i64 (s : Int)] 3)).alloc (Obj.cells #[Value.slice A Q.length c] 28)).alloc (Obj.cells #[Value.int IntKind.i64 (s : Int)] 3)).alloc (Obj.cells #[Value.int IntKind.i64 ((2 ^ Q.length - 1 : Nat) : Int)] 3) = w4 := ⟨_, rfl⟩
  have hsz : w4.heap.size = w.heap.size + 4 := by rw [← hw4]; simp
  have hB : Below w.heap.size w w4 := by rw [← hw4]; exact ((((Below.refl _ w).alloc (Nat.le_refl _) _).alloc (by simp) _).alloc (by simp; omega) _).alloc (by simp; omega) _
  have b0 : Box w4 w.heap.size 3 #[.int .i64 (s : Nat)] := by rw [← hw4]; exact (((Box.new w _ _).alloc _).alloc _).alloc _
  have b1 : Box w4 (w.heap.size + 1) 28 #[.slice A Q.length c] := by
    rw [← hw4]
    have := Box.new (w.alloc (Obj.cells #[Value.int IntKind.i64 (s : Int)] 3)) 28 #[.slice A Q.length c]
    simp only [World.size_alloc] at this
    exact (this.alloc _).alloc _
  have b2 : Box w4 (w.heap.size + 1 + 1) 3 #[.int .i64 (s : Nat)] := by
    rw [← hw4]
    have := Box.new ((w.alloc (Obj.cells #[Value.int IntKind.i64 (s : Int)] 3)).alloc (Obj.cells #[Value.slice A Q.length c] 28)) 3 #[.int .i64 (s : Nat)]
    simp only [World.size_alloc] at this
    exact this.alloc _
  have b3 : Box w4 (w.heap.size + 1 + 1 + 1) 3 #[.int .i64 (2 ^ Q.length - 1 : Nat)] := by
    rw [← hw4]
    have := Box.new (((w.alloc (Obj.cells #[Value.int IntKind.i64 (s : Int)] 3)).alloc (Obj.cells #[Value.slice A Q.length c] 28)).alloc (Obj.cells #[Value.int IntKind.i64 (s : Int)] 3)) 3 #[.int .i64 (2 ^ Q.length - 1 : Nat)]
    simp only [World.size_alloc] at this
    exact this
  rw [hw4]
  clear hw4
  have hmo : Try.prog.follows .mixedOrders = true := by kernel_rfl
  refine rangeE (E := IsNat) (m := 1) (gf := 126) (lb := #[.pointer (some ⟨w.heap.size + 1 + 1 + 1, 0, none⟩)]) rfl (enters_of Try.func126 (by kernel_rfl) rfl)
    (D := fun b => b = w.heap.size + 1 + 1 + 1) (all := List.range (2 ^ Q.length)) (fun i hi => by omega) ?hseq
    (fun _ pre W => Box W (w.heap.size + 1 + 1) 3 #[.int .i64 (bestL s Q pre : Nat)] ∧ (Box W w.heap.size 3 #[.int .i64 (s : Nat)] ∧ Box W (w.heap.size + 1) 28 #[.slice A Q.length c]) ∧ Below w.heap.size w W) ?hI0 ?hI ?hround ?hdone
  case hseq => exact fun W1 hb1 => within_seq _ Q.length _ _ W1 hl rfl (b3.below hb1 (by omega)) rfl
  case hI0 => exact fun z W hb _ _ => ⟨b2.below hb (by omega), ⟨b0.below hb (by omega), b1.below hb (by omega)⟩, hB.trans (hb.mono (by omega))⟩
  case hI =>
    rintro z pre W W' ⟨i1, ⟨i2, i3⟩, i4⟩ hT
    exact ⟨i1.turn hT (by omega), ⟨i2.turn hT (by omega), i3.turn hT (by omega)⟩, i4.trans (hT.toBelow i4.size (by omega))⟩
  case hround =>
    rintro l z pre x v W ⟨i1, ⟨i2, i3⟩, i4⟩ rfl hpre hl1 hl2 ⟨r, hlr⟩
    gi_wp2
    refine ⟨Turn.refl _ _, ?_⟩
    rintro W2 hT2 -
    have hxm : x < 2 ^ Q.length := by
      have hx : x ∈ List.range (2 ^ Q.length) := hpre.subset (by simp)
      simpa using hx
    have j1 := i1.turn hT2 (by omega)
    have j2 := i2.turn hT2 (by omega)
    have j3 := i3.turn hT2 (by omega)
    have J4 := Lib.hid (show Below w.heap.size w W2 from i4.trans (hT2.toBelow i4.size (by omega)))
    obtain ⟨b, hb⟩ : ∃ b, bestL s Q pre = b := ⟨_, rfl⟩
    rw [hb] at j1
    have HBE := Lib.hid hb
    have HBL := Lib.hid (show b < 65536 by rw [← hb]; exact bestL_lt hs HQ.out pre)
    have HXL := Lib.hid (show x < 65536 by have := HP.out; omega)
    obtain ⟨q, hq⟩ : ∃ q, comb x Q = q := ⟨_, rfl⟩
    have HQE := Lib.hid hq
    have HQL := Lib.hid (show q < 65536 by rw [← hq]; exact comb_lt (m := 16) x Q HQ.out)
    have HO := Lib.hid (i64_xor s q (by omega) (by have := HQL.out; omega))
    have HOL := Lib.hid (show s ^^^ q < 65536 from Nat.xor_lt_two_pow (n := 16) hs HQL.out)
    have c1 := j1.cell 0
    have c2 := j2.cell 0
    have c3 := j3.cell 0
    simp only [List.getElem?_toArray, List.getElem?_cons_zero] at c1 c2 c3
    have J0 := Lib.hid c2
    have J1 := Lib.hid c3
    have JB := Lib.hid c1
    have X1 := Lib.hid j1
    have X2 := Lib.hid j2
    have X3 := Lib.hid j3
    clear hpre hxm i1 i2 i3 i4 j1 j2 j3 hT2 hlr b0 b1 b2 b3 hB c1 c2 c3 hb hq
    gi_wp2
    refine held_round (S := (fun W' => W'.cell? ⟨w.heap.size, 0, none⟩ = some (.int .i64 (s : Nat)) ∧ W'.cell? ⟨w.heap.size + 1, 0, none⟩ = some (.slice A Q.length c))) hmo (by kernel_rfl) (fun h => by obtain ⟨_, _, h⟩ := h; exact h) ⟨J0.out, J1.out⟩ (fun hHeld => ?_)
    refine wpAnyH_take (i := 0) (v := ?_) rfl (by kernel_rfl) (by kernel_rfl) (by kernel_rfl) (fun _ _ _ h => h) (Or.inl ⟨by rfl, ?_⟩) (by assumption) ?_
    rotate_left
    · (intro w hSw; (try dsimp only at hSw); go_simp <;> (with_reducible rfl))
    try simp only [Act.put, List.setIfInBounds_toArray, List.set_cons_zero, List.set_cons_succ, List.getElem_toArray, List.getElem_cons_zero]
    refine wpAnyH_take (i := 1) (v := ?_) rfl (by kernel_rfl) (by kernel_rfl) (by kernel_rfl) (fun _ _ _ h => h) (Or.inl ⟨by rfl, ?_⟩) (by assumption) ?_
    rotate_left
    · (intro w hSw; (try dsimp only at hSw); go_simp <;> (with_reducible rfl))
    try simp only [Act.put, List.setIfInBounds_toArray, List.set_cons_zero, List.set_cons_succ, List.getElem_toArray, List.getElem_cons_zero, List.getElem_cons_succ]
    refine wpAnyH_take (i := 2) (v := ?_) rfl (by kernel_rfl) (by kernel_rfl) (by kernel_rfl) (fun _ _ _ h => h) (Or.inl ⟨by rfl, ?_⟩) (by assumption) ?_
    rotate_left
    · (intro w hSw; (try dsimp only at hSw); go_simp <;> (with_reducible rfl))
    try simp only [Act.put, List.setIfInBounds_toArray, List.set_cons_zero, List.set_cons_succ, List.getElem_toArray, List.getElem_cons_zero, List.getElem_cons_succ]
    refine wpAnyH_ready (rs := [3]) (by kernel_rfl) (by simp) ?_
    refine AllReadyH.cons rfl (fun K hK => ?_) AllReadyH.nil
    go_simp
    go_at_call 103
    refine (combined_any A x Q Q.length c w.heap.size _ rfl (HR.out.below (below_drewN J4.out 1)) (by have := hl; omega) (by have := HXL.out; omega) (fun q hq => by have := HQ.out q hq; omega)).mono ?_
    rintro e w' ⟨rfl, rfl⟩
    go_wp2_with fail
    refine hK.out _ _ ?_ (fun hHeld => ?_)
    · exact hHeld
    clear hK K
    try simp only [Act.put, List.setIfInBounds_toArray, List.set_cons_zero, List.set_cons_succ, List.getElem_toArray, List.getElem_cons_zero, List.getElem_cons_succ]
    refine wpAnyH_take (i := 4) (v := ?_) rfl (by kernel_rfl) (by kernel_rfl) (by kernel_rfl) (fun _ _ _ h => h) (Or.inl ⟨by rfl, ?_⟩) (by assumption) ?_
    rotate_left
    · (intro w hSw; (try dsimp only at hSw); go_simp <;> (with_reducible rfl))
    try simp only [Act.put, List.setIfInBounds_toArray, List.set_cons_zero, List.set_cons_succ, List.getElem_toArray, List.getElem_cons_zero, List.getElem_cons_succ]
    refine wpAnyH_take (i := 5) (v := ?_) rfl (by kernel_rfl) (by kernel_rfl) (by kernel_rfl) (fun _ _ _ h => h) (Or.inl ⟨by rfl, ?_⟩) (by assumption) ?_
    rotate_left
    · (intro w hSw; (try dsimp only at hSw); go_simp <;> (with_reducible rfl))
    try simp only [Act.put, List.setIfInBounds_toArray, List.set_cons_zero, List.set_cons_succ, List.getElem_toArray, List.getElem_cons_zero, List.getElem_cons_succ]
    refine wpAnyH_done (by kernel_rfl) ?_ _
    rw [HQE.out]
    gi_wp2
    refine held_round (S := (fun W' => W'.cell? ⟨w.heap.size + 1 + 1, 0, none⟩ = some (.int .i64 (b : Nat)))) hmo (by kernel_rfl) (fun h => by obtain ⟨_, _, h⟩ := h; exact h) JB.out (fun hHeld => ?_)
    refine wpAnyH_take (i := 0) (v := ?_) rfl (by kernel_rfl) (by kernel_rfl) (by kernel_rfl) (fun _ _ _ h => h) (Or.inl ⟨by rfl, ?_⟩) (by assumption) ?_
    rotate_left
    · (intro w hSw; (try dsimp only at hSw); go_simp <;> (with_reducible rfl))
    try simp only [Act.put, List.setIfInBounds_toArray, List.set_cons_zero, List.set_cons_succ, List.getElem_toArray, List.getElem_cons_zero]
    refine wpAnyH_take (i := 2) (v := ?_) rfl (by kernel_rfl) (by kernel_rfl) (by kernel_rfl) (fun _ _ _ h => h) (Or.inl ⟨by rfl, ?_⟩) (by assumption) ?_
    rotate_left
    · (intro w hSw; (try dsimp only at hSw); go_simp <;> (with_reducible rfl))
    try simp only [Act.put, List.setIfInBounds_toArray, List.set_cons_zero, List.set_cons_succ, List.getElem_toArray, List.getElem_cons_zero, List.getElem_cons_succ]
    refine wpAnyH_take (i := 5) (v := ?_) rfl (by kernel_rfl) (by kernel_rfl) (by kernel_rfl) (fun _ _ _ h => h) (Or.inl ⟨by rfl, ?_⟩) (by assumption) ?_
    rotate_left
    · (intro w hSw; (try dsimp only at hSw); go_simp <;> (with_reducible rfl))
    try simp only [Act.put, List.setIfInBounds_toArray, List.set_cons_zero, List.set_cons_succ, List.getElem_toArray, List.getElem_cons_zero, List.getElem_cons_succ]
    refine wpAnyH_take (i := 6) (v := ?_) rfl (by kernel_rfl) (by kernel_rfl) (by kernel_rfl) (fun _ _ _ h => h) (Or.inl ⟨by rfl, ?_⟩) (by assumption) ?_
    rotate_left
    · (intro w hSw; (try dsimp only at hSw); go_simp <;> (with_reducible rfl))
    try simp only [Act.put, List.setIfInBounds_toArray, List.set_cons_zero, List.set_cons_succ, List.getElem_toArray, List.getElem_cons_zero, List.getElem_cons_succ]
    refine wpAnyH_ready (rs := [1]) (by kernel_rfl) (by simp) ?_
    refine AllReadyH.cons rfl (fun K hK => ?_) AllReadyH.nil
    go_simp
    go_at_call 105
    refine (size_of _ _ HO.out HOL.out).mono ?_
    rintro e w' ⟨rfl, rfl⟩
    go_wp2_with fail
    refine hK.out _ _ ?_ (fun hHeld => ?_)
    · exact hHeld
    clear hK K
    try simp only [Act.put, List.setIfInBounds_toArray, List.set_cons_zero, List.set_cons_succ, List.getElem_toArray, List.getElem_cons_zero, List.getElem_cons_succ]
    refine wpAnyH_ready (rs := [3]) (by kernel_rfl) (by simp) ?_
    refine AllReadyH.cons rfl (fun K hK => ?_) AllReadyH.nil
    go_simp
    go_at_call 105
    refine (size_of _ _ rfl HBL.out).mono ?_
    rintro e w' ⟨rfl, rfl⟩
    go_wp2_with fail
    refine hK.out _ _ ?_ (fun hHeld => ?_)
    · exact hHeld
    clear hK K
    try simp only [Act.put, List.setIfInBounds_toArray, List.set_cons_zero, List.set_cons_succ, List.getElem_toArray, List.getElem_cons_zero, List.getElem_cons_succ]
    refine wpAnyH_ready (rs := [4]) (by kernel_rfl) (by simp) ?_
    refine AllReadyH.cons rfl (fun K hK => ?_) AllReadyH.nil
    go_simp
    go_at_call 94
    refine (Try.cmp_Compare_int _ _ _).mono ?_
    rintro e w' ⟨rfl, rfl⟩
    go_wp2_with fail
    refine hK.out _ _ ?_ (fun hHeld => ?_)
    · exact hHeld
    clear hK K
    try simp only [Act.put, List.setIfInBounds_toArray, List.set_cons_zero, List.set_cons_succ, List.getElem_toArray, List.getElem_cons_zero, List.getElem_cons_succ]
    refine wpAnyH_ready (rs := [7]) (by kernel_rfl) (by simp) ?_
    refine AllReadyH.cons rfl (fun K hK => ?_) AllReadyH.nil
    go_simp
    go_at_call 94
    refine (Try.cmp_Compare_int _ _ _).mono ?_
    rintro e w' ⟨rfl, rfl⟩
    go_wp2_with fail
    refine hK.out _ _ ?_ (fun hHeld => ?_)
    · exact hHeld
    clear hK K
    try simp only [Act.put, List.setIfInBounds_toArray, List.set_cons_zero, List.set_cons_succ, List.getElem_toArray, List.getElem_cons_zero, List.getElem_cons_succ]
    refine wpAnyH_ready (rs := [8]) (by kernel_rfl) (by simp) ?_
    refine AllReadyH.cons rfl (fun K hK => ?_) AllReadyH.nil
    go_simp
    refine hK.out _ _ ?_ (fun hHeld => ?_)
    · exact (((Below.refl (W2.drewN 2).heap.size (W2.drewN 2)).alloc (Nat.le_refl _) _).cell (p := ⟨w.heap.size + 1 + 1, 0, none⟩) X1.out.lt).trans JB.out
    clear hK K
    try simp only [Act.put, List.setIfInBounds_toArray, List.set_cons_zero, List.set_cons_succ, List.getElem_toArray, List.getElem_cons_zero, List.getElem_cons_succ]
    refine wpAnyH_ready (rs := [9]) (by kernel_rfl) (by simp) ?_
    refine AllReadyH.cons rfl (fun K hK => ?_) AllReadyH.nil
    go_simp
    go_at_call 102
    refine (Or_two W2.heap.size 2 (Lib.compareInt ((popc (s ^^^ q) : Nat) : Int) ((popc b : Nat) : Int)) (Lib.compareInt (bits BinOp.xor IntKind.i64 (s : Int) (q : Int)) (b : Int)) _ ((Box.new (W2.drewN 2) 3 #[.int .i64 (Lib.compareInt ((popc (s ^^^ q) : Nat) : Int) ((popc b : Nat) : Int)), .int .i64 (Lib.compareInt (bits BinOp.xor IntKind.i64 (s : Int) (q : Int)) (b : Int))]).cell 0) ((Box.new (W2.drewN 2) 3 #[.int .i64 (Lib.compareInt ((popc (s ^^^ q) : Nat) : Int) ((popc b : Nat) : Int)), .int .i64 (Lib.compareInt (bits BinOp.xor IntKind.i64 (s : Int) (q : Int)) (b : Int))]).cell 1)).mono ?_
    rintro e w' ⟨rfl, rfl⟩
    go_wp2_with fail
    refine hK.out _ _ ?_ (fun hHeld => ?_)
    · exact hHeld
    clear hK K
    try simp only [Act.put, List.setIfInBounds_toArray, List.set_cons_zero, List.set_cons_succ, List.getElem_toArray, List.getElem_cons_zero, List.getElem_cons_succ]
    refine wpAnyH_take (i := 10) (v := ?_) rfl (by kernel_rfl) (by kernel_rfl) (by kernel_rfl) (fun _ _ _ h => h) (Or.inl ⟨by rfl, ?_⟩) (by assumption) ?_
    rotate_left
    · (intro w hSw; (try dsimp only at hSw); go_simp <;> (with_reducible rfl))
    try simp only [Act.put, List.setIfInBounds_toArray, List.set_cons_zero, List.set_cons_succ, List.getElem_toArray, List.getElem_cons_zero, List.getElem_cons_succ]
    refine wpAnyH_done (by kernel_rfl) ?_ _
    rw [HO.out]
    obtain ⟨W3, hW3⟩ : ∃ W3, (W2.drewN 2).alloc (Obj.cells #[Value.int IntKind.i64 (Lib.compareInt ((popc (s ^^^ q) : Nat) : Int) ((popc b : Nat) : Int)), Value.int IntKind.i64 (Lib.compareInt ((s ^^^ q : Nat) : Int) (b : Int))] 3) = W3 := ⟨_, rfl⟩
    rw [hW3]
    have Y1 := Lib.hid (show Box W3 (w.heap.size + 1 + 1) 3 #[.int .i64 (b : Nat)] by rw [← hW3]; exact (X1.out.drewN 2).alloc _)
    have Y2 := Lib.hid (show Box W3 w.heap.size 3 #[.int .i64 (s : Nat)] by rw [← hW3]; exact (X2.out.drewN 2).alloc _)
    have Y3 := Lib.hid (show Box W3 (w.heap.size + 1) 28 #[.slice A Q.length c] by rw [← hW3]; exact (X3.out.drewN 2).alloc _)
    have Y4 := Lib.hid (show Below w.heap.size w W3 by rw [← hW3]; exact (below_drewN J4.out 2).alloc J4.out.size _)
    have Y5 := Lib.hid (show Turn (fun b => ¬(b = w.heap.size + 1 + 1 + 1 ∨ w4.heap.size ≤ b ∧ b < z)) W2 W3 by rw [← hW3]; exact ((Turn.refl _ _).drewN 2).alloc _)
    have hK := or_lt0 (s ^^^ q) b
    have HBS := Lib.hid (show bestL s Q (pre ++ [x]) = if keyLt (s ^^^ q) b then s ^^^ q else b by rw [bestL_snoc, HQE.out, HBE.out])
    clear hW3 X1 X2 X3 J0 J1 JB
    cases hkl : keyLt (s ^^^ q) b
    · rw [hkl] at hK HBS
      have hN := of_decide_eq_false hK
      have hN' : 0 ≤ orI (Lib.compareInt ((popc (s ^^^ q) : Nat) : Int) ((popc b : Nat) : Int)) (Lib.compareInt ((s ^^^ q : Nat) : Int) (b : Int)) := by omega
      clear hK hN hkl hHeld
      gi_wp2
      refine ⟨⟨?_, ⟨Y2.out, Y3.out⟩, Y4.out⟩, Y5.out⟩
      rw [HBS.out]
      exact Y1.out
    · rw [hkl] at hK HBS
      have hN := of_decide_eq_true hK
      have c1 := Y1.out.cell 0
      have f1 := Y1.out.free 0
      simp only [List.getElem?_toArray, List.getElem?_cons_zero] at c1
      clear hK hkl hHeld
      gi_wp2
      refine ⟨⟨?_, ⟨?_, ?_⟩, ?_⟩, ?_⟩
      · rw [HBS.out]
        exact Y1.out.put 0 _
      · exact Y2.out.far (p := ⟨w.heap.size + 1 + 1, 0, none⟩) (by show w.heap.size ≠ w.heap.size + 1 + 1; omega) _
      · exact Y3.out.far (p := ⟨w.heap.size + 1 + 1, 0, none⟩) (by show w.heap.size + 1 ≠ w.heap.size + 1 + 1; omega) _
      · exact Y4.out.setCell (p := ⟨w.heap.size + 1 + 1, 0, none⟩) (by show w.heap.size ≤ w.heap.size + 1 + 1; omega) _
      · exact (Y5.out.setCell (p := ⟨w.heap.size + 1 + 1, 0, none⟩) (.inl (by show ¬ _; simp only []; omega)) _).imp (fun i _ h => by first | exact h | omega)
  case hdone =>
    rintro z W ⟨i1, _, i4⟩ hK
    have c1 := i1.cell 0
    simp only [List.getElem?_toArray, List.getElem?_cons_zero] at c1
    have I4 := Lib.hid i4
    clear i1 i4 b0 b1 b2 b3 hB
    gi_wp2
    refine ⟨by simp, .inl ⟨_, _, rfl, run_takeDeferred hK, .int .i64 (fewestL s Q : Nat), by simp [results, Try.results71, go_sem, fewestL], rfl, ?_⟩⟩
    exact I4.out.trans (Turn.toBelow (X := fun b => b = w4.heap.size) (Turn.putO (X := fun b => b = w4.heap.size) (Turn.refl _ W) (.inl rfl) _) I4.out.size (by omega))
end Go.Proofs.Ytpdgjjpfahobaaa
