/- A region that draws its order and only reads, within a round of a range over a function: walked once, in the order of the text. · The function results of package dice, and what the iterator that it returns promises. · The functions compare and Compare of package dice: in how many results of two dice the first shows more, less, and the same. -/
import Derived.Test.YtkkholagmjcgiaaSeq
import Derived.Sort.QuietIn
import Derived.Test.YtkkholagmjcgiaaRoll
import Derived.Laws.MakeOwn
import Derived.Laws.EntriesVeiled
import Derived.Test.YtkkholagmjcgiaaResults
namespace Go.Proofs.Ytkkholagmjcgiaa
open Go.RowKit Go.Shelf

def noDefer (o : Oper) : Bool := match o.op with
  | .defer _ => false
  | _ => true

theorem noDefer_ne {o : Oper} (h : noDefer o = true) : ∀ c, o.op ≠ .defer c := fun c e => by
  unfold noDefer at h
  rw [e] at h
  cases h

theorem oper_round {r n : Nat} {P : Program} {o : Oper} {a : Act} {w : World} {K : Act → World → Prop} {Q : Exit → Act → World → Prop} (ho : noDefer o = true)
    (h : o.wpIn Fence.wide n P a w K Q) : o.wpIn (Fence.wide.inRound r) n P a w K Q := by
  unfold Oper.wpIn at h ⊢
  refine ⟨fun _ _ => trivial, ?_⟩
  have h2 := h.2
  rw [show (Fence.wide.inRound r).round = some r from rfl, Oper.semAt_some r a.eval o (noDefer_ne ho)]
  rw [show Fence.wide.round = none from rfl, Oper.semAt_none] at h2
  exact h2

theorem any_round {r n : Nat} {P : Program} {md : Region.Mode} {ops : Array Oper} {Q : Exit → Act → World → Prop} (hnd : ∀ (i : Nat) (o : Oper), ops[i]? = some o → noDefer o = true) :
    ∀ (fuel : Nat) (listed : Array Bool) (a : Act) (w : World), wpAnyIn Fence.wide n P md ops Q fuel listed a w → wpAnyIn (Fence.wide.inRound r) n P md ops Q fuel listed a w
  | 0, _, _, _, h => h
  | fuel + 1, listed, a, w, h => by
    refine ⟨h.1, fun i hi => ?_⟩
    have h2 := h.2 i hi
    unfold wpOpIn at h2 ⊢
    cases ho : ops[i]? with
    | none =>
      simp only [ho] at h2
      exact any_round hnd fuel _ a w h2
    | some o =>
      simp only [ho] at h2
      by_cases hw : Region.wanted o (yielded ops a.tmps) = true
      · simp only [hw, if_true] at h2 ⊢
        exact oper_round (hnd i o ho) (Oper.wpIn_mono (fun a' w' h => any_round hnd fuel _ a' w' h) h2)
      · simp only [hw, Bool.false_eq_true, if_false] at h2 ⊢
        exact ⟨fun _ _ => trivial, any_round hnd fuel _ _ w h2.2⟩

theorem quiet_round {r n : Nat} {P : Program} {id : Nat} {Q : Exit → Act → World → Prop} {a : Act} {w : World} {l : List Oper} (hm : P.follows .mixedOrders = true) (hB : Region.lexB .any l.toArray = true) (hnd : l.all noDefer = true)
    (h : wpQuietIn Fence.wide n P l.toArray (fun w' => ∃ n, w' = w.drewN n) (fun a' => ∀ w', (∃ n, w' = w.drewN n) → Q .normal a' w') l a) : (Code.region id l.toArray true).wpIn (Fence.wide.inRound r) n P Q a w := by
  have hB2 := hB
  simp only [Region.lexB, Bool.and_eq_true] at hB2
  refine wpIn_region_any hm (any_round (fun i o ho => List.all_eq_true.1 hnd o (List.mem_of_getElem? (by simpa using ho))) _ _ _ _ ?_)
  refine wpAnyIn_of_quiet (C := fun w' => ∃ n, w' = w.drewN n) (Q := fun a' => ∀ w', (∃ n, w' = w.drewN n) → Q .normal a' w') rfl (fun _ w' hw' h => h w' hw') _ _ _ _ ⟨1, rfl⟩ ?_
  have := wpAnyQIn_lex (F := Fence.wide) (n := n) (P := P) (C := fun w' => ∃ n, w' = w.drewN n) (md := .any) hB2.1 l 0 (Array.replicate l.toArray.size false) a (by simp) (by simpa using hB2.2) h
  simpa using this

end Go.Proofs.Ytkkholagmjcgiaa

namespace Go.Proofs.Ytkkholagmjcgiaa
open Go.RowKit Go.Shelf

theorem make_ints (n : Nat) (hn : n ≤ 1000000) : ∃ cs : Array Value, cs.size = n ∧ (∀ j, j < n → cs[j]? = some (.int .i64 0)) ∧ ∀ w : World, (Instr.makeSlice 36 (.int .i64 n) (.int .i64 n)).run Try.prog w = .ok (.slice (some ⟨w.heap.size, 0, none⟩) n n) (w.alloc (.cells cs 3)) := by
  obtain ⟨i0, hi, hz0, hz1, hz2⟩ := info_parts Try.info3
  refine ⟨madeCells (Value.int .i64 0).cells (n * 1), by rw [size_madeCells, Nat.mul_one], fun j hj => ?_, fun w => ?_⟩
  · simp [madeCells, Value.cells, hj, Nat.mod_one]
  · have := run_make (P := Try.prog) w 36 3 i0 (.int .i64 0) Try.underlying36 hi hz0 .i64 .i64 n n (by omega) (by omega) (by rw [hz2]; omega) (by omega)
    rw [hz1] at this
    simpa using this

set_option maxRecDepth 100000 in
set_option maxHeartbeats 2000000 in
theorem results_seq (Bd c : Nat) (A : Option Addr) (ds : List (List Int)) (D : Nat → Prop) (W1 : World) (hbd : Box W1 Bd 22 #[.slice A ds.length c]) (hrd : DiceD D W1 A ds) (hDd : D Bd) (hDs : ∀ b, D b → b < W1.heap.size) (hds : ∀ d ∈ ds, d.length ≤ 1000) (hn : ds.length ≤ 1000) :
    SeqNow Try.prog 96 #[.pointer (some ⟨Bd, 0, none⟩)] D (rollL ds []) W1 := by
  intro l J hJ0 hJ hY
  have c1 := hbd.cell 0
  simp only [List.getElem?_toArray, List.getElem?_cons_zero] at c1
  have HBD := Lib.hid hbd
  have HRD := Lib.hid hrd
  have HJ0 := Lib.hid hJ0
  have HJ := Lib.hid hJ
  have HY := Lib.hid hY
  have HDS := Lib.hid hDs
  have hlt := hbd.lt
  clear hbd hrd hJ0 hJ hY hDs
  obtain ⟨cs, hcs, _, hmk⟩ := make_ints ds.length (by omega)
  go_enter Try.func96, Try.ntmps96
  go_wp2_with fail
  have HC := Lib.hid (fun W4 hr hj => roll_any l Bd W1.heap.size (W1.heap.size + 1 + 1) (W1.heap.size + 1 + 1 + 1) (W1.heap.size + 1) c D A ds (rollL ds []) (fun b => D b ∨ (W1.heap.size ≤ b ∧ b < W1.heap.size + 4)) (J (W1.heap.size + 4))
    (fun pre W W' h hT => HJ.out _ pre W W' h (hT.imp fun i _ e => by omega)) (fun pre x v W h hnow hp => HY.out _ pre x v W h hnow hp)
    (fun b hb => .inl hb) (.inl hDd) (.inr (by omega)) (.inr (by omega)) (.inr (by omega)) (.inr (by omega)) (fun b hb => by have := HDS.out b hb; omega) hds hn ds.length [] [] W4 (by simp) hr hj (by simp))
  refine (HC.out _ ?_ ?_).mono ?_
  · refine ⟨?_, ?_, ?_, ?_, ?_, ?_⟩
    · exact (((HBD.out.alloc _).alloc _).alloc _).alloc _
    · exact (((Box.new W1 _ _).alloc _).alloc _).alloc _
    · have := Box.new ((W1.alloc (Obj.cells #[Value.func (Fn.yield l) #[] #[]] 78)).alloc (Obj.cells cs 3)) 36 #[.slice (some ⟨W1.heap.size + 1, 0, none⟩) ds.length ds.length]
      simp only [World.size_alloc] at this
      exact this.alloc _
    · have := Box.new (((W1.alloc (Obj.cells #[Value.func (Fn.yield l) #[] #[]] 78)).alloc (Obj.cells cs 3)).alloc (Obj.cells #[Value.slice (some ⟨W1.heap.size + 1, 0, none⟩) ds.length ds.length] 36)) 103 #[.func (.func 97) #[] #[.pointer (some ⟨Bd, 0, none⟩), .pointer (some ⟨W1.heap.size, 0, none⟩), .pointer (some ⟨W1.heap.size + 1 + 1, 0, none⟩), .pointer (some ⟨W1.heap.size + 1 + 1 + 1, 0, none⟩)]]
      simp only [World.size_alloc] at this
      exact this
    · exact HRD.out.turn (((((Turn.refl (fun _ => False) W1).alloc _).alloc _).alloc _).alloc _) (fun _ _ _ h => h)
    · refine ⟨cs, ?_, hcs, by simp⟩
      have := Box.new (W1.alloc (Obj.cells #[Value.func (Fn.yield l) #[] #[]] 78)) 3 cs
      simp only [World.size_alloc] at this
      exact (this.alloc _).alloc _
  · refine HJ0.out _ _ (((((Below.refl _ W1).alloc (Nat.le_refl _) _).alloc (by simp) _).alloc (by simp; omega) _).alloc (by simp; omega) _) (by omega) (by simp)
  · rintro e w5 ⟨rfl, hj5, _, _⟩
    go_wp2_with fail
    go_end0
    exact ⟨rfl, _, by simpa using hj5⟩

set_option maxHeartbeats 1000000 in
theorem results_any (A : Option Addr) (n c : Nat) (w : World) :
    Calls Try.prog 67 #[.slice A n c] w fun e w' => e = .returned (.func (.func 96) #[] #[.pointer (some ⟨w.heap.size, 0, none⟩)]) ∧ w.alloc (.cells #[.slice A n c] 22) = w' := by
  go_enter Try.func67, Try.ntmps67
  go_wp2_with fail
  go_ret
  exact ⟨rfl, rfl⟩

end Go.Proofs.Ytkkholagmjcgiaa

namespace Go.Proofs.Ytkkholagmjcgiaa
open Go.RowKit Go.Shelf

theorem rollL_len : ∀ (ds : List (List Int)) (p x : List Int), x ∈ rollL ds p → x.length = p.length + ds.length
  | [], p, x, h => by simp [rollL] at h; subst h; simp
  | d :: ds, p, x, h => by
    simp only [rollL, List.mem_flatMap] at h
    obtain ⟨s, _, h2⟩ := h
    have := rollL_len ds (p ++ [s]) x h2
    simp at this ⊢
    omega

theorem rollL_length : ∀ (ds : List (List Int)) (p : List Int), (rollL ds p).length = (ds.map List.length).foldr (· * ·) 1
  | [], p => by simp [rollL]
  | d :: ds, p => by
    simp only [rollL, List.length_flatMap, List.map_cons, List.foldr_cons]
    have e : (d.map fun s => (rollL ds (p ++ [s])).length) = d.map fun _ => (ds.map List.length).foldr (· * ·) 1 := List.map_congr_left fun s _ => rollL_length ds (p ++ [s])
    rw [e]
    generalize (ds.map List.length).foldr (· * ·) 1 = m
    clear e
    induction d with
    | nil => simp
    | cons s d ih => simp [ih, Nat.succ_mul, Nat.add_comm]

/-- More, less, the same. -/
def moreL (l : List (List Int)) : Nat := l.countP fun r => decide (r.getD 1 0 < r.getD 0 0)
def lessL (l : List (List Int)) : Nat := l.countP fun r => decide (r.getD 0 0 < r.getD 1 0)
def sameL (l : List (List Int)) : Nat := l.countP fun r => !decide (r.getD 1 0 < r.getD 0 0) && !decide (r.getD 0 0 < r.getD 1 0)
def duelV (l : List (List Int)) : Array Value := #[.int .i64 (moreL l), .int .i64 (lessL l), .int .i64 (sameL l)]

attribute [local go_sem] Oper.semAt_some

set_option maxRecDepth 100000 in
set_option maxHeartbeats 4000000 in
theorem compare_any (A1 A2 : Option Addr) (a b : List Int) (c1 c2 : Nat) (w : World) (h1 : RInts w w.heap.size A1 a) (h2 : RInts w w.heap.size A2 b) (ha : a.length ≤ 1000) (hb : b.length ≤ 1000) :
    Calls Try.prog 71 #[.slice A1 a.length c1, .slice A2 b.length c2] w fun e w' => e = .returned (.agg (duelV (rollL [a, b] []))) ∧ Below w.heap.size w w' := by
  refine (callsIn_wide (n := 3)).1 ?_
  have H1 := Lib.hid h1
  have H2 := Lib.hid h2
  clear h1 h2
  refine callsIn_of_wp_marks Try.func71 rfl trivial ?_ rfl
  simp only [Try.ntmps71, List.size_toArray, List.length_cons, List.length_nil, Nat.reduceAdd, Nat.reduceSub, Array.replicate_succ, Array.replicate_zero, List.push_toArray, List.append_toArray, List.nil_append, List.cons_append]
  gi_wp2
  refine ⟨trivial, (callsIn_wide.2 (results_any _ _ _ _)).mono ?_⟩
  rintro e w' ⟨rfl, rfl⟩
  gi_wp2
  obtain ⟨w4, hw4⟩ : ∃ w4, ((((w.alloc (Obj.cells #[Value.int IntKind.i64 0, Value.int IntKind.i64 0, Value.int IntKind.i64 0] 97)).alloc (Obj.cells #[Value.int IntKind.i64 0, Value.int IntKind.i64 0, Value.int IntKind.i64 0] 97)).alloc (Obj.cells #[Value.slice A1 a.length c1, Value.slice A2 b.length c2] 36)).alloc (Obj.cells #[Value.slice (some ⟨w.heap.size + 1 + 1, 0, none⟩) 2 2] 22)) = w4 := ⟨_, rfl⟩
  have hsz : w4.heap.size = w.heap.size + 4 := by rw [← hw4]; simp
  have hB : Below w.heap.size w w4 := by rw [← hw4]; exact ((((Below.refl _ w).alloc (Nat.le_refl _) _).alloc (by simp) _).alloc (by simp; omega) _).alloc (by simp; omega) _
  have b0 : Box w4 w.heap.size 97 #[Value.int IntKind.i64 0, Value.int IntKind.i64 0, Value.int IntKind.i64 0] := by rw [← hw4]; exact (((Box.new w _ _).alloc _).alloc _).alloc _
  have b1 : Box w4 (w.heap.size + 1) 97 #[Value.int IntKind.i64 0, Value.int IntKind.i64 0, Value.int IntKind.i64 0] := by
    rw [← hw4]
    have := Box.new (w.alloc (Obj.cells #[Value.int IntKind.i64 0, Value.int IntKind.i64 0, Value.int IntKind.i64 0] 97)) 97 #[Value.int IntKind.i64 0, Value.int IntKind.i64 0, Value.int IntKind.i64 0]
    simp only [World.size_alloc] at this
    exact (this.alloc _).alloc _
  have b2 : Box w4 (w.heap.size + 2) 36 #[Value.slice A1 a.length c1, Value.slice A2 b.length c2] := by
    rw [← hw4]
    have := Box.new ((w.alloc (Obj.cells #[Value.int IntKind.i64 0, Value.int IntKind.i64 0, Value.int IntKind.i64 0] 97)).alloc (Obj.cells #[Value.int IntKind.i64 0, Value.int IntKind.i64 0, Value.int IntKind.i64 0] 97)) 36 #[Value.slice A1 a.length c1, Value.slice A2 b.length c2]
    simp only [World.size_alloc] at this
    exact this.alloc _
  have b3 : Box w4 (w.heap.size + 3) 22 #[Value.slice (some ⟨w.heap.size + 2, 0, none⟩) 2 2] := by
    rw [← hw4]
    have := Box.new (((w.alloc (Obj.cells #[Value.int IntKind.i64 0, Value.int IntKind.i64 0, Value.int IntKind.i64 0] 97)).alloc (Obj.cells #[Value.int IntKind.i64 0, Value.int IntKind.i64 0, Value.int IntKind.i64 0] 97)).alloc (Obj.cells #[Value.slice A1 a.length c1, Value.slice A2 b.length c2] 36)) 22 #[Value.slice (some ⟨w.heap.size + 2, 0, none⟩) 2 2]
    simp only [World.size_alloc] at this
    exact this
  rw [hw4]
  clear hw4
  refine rangeNow (m := 1) (gf := 96) (lb := #[.pointer (some ⟨w.heap.size + 1 + 1 + 1, 0, none⟩)]) rfl (enters_of Try.func96 (by kernel_rfl) rfl)
    (D := fun b => b < w.heap.size ∨ b = w.heap.size + 2 ∨ b = w.heap.size + 3) (all := rollL [a, b] []) (fun i hi => by omega) ?hseq
    (fun _ pre W => Box W (w.heap.size + 1) 97 (duelV pre) ∧ Box W w.heap.size 97 #[Value.int IntKind.i64 0, Value.int IntKind.i64 0, Value.int IntKind.i64 0] ∧ Below w.heap.size w W) ?hI0 ?hI ?hround ?hdone
  case hseq =>
    intro W1 hb1
    refine results_seq (w.heap.size + 3) 2 (some ⟨w.heap.size + 2, 0, none⟩) [a, b] _ W1 (b3.below hb1 (by omega)) ?_ (.inr (.inr rfl)) (fun i hi => by have := hb1.size; omega) ?_ (by simp)
    · refine ⟨[.slice A1 a.length c1, .slice A2 b.length c2], rfl, fun j u hu => ?_, fun i v d hv hd => ?_⟩
      · refine ⟨w.heap.size + 2, 0, rfl, .inr (.inl rfl), by have := hb1.size; omega, ?_⟩
        rw [Nat.zero_add, (b2.below hb1 (by omega)).cell j]
        simpa using hu
      · have hw1 : ∀ {A : Option Addr} {d : List Int}, RInts w w.heap.size A d → LiesD (fun b => b < w.heap.size ∨ b = w.heap.size + 2 ∨ b = w.heap.size + 3) W1 A (d.map (Value.int .i64)) := fun h =>
          LiesD.of ((h.below hB).below (hb1.mono (by omega))) (by have := hb1.size; omega) (fun b hb => .inl hb)
        match i with
        | 0 =>
          simp at hv hd
          subst hv hd
          exact ⟨_, _, rfl, hw1 H1.out⟩
        | 1 =>
          simp at hv hd
          subst hv hd
          exact ⟨_, _, rfl, hw1 H2.out⟩
        | i + 2 => simp at hv
    · intro d hd
      simp at hd
      rcases hd with rfl | rfl <;> assumption
  case hI0 => exact fun z W hb _ _ => ⟨b1.below hb (by omega), b0.below hb (by omega), hB.trans (hb.mono (by omega))⟩
  case hI =>
    rintro z pre W W' ⟨i1, i2, i3⟩ hT
    exact ⟨i1.turn hT (by omega), i2.turn hT (by omega), i3.trans (hT.toBelow i3.size (by omega))⟩
  case hround =>
    rintro l z pre x v W ⟨i1, i2, i3⟩ hnow hpre hl1 hl2 ⟨r, hl⟩
    gi_wp2
    refine ⟨Turn.refl _ _, ?_⟩
    rintro W2 hT2 -
    have hx : x ∈ rollL [a, b] [] := hpre.subset (by simp)
    have hlx : x.length = 2 := by have := rollL_len _ _ _ hx; simpa using this
    obtain ⟨x0, x1, rfl⟩ : ∃ x0 x1, x = [x0, x1] := by
      match x, hlx with
      | [x0, x1], _ => exact ⟨x0, x1, rfl⟩
    have hpl : pre.length ≤ 1000000 := by
      have h1 := hpre.length_le
      rw [rollL_length] at h1
      have h2 : a.length * b.length ≤ 1000 * 1000 := Nat.mul_le_mul ha hb
      simp at h1
      omega
    obtain ⟨av, cv, ev, hcv, hr⟩ := hnow.turn hT2 (fun b e _ o => by rw [e]; exact loop_cell hl o)
    have ev : v = .slice av 2 cv := ev
    subst ev
    obtain ⟨bv, ov, y0, rfl, hbv, hy0, hc0⟩ := hr.at_ (k := 0) (by simp)
    obtain ⟨_, _, y1, e2, _, hy1, hc1⟩ := hr.at_ (k := 1) (by simp)
    cases e2
    obtain rfl : x0 = y0 := by simpa using hy0
    obtain rfl : x1 = y1 := by simpa using hy1
    have hc0 : W2.cell? ⟨bv, ov, none⟩ = some (.int .i64 x0) := hc0
    have j1 := i1.turn hT2 (by omega)
    have j2 := i2.turn hT2 (by omega)
    have j3 : Below w.heap.size w W2 := i3.trans (hT2.toBelow i3.size (by omega))
    have d0 := j1.cell 0
    have d1 := j1.cell 1
    have d2 := j1.cell 2
    simp only [duelV, List.getElem?_toArray, List.getElem?_cons_zero, List.getElem?_cons_succ] at d0 d1 d2
    have f0 := j1.free 0
    have f1 := j1.free 1
    have f2 := j1.free 2
    have m0 : moreL pre ≤ 1000000 := Nat.le_trans List.countP_le_length hpl
    have m1 : lessL pre ≤ 1000000 := Nat.le_trans List.countP_le_length hpl
    have m2 : sameL pre ≤ 1000000 := Nat.le_trans List.countP_le_length hpl
    have J1 := Lib.hid j1
    have J2 := Lib.hid j2
    have J3 := Lib.hid j3
    clear hpre hnow hx hr hy0 hy1 i1 i2 i3 j1 j2 j3 hT2 hl b0 b1 b2 b3 hB
    have hmo : Try.prog.follows .mixedOrders = true := by kernel_rfl
    by_cases g1 : x1 < x0
    · have g2 : ¬ x0 < x1 := by omega
      gi_wp2
      refine quiet_round hmo (by kernel_rfl) (by kernel_rfl) ?_
      repeat (gi_big_quiet_step (fail))
      refine wpQuietIn_nil ?_
      rintro _ ⟨nq, rfl⟩
      gi_wp2
      have T := Lib.hid (Turn.setCell (X := fun b => ¬ ((b < w.heap.size ∨ b = w.heap.size + 2 ∨ b = w.heap.size + 3) ∨ w4.heap.size ≤ b ∧ b < z)) (p := ⟨w.heap.size + 1, 0, none⟩) ((Turn.refl _ W2).drewN nq) (.inl (by show ¬ _; simp only []; omega)) (.int .i64 ((moreL pre : Int) + 1)))
      refine ⟨⟨?_, ((J2.out).drewN nq).far (by show w.heap.size ≠ w.heap.size + 1; omega) _, J3.out.trans (T.out.toBelow J3.out.size (fun i hi h => h (.inl (.inl hi))))⟩, T.out⟩
      have := ((J1.out).drewN nq).put 0 (.int .i64 ((moreL pre : Int) + 1))
      have e : (duelV pre).setIfInBounds 0 (.int .i64 ((moreL pre : Int) + 1)) = duelV (pre ++ [[x0, x1]]) := by
        have g3 : ¬ (x0 < x1 ∧ x1 < x0) := by omega
        simp_all [duelV, moreL, lessL, sameL, List.countP_append]
      rw [e] at this
      exact this
    · by_cases g2 : x0 < x1
      · gi_wp2
        refine quiet_round hmo (by kernel_rfl) (by kernel_rfl) ?_
        repeat (gi_big_quiet_step (fail))
        refine wpQuietIn_nil ?_
        rintro _ ⟨nq, rfl⟩
        gi_wp2
        refine quiet_round hmo (by kernel_rfl) (by kernel_rfl) ?_
        repeat (gi_big_quiet_step (fail))
        refine wpQuietIn_nil ?_
        rintro _ ⟨nr, rfl⟩
        gi_wp2
        have T := Lib.hid (Turn.setCell (X := fun b => ¬ ((b < w.heap.size ∨ b = w.heap.size + 2 ∨ b = w.heap.size + 3) ∨ w4.heap.size ≤ b ∧ b < z)) (p := ⟨w.heap.size + 1, 1, none⟩) ((Turn.refl _ W2).drewN (nq + nr)) (.inl (by show ¬ _; simp only []; omega)) (.int .i64 ((lessL pre : Int) + 1)))
        refine ⟨⟨?_, ((J2.out).drewN (nq + nr)).far (by show w.heap.size ≠ w.heap.size + 1; omega) _, J3.out.trans (T.out.toBelow J3.out.size (fun i hi h => h (.inl (.inl hi))))⟩, T.out⟩
        have := ((J1.out).drewN (nq + nr)).put 1 (.int .i64 ((lessL pre : Int) + 1))
        have e : (duelV pre).setIfInBounds 1 (.int .i64 ((lessL pre : Int) + 1)) = duelV (pre ++ [[x0, x1]]) := by
          have g3 : ¬ (x0 < x1 ∧ x1 < x0) := by omega
          simp_all [duelV, moreL, lessL, sameL, List.countP_append]
        rw [e] at this
        exact this
      · gi_wp2
        refine quiet_round hmo (by kernel_rfl) (by kernel_rfl) ?_
        repeat (gi_big_quiet_step (fail))
        refine wpQuietIn_nil ?_
        rintro _ ⟨nq, rfl⟩
        gi_wp2
        refine quiet_round hmo (by kernel_rfl) (by kernel_rfl) ?_
        repeat (gi_big_quiet_step (fail))
        refine wpQuietIn_nil ?_
        rintro _ ⟨nr, rfl⟩
        gi_wp2
        have T := Lib.hid (Turn.setCell (X := fun b => ¬ ((b < w.heap.size ∨ b = w.heap.size + 2 ∨ b = w.heap.size + 3) ∨ w4.heap.size ≤ b ∧ b < z)) (p := ⟨w.heap.size + 1, 2, none⟩) ((Turn.refl _ W2).drewN (nq + nr)) (.inl (by show ¬ _; simp only []; omega)) (.int .i64 ((sameL pre : Int) + 1)))
        refine ⟨⟨?_, ((J2.out).drewN (nq + nr)).far (by show w.heap.size ≠ w.heap.size + 1; omega) _, J3.out.trans (T.out.toBelow J3.out.size (fun i hi h => h (.inl (.inl hi))))⟩, T.out⟩
        have := ((J1.out).drewN (nq + nr)).put 2 (.int .i64 ((sameL pre : Int) + 1))
        have e : (duelV pre).setIfInBounds 2 (.int .i64 ((sameL pre : Int) + 1)) = duelV (pre ++ [[x0, x1]]) := by
          have g3 : ¬ (x0 < x1 ∧ x1 < x0) := by omega
          simp_all [duelV, moreL, lessL, sameL, List.countP_append]
        rw [e] at this
        exact this
  case hdone =>
    rintro z W ⟨i1, i2, i3⟩ hK
    have d0 := i1.cell 0
    have d1 := i1.cell 1
    have d2 := i1.cell 2
    simp only [duelV, List.getElem?_toArray, List.getElem?_cons_zero, List.getElem?_cons_succ] at d0 d1 d2
    have e0 := i2.cell 0
    have e1 := i2.cell 1
    have e2 := i2.cell 2
    simp only [List.getElem?_toArray, List.getElem?_cons_zero, List.getElem?_cons_succ] at e0 e1 e2
    have f0 := i2.free 0
    have f1 := i2.free 1
    have f2 := i2.free 2
    have I2 := Lib.hid i2
    have I3 := Lib.hid i3
    clear i1 i2 i3 b0 b1 b2 b3 hB
    gi_wp2
    refine ⟨by simp, .inl ⟨_, _, rfl, run_takeDeferred ?_, _, results_cell_row rfl _ _ w.heap.size 97 (duelV (rollL [a, b] [])) (0, 0) _ rfl ?_ Try.underlying97 rfl (by kernel_rfl), rfl, ?_⟩⟩
    · have T1 := Turn.setCell (X := fun b => b = w.heap.size) (p := ⟨w.heap.size, 0, none⟩) (Turn.refl _ W) (.inl rfl) (Value.int .i64 (moreL (rollL [a, b] [])))
      have T2 := Turn.setCell (p := ⟨w.heap.size, 1, none⟩) T1 (.inl rfl) (Value.int .i64 (lessL (rollL [a, b] [])))
      have T3 := Turn.setCell (p := ⟨w.heap.size, 2, none⟩) T2 (.inl rfl) (Value.int .i64 (sameL (rollL [a, b] [])))
      exact (T3.2 _ (Array.getElem?_eq_some_iff.1 hK).1 (by omega)).trans hK
    · refine (World.putObj_heap_other (by omega)).trans ?_
      have := ((I2.out.put 0 (Value.int .i64 (moreL (rollL [a, b] [])))).put 1 (Value.int .i64 (lessL (rollL [a, b] [])))).put 2 (Value.int .i64 (sameL (rollL [a, b] [])))
      simpa [Box, duelV] using this
    · refine I3.out.trans (Turn.toBelow (X := fun b => b = w.heap.size ∨ b = w4.heap.size) (Turn.putObj (Turn.setCell (p := ⟨w.heap.size, 2, none⟩) (Turn.setCell (p := ⟨w.heap.size, 1, none⟩) (Turn.setCell (p := ⟨w.heap.size, 0, none⟩) (Turn.refl _ W) (.inl (.inl rfl)) _) (.inl (.inl rfl)) _) (.inl (.inl rfl)) _) (.inl (.inr rfl)) _) I3.out.size (by omega))

end Go.Proofs.Ytkkholagmjcgiaa
