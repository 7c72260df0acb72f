/- A region that draws its order within a round of a range over a function, walked as a plain one: what calls and makes memory is taken in the text's order, what only reads at once. -/
import Derived.Test.YthbhengcinkepaaSeqB
import Derived.Deep.RegionHeld3
namespace Go.Proofs.Ythbhengcinkepaa
open Go.RowKit Go.Shelf

def noDeferE (o : Oper) : Bool := match o.op with
  | .defer _ => false
  | _ => true

theorem noDeferE_ne {o : Oper} (h : noDeferE o = true) : ∀ c, o.op ≠ .defer c := fun c e => by
  unfold noDeferE at h
  rw [e] at h
  cases h

theorem oper_wide {n : Nat} {P : Program} {o : Oper} {a : Act} {w : World} {K : Act → World → Prop} {Q : Exit → Act → World → Prop}
    (h : o.wp P a w K Q) : o.wpIn Fence.wide n P a w K Q := by
  unfold Oper.wp at h
  unfold Oper.wpIn
  refine ⟨fun _ _ => trivial, ?_⟩
  rw [show Fence.wide.round = none from rfl, Oper.semAt_none]
  generalize (execOp a.eval o).run P w = r at h ⊢
  cases r with
  | ok x w' =>
    cases x with
    | value v => exact h
    | skip => exact h
    | defer d => exact h
    | enter f args => exact ⟨(fun h => by cases h), callsIn_wide.2 h⟩
    | row row args => exact ⟨(fun h => by cases h), fun c cs _ => let ⟨v, w', r, s⟩ := h c cs; ⟨v, w', r, stepsIn_wide.2 s⟩⟩
    | _ => exact h.elim
  | halt c w' => cases c <;> first | exact h | exact h.elim

theorem oper_roundE {r n : Nat} {P : Program} {o : Oper} {a : Act} {w : World} {K : Act → World → Prop} {Q : Exit → Act → World → Prop} (ho : noDeferE o = true)
    (h : o.wp P a w K Q) : o.wpIn (Fence.wide.inRound r) n P a w K Q := by
  have h := oper_wide (n := n) h
  unfold Oper.wpIn at h ⊢
  refine ⟨fun _ _ => trivial, ?_⟩
  have h2 := h.2
  rw [show (Fence.wide.inRound r).round = some r from rfl, Oper.semAt_some r a.eval o (noDeferE_ne ho)]
  rw [show Fence.wide.round = none from rfl, Oper.semAt_none] at h2
  exact h2

theorem any_roundE {r n : Nat} {P : Program} {md : Region.Mode} {ops : Array Oper} {Q : Exit → Act → World → Prop} (hQ : ¬ LetsOut Q) (hnd : ∀ (i : Nat) (o : Oper), ops[i]? = some o → noDeferE o = true) :
    ∀ (fuel : Nat) (listed : Array Bool) (a : Act) (w : World), wpAny P md ops Q fuel listed a w → wpAnyIn (Fence.wide.inRound r) n P md ops Q fuel listed a w
  | 0, _, _, _, h => h
  | fuel + 1, listed, a, w, h => by
    refine ⟨h.1, fun i hi => ?_⟩
    have h2 := h.2 i hi
    unfold wpOp at h2
    unfold wpOpIn
    cases ho : ops[i]? with
    | none =>
      simp only [ho] at h2
      exact any_roundE hQ hnd fuel _ a w h2
    | some o =>
      simp only [ho] at h2
      by_cases hw : Region.wanted o (yielded ops a.tmps) = true
      · simp only [hw, if_true] at h2 ⊢
        exact Oper.wpIn_mono (fun a' w' h => any_roundE hQ hnd fuel _ a' w' h) (oper_roundE (hnd i o ho) (h2.resolve_right (fun h => hQ h.2)))
      · simp only [hw, Bool.false_eq_true, if_false] at h2 ⊢
        exact ⟨fun _ _ => trivial, any_roundE hQ hnd fuel _ _ w h2⟩

theorem held_round {r n : Nat} {P : Program} {id : Nat} {ops : List Oper} {Q : Exit → Act → World → Prop} {a : Act} {w : World} {S : World → Prop} (hm : P.follows .mixedOrders = true) (hnd : ops.all noDeferE = true) (hQ : ¬ LetsOut Q) (hS : S w.drew)
    (h : S w.drew → wpAnyH P .any ops.toArray Q S ops.toArray.size (Array.replicate ops.toArray.size false) a w.drew) : (Code.region id ops.toArray true).wpIn (Fence.wide.inRound r) n P Q a w :=
  wpIn_region_any hm (any_roundE hQ (fun i o ho => List.all_eq_true.1 hnd o (List.mem_of_getElem? (by simpa using ho))) _ _ _ _ (wpAny_of_held _ _ _ _ (h hS)))
end Go.Proofs.Ythbhengcinkepaa
