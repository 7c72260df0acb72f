/- What is read of arguments is read again in a later world in which no block that was there has turned; so every statement's last step, whatever its arguments, asks no more than 'Below'. -/
import Derived.Test.YtkkholagmjcgiaaLaw
import Derived.ReadAgain
import Derived.DataShut
namespace Go.Proofs.Ytkkholagmjcgiaa
open Go.ChangeShapes Go.WideShapes Go.ChangeAt Go.RowKit

section
variable {H : Type} {enc : TypeId × Value → H} {P : Program} {w w' : World} {base : Nat} {spare : Nat → Bool} {held : Bool}

theorem cells_later (hb : ∀ b, b < w.heap.size → w'.heap[b]? = w.heap[b]?) {a : Addr} {n : Nat} {cs : List Value} (h : w.cells? base a n = some cs) : w'.cells? base a n = some cs := by
  obtain ⟨h1, h2, h3⟩ := World.cells?_some h
  refine World.cells?_of_each h1 h2 fun i hi => ?_
  rw [← h3 i hi]
  have h0 := h3 i hi
  rw [List.getElem?_eq_getElem (by omega)] at h0
  exact World.cell?_of_block (hb _ (World.block_lt_of_cell? w _ h0))

theorem step_later (hb : ∀ b, b < w.heap.size → w'.heap[b]? = w.heap[b]?) {r r' : TypeId → List Value → Option (DataW H × List MemPlace)} (hr : ∀ t cs x, r t cs = some x → r' t cs = some x) {t : TypeId} {cs : List Value} {x : DataW H × List MemPlace}
    (h : DataW.trodStep enc P w base spare held r t cs = some x) : DataW.trodStep enc P w' base spare held r' t cs = some x := by
  have hel : ∀ (e : TypeId) (a : Addr) (n : Nat) (y : DataW H × List MemPlace), (w.cells? base a n).bind (r e) = some y → (w'.cells? base a n).bind (r' e) = some y := by
    intro e a n y hy
    simp only [Option.bind_eq_some_iff] at hy ⊢
    obtain ⟨c, hc, hy⟩ := hy
    exact ⟨c, cells_later hb hc, hr _ _ _ hy⟩
  unfold DataW.trodStep at h ⊢
  split at h
  case h_6 =>
    rw [Option.map_eq_some_iff] at h ⊢
    obtain ⟨y, hy, e⟩ := h
    exact ⟨y, hel _ _ _ _ hy, e⟩
  case h_8 e a len cap _ =>
    simp only at h ⊢
    split at h
    · rename_i hc
      rw [if_pos hc]
      simp only [Option.map_eq_some_iff, Option.bind_eq_some_iff] at h ⊢
      obtain ⟨elems, he, rest, hrest, e⟩ := h
      refine ⟨elems, mapM_carry he (fun i y _ _ hy => hel _ _ _ _ hy), rest, ?_, e⟩
      split at hrest
      · rename_i hs
        rw [if_pos hs]
        exact mapM_carry hrest (fun i y _ _ hy => hel _ _ _ _ hy)
      · rename_i hs
        rw [if_neg hs]
        exact hrest
    · cases h
  case h_9 =>
    split at h
    · rename_i hc
      rw [if_pos hc]
      rw [Option.map_eq_some_iff] at h ⊢
      obtain ⟨xs, hx, e⟩ := h
      exact ⟨xs, mapM_carry hx (fun f y _ _ hy => hr _ _ _ hy), e⟩
    · cases h
  case h_10 =>
    split at h
    · rename_i hc
      rw [if_pos hc]
      rw [Option.map_eq_some_iff] at h ⊢
      obtain ⟨xs, hx, e⟩ := h
      exact ⟨xs, mapM_carry hx (fun f y _ _ hy => hr _ _ _ hy), e⟩
    · cases h
  case h_12 =>
    split at h
    · rename_i hn
      exact h
    · rename_i hn
      rw [Option.map_eq_some_iff] at h ⊢
      obtain ⟨y, hy, e⟩ := h
      exact ⟨y, hr _ _ _ hy, e⟩
    · cases h
  case h_14 k e b _ =>
    split at h
    · rename_i es clock hm
      have hlt : b < w.heap.size := by
        rcases Nat.lt_or_ge b w.heap.size with h1 | h1
        · exact h1
        · rw [Array.getElem?_eq_none h1] at hm; cases hm
      rw [hb b hlt, hm]
      simp only
      split at h
      · rename_i hc
        rw [if_pos hc]
        simp only [Option.bind_eq_some_iff] at h ⊢
        obtain ⟨entries, he, hd⟩ := h
        refine ⟨entries, mapM_carry he (fun z y _ _ hy => ?_), hd⟩
        simp only [Option.bind_eq_some_iff] at hy ⊢
        obtain ⟨key, hk, hz⟩ := hy
        refine ⟨key, hk, ?_⟩
        split at hz
        · rename_i hf
          rw [if_pos hf]
          rw [Option.map_eq_some_iff] at hz ⊢
          obtain ⟨q, hq, e⟩ := hz
          exact ⟨q, hr _ _ _ hq, e⟩
        · cases hz
      · cases h
    · cases h
  all_goals first
    | exact h
    | cases h

theorem trod_later (hb : ∀ b, b < w.heap.size → w'.heap[b]? = w.heap[b]?) : ∀ (n : Nat) (t : TypeId) (cs : List Value) (x : DataW H × List MemPlace), DataW.trod enc P w base spare held n t cs = some x → DataW.trod enc P w' base spare held n t cs = some x
  | 0, _, _, _, h => by simp [DataW.trod] at h
  | n + 1, t, cs, x, h => by
    rw [DataW.trod_step] at h ⊢
    exact step_later hb (trod_later hb n) h
theorem trodAll_later (hb : ∀ b, b < w.heap.size → w'.heap[b]? = w.heap[b]?) : ∀ {ts : List TypeId} {vs : List Value} {ds : List (DataW H)} {ps : List MemPlace}, DataW.TrodAll enc P w base spare held ts vs ds ps → DataW.TrodAll enc P w' base spare held ts vs ds ps
  | [], [], [], _, h => h
  | _ :: _, _ :: _, _ :: _, _, ⟨p, q, ⟨n, h1⟩, h2, e⟩ => ⟨p, q, ⟨n, trod_later hb n _ _ _ h1⟩, trodAll_later hb h2, e⟩
end

theorem kidsP : Kids Try.prog (· < Try.prog.types.size) := kids_rows (by kernel_rfl) (by kernel_rfl)
theorem fullP : ∀ t e, t < Try.prog.types.size → Try.prog.underlying t = some (.slice e) → 0 < Try.prog.cellsOf e := slices_full_of Try.prog (by kernel_rfl)

set_option maxRecDepth 100000 in
/-- The last step of any statement that turns nothing that was there, whatever its arguments are: a bool, and below the heap all is as it was. -/
theorem post_bool {H : Type} {enc : TypeId × Value → H} {f : Func} {s : ChangeSpec} {apart fresh handsOn again : Bool} {W W' : World} {args : Array Value} {b : Bool} {ds gs : List (DataW H)} {before : List MemPlace}
    (hW : DataW.Whole enc Try.prog f.params.toList s.vars apart W args.toList ds gs before) (hb : Below W.heap.size W W') (hps : ∀ t ∈ f.params.toList, t < Try.prog.types.size)
    (hA : DataW.TrodAll enc Try.prog W 0 (fun _ => true) true f.params.toList args.toList ds before)
    (hv0 : ∀ sp, DataW.TrodVars enc Try.prog W' sp s.vars (s.fn H (ds ++ gs)).vars [])
    (ha : (s.fn H (ds ++ gs)).args = ds) (hr : (s.fn H (ds ++ gs)).results = [.lit (.bool b)]) (hrt : f.resultTypes = #[4]) :
    s.post enc Try.prog f apart fresh handsOn again W args (.bool b) W' := by
  refine post_still hW hb hv0 (fun sp hsp => ?_) (fun _ _ _ => ?_) ?_
  · rw [ha]
    exact trodAll_later hb.block (DataW.TrodAll.respare kidsP fullP hps hA hsp)
  · rw [hr, hrt]
    exact trodAll_cons_mk (shut_bool Try.underlying4 _) trodAll_mk0
  · exact ok_one hrt rfl (okWide_bool_mk Try.underlying4 _)

end Go.Proofs.Ytkkholagmjcgiaa
