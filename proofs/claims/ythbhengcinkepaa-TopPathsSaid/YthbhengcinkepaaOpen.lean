/- How a statement's row follows from its function's walk: what the call leaves, said by 'nothing below has turned'. · What is read of arguments is read again in a later world in which no block that was there has turned; so every statement's last step, whatever its arguments, asks no more than 'Below'. · How the statements' arguments, lists and lists of lists of integers, lie in memory. -/
import Derived.Test.YthbhengcinkepaaRows
import Derived.WalkKit
import Derived.ProofKit
import Derived.OpenShut
import Derived.Below
import Derived.ChangeSame
import Derived.ReadAgain
import Derived.DataShut
import Derived.Test.YthbhengcinkepaaMem
import Derived.Deep.Matrix
namespace Go.Proofs.Ythbhengcinkepaa
open Go.ChangeShapes Go.WideShapes Go.ChangeAt Go.RowKit

theorem ownNone : ownKnob Try.prog.godebug = none := by kernel_rfl

/-- A call that answers with values of no memory and turns nothing that was there keeps the specification, where its data read as before. -/
theorem post_still {H : Type} {enc : TypeId × Value → H} {P : Program} {f : Func} {s : ChangeSpec} {apart fresh handsOn again : Bool} {W W' : World} {args : Array Value} {v : Value} {ds gs : List (DataW H)} {before : List MemPlace}
    (hW : DataW.Whole enc P f.params.toList s.vars apart W args.toList ds gs before) (hb : Below W.heap.size W W') (hv0 : ∀ sp, DataW.TrodVars enc P W' sp s.vars (s.fn H (ds ++ gs)).vars [])
    (hargs : ∀ sp : Nat → Bool, (∀ p ∈ before, sp p.block = true) → DataW.TrodAll enc P W' 0 sp true f.params.toList args.toList (s.fn H (ds ++ gs)).args before)
    (hres : ∀ (b : Nat) (sp : Nat → Bool) (hd : Bool), DataW.TrodAll enc P W' b sp hd f.resultTypes.toList (v.resultList f.resultTypes.size) (s.fn H (ds ++ gs)).results [])
    (hok : ∀ (j : Nat) (t : TypeId) (r : Value), f.resultTypes[j]? = some t → (v.resultList f.resultTypes.size)[j]? = some r → Value.okWide P W' .any 0 t r) :
    s.post enc P f apart fresh handsOn again W args v W' := by
  have hin : ∀ p ∈ before, p.block < W.heap.size := fun p hp => hW.lt p hp
  have hold : ∀ p ∈ before, (fun b => decide (b < W.heap.size)) p.block = true := fun p hp => decide_eq_true (hin p hp)
  have hall := trodAll_append (hargs (fun _ => true) fun _ _ => rfl) (hres 0 (fun _ => true) true)
  have hz := hW
  obtain ⟨_, _, _, _, _, hz, hn⟩ := hz
  have hmem : ∀ p, p ∈ ([] ++ before) ++ [] → p ∈ before := fun p hp => by simpa using hp
  refine ⟨ds, gs, before, [], before, [], hW, hres _ _ _, hargs _ hold, hv0 _, World.keptBut_mono (fun p hp => ⟨hp, by simpa using hp⟩) (hb.frame (· ∈ before)), fun _ => ⟨hok, _, _, ([] ++ before) ++ [], ⟨[] ++ before, [], hall, hv0 _, rfl, fun b off hp => ?_, fun ha => by simpa using hn ha⟩, fun p hp _ => hmem p hp⟩⟩
  rw [hb.frozen (hin _ (hmem _ hp))]
  exact hz b off (hmem _ hp)

end Go.Proofs.Ythbhengcinkepaa

namespace Go.Proofs.Ythbhengcinkepaa
open Go.ChangeShapes Go.WideShapes Go.ChangeAt Go.RowKit

section
variable {H : Type} {enc : TypeId × Value → H} {P : Program} {w w' : World} {base : Nat} {spare : Nat → Bool} {held : Bool}

theorem cells_later (hb : ∀ b, b < w.heap.size → w'.heap[b]? = w.heap[b]?) {a : Addr} {n : Nat} {cs : List Value} (h : w.cells? base a n = some cs) : w'.cells? base a n = some cs := by
  obtain ⟨h1, h2, h3⟩ := World.cells?_some h
  refine World.cells?_of_each h1 h2 fun i hi => ?_
  rw [← h3 i hi]
  have h0 := h3 i hi
  rw [List.getElem?_eq_getElem (by omega)] at h0
  exact World.cell?_of_block (hb _ (World.block_lt_of_cell? w _ h0))

theorem step_later (hb : ∀ b, b < w.heap.size → w'.heap[b]? = w.heap[b]?) {r r' : TypeId → List Value → Option (DataW H × List MemPlace)} (hr : ∀ t cs x, r t cs = some x → r' t cs = some x) {t : TypeId} {cs : List Value} {x : DataW H × List MemPlace}
    (h : DataW.trodStep enc P w base spare held r t cs = some x) : DataW.trodStep enc P w' base spare held r' t cs = some x := by
  have hel : ∀ (e : TypeId) (a : Addr) (n : Nat) (y : DataW H × List MemPlace), (w.cells? base a n).bind (r e) = some y → (w'.cells? base a n).bind (r' e) = some y := by
    intro e a n y hy
    simp only [Option.bind_eq_some_iff] at hy ⊢
    obtain ⟨c, hc, hy⟩ := hy
    exact ⟨c, cells_later hb hc, hr _ _ _ hy⟩
  unfold DataW.trodStep at h ⊢
  split at h
  case h_6 =>
    rw [Option.map_eq_some_iff] at h ⊢
    obtain ⟨y, hy, e⟩ := h
    exact ⟨y, hel _ _ _ _ hy, e⟩
  case h_8 e a len cap _ =>
    simp only at h ⊢
    split at h
    · rename_i hc
      rw [if_pos hc]
      simp only [Option.map_eq_some_iff, Option.bind_eq_some_iff] at h ⊢
      obtain ⟨elems, he, rest, hrest, e⟩ := h
      refine ⟨elems, mapM_carry he (fun i y _ _ hy => hel _ _ _ _ hy), rest, ?_, e⟩
      split at hrest
      · rename_i hs
        rw [if_pos hs]
        exact mapM_carry hrest (fun i y _ _ hy => hel _ _ _ _ hy)
      · rename_i hs
        rw [if_neg hs]
        exact hrest
    · cases h
  case h_9 =>
    split at h
    · rename_i hc
      rw [if_pos hc]
      rw [Option.map_eq_some_iff] at h ⊢
      obtain ⟨xs, hx, e⟩ := h
      exact ⟨xs, mapM_carry hx (fun f y _ _ hy => hr _ _ _ hy), e⟩
    · cases h
  case h_10 =>
    split at h
    · rename_i hc
      rw [if_pos hc]
      rw [Option.map_eq_some_iff] at h ⊢
      obtain ⟨xs, hx, e⟩ := h
      exact ⟨xs, mapM_carry hx (fun f y _ _ hy => hr _ _ _ hy), e⟩
    · cases h
  case h_12 =>
    split at h
    · rename_i hn
      exact h
    · rename_i hn
      rw [Option.map_eq_some_iff] at h ⊢
      obtain ⟨y, hy, e⟩ := h
      exact ⟨y, hr _ _ _ hy, e⟩
    · cases h
  case h_14 k e b _ =>
    split at h
    · rename_i es clock hm
      have hlt : b < w.heap.size := by
        rcases Nat.lt_or_ge b w.heap.size with h1 | h1
        · exact h1
        · rw [Array.getElem?_eq_none h1] at hm; cases hm
      rw [hb b hlt, hm]
      simp only
      split at h
      · rename_i hc
        rw [if_pos hc]
        simp only [Option.bind_eq_some_iff] at h ⊢
        obtain ⟨entries, he, hd⟩ := h
        refine ⟨entries, mapM_carry he (fun z y _ _ hy => ?_), hd⟩
        simp only [Option.bind_eq_some_iff] at hy ⊢
        obtain ⟨key, hk, hz⟩ := hy
        refine ⟨key, hk, ?_⟩
        split at hz
        · rename_i hf
          rw [if_pos hf]
          rw [Option.map_eq_some_iff] at hz ⊢
          obtain ⟨q, hq, e⟩ := hz
          exact ⟨q, hr _ _ _ hq, e⟩
        · cases hz
      · cases h
    · cases h
  all_goals first
    | exact h
    | cases h

theorem trod_later (hb : ∀ b, b < w.heap.size → w'.heap[b]? = w.heap[b]?) : ∀ (n : Nat) (t : TypeId) (cs : List Value) (x : DataW H × List MemPlace), DataW.trod enc P w base spare held n t cs = some x → DataW.trod enc P w' base spare held n t cs = some x
  | 0, _, _, _, h => by simp [DataW.trod] at h
  | n + 1, t, cs, x, h => by
    rw [DataW.trod_step] at h ⊢
    exact step_later hb (trod_later hb n) h
theorem trodAll_later (hb : ∀ b, b < w.heap.size → w'.heap[b]? = w.heap[b]?) : ∀ {ts : List TypeId} {vs : List Value} {ds : List (DataW H)} {ps : List MemPlace}, DataW.TrodAll enc P w base spare held ts vs ds ps → DataW.TrodAll enc P w' base spare held ts vs ds ps
  | [], [], [], _, h => h
  | _ :: _, _ :: _, _ :: _, _, ⟨p, q, ⟨n, h1⟩, h2, e⟩ => ⟨p, q, ⟨n, trod_later hb n _ _ _ h1⟩, trodAll_later hb h2, e⟩
end

theorem kidsP : Kids Try.prog (· < Try.prog.types.size) := kids_rows (by kernel_rfl) (by kernel_rfl)
theorem fullP : ∀ t e, t < Try.prog.types.size → Try.prog.underlying t = some (.slice e) → 0 < Try.prog.cellsOf e := slices_full_of Try.prog (by kernel_rfl)

set_option maxRecDepth 100000 in
/-- The last step of any statement that turns nothing that was there, whatever its arguments are: a bool, and below the heap all is as it was. -/
theorem post_bool {H : Type} {enc : TypeId × Value → H} {f : Func} {s : ChangeSpec} {apart fresh handsOn again : Bool} {W W' : World} {args : Array Value} {b : Bool} {ds gs : List (DataW H)} {before : List MemPlace}
    (hW : DataW.Whole enc Try.prog f.params.toList s.vars apart W args.toList ds gs before) (hb : Below W.heap.size W W') (hps : ∀ t ∈ f.params.toList, t < Try.prog.types.size)
    (hA : DataW.TrodAll enc Try.prog W 0 (fun _ => true) true f.params.toList args.toList ds before)
    (hv0 : ∀ sp, DataW.TrodVars enc Try.prog W' sp s.vars (s.fn H (ds ++ gs)).vars [])
    (ha : (s.fn H (ds ++ gs)).args = ds) (hr : (s.fn H (ds ++ gs)).results = [.lit (.bool b)]) (hrt : f.resultTypes = #[4]) :
    s.post enc Try.prog f apart fresh handsOn again W args (.bool b) W' := by
  refine post_still hW hb hv0 (fun sp hsp => ?_) (fun _ _ _ => ?_) ?_
  · rw [ha]
    exact trodAll_later hb.block (DataW.TrodAll.respare kidsP fullP hps hA hsp)
  · rw [hr, hrt]
    exact trodAll_cons_mk (shut_bool Try.underlying4 _) trodAll_mk0
  · exact ok_one hrt rfl (okWide_bool_mk Try.underlying4 _)

end Go.Proofs.Ythbhengcinkepaa

namespace Go.Proofs.Ythbhengcinkepaa
open Go.ChangeShapes Go.WideShapes Go.ChangeAt Go.RowKit Go.Deep

theorem Try.cells3 : Try.prog.cellsOf 3 = 1 := by kernel_rfl
theorem Try.cells47 : Try.prog.cellsOf 47 = 1 := by kernel_rfl

/-- Cells that hold integers are a list to be read. -/
theorem rints_of_cells {w : World} {a : Addr} {zs : List Int} {n : Nat} (h : ∀ i, i < zs.length → w.cell? (a.add i) = some (.int .i64 (zs.getD i 0))) : RInts w w.heap.size (some a) (zs.take n) := fun j u hu => by
  rw [List.getElem?_map] at hu
  obtain ⟨x, hx, rfl⟩ := Option.map_eq_some_iff.1 hu
  rw [List.getElem?_take] at hx
  split at hx
  · have hj : j < zs.length := (List.getElem?_eq_some_iff.1 hx).1
    obtain ⟨b, off, rfl, hc⟩ := ints_at h (by omega)
    have h2 := hc j hj
    have e : zs.getD j 0 = x := by simp [List.getD, hx]
    rw [e] at h2
    exact ⟨b, off, rfl, World.block_lt_of_cell? w _ h2, h2⟩
  · cases hx

section
variable {H : Type} {enc : TypeId × Value → H} {W : World} {base : Nat} {v : Value} {d : DataW H} {p : List MemPlace}

set_option maxRecDepth 100000 in
/-- An argument of type []int. -/
theorem open_die (hv : Value.okWide Try.prog W .any base 47 v) (h : DataW.Trod enc Try.prog W 0 (fun _ => true) true 47 v d p) :
    ∃ (A : Option Addr) (zs : List Int) (c : Nat), v = .slice A zs.length c ∧ zs.length ≤ c ∧ zs.length ≤ 9223372036854775807 ∧ RInts W W.heap.size A zs := by
  obtain ⟨a0, len, cap, rfl⟩ := okWide_slice Try.underlying47 hv
  obtain ⟨fuel, hf⟩ := h
  rcases open_ints Try.underlying47 Try.underlying3 Try.cells3 hf with ⟨hcs, _⟩ | ⟨a, len', cap', zs, hcs, _, hl, hm, hz, _, hcell, _⟩
  · have e : Value.slice a0 len cap = .slice none 0 0 := (List.cons.inj hcs).1
    rw [e]
    exact ⟨none, [], 0, rfl, Nat.zero_le _, by simp, RInts.nil_⟩
  · have e : Value.slice a0 len cap = .slice (some a) len' cap' := (List.cons.inj hcs).1
    rw [e]
    simp only [if_true] at hz
    have hlz : (zs.take len').length = len' := by rw [List.length_take]; omega
    unfold maxLen at hm
    exact ⟨some a, zs.take len', cap', by rw [hlz], by omega, by omega, rints_of_cells hcell⟩

set_option maxRecDepth 100000 in
/-- An argument of type [][]int. -/
theorem open_dice (hv : Value.okWide Try.prog W .any base 79 v) (h : DataW.Trod enc Try.prog W 0 (fun _ => true) true 79 v d p) :
    ∃ (A : Option Addr) (ds : List (List Int)) (c : Nat), v = .slice A ds.length c ∧ ds.length ≤ c ∧ ds.length ≤ 9223372036854775807 ∧ RDice W W.heap.size A ds ∧ ∀ x ∈ ds, x.length ≤ 9223372036854775807 := by
  obtain ⟨a0, len, cap, rfl⟩ := okWide_slice Try.underlying79 hv
  obtain ⟨fuel, hf⟩ := h
  rcases open_int_rows Try.underlying79 Try.underlying47 Try.underlying3 Try.cells47 Try.cells3 hf with ⟨hcs, _⟩ | ⟨a, len', cap', A, L, C, Z, hcs, _, hl, hm, _, hrow⟩
  · have e : Value.slice a0 len cap = .slice none 0 0 := (List.cons.inj hcs).1
    rw [e]
    exact ⟨none, [], 0, rfl, Nat.zero_le _, by simp, RDice.nil_, fun x hx => by cases hx⟩
  · have e : Value.slice a0 len cap = .slice (some a) len' cap' := (List.cons.inj hcs).1
    rw [e]
    unfold maxLen at hm
    have hds : ((List.range len').map fun r => (Z r).take (L r)).length = len' := by simp
    have hzl : ∀ r, r < len' → ((Z r).take (L r)).length = L r := fun r hr => by
      obtain ⟨_, h2, _, h4, _⟩ := hrow r (by omega)
      rw [List.length_take]
      omega
    refine ⟨some a, (List.range len').map fun r => (Z r).take (L r), cap', by rw [hds], by omega, by omega, ⟨(List.range len').map fun r => .slice (A r) (L r) (C r), by simp, fun j u hu => ?_, fun i v x hv hx => ?_⟩, fun x hx => ?_⟩
    · rw [List.getElem?_map] at hu
      obtain ⟨r, hr, rfl⟩ := Option.map_eq_some_iff.1 hu
      obtain ⟨hj, rfl⟩ : j < len' ∧ r = j := by
        obtain ⟨h1, h2⟩ := List.getElem?_eq_some_iff.1 hr
        simp at h1 h2
        exact ⟨h1, h2.symm⟩
      have h0 := (hrow 0 (by omega)).1
      have h1 := (hrow r (by omega)).1
      obtain ⟨b, off, spot⟩ := a
      have hspot : spot = none := by simpa [Addr.add] using World.cell?_spot h0
      subst hspot
      rw [add_plain] at h1
      exact ⟨b, off, rfl, World.block_lt_of_cell? W _ h1, h1⟩
    · rw [List.getElem?_map] at hv hx
      obtain ⟨r, hr, rfl⟩ := Option.map_eq_some_iff.1 hv
      obtain ⟨r', hr', rfl⟩ := Option.map_eq_some_iff.1 hx
      rw [hr] at hr'
      cases hr'
      have hj : r < len' := by
        obtain ⟨h1, h2⟩ := List.getElem?_eq_some_iff.1 hr
        simp at h1 h2
        omega
      obtain ⟨h1, h2, h3, h4, h5, h6, h7⟩ := hrow r (by omega)
      refine ⟨A r, C r, by rw [hzl r hj], by rw [hzl r hj]; exact h2, ?_⟩
      cases hA : A r with
      | none =>
        have h0 := h6 hA
        have hn : (Z r).take (L r) = [] := List.eq_nil_of_length_eq_zero (by rw [hzl r hj]; omega)
        rw [hn]
        exact RInts.nil_
      | some a' => exact rints_of_cells (fun i hi => (h7 a' hA).2 i (by omega))
    · obtain ⟨r, hr, rfl⟩ := List.mem_map.1 hx
      have hj : r < len' := List.mem_range.1 hr
      obtain ⟨_, h2, h3, _⟩ := hrow r (by omega)
      unfold maxLen at h3
      rw [hzl r hj]
      omega
end

end Go.Proofs.Ythbhengcinkepaa
