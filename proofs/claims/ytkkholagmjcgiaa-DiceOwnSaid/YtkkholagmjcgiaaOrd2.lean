/- The function orders of package dice, and what the iterator that it returns promises: the results without a repetition. · What the iterator of orders promises: the results without a repetition. -/
import Derived.Test.YtkkholagmjcgiaaRepeat
import Derived.Test.YtkkholagmjcgiaaRises
namespace Go.Proofs.Ytkkholagmjcgiaa
open Go.RowKit Go.Shelf

theorem OwnV.of {w : World} {g k : Nat} {zs : List Int} (h : OwnR w g k zs) : OwnV w (.slice (some ⟨g, 0, none⟩) zs.length k) zs := h
theorem OwnV.len1 {w : World} {g k n : Nat} {zs : List Int} (h : OwnR w g k zs) (e : zs.length = n) : OwnV w (.slice (some ⟨g, 0, none⟩) n k) zs := by subst e; exact h

set_option maxRecDepth 100000 in
set_option maxHeartbeats 2000000 in
theorem orders_any (n : Nat) (w : World) (hn : n ≤ 1000) :
    Calls Try.prog 66 #[.int .i64 n] w fun e w' => e = .returned (.func (.func 93) #[] #[.pointer (some ⟨w.heap.size + 1, 0, none⟩), .pointer (some ⟨w.heap.size, 0, none⟩)]) ∧
      Box w' w.heap.size 3 #[.int .i64 n] ∧ (∃ v, Box w' (w.heap.size + 1) 36 #[v] ∧ OwnV w' v (evK n) ∧ ∀ b, v.ownBlock = some b → w.heap.size ≤ b) ∧ Below w.heap.size w w' := by
  go_enter Try.func66, Try.ntmps66
  go_wp2_with fail
  obtain ⟨w0, hw0⟩ : ∃ w0, (w.alloc (Obj.cells #[Value.int .i64 n] 3)).alloc (Obj.cells #[Value.slice none 0 0] 36) = w0 := ⟨_, rfl⟩
  have hB0 : Below w.heap.size w w0 := by rw [← hw0]; exact ((Below.refl _ w).alloc (Nat.le_refl _) _).alloc (by simp) _
  have hbt0 : Box w0 w.heap.size 3 #[.int .i64 n] := by rw [← hw0]; exact (Box.new w _ _).alloc _
  have hbl0 : Box w0 (w.heap.size + 1) 36 #[.slice none 0 0] := by
    rw [← hw0]
    have := Box.new (w.alloc (Obj.cells #[Value.int .i64 n] 3)) 36 #[.slice none 0 0]
    simpa using this
  rw [hw0]
  clear hw0
  go_loopg [6] n (fun g i wx => ∃ (k : Nat) (v : Value), k + g = n ∧ i = .int .i64 k ∧ Box wx w.heap.size 3 #[.int .i64 n] ∧ Box wx (w.heap.size + 1) 36 #[v] ∧ OwnV wx v (evK k) ∧ (∀ b, v.ownBlock = some b → w.heap.size + 1 < b) ∧ Below w.heap.size w wx)
  case atStart => exact ⟨0, _, by omega, rfl, hbt0, hbl0, OwnV.nil_ _, (fun b hb => by cases hb), hB0⟩
  case round =>
    clear hbt0 hbl0 hB0
    obtain ⟨k, v, hkg, rfl, hbt, hbl, hv, hvb, hB⟩ := hrel
    have ct := hbt.cell 0
    have cl := hbl.cell 0
    have fl := hbl.free 0
    simp only [List.getElem?_toArray, List.getElem?_cons_zero] at ct cl
    have ltl := hbl.lt
    cases gk with
    | succ g =>
      have hki : (k : Int) < (n : Int) := by omega
      have hcn : ∀ (o : Value), (wr.alloc (Obj.cells #[o] 3)).cell? ⟨wr.heap.size, 0, none⟩ = some o := fun o => (Box.new wr 3 #[o]).cell 0
      have HCN := Lib.hid hcn
      have hlk : (evK k).length = k := by simp [evK]
      have HV := Lib.hid hv
      have HLK := Lib.hid hlk
      have HBL := Lib.hid hbl
      have HBT := Lib.hid hbt
      clear hcn hlk hv hbl hbt
      go_wp2_with (first
        | (at_builtin; refine wpList_app0 _ rfl _ _ rfl (World.ownsRow.alloc HV.out _) rfl wr.heap.size 1 k rfl (HCN.out _) (by rw [HLK.out]; omega) ?_; intro gn kn w4 hown4 hg4 hat4; have hb4 : Box w4 (w.heap.size + 1) 36 #[v] := (HBL.out.alloc _).grown hg4 (fun e => HV.out.ne_box HBL.out (by decide) e.symm); have cl4 := hb4.cell 0; have fl4 := hb4.free 0; simp only [List.getElem?_toArray, List.getElem?_cons_zero] at cl4))
      have hne : w.heap.size ≠ w.heap.size + 1 := by omega
      have hs4 := hg4.size
      have hsz : (wr.alloc (Obj.cells #[Value.int .i64 (k : Int)] 3)).heap.size = wr.heap.size + 1 := by simp
      have hgnb : w.heap.size + 1 < gn := by
        rcases hat4 with h1 | h1
        · exact hvb _ h1
        · rw [h1, hsz]
          omega
      have HR := Lib.hid (show Box (w4.setCell ⟨w.heap.size + 1, 0, none⟩ (.slice (some ⟨gn, 0, none⟩) ((evK k).length + 1) kn)) w.heap.size 3 #[.int .i64 n] from
        ((HBT.out.alloc _).grown hg4 (fun e => by have := hvb _ e.symm; omega)).far hne _)
      have HL := Lib.hid (hb4.put 0 (.slice (some ⟨gn, 0, none⟩) ((evK k).length + 1) kn))
      have HO := Lib.hid (show OwnV (w4.setCell ⟨w.heap.size + 1, 0, none⟩ (.slice (some ⟨gn, 0, none⟩) ((evK k).length + 1) kn)) (.slice (some ⟨gn, 0, none⟩) ((evK k).length + 1) kn) (evK (k + 1)) from by
        have h1 := hown4.far (p := ⟨w.heap.size + 1, 0, none⟩) (hown4.ne_box hb4 (by decide)) (.slice (some ⟨gn, 0, none⟩) ((evK k).length + 1) kn)
        rw [← evK_snoc] at h1
        unfold OwnV
        have h2 : (evK (k + 1)).length = (evK k).length + 1 := by rw [evK_snoc]; simp
        rw [h2]
        unfold OwnR at h1
        rw [h2] at h1
        exact h1)
      have HB4 := Lib.hid (show Below w.heap.size w (w4.setCell ⟨w.heap.size + 1, 0, none⟩ (.slice (some ⟨gn, 0, none⟩) ((evK k).length + 1) kn)) from
        ((hB.alloc hB.size _).grown hg4 (by have := hB.size; rw [hsz]; omega) (fun j hj => by have := hvb _ hj; omega)).setCell (p := ⟨w.heap.size + 1, 0, none⟩) (by show w.heap.size ≤ w.heap.size + 1; omega) _)
      clear hat4 hg4 hown4 hb4
      go_roundg g
      case measure => omega
      case rel => exact ⟨k + 1, _, by omega, by go_num, HR.out, HL.out, HO.out, (fun b hb => by have e : gn = b := (by simpa [Value.ownBlock] using hb); omega), HB4.out⟩
    | zero =>
      obtain rfl : k = n := by omega
      have HB := Lib.hid hB
      have HBT := Lib.hid hbt
      have HBL := Lib.hid hbl
      have HV := Lib.hid hv
      have HVB := Lib.hid hvb
      clear hB hbt hbl hv hvb
      go_wp2_with fail
      go_ret
      exact ⟨rfl, HBT.out, ⟨v, HBL.out, HV.out, fun b hb => by have := HVB.out b hb; omega⟩, HB.out⟩

/-- The orders of n indices, in the order of lists. -/
def ordersL (n : Nat) : List (List Int) := (rollL (List.replicate n (evK n)) []).filter fun l => !repeatsL l

theorem RoundIn.inRound {m m' l₀ : Nat} {P : Program} {l : Nat} {f : FuncId} {tmps : Array Value} {assign body : Code} {w : World} {R : Ending → World → Prop}
    (h : RoundIn Fence.wide m P l f tmps assign body w R) : RoundIn (Fence.wide.inRound l₀) m' P l f tmps assign body w R := ⟨h.1, fun c cs _ => h.2 c cs (room_wide _)⟩

end Go.Proofs.Ytkkholagmjcgiaa

namespace Go.Proofs.Ytkkholagmjcgiaa
open Go.RowKit Go.Shelf

/-- THE STATEMENT IN A FUNCTION'S OWN CODE; behind it the bound lies above the loop's two blocks. -/
theorem rangeNowZ {P : Program} {n m : Nat} {g : Operand} {p0 : Tmp} {assign body : Code} {Q : Exit → Act → World → Prop} {a : Act} {w : World} {gf : Nat} {lb : Array Value}
    (hg : a.eval g = .func (.func gf) #[] lb) (eg : ∀ args w, (callFunc gf args).run P w = .ok (.enter gf args) w)
    {D : Nat → Prop} {all : List (List Int)} (hD : ∀ b, D b → b < w.heap.size)
    (hseq : ∀ W1, Below w.heap.size w W1 → SeqNow P gf lb D all W1)
    (I : Nat → List (List Int) → World → Prop)
    (hI0 : ∀ z W, Below w.heap.size w W → w.heap.size ≤ z → z ≤ W.heap.size → I z [] W)
    (hI : ∀ z pre W W', I z pre W → Turn (fun b => w.heap.size ≤ b ∧ b < z) W W' → I z pre W')
    (hround : ∀ l z pre x v W, I z pre W → Now v x W → pre ++ [x] <+: all → w.heap.size ≤ l → l < z → (∃ r, W.heap[l]? = some (.loop r)) →
      assign.wpIn (Fence.wide.inRound l) m P (Exit.then (fun a₁ W₁ => Turn (fun b => ¬ (D b ∨ (w.heap.size ≤ b ∧ b < z))) W W₁ ∧ ∀ W₂, Turn (fun b => b = l) W₁ W₂ → (∃ r, W₂.heap[l]? = some (.loop r)) →
        body.wpIn (Fence.wide.inRound l) m P (goesOn fun W₃ => I z (pre ++ [x]) W₃ ∧ Turn (fun b => ¬ (D b ∨ (w.heap.size ≤ b ∧ b < z))) W₂ W₃) a₁ W₂) (fun _ _ _ => False))
        { tmps := a.tmps.setIfInBounds p0 v, defers := [] } W)
    (hdone : ∀ z W, I z all W → w.heap.size + 2 ≤ z → W.heap[w.heap.size]? = some (.deferred (some [])) → Q .normal { a with defers := { target := .collected w.heap.size, args := #[] } :: a.defers } W) :
    (Code.rangeFunc g #[p0] assign body).wpIn Fence.wide n P Q a w := by
  have hkey : ∀ (W : World) (o1 o2 : Obj), Below w.heap.size w ((w.alloc o1).alloc o2) := fun W o1 o2 => ((Below.refl _ w).alloc (Nat.le_refl _) _).alloc (by simp) _
  refine rangeNow_core (.inl rfl) hg eg (w.heap.size + 1) (w.heap.size + 2) [{ target := .collected w.heap.size, args := #[] }] w.heap.size
    (fun fn => (w.alloc (.deferred (some []))).alloc (.loop { state := .ready, pending := none, fn, tmps := a.tmps, params := #[p0], assign, body, defers := w.heap.size })) (by omega)
    (fun fn => run_enterLoop_outer _ _ _ _ _) (fun fn => ?_) (fun fn => by simp) (fun fn => hseq _ (hkey w _ _)) (fun h => by have := hD _ h; omega)
    (fun z pre W => (I z pre W ∧ w.heap.size + 2 ≤ z) ∧ W.heap[w.heap.size]? = some (.deferred (some []))) ?_ ?_ (m := m) ?_ ?_
  · have := World.alloc_heap_new (w.alloc (.deferred (some []))) (.loop { state := .ready, pending := none, fn, tmps := a.tmps, params := #[p0], assign, body, defers := w.heap.size })
    rwa [World.size_alloc] at this
  · intro fn z W hb hz1 hz2
    refine ⟨⟨hI0 z W ((hkey w _ _).trans (hb.mono (by omega))) (by omega) hz2, hz1⟩, (hb.block _ (by omega)).trans ((Below.heap_alloc _ _ _ (by simp)).trans (World.alloc_heap_new w _))⟩
  · rintro z pre W W' ⟨⟨hi, hz⟩, hk⟩ hT
    exact ⟨⟨hI z pre W W' hi (hT.imp fun i _ h => by omega), hz⟩, (hT.2 _ (Array.getElem?_eq_some_iff.1 hk).1 (by omega)).trans hk⟩
  · rintro z pre x v W ⟨⟨hi, hz⟩, hk⟩ hnow hpre hl
    refine wpIn_mono (hround (w.heap.size + 1) z pre x v W hi hnow hpre (by omega) (by omega) hl) ?_
    rintro e a₁ W₁ hp
    cases e with
    | normal =>
      obtain ⟨hT1, hb⟩ := hp
      have hk1 := (hT1.2 _ (Array.getElem?_eq_some_iff.1 hk).1 (fun h => h (.inr ⟨Nat.le_refl _, by omega⟩))).trans hk
      refine ⟨hT1.imp (fun i _ h h2 => h2.elim (fun e => h (.inr ⟨by omega, by omega⟩)) (fun h3 => h3.elim (fun d => h (.inl d)) (fun e => h (.inr ⟨by omega, by omega⟩)))), fun W₂ hT2 hl2 => wpIn_mono (hb W₂ hT2 hl2) ?_⟩
      have hk2 := (hT2.2 _ (Array.getElem?_eq_some_iff.1 hk1).1 (by omega)).trans hk1
      rintro e3 a3 W3 hp3
      cases e3 with
      | normal => exact ⟨⟨⟨hp3.1, hz⟩, (hp3.2.2 _ (Array.getElem?_eq_some_iff.1 hk2).1 (fun h => h (.inr ⟨Nat.le_refl _, by omega⟩))).trans hk2⟩, hp3.2.imp (fun i _ h h2 => h2.elim (fun e => h (.inr ⟨by omega, by omega⟩)) (fun h3 => h3.elim (fun d => h (.inl d)) (fun e => h (.inr ⟨by omega, by omega⟩))))⟩
      | _ => exact hp3.elim
    | _ => exact hp.elim
  · rintro z W ⟨⟨hi, hz⟩, hk⟩
    exact hdone z W hi hz hk

/-- THE STATEMENT WITHIN A ROUND. -/
theorem rangeNowZ_in {P : Program} {l₀ : Nat} {r₀ : Loop} {n m : Nat} {g : Operand} {p0 : Tmp} {assign body : Code} {Q : Exit → Act → World → Prop} {a : Act} {w : World} {gf : Nat} {lb : Array Value}
    (hl₀ : w.heap[l₀]? = some (.loop r₀)) (hg : a.eval g = .func (.func gf) #[] lb) (eg : ∀ args w, (callFunc gf args).run P w = .ok (.enter gf args) w)
    {D : Nat → Prop} {all : List (List Int)} (hD : ∀ b, D b → b < w.heap.size)
    (hseq : ∀ W1, Below w.heap.size w W1 → SeqNow P gf lb D all W1)
    (I : Nat → List (List Int) → World → Prop)
    (hI0 : ∀ z W, Below w.heap.size w W → w.heap.size ≤ z → z ≤ W.heap.size → I z [] W)
    (hI : ∀ z pre W W', I z pre W → Turn (fun b => w.heap.size ≤ b ∧ b < z) W W' → I z pre W')
    (hround : ∀ l z pre x v W, I z pre W → Now v x W → pre ++ [x] <+: all → w.heap.size ≤ l → l < z → (∃ r, W.heap[l]? = some (.loop r)) →
      assign.wpIn (Fence.wide.inRound l) m P (Exit.then (fun a₁ W₁ => Turn (fun b => ¬ (D b ∨ (w.heap.size ≤ b ∧ b < z))) W W₁ ∧ ∀ W₂, Turn (fun b => b = l) W₁ W₂ → (∃ r, W₂.heap[l]? = some (.loop r)) →
        body.wpIn (Fence.wide.inRound l) m P (goesOn fun W₃ => I z (pre ++ [x]) W₃ ∧ Turn (fun b => ¬ (D b ∨ (w.heap.size ≤ b ∧ b < z))) W₂ W₃) a₁ W₂) (fun _ _ _ => False))
        { tmps := a.tmps.setIfInBounds p0 v, defers := [] } W)
    (hdone : ∀ z W, I z all W → w.heap.size + 1 ≤ z → Q .normal a W) :
    (Code.rangeFunc g #[p0] assign body).wpIn (Fence.wide.inRound l₀) n P Q a w := by
  have hkey : ∀ (o1 : Obj), Below w.heap.size w (w.alloc o1) := fun o1 => (Below.refl _ w).alloc (Nat.le_refl _) _
  refine rangeNow_core (.inr ⟨l₀, rfl⟩) hg eg w.heap.size (w.heap.size + 1) [] r₀.defers
    (fun fn => w.alloc (.loop { state := .ready, pending := none, fn, tmps := a.tmps, params := #[p0], assign, body, defers := r₀.defers })) (by omega)
    (fun fn => run_enterLoop_inner hl₀ _ _ _ _ _) (fun fn => World.alloc_heap_new w _) (fun fn => by simp) (fun fn => hseq _ (hkey _)) (fun h => by have := hD _ h; omega)
    (fun z pre W => I z pre W ∧ w.heap.size + 1 ≤ z) ?_ ?_ (m := m) ?_ ?_
  · intro fn z W hb hz1 hz2
    exact ⟨hI0 z W ((hkey _).trans (hb.mono (by omega))) (by omega) hz2, hz1⟩
  · rintro z pre W W' ⟨hi, hz⟩ hT
    exact ⟨hI z pre W W' hi (hT.imp fun i _ h => by omega), hz⟩
  · rintro z pre x v W ⟨hi, hz⟩ hnow hpre hl
    refine wpIn_mono (hround w.heap.size z pre x v W hi hnow hpre (by omega) (by omega) hl) ?_
    rintro e a₁ W₁ hp
    cases e with
    | normal =>
      obtain ⟨hT1, hb⟩ := hp
      refine ⟨hT1.imp (fun i _ h h2 => h2.elim (fun e => h (.inr ⟨by omega, by omega⟩)) (fun h3 => h3.elim (fun d => h (.inl d)) (fun e => h (.inr ⟨by omega, by omega⟩)))), fun W₂ hT2 hl2 => wpIn_mono (hb W₂ hT2 hl2) ?_⟩
      rintro e3 a3 W3 hp3
      cases e3 with
      | normal => exact ⟨⟨hp3.1, hz⟩, hp3.2.imp (fun i _ h h2 => h2.elim (fun e => h (.inr ⟨by omega, by omega⟩)) (fun h3 => h3.elim (fun d => h (.inl d)) (fun e => h (.inr ⟨by omega, by omega⟩))))⟩
      | _ => exact hp3.elim
    | _ => exact hp.elim
  · rintro z W ⟨hi, hz⟩
    exact hdone z W hi hz


attribute [local go_sem] Oper.semAt_some

theorem ordersL_prefix {pre : List (List Int)} {x : List Int} {n : Nat} (h : pre ++ [x] <+: rollL (List.replicate n (evK n)) []) (hx : repeatsL x = false) : pre.filter (fun l => !repeatsL l) ++ [x] <+: ordersL n := by
  have h1 := h.filter (fun l => !repeatsL l)
  rw [List.filter_append] at h1
  unfold ordersL
  simpa [hx] using h1
theorem filter_more {pre : List (List Int)} {x : List Int} : (pre ++ [x]).filter (fun l => !repeatsL l) = if repeatsL x then pre.filter (fun l => !repeatsL l) else pre.filter (fun l => !repeatsL l) ++ [x] := by
  rw [List.filter_append]
  cases h : repeatsL x <;> simp [h]

set_option maxRecDepth 100000 in
set_option maxHeartbeats 4000000 in
theorem orders_seq (Bn Bi n : Nat) (v : Value) (D : Nat → Prop) (W1 : World) (hbn : Box W1 Bn 3 #[.int .i64 n]) (hbi : Box W1 Bi 36 #[v]) (hv : OwnV W1 v (evK n)) (_ : D Bn) (_ : D Bi) (hDv : ∀ b, v.ownBlock = some b → D b) (hDs : ∀ b, D b → b < W1.heap.size) (hn1 : 1 ≤ n) (hn : n ≤ 6) :
    SeqNow Try.prog 93 #[.pointer (some ⟨Bi, 0, none⟩), .pointer (some ⟨Bn, 0, none⟩)] D (ordersL n) W1 := by
  intro l J hJ0 hJ hY
  have hle : (evK n).length = n := by simp [evK]
  obtain ⟨gv, kv, rfl, how⟩ := hv.form (by omega)
  have c1 := hbi.cell 0
  have c2 := hbn.cell 0
  simp only [List.getElem?_toArray, List.getElem?_cons_zero] at c1 c2
  have hlti := hbi.lt
  have hltn := hbn.lt
  have HJ0 := Lib.hid hJ0
  have HJ := Lib.hid hJ
  have HY := Lib.hid hY
  have HDS := Lib.hid hDs
  have HDV := Lib.hid (hDv gv rfl)
  have HOW := Lib.hid how
  rw [hle] at c1
  have HLE := Lib.hid hle
  clear hJ0 hJ hY hDs hDv how hv hle hbn hbi
  refine (callsIn_wide (n := 3)).1 ?_
  refine callsIn_of_wp_marks Try.func93 rfl trivial ?_ rfl
  simp only [Try.ntmps93, List.size_toArray, List.length_cons, List.length_nil, Nat.reduceAdd, Nat.reduceSub, Array.replicate_succ, Array.replicate_zero, List.push_toArray, List.append_toArray, List.nil_append, List.cons_append]
  gi_wp2
  obtain ⟨wA, hwA⟩ : ∃ wA, (W1.alloc (Obj.cells #[Value.func (Fn.yield l) #[] #[]] 78)).alloc (Obj.cells #[Value.slice (some ⟨gv, 0, none⟩) n kv] 36) = wA := ⟨_, rfl⟩
  have hsA : wA.heap.size = W1.heap.size + 2 := by rw [← hwA]; simp
  have HBA := Lib.hid (show Below W1.heap.size W1 wA from by rw [← hwA]; exact ((Below.refl _ W1).alloc (Nat.le_refl _) _).alloc (by simp) _)
  have hyA : Box wA W1.heap.size 78 #[Value.func (Fn.yield l) #[] #[]] := by rw [← hwA]; exact (Box.new W1 _ _).alloc _
  have hsAb : Box wA (W1.heap.size + 1) 36 #[Value.slice (some ⟨gv, 0, none⟩) n kv] := by
    rw [← hwA]
    have := Box.new (W1.alloc (Obj.cells #[Value.func (Fn.yield l) #[] #[]] 78)) 36 #[Value.slice (some ⟨gv, 0, none⟩) n kv]
    simpa using this
  rw [hwA]
  clear hwA
  have HCR := Lib.hid (Repeat_any (W1.heap.size + 1) 1 n (Value.slice (some ⟨gv, 0, none⟩) n kv) wA (by have := hsAb.cell 0; simpa using this) rfl (by omega) hn1 (by omega))
  have HYA := Lib.hid hyA
  clear hyA hsAb
  refine ⟨trivial, (callsIn_wide.2 HCR.out).mono ?_⟩
  rintro e wB ⟨rfl, hrb, hbB⟩
  rw [hsA] at hrb
  have HRB := Lib.hid hrb
  have HBB := Lib.hid hbB
  clear hrb hbB
  gi_wp2
  refine ⟨trivial, (callsIn_wide.2 (results_any _ _ _ _)).mono ?_⟩
  rintro e w' ⟨rfl, rfl⟩
  gi_wp2
  obtain ⟨w4, hw4⟩ : ∃ w4, wB.alloc (Obj.cells #[Value.slice (some ⟨W1.heap.size + 2, 0, none⟩) n n] 22) = w4 := ⟨_, rfl⟩
  have hszB := HBB.out.size
  have hs4 : w4.heap.size = wB.heap.size + 1 := by rw [← hw4]; simp
  have HB4 := Lib.hid (show Below W1.heap.size W1 w4 from by
    rw [← hw4]
    exact (HBA.out.trans (HBB.out.mono (by omega))).alloc (by omega) _)
  have HY4 := Lib.hid (show Box w4 W1.heap.size 78 #[Value.func (Fn.yield l) #[] #[]] from by
    rw [← hw4]
    exact (HYA.out.below HBB.out (by omega)).alloc _)
  have HR4 := Lib.hid (show Box w4 (W1.heap.size + 2) 36 (List.replicate n (Value.slice (some ⟨gv, 0, none⟩) n kv)).toArray from by
    rw [← hw4]
    exact HRB.out.alloc _)
  have HD4 := Lib.hid (show Box w4 wB.heap.size 22 #[Value.slice (some ⟨W1.heap.size + 2, 0, none⟩) n n] from by
    rw [← hw4]
    exact Box.new _ _ _)
  have HO4 := Lib.hid (show OwnR w4 gv kv (evK n) from HOW.out.below HB4.out HOW.out.lt)
  rw [hw4]
  clear hw4 HRB HBB HBA HYA HCR
  refine rangeNowZ (m := 1) (gf := 96) (lb := #[.pointer (some ⟨wB.heap.size, 0, none⟩)]) rfl (enters_of Try.func96 (by kernel_rfl) rfl)
    (D := fun b => D b ∨ W1.heap.size ≤ b ∧ b < w4.heap.size) (all := rollL (List.replicate n (evK n)) []) (fun i hi => hi.elim (fun h => by have := HDS.out i h; have := HB4.out.size; omega) (fun h => h.2)) ?hseq
    (fun z pre W => J z (pre.filter fun l => !repeatsL l) W ∧ Box W W1.heap.size 78 #[Value.func (Fn.yield l) #[] #[]]) ?hI0 ?hI ?hround ?hdone
  case hseq =>
    intro W5 hb5
    have hl5 := hb5.size
    have e1 : (List.replicate n (evK n)).length = n := by simp
    refine results_seq wB.heap.size n (some ⟨W1.heap.size + 2, 0, none⟩) (List.replicate n (evK n)) _ W5 (by rw [e1]; exact HD4.out.below hb5 (by omega)) ?_ (.inr ⟨by omega, by omega⟩) (fun i hi => ?_) ?_ (by simp; omega)
    · refine ⟨List.replicate n (Value.slice (some ⟨gv, 0, none⟩) n kv), by simp, fun j u hu => ?_, fun i v d hv hd => ?_⟩
      · refine ⟨W1.heap.size + 2, 0, rfl, .inr ⟨by omega, by omega⟩, by omega, ?_⟩
        rw [Nat.zero_add, (HR4.out.below hb5 (by omega)).cell j]
        rw [List.getElem?_toArray]
        exact hu
      · have hv := List.eq_of_mem_replicate (List.mem_of_getElem? hv)
        have hd := List.eq_of_mem_replicate (List.mem_of_getElem? hd)
        subst hv hd
        refine ⟨some ⟨gv, 0, none⟩, kv, by rw [HLE.out], fun j u hu => ?_⟩
        obtain ⟨b, o, e, hb, hc⟩ := (HO4.out.below hb5 HO4.out.lt).reads j u hu
        cases e
        exact ⟨gv, 0, rfl, .inl HDV.out, hb, hc⟩
    · rcases hi with hi | hi
      · have := HDS.out i hi; have := HB4.out.size; omega
      · omega
    · intro d hd
      have := List.eq_of_mem_replicate hd
      subst this
      simp [evK]
      omega
  case hI0 =>
    intro z W hb hz1 hz2
    exact ⟨HJ0.out z W (HB4.out.trans (hb.mono (by have := HB4.out.size; omega))) (by have := HB4.out.size; omega) hz2, HY4.out.below hb (by omega)⟩
  case hI =>
    rintro z pre W W' ⟨i1, i2⟩ hT
    exact ⟨HJ.out z _ W W' i1 (hT.imp fun i _ h => ⟨by have := HB4.out.size; omega, h.2⟩), i2.turn hT (by omega)⟩
  case hround =>
    rintro l2 z pre x v W ⟨i1, i2⟩ hnow hpre hl1 hl2 ⟨r, hl⟩
    gi_wp2
    refine ⟨Turn.refl _ _, ?_⟩
    rintro W2 hT2 -
    have hx : x ∈ rollL (List.replicate n (evK n)) [] := hpre.subset (by simp)
    have hlx : x.length = n := by have := rollL_len _ _ _ hx; simpa using this
    obtain ⟨av, cv, ev, hcv, hr⟩ := hnow.turn hT2 (fun b e _ o => by rw [e]; exact loop_cell hl o)
    subst ev
    have HRP := Lib.hid (repeats_any av x cv W2.heap.size W2 hr (by omega) hcv)
    have j2 := i2.turn hT2 (by omega)
    have cy := j2.cell 0
    simp only [List.getElem?_toArray, List.getElem?_cons_zero] at cy
    have hjz := HJ.out z _ W W2 i1 (hT2.imp fun i _ h => by rw [h]; exact ⟨by have := HB4.out.size; omega, hl2⟩)
    have HJZ := Lib.hid hjz
    have J2 := Lib.hid j2
    have HHR := Lib.hid (show Now (.slice av x.length cv) x W2 from ⟨av, cv, rfl, hcv, hr⟩)
    have HPRE := Lib.hid hpre
    have HT2 := Lib.hid hT2
    have hwz : w4.heap.size < z := by omega
    clear hx hlx hnow hr i1 i2 hT2 hl hpre j2 hjz hcv
    cases hrep : repeatsL x with
    | true =>
      have HREP := Lib.hid hrep
      have HF := Lib.hid (show (pre ++ [x]).filter (fun l => !repeatsL l) = pre.filter fun l => !repeatsL l by rw [filter_more, hrep]; rfl)
      clear hrep
      gi_wp2
      refine ⟨trivial, (CallsIn.inRound l2 (callsIn_wide.2 HRP.out)).mono ?_⟩
      rintro e w' ⟨rfl, rfl⟩
      rw [HREP.out]
      gi_wp2
      refine ⟨fun _ h => (by cases h), ?_⟩
      gi_wp2
      exact ⟨⟨by rw [HF.out]; exact HJZ.out, J2.out⟩, Turn.refl _ _⟩
    | false =>
      have HREP := Lib.hid hrep
      have HF := Lib.hid (show (pre ++ [x]).filter (fun l => !repeatsL l) = (pre.filter fun l => !repeatsL l) ++ [x] by rw [filter_more, hrep]; rfl)
      obtain ⟨fn, tmps, assign, body, hy, hR⟩ := HY.out z (pre.filter fun l => !repeatsL l) x (.slice av x.length cv) W2 HJZ.out HHR.out (ordersL_prefix HPRE.out hrep)
      have hR := RoundIn.inRound (l₀ := l2) (m' := 0) hR
      clear hrep
      gi_wp2
      refine ⟨trivial, (CallsIn.inRound l2 (callsIn_wide.2 HRP.out)).mono ?_⟩
      rintro e w' ⟨rfl, rfl⟩
      rw [HREP.out]
      gi_wp2
      refine hR.mono ?_
      clear hR
      rintro e W3 ⟨rfl, hj3, hT3⟩
      have HJ3 := Lib.hid hj3
      have HT3 := Lib.hid hT3
      clear hj3 hT3
      gi_wp2
      refine ⟨⟨by rw [HF.out]; exact HJ3.out, J2.out.turn HT3.out (fun h => h (.inr ⟨Nat.le_refl _, by have := HB4.out.size; omega⟩))⟩, HT3.out.imp fun i _ h h2 => h (h2.elim (fun h3 => h3.elim .inl (fun h4 => .inr ⟨h4.1, by omega⟩)) (fun h3 => .inr ⟨by have := HB4.out.size; omega, h3.2⟩))⟩
  case hdone =>
    rintro z W ⟨i1, i2⟩ hz hK
    gi_wp2
    refine ⟨by simp, .inl ⟨_, _, rfl, run_takeDeferred hK, _, (by simp [results, Try.results93, go_sem]), rfl, ?_⟩⟩
    exact ⟨z, HJ.out z _ W _ i1 ((Turn.refl _ W).putObj (.inl ⟨by have := HB4.out.size; omega, by omega⟩) _)⟩

end Go.Proofs.Ytkkholagmjcgiaa
