/- The search by breadth, as an iterator: what its memory holds. -/
import Derived.Test.YthbhengcinkepaaSeqT
import Derived.Test.YthbhengcinkepaaMarks
import Derived.Test.YthbhengcinkepaaGames
import Derived.Test.YthbhengcinkepaaPg4
import Derived.Test.YthbhengcinkepaaRoundL
import Derived.Sort.LoopGhostIn
namespace Go.Proofs.Ythbhengcinkepaa
open Go.RowKit Go.Shelf Lamp

attribute [local go_sem] Oper.semAt_some

/-- The yielded values are that position and that jump. -/
def IsReach (x : Nat × Tri) (v : Array Value) (_ : World) : Prop := v = #[.int .i64 (x.1 : Nat), .agg #[.int .i64 x.2.1, .int .i64 x.2.2.1, .int .i64 x.2.2.2]]

theorem reached_any (A : Option Addr) (m c : Nat) (p : Int) (w : World) :
    Calls Try.prog 67 #[.slice A m c, .int .i64 p] w fun e w' => e = .returned (.func (.func 108) #[] #[.pointer (some ⟨w.heap.size + 1, 0, none⟩), .pointer (some ⟨w.heap.size, 0, none⟩)]) ∧ w' = (w.alloc (Obj.cells #[.slice A m c] 102)).alloc (Obj.cells #[.int .i64 p] 3) := by
  go_enter Try.func67, Try.ntmps67
  go_wp2_with fail
  go_ret
  exact ⟨rfl, rfl⟩

/-- The marks are set just where a position is among those found. -/
def MarkOk (cs : Array Value) (Q : List (Nat × Tri)) : Prop := cs.size = 65536 ∧ ∀ j, j < 65536 → cs[j]? = some (.bool (hasQ Q j))
theorem MarkOk.start {cs : Array Value} (h : Unset cs) {p : Nat} (_hp : p < 65536) (j : Tri) : MarkOk (cs.setIfInBounds p (.bool true)) [(p, j)] := by
  refine ⟨by simpa using h.1, fun k hk => ?_⟩
  rw [Array.getElem?_setIfInBounds]
  by_cases e : p = k
  · subst e
    simp [hasQ, h.1, hk]
  · rw [if_neg e, h.2 k hk]
    simp [hasQ, e]
theorem MarkOk.put {cs : Array Value} {Q : List (Nat × Tri)} (h : MarkOk cs Q) {p : Nat} (j : Tri) : MarkOk (cs.setIfInBounds p (.bool true)) (Q ++ [(p, j)]) := by
  refine ⟨by simpa using h.1, fun k hk => ?_⟩
  rw [Array.getElem?_setIfInBounds]
  by_cases e : p = k
  · subst e
    simp [hasQ, h.1, hk]
  · rw [if_neg e, h.2 k hk, hasQ_app]
    simp [hasQ, e]

/-- The positions found. -/
def posL (Q : List (Nat × Tri)) : List Nat := Q.map fun e => e.1
theorem posL_app (Q : List (Nat × Tri)) (e : Nat × Tri) : posL (Q ++ [e]) = posL Q ++ [e.1] := by simp [posL]

/-- What the search holds in its own memory: the yield, the marks, the list of positions, the place in it. -/
structure Search (l y0 bl bi i : Nat) (v : Value) (Q : List (Nat × Tri)) (W : World) : Prop where
  yield : Box W y0 163 #[.func (.yield l) #[] #[]]
  marks : ∃ cs, Box W (y0 + 1) 164 cs ∧ MarkOk cs Q
  list : Box W bl 47 #[v]
  row : OwnP 3 W (y0 + 2) v (natV (posL Q))
  at_ : Box W bi 3 #[.int .i64 (i : Nat)]
  apart : ∀ g, v.ownBlock = some g → g ≠ bi
theorem Search.turn {l y0 bl bi i : Nat} {v : Value} {Q : List (Nat × Tri)} {W W' : World} {X : Nat → Prop} (h : Search l y0 bl bi i v Q W) (hT : Turn X W W') (h1 : ¬ X y0) (h2 : ¬ X (y0 + 1)) (h3 : ¬ X bl) (h4 : ¬ X bi) (h5 : ∀ g, v.ownBlock = some g → ¬ X g) : Search l y0 bl bi i v Q W' := by
  obtain ⟨cs, hb, hm⟩ := h.marks
  exact ⟨h.yield.turn hT h1, ⟨cs, hb.turn hT h2, hm⟩, h.list.turn hT h3, h.row.turn hT h5, h.at_.turn hT h4, h.apart⟩

theorem RoundIn.inRoundT {m m' l₀ : Nat} {P : Program} {l : Nat} {f : FuncId} {tmps : Array Value} {assign body : Code} {w : World} {R : Ending → World → Prop}
    (h : RoundIn Fence.wide m P l f tmps assign body w R) : RoundIn (Fence.wide.inRound l₀) m' P l f tmps assign body w R := by
  exact ⟨h.1, fun c cs _ => h.2 c cs (room_wide _)⟩

/-- The marks on the deferred calls: blocks of one's own, with nothing in them. -/
def Marked (O : Nat → Prop) : List Deferred → World → Prop
  | [], _ => True
  | d :: ds, W => ∃ r, d = { target := .collected r, args := #[] } ∧ O r ∧ W.heap[r]? = some (.deferred (some [])) ∧ (∀ d' ∈ ds, d'.target ≠ .collected r) ∧ Marked O ds W
theorem Marked.turn {O X : Nat → Prop} {W W' : World} (hT : Turn X W W') (hX : ∀ b, O b → ¬ X b) : ∀ {ds : List Deferred}, Marked O ds W → Marked O ds W'
  | [], _ => trivial
  | _ :: _, ⟨r, h1, h2, h3, h4, h5⟩ => ⟨r, h1, h2, (hT.2 r (Array.getElem?_eq_some_iff.1 h3).1 (hX r h2)).trans h3, h4, Marked.turn hT hX h5⟩
theorem Marked.imp {O O' : Nat → Prop} {W : World} (h : ∀ b, O b → O' b) : ∀ {ds : List Deferred}, Marked O ds W → Marked O' ds W
  | [], _ => trivial
  | _ :: _, ⟨r, h1, h2, h3, h4, h5⟩ => ⟨r, h1, h r h2, h3, h4, Marked.imp h h5⟩
theorem Marked.but {O : Nat → Prop} {W : World} {r : Nat} (o : Obj) : ∀ {ds : List Deferred}, Marked O ds W → (∀ d' ∈ ds, d'.target ≠ .collected r) → Marked O ds (W.putObj r o)
  | [], _, _ => trivial
  | d :: ds, ⟨q, h1, h2, h3, h4, h5⟩, hn => by
    refine ⟨q, h1, h2, (World.putObj_heap_other (fun e => hn d (by simp) (by rw [h1, e]))).trans h3, h4, Marked.but o h5 fun d' hd => hn d' (by simp [hd])⟩
theorem Marked.far {O : Nat → Prop} {W : World} {r : Nat} (hr : W.heap.size ≤ r) : ∀ {ds : List Deferred}, Marked O ds W → ∀ d' ∈ ds, d'.target ≠ .collected r
  | [], _, d', h => by cases h
  | d :: ds, ⟨q, h1, _, h3, _, h5⟩, d', h => by
    rcases List.mem_cons.1 h with rfl | h
    · rw [h1]
      intro e
      injection e with e
      have := (Array.getElem?_eq_some_iff.1 h3).1
      omega
    · exact Marked.far hr h5 d' h
/-- The end of a function with marks. -/
theorem Marked.leaves {F : Fence} {n : Nat} {P : Program} {fn : Func} {tmps : Array Value} {R : Ending → World → Prop} {O : Nat → Prop} {v : Value} (hres : ∀ W, (results fn tmps).run P W = .ok v W) : ∀ {ds : List Deferred} {W : World}, Marked O ds W → (∀ W', Turn O W W' → R (.returned v) W') → LeavesInM F n P fn tmps R ds .returning W
  | [], W, _, h => ⟨v, hres W, h W (Turn.refl _ _)⟩
  | _ :: ds, W, ⟨r, h1, h2, h3, h4, h5⟩, h => by
    have hT : Turn O W (W.putObj r (.deferred none)) := (Turn.refl O W).putO (.inl h2) _
    exact ⟨by simp, .inl ⟨r, W.putObj r (.deferred none), by rw [h1], run_takeDeferred h3, Marked.leaves hres (Marked.but _ h5 h4) fun W' hT' => h W' (hT.trans hT' fun _ _ h => h)⟩⟩

/-- The append of one integer to a row of one's own, within a fence. -/
theorem wpListIn_addI {F : Fence} {n : Nat} (w : World) {ops : Array Oper} {rest : List Oper} {o : Oper} {a : Act} {Q : Exit → Act → World → Prop} (hgd : o.guard = none) (s x : Operand)
    (ho : o.op = .call { callee := .builtin .append, args := #[s, x], argTypes := #[47, 47] }) (hab : o.about Try.prog w a.eval = none) {base : Nat} {v : Value} {zs : List Int} (hs : a.eval s = v) (hown : OwnP 3 w base v zs)
    (ad c : Nat) (z : Int) (hx : a.eval x = .slice (some ⟨ad, 0, none⟩) 1 c) (hb : Box w ad 3 #[.int .i64 z]) (hl : zs.length ≤ 1000000) (hbase : base ≤ w.heap.size)
    (h : ∀ v' w', OwnP 3 w' base v' (zs ++ [z]) → w.grownBy w' v.ownBlock → (v'.ownBlock = v.ownBlock ∨ v'.ownBlock = some w.heap.size) → wpListIn F n Try.prog ops Q rest (a.put o.dst v') w') :
    wpListIn F n Try.prog ops Q (o :: rest) a w := by
  obtain ⟨i0, hi, hz0, hz1, hz2⟩ := info_parts (show (Try.prog.info? 3).map (fun i => (i.zero, i.size, i.bytes)) = some (some (.int .i64 0), 1, 8) from by kernel_rfl)
  obtain ⟨v', w', hr, h2, h3, _, h5⟩ := run_append_own_at (P := Try.prog) w base 47 o.type 3 i0 (.int .i64 0) 1 8 Try.underlying47 hi hz0 hz1 hz2 rfl (by decide) v zs.length _ hown ⟨ad, 0, none⟩ 1 c [.int .i64 z] rfl (World.news_of_block (cs := #[.int .i64 z]) (t := 3) (fr := (0, 0)) hb) (by simp [Value.oneCell']) (by unfold maxLen; omega) (by omega) hbase
  refine wpListIn_plain hgd fun K hK => ?_
  have hK := hK _ _ (h v' w' (by unfold OwnP; rw [List.length_append, List.map_append]; exact h2) h3 h5)
  unfold Oper.wpIn
  refine ⟨(fun f hf => by rw [hab] at hf; cases hf), ?_⟩
  have hsem : o.semAt F.round a.eval = execOp a.eval o := by
    cases hR : F.round with
    | none => rw [Oper.semAt_none]
    | some r => rw [Oper.semAt_some r a.eval o (noDeferE_ne (by unfold noDeferE; rw [ho]))]
  rw [hsem]
  unfold execOp
  simp only [ho, resolve, invoke, builtin, Sem.run_bind, Sem.run_pure, Result.andThen_ok, List.map_toArray, List.map_cons, List.map_nil, hs, hx, hr]
  exact hK

/-- What is read in blocks that nobody turned is read later. -/
theorem RTri.turnD {W1 W : World} {A : Option Addr} {L : List Tri} {D : Nat → Prop} (h : RTri W1 W1.heap.size A L) (hT : Turn (fun b => ¬ D b) W1 W) (hA : ∀ b o, A = some ⟨b, o, none⟩ → D b) : RTri W W.heap.size A L := fun j u hu => by
  obtain ⟨b, o, e, hb, hc⟩ := h j u hu
  exact ⟨b, o, e, Nat.lt_of_lt_of_le hb hT.size, (hT.cell (p := ⟨b, o + j, none⟩) hb (fun h => h (hA b o e))).trans hc⟩
theorem posL_get {Q : List (Nat × Tri)} {i : Nat} {e : Nat × Tri} (h : Q[i]? = some e) : (posL Q).getD i 0 = e.1 := by
  unfold posL
  rw [List.getD_eq_getElem?_getD, List.getElem?_map, h]; rfl
theorem bfsK_next {L : List Tri} {p i : Nat} {e : Nat × Tri} (h : (bfsK L p i)[i]? = some e) : bfsK L p (i + 1) = addP e.1 (bfsK L p i) (L.filter fun j => canJ j e.1) := by
  rw [bfsK, h]
theorem bfsK_reach (L : List Tri) (p i : Nat) (hi : i ≤ 65536) : bfsK L p i <+: reachL L p := bfsK_mono L p hi

/-- A post without panics: what a region needs that does not panic. -/
def calmP (Q : Exit → Act → World → Prop) : Exit → Act → World → Prop
  | .panic _, _, _ => False
  | .outgrown, _, _ => False
  | e, a, w => Q e a w
theorem calmP_imp {Q : Exit → Act → World → Prop} : ∀ e a w, calmP Q e a w → Q e a w := fun e a w h => by
  cases e <;> first | exact h | exact h.elim
theorem calmP_normal {Q : Exit → Act → World → Prop} {a : Act} {w : World} (h : Q .normal a w) : calmP Q .normal a w := h
theorem calmP_out {Q : Exit → Act → World → Prop} : ¬ LetsOut (calmP Q) := fun h => by
  obtain ⟨_, _, h⟩ := h
  exact h

theorem Marked.in_ {O : Nat → Prop} {W : World} : ∀ {ds : List Deferred}, Marked O ds W → ∀ d ∈ ds, ∃ r, d.target = .collected r ∧ O r
  | [], _, d, h => by cases h
  | _ :: ds, ⟨q, h1, h2, _, _, h5⟩, d, h => by
    rcases List.mem_cons.1 h with rfl | h
    · exact ⟨q, by rw [h1], h2⟩
    · exact Marked.in_ h5 d h
theorem Marked.notin {O : Nat → Prop} {W : World} {r : Nat} {ds : List Deferred} (h : Marked O ds W) (hr : ¬ O r) : ∀ d ∈ ds, d.target ≠ .collected r := fun d hd e => by
  obtain ⟨q, h1, h2⟩ := h.in_ d hd
  rw [h1] at e
  injection e with e
  exact hr (e ▸ h2)

/-- What holds between two rounds of the inner loop of the search. -/
def InnI (J : (Nat → Prop) → List (Nat × Tri) → World → Prop) (l y0 bl bi i ws : Nat) (ds : List Deferred) (D O' : Nat → Prop) (Q : List (Nat × Tri)) (W1 W' : World) : Prop :=
  ∃ (Om : Nat → Prop) (v : Value), Hid (J (fun b => Om b ∨ O' b) Q W') ∧ Hid (Search l y0 bl bi i v Q W') ∧ Hid (Marked Om ds W') ∧ Hid (Om y0 ∧ Om (y0 + 1) ∧ Om bl ∧ Om bi ∧ (∀ g, v.ownBlock = some g → Om g ∧ g ≠ ws ∧ g ≠ ws + 1) ∧ Om ws ∧ Om (ws + 1)) ∧ Hid (∀ b, Om b → y0 ≤ b ∧ b < W'.heap.size ∧ ¬ O' b) ∧ Hid (∀ b, O' b → y0 ≤ b) ∧ Hid (Turn (fun b => ¬ D b) W1 W')
/-- What holds when a round has left the search. -/
def InnX (S : (Nat → Prop) → World → Prop) (ds : List Deferred) (cx : Code) (O' : Nat → Prop) (W' : World) : Prop :=
  cx = .exit 0 ∧ ∃ (Om : Nat → Prop), Hid (S (fun b => Om b ∨ O' b) W') ∧ Hid (Marked Om ds W') ∧ Hid (∀ b, Om b → ¬ O' b)

theorem Marked.cells {O X : Nat → Prop} {W W' : World} (hT : Turn X W W') (hX : ∀ b, X b → ∃ c t f, W.heap[b]? = some (.cells c t f)) : ∀ {ds : List Deferred}, Marked O ds W → Marked O ds W'
  | [], _ => trivial
  | _ :: _, ⟨r, h1, h2, h3, h4, h5⟩ => ⟨r, h1, h2, (hT.2 r (Array.getElem?_eq_some_iff.1 h3).1 (fun hx => by
      obtain ⟨c, t, f, h6⟩ := hX r hx
      rw [h3] at h6; cases h6)).trans h3, h4, Marked.cells hT hX h5⟩
end Go.Proofs.Ythbhengcinkepaa
