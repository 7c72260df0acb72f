/- The function haveCommonSide of package dice: a set as a map of bools. -/
import Derived.Test.YtkkholagmjcgiaaWays
import Derived.Test.YtkkholagmjcgiaaResults
import Derived.Deep.LoopGhost
namespace Go.Proofs.Ytkkholagmjcgiaa
open Go.RowKit Go.Maps

theorem plainB_inv {e : TypeId} (he : Try.prog.underlying e = some .bool) {v : Value} {z : DataW Unit × List MemPlace} (h : plainElem Try.prog e v = some z) : ∃ x, v = .bool x ∧ z = (.lit (.bool x), []) := by
  unfold plainElem at h
  rw [he] at h
  cases v <;> simp at h
  rename_i x
  exact ⟨x, rfl, h.symm⟩
theorem zeroB (w : World) : (zeroValue 4).run Try.prog w = .ok (.bool false) w := by kernel_rfl

/-- Block b is a set of at most n numbers, S. -/
def SetB (w : World) (b n : Nat) (S : Int → Bool) : Prop :=
  ∃ D : DataW Unit, w.ownsMap Try.prog 3 (plainElem Try.prog 4) b n D ∧ ∀ x, W64 x → D.atKey (.int .i64 x) (.lit (.bool false)) = .lit (.bool (S x))

section
variable {w w' : World} {b n : Nat} {S : Int → Bool}
theorem SetB.new (w : World) : SetB (w.alloc (.map #[] 0)) w.heap.size 0 (fun _ => false) := ⟨.map [], World.ownsMap_made _ _ _ _, fun _ _ => rfl⟩
theorem SetB.congr {S' : Int → Bool} (h : SetB w b n S) (hS : ∀ x, S x = S' x) : SetB w b n S' := by
  obtain ⟨D, h, h1⟩ := h
  exact ⟨D, h, fun x hx => by rw [h1 x hx, hS x]⟩
theorem SetB.run (h : SetB w b n S) {y : Int} (hy : W64 y) : (Instr.lookup 113 (.map (some b)) (.int .i64 y) false).run Try.prog w = .ok (.bool (S y)) w := by
  obtain ⟨D, h, h1⟩ := h
  obtain ⟨v, ps, hrun, hv⟩ := h.lookup lawI Try.underlying113 (zeroB _) (plainElem_bool Try.underlying4 false) (keyI hy)
  obtain ⟨x, rfl, hx⟩ := plainB_inv Try.underlying4 hv
  have e := h1 y hy
  have hx1 : D.atKey (.int .i64 y) (.lit (.bool false)) = .lit (.bool x) := congrArg Prod.fst hx
  have e2 : x = S y := by
    have e3 := hx1.symm.trans e
    simpa only [DataW.lit.injEq, Lit.bool.injEq] using e3
  rw [← e2]
  exact hrun
end
section
variable (w : World) {ops : Array Oper} {rest : List Oper} {o : Oper} {a : Act} {Q : Exit → Act → World → Prop} {b n : Nat} {S : Int → Bool}
theorem wpList_lookB (hg : o.guard = none) (m x : Operand) (hop : o.op = Op.lookup 113 m x false) (hm : a.eval m = .map (some b)) (h : SetB w b n S) (y : Int) (hx : a.eval x = .int .i64 y) (hy : W64 y)
    (hK : wpList Try.prog ops Q rest (a.put o.dst (.bool (S y))) w) : wpList Try.prog ops Q (o :: rest) a w := by
  refine wpList_plain hg fun K' hK' => ?_
  have hrun := h.run hy
  unfold Oper.wp
  simp [execOp, hop, hm, hx, hrun, Result.andThen]
  exact hK' _ _ hK
theorem wpList_putB (hg : o.guard = none) (m x v : Operand) (hop : o.op = Op.mapUpdate 113 m x v) (hm : a.eval m = .map (some b)) (h : SetB w b n S) (hn : n < 1000000000) (y : Int) (hx : a.eval x = .int .i64 y) (hv : a.eval v = .bool true) (hy : W64 y)
    (hK : ∀ w', SetB w' b (n + 1) (ins S y) → w.grownBy w' (some b) → wpList Try.prog ops Q rest (a.put o.dst undef) w') : wpList Try.prog ops Q (o :: rest) a w := by
  obtain ⟨D, h, h1⟩ := h
  refine wpList_mapUpdate_own w hg m x v 113 hop 3 4 lawI Try.underlying113 _ b n D hm h (by unfold maxLen; omega) _ _ _ hx hv (keyI hy) _ [] (plainElem_bool Try.underlying4 true) fun w1 hown1 hgrow1 => ?_
  have hD : IsMap D := (h.canon lawI).elim fun es he => ⟨es, he.1⟩
  refine hK w1 ⟨_, hown1, fun z hz => ?_⟩ hgrow1
  by_cases e : z = y
  · subst e
    rw [Maps.atKey_put_same hD (by trivial)]
    simp [ins]
  · rw [Maps.atKey_put_other (fun h => e (by injection h)), h1 z hz]
    simp [ins, e]
end

/-- The numbers on the first k dice; whether one of the first k dice shows one that has been. -/
def seen (ds : List (List Int)) (k : Nat) (x : Int) : Bool := (ds.take k).any fun d => d.contains x
def commonTo (ds : List (List Int)) (k : Nat) : Bool := (List.range k).any fun i => (ds.getD i []).any (seen ds i)
def commonL (ds : List (List Int)) : Bool := commonTo ds ds.length
theorem commonTo_succ (ds : List (List Int)) (k : Nat) : commonTo ds (k + 1) = (commonTo ds k || (ds.getD k []).any (seen ds k)) := by simp [commonTo, List.range_succ]
theorem commonTo_mono {ds : List (List Int)} {k : Nat} (h : commonTo ds k = true) : ∀ j, commonTo ds (k + j) = true
  | 0 => h
  | j + 1 => by rw [← Nat.add_assoc, commonTo_succ, commonTo_mono h j]; rfl
theorem seen_succ {ds : List (List Int)} {k : Nat} {d : List Int} (h : ds[k]? = some d) (x : Int) : seen ds (k + 1) x = (seen ds k x || d.contains x) := by
  have hk := (List.getElem?_eq_some_iff.1 h)
  unfold seen
  rw [List.take_succ_eq_append_getElem hk.1, hk.2]
  simp
theorem take_snoc {l : List Int} {k : Nat} {x : Int} (h : l[k]? = some x) : l.take (k + 1) = l.take k ++ [x] := by
  have hk := (List.getElem?_eq_some_iff.1 h)
  rw [List.take_succ_eq_append_getElem hk.1, hk.2]
theorem any_at {l : List Int} {k : Nat} {x : Int} {p : Int → Bool} (h : l[k]? = some x) (hp : p x = true) : l.any p = true := List.any_eq_true.2 ⟨x, List.mem_of_getElem? h, hp⟩

set_option maxRecDepth 100000 in
set_option maxHeartbeats 2000000 in
theorem haveCommonSide_any (A : Option Addr) (ds : List (List Int)) (c : Nat) (w : World) (hr : RDice w w.heap.size A ds) (hl : ds.length ≤ 6) (hd : ∀ d ∈ ds, DieOk d) :
    Calls Try.prog 65 #[.slice A ds.length c] w fun e w' => e = .returned (.bool (commonL ds)) ∧ Below w.heap.size w w' := by
  have HR := Lib.hid hr
  have HD := Lib.hid hd
  have hmm := @run_makeMap Try.prog
  clear hr hd
  go_enter Try.func65, Try.ntmps65
  go_wp2_with fail
  clear hmm
  have HS0 := Lib.hid (SetB.new w)
  have HB0 := Lib.hid ((Below.refl w.heap.size w).alloc (Nat.le_refl _) (.map #[] 0))
  go_loopg [13] ds.length (fun g i wx => ∃ k : Nat, k + g = ds.length ∧ i = .int .i64 k ∧ Hid (commonTo ds k = false) ∧ Hid (SetB wx w.heap.size (8 * k) (seen ds k)) ∧ Hid (Below w.heap.size w wx))
  case atStart => exact ⟨0, by omega, rfl, Lib.hid rfl, Lib.hid (HS0.out.congr fun x => rfl), HB0⟩
  case round =>
    obtain ⟨k, hk, rfl, HF, HS1, HB1⟩ := hrel
    have HF2 := HF
    have HS := HS1
    have HB := HB1
    clear HF HS1 HB1 HS0 HB0
    cases gk with
    | zero =>
      obtain rfl : k = ds.length := by omega
      go_wp2_with fail
      go_ret
      exact ⟨ret_bool (by unfold commonL; rw [HF2.out]), HB.out⟩
    | succ g =>
      obtain ⟨b, o, a, cd, d, hA, hb, hdk, hc0, hcl, hri⟩ := HR.out.at_ (k := k) (by omega)
      subst hA
      have hc := (HB.out.cell (p := ⟨b, o + k, none⟩) hb).trans hc0
      clear hc0
      have hdo := HD.out d (List.mem_of_getElem? hdk)
      have HDO := Lib.hid hdo.2
      have hd8 := hdo.1
      have HRI := Lib.hid hri
      have HDK := Lib.hid hdk
      have HE := Lib.hid (show ds.getD k [] = d by simp [List.getD, hdk])
      have hkl : (k : Int) < (ds.length : Int) := by omega
      have hk6 : k < 6 := by omega
      clear hdo hdk hri
      obtain ⟨wo, rfl⟩ : ∃ wo : World, wo = wr := ⟨_, rfl⟩
      go_wp2_with fail
      go_loopg [19] d.length (fun g1 i wx => ∃ j : Nat, j + g1 = d.length ∧ i = .int .i64 j ∧ Hid ((d.take j).any (seen ds k) = false) ∧ wo = wx)
      case atStart => exact ⟨0, by omega, rfl, Lib.hid rfl, rfl⟩
      case round =>
        obtain ⟨j, hj, rfl, HF, rfl⟩ := hrel
        have HF3 := HF
        clear HF
        cases gk with
        | zero =>
          obtain rfl : j = d.length := by omega
          have HN := Lib.hid (show commonTo ds (k + 1) = false by
            have h1 := HF3.out
            rw [List.take_length] at h1
            rw [commonTo_succ, HF2.out, HE.out, h1]
            rfl)
          go_wp2_with fail
          go_loopg [29] d.length (fun g1 i wx => ∃ j : Nat, j + g1 = d.length ∧ i = .int .i64 j ∧ Hid (SetB wx w.heap.size (8 * k + j) (fun x => seen ds k x || (d.take j).contains x)) ∧ Hid (Below w.heap.size w wx))
          case atStart => exact ⟨0, by omega, rfl, Lib.hid (HS.out.congr fun x => by simp), HB⟩
          case round =>
            obtain ⟨j, hj, rfl, HS3, HB3⟩ := hrel
            have HS4 := HS3
            have HB4 := HB3
            clear HS3 HB3 HS HB
            cases gk with
            | zero =>
              obtain rfl : j = d.length := by omega
              have HSN := Lib.hid (show SetB wr w.heap.size (8 * (k + 1)) (seen ds (k + 1)) by
                obtain ⟨D, h1, h2⟩ := HS4.out.congr (S' := seen ds (k + 1)) fun x => by rw [List.take_length, seen_succ HDK.out]
                exact ⟨D, h1.mono (by omega), h2⟩)
              go_wp2_with fail
              go_roundg g
              case measure => omega
              case rel => exact ⟨k + 1, by omega, by go_num, HN, HSN, HB4⟩
            | succ g1 =>
              obtain ⟨b3, o3, x, ha, hb3, hx, hcx⟩ := (HRI.out.below HB4.out).at_ (k := j) (by omega)
              subst ha
              have hxb := HDO.out x (List.mem_of_getElem? hx)
              have HW := Lib.hid (show W64 x from ⟨by omega, by omega⟩)
              have hjl : (j : Int) < (d.length : Int) := by omega
              have HTK := Lib.hid (take_snoc hx)
              have hn9 : 8 * k + j < 1000000000 := by omega
              clear hxb hx
              go_wp2_with (first
                | (at_mapUpdate; refine wpList_putB _ rfl _ _ _ rfl rfl HS4.out hn9 _ rfl rfl HW.out ?_; intro w2 hset2 hg2))
              have HSN := Lib.hid (show SetB w2 w.heap.size (8 * k + (j + 1)) (fun x => seen ds k x || (d.take (j + 1)).contains x) from hset2.congr fun y => by rw [HTK.out]; simp [ins, Bool.or_assoc])
              have HBN := Lib.hid (HB4.out.grown hg2 HB4.out.size (fun j hj => by have := Option.some.inj hj; omega))
              clear hset2 hg2
              go_roundg g1
              case measure => omega
              case rel => exact ⟨j + 1, by omega, by go_num, HSN, HBN⟩
        | succ g1 =>
          obtain ⟨b3, o3, x, ha, hb3, hx, hcx⟩ := (HRI.out.below HB.out).at_ (k := j) (by omega)
          subst ha
          have hxb := HDO.out x (List.mem_of_getElem? hx)
          have HW := Lib.hid (show W64 x from ⟨by omega, by omega⟩)
          have hjl : (j : Int) < (d.length : Int) := by omega
          have HTK := Lib.hid (take_snoc hx)
          have HX := Lib.hid hx
          clear hxb hx
          cases hsx : seen ds k x with
          | true =>
            have hrun := HS.out.run HW.out
            rw [hsx] at hrun
            have HSX := Lib.hid hsx
            clear hsx
            go_wp2_with fail
            go_ret
            refine ⟨ret_bool ?_, HB.out⟩
            have h1 : commonTo ds (k + 1) = true := by rw [commonTo_succ, HE.out, any_at HX.out HSX.out]; simp
            have h2 := commonTo_mono h1 (ds.length - (k + 1))
            rw [show k + 1 + (ds.length - (k + 1)) = ds.length by omega] at h2
            exact h2.symm
          | false =>
            have hrun := HS.out.run HW.out
            rw [hsx] at hrun
            have HSX := Lib.hid hsx
            clear hsx
            go_wp2_with fail
            go_roundg g1
            case measure => omega
            case rel => exact ⟨j + 1, by omega, by go_num, Lib.hid (by rw [HTK.out, List.any_append, HF3.out]; simp [HSX.out]), rfl⟩

end Go.Proofs.Ytkkholagmjcgiaa
