/- The function orders of package dice, and what the iterator that it returns promises: the results without a repetition. -/
import Derived.Test.YtkkholagmjcgiaaRepeat
import Derived.Test.YtkkholagmjcgiaaRises
namespace Go.Proofs.Ytkkholagmjcgiaa
open Go.RowKit Go.Shelf

theorem OwnV.of {w : World} {g k : Nat} {zs : List Int} (h : OwnR w g k zs) : OwnV w (.slice (some ⟨g, 0, none⟩) zs.length k) zs := h
theorem OwnV.len1 {w : World} {g k n : Nat} {zs : List Int} (h : OwnR w g k zs) (e : zs.length = n) : OwnV w (.slice (some ⟨g, 0, none⟩) n k) zs := by subst e; exact h

set_option maxRecDepth 100000 in
set_option maxHeartbeats 2000000 in
theorem orders_any (n : Nat) (w : World) (hn : n ≤ 1000) :
    Calls Try.prog 66 #[.int .i64 n] w fun e w' => e = .returned (.func (.func 93) #[] #[.pointer (some ⟨w.heap.size + 1, 0, none⟩), .pointer (some ⟨w.heap.size, 0, none⟩)]) ∧
      Box w' w.heap.size 3 #[.int .i64 n] ∧ (∃ v, Box w' (w.heap.size + 1) 36 #[v] ∧ OwnV w' v (evK n) ∧ ∀ b, v.ownBlock = some b → w.heap.size ≤ b) ∧ Below w.heap.size w w' := by
  go_enter Try.func66, Try.ntmps66
  go_wp2_with fail
  obtain ⟨w0, hw0⟩ : ∃ w0, (w.alloc (Obj.cells #[Value.int .i64 n] 3)).alloc (Obj.cells #[Value.slice none 0 0] 36) = w0 := ⟨_, rfl⟩
  have hB0 : Below w.heap.size w w0 := by rw [← hw0]; exact ((Below.refl _ w).alloc (Nat.le_refl _) _).alloc (by simp) _
  have hbt0 : Box w0 w.heap.size 3 #[.int .i64 n] := by rw [← hw0]; exact (Box.new w _ _).alloc _
  have hbl0 : Box w0 (w.heap.size + 1) 36 #[.slice none 0 0] := by
    rw [← hw0]
    have := Box.new (w.alloc (Obj.cells #[Value.int .i64 n] 3)) 36 #[.slice none 0 0]
    simpa using this
  rw [hw0]
  clear hw0
  go_loopg [6] n (fun g i wx => ∃ (k : Nat) (v : Value), k + g = n ∧ i = .int .i64 k ∧ Box wx w.heap.size 3 #[.int .i64 n] ∧ Box wx (w.heap.size + 1) 36 #[v] ∧ OwnV wx v (evK k) ∧ (∀ b, v.ownBlock = some b → w.heap.size + 1 < b) ∧ Below w.heap.size w wx)
  case atStart => exact ⟨0, _, by omega, rfl, hbt0, hbl0, OwnV.nil_ _, (fun b hb => by cases hb), hB0⟩
  case round =>
    clear hbt0 hbl0 hB0
    obtain ⟨k, v, hkg, rfl, hbt, hbl, hv, hvb, hB⟩ := hrel
    have ct := hbt.cell 0
    have cl := hbl.cell 0
    have fl := hbl.free 0
    simp only [List.getElem?_toArray, List.getElem?_cons_zero] at ct cl
    have ltl := hbl.lt
    cases gk with
    | succ g =>
      have hki : (k : Int) < (n : Int) := by omega
      have hcn : ∀ (o : Value), (wr.alloc (Obj.cells #[o] 3)).cell? ⟨wr.heap.size, 0, none⟩ = some o := fun o => (Box.new wr 3 #[o]).cell 0
      have HCN := Lib.hid hcn
      have hlk : (evK k).length = k := by simp [evK]
      have HV := Lib.hid hv
      have HLK := Lib.hid hlk
      have HBL := Lib.hid hbl
      have HBT := Lib.hid hbt
      clear hcn hlk hv hbl hbt
      go_wp2_with (first
        | (at_builtin; refine wpList_app0 _ rfl _ _ rfl (World.ownsRow.alloc HV.out _) rfl wr.heap.size 1 k rfl (HCN.out _) (by rw [HLK.out]; omega) ?_; intro gn kn w4 hown4 hg4 hat4; have hb4 : Box w4 (w.heap.size + 1) 36 #[v] := (HBL.out.alloc _).grown hg4 (fun e => HV.out.ne_box HBL.out (by decide) e.symm); have cl4 := hb4.cell 0; have fl4 := hb4.free 0; simp only [List.getElem?_toArray, List.getElem?_cons_zero] at cl4))
      have hne : w.heap.size ≠ w.heap.size + 1 := by omega
      have hs4 := hg4.size
      have hsz : (wr.alloc (Obj.cells #[Value.int .i64 (k : Int)] 3)).heap.size = wr.heap.size + 1 := by simp
      have hgnb : w.heap.size + 1 < gn := by
        rcases hat4 with h1 | h1
        · exact hvb _ h1
        · rw [h1, hsz]
          omega
      have HR := Lib.hid (show Box (w4.setCell ⟨w.heap.size + 1, 0, none⟩ (.slice (some ⟨gn, 0, none⟩) ((evK k).length + 1) kn)) w.heap.size 3 #[.int .i64 n] from
        ((HBT.out.alloc _).grown hg4 (fun e => by have := hvb _ e.symm; omega)).far hne _)
      have HL := Lib.hid (hb4.put 0 (.slice (some ⟨gn, 0, none⟩) ((evK k).length + 1) kn))
      have HO := Lib.hid (show OwnV (w4.setCell ⟨w.heap.size + 1, 0, none⟩ (.slice (some ⟨gn, 0, none⟩) ((evK k).length + 1) kn)) (.slice (some ⟨gn, 0, none⟩) ((evK k).length + 1) kn) (evK (k + 1)) from by
        have h1 := hown4.far (p := ⟨w.heap.size + 1, 0, none⟩) (hown4.ne_box hb4 (by decide)) (.slice (some ⟨gn, 0, none⟩) ((evK k).length + 1) kn)
        rw [← evK_snoc] at h1
        unfold OwnV
        have h2 : (evK (k + 1)).length = (evK k).length + 1 := by rw [evK_snoc]; simp
        rw [h2]
        unfold OwnR at h1
        rw [h2] at h1
        exact h1)
      have HB4 := Lib.hid (show Below w.heap.size w (w4.setCell ⟨w.heap.size + 1, 0, none⟩ (.slice (some ⟨gn, 0, none⟩) ((evK k).length + 1) kn)) from
        ((hB.alloc hB.size _).grown hg4 (by have := hB.size; rw [hsz]; omega) (fun j hj => by have := hvb _ hj; omega)).setCell (p := ⟨w.heap.size + 1, 0, none⟩) (by show w.heap.size ≤ w.heap.size + 1; omega) _)
      clear hat4 hg4 hown4 hb4
      go_roundg g
      case measure => omega
      case rel => exact ⟨k + 1, _, by omega, by go_num, HR.out, HL.out, HO.out, (fun b hb => by have e : gn = b := (by simpa [Value.ownBlock] using hb); omega), HB4.out⟩
    | zero =>
      obtain rfl : k = n := by omega
      have HB := Lib.hid hB
      have HBT := Lib.hid hbt
      have HBL := Lib.hid hbl
      have HV := Lib.hid hv
      have HVB := Lib.hid hvb
      clear hB hbt hbl hv hvb
      go_wp2_with fail
      go_ret
      exact ⟨rfl, HBT.out, ⟨v, HBL.out, HV.out, fun b hb => by have := HVB.out b hb; omega⟩, HB.out⟩

/-- The orders of n indices, in the order of lists. -/
def ordersL (n : Nat) : List (List Int) := (rollL (List.replicate n (evK n)) []).filter fun l => !repeatsL l

theorem RoundIn.inRound {m m' l₀ : Nat} {P : Program} {l : Nat} {f : FuncId} {tmps : Array Value} {assign body : Code} {w : World} {R : Ending → World → Prop}
    (h : RoundIn Fence.wide m P l f tmps assign body w R) : RoundIn (Fence.wide.inRound l₀) m' P l f tmps assign body w R := ⟨h.1, fun c cs _ => h.2 c cs (room_wide _)⟩

end Go.Proofs.Ytkkholagmjcgiaa
