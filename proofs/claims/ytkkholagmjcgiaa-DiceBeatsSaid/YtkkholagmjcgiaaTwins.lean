/- The function Twins of package dice: of two dice it returns just the pairs that the plain search finds; nothing that was there turns. -/
import Derived.Test.YtkkholagmjcgiaaTwinL
namespace Go.Proofs.Ytkkholagmjcgiaa
open Go.RowKit Go.Maps

/-- Two slices, laid into a slice of slices. -/
theorem RDice.two {w : World} {B : Nat} {A1 A2 : Option Addr} {a b : List Int} {c1 c2 : Nat} (h1 : RInts w B A1 a) (h2 : RInts w B A2 b) (hc1 : a.length ≤ c1) (hc2 : b.length ≤ c2) (hB : B ≤ w.heap.size) :
    RDice (w.alloc (Obj.cells #[.slice A1 a.length c1, .slice A2 b.length c2] 36)) (w.heap.size + 1) (some ⟨w.heap.size, 0, none⟩) [a, b] := by
  have hx := Box.new w 36 #[.slice A1 a.length c1, .slice A2 b.length c2]
  have hk : ∀ g o, g < B → (w.alloc (Obj.cells #[.slice A1 a.length c1, .slice A2 b.length c2] 36)).cell? ⟨g, o, none⟩ = w.cell? ⟨g, o, none⟩ := fun g o hg => World.cell?_of_block (Below.heap_alloc w _ g (by omega))
  refine ⟨[.slice A1 a.length c1, .slice A2 b.length c2], rfl, fun j u hu => ⟨w.heap.size, 0, rfl, by omega, ?_⟩, fun i v d hv hd => ?_⟩
  · rw [Nat.zero_add, hx.cell j]
    simpa using hu
  · match i, hv, hd with
    | 0, hv, hd =>
      simp at hv hd
      subst hv
      subst hd
      exact ⟨A1, c1, rfl, hc1, (h1.keep hk).more (by omega)⟩
    | 1, hv, hd =>
      simp at hv hd
      subst hv
      subst hd
      exact ⟨A2, c2, rfl, hc2, (h2.keep hk).more (by omega)⟩
    | k + 2, hv, hd => simp at hv

theorem areTwo {a b : List Int} (ha : IsDie a) (hb : IsDie b) : AreDice [a, b] :=
  ⟨by simp, by simp, fun d h => by
    simp at h
    rcases h with rfl | rfl
    · exact ha
    · exact hb⟩

set_option maxRecDepth 100000 in
set_option maxHeartbeats 2000000 in
theorem Twins_ok (A1 A2 : Option Addr) (a b : List Int) (c1 c2 : Nat) (w : World) (h1 : RInts w w.heap.size A1 a) (h2 : RInts w w.heap.size A2 b) (hc1 : a.length ≤ c1) (hc2 : b.length ≤ c2) (ha : IsDie a) (hb : IsDie b) :
    Calls Try.prog 34 #[.slice A1 a.length c1, .slice A2 b.length c2] w fun e w' => ∃ fv, e = .returned (.tuple #[fv, .int .i64 0]) ∧ OutOk (fun _ => False) w' fv (twinsL a b) ∧ Below w.heap.size w w' := by
  have H1 := Lib.hid h1
  have H2 := Lib.hid h2
  have HIN := Lib.hid (twinIn ha hb)
  have HD := Lib.hid (areTwo ha hb)
  have HZ := Lib.hid (checkL_zero HD.out)
  have HL := Lib.hid (show twinsL a b = pairsL a.length b.length (a.headD 0) (b.headD 0) (waysF [a, b]) (keys2 (waysF [a, b])) from rfl)
  obtain ⟨ba, oa, xa, hA1, hba, hxa, hca0⟩ := h1.at_ (k := 0) ha.ne
  obtain ⟨bb, ob, xb, hA2, hbb, hxb, hcb0⟩ := h2.at_ (k := 0) hb.ne
  have hca : w.cell? ⟨ba, oa, none⟩ = some (.int .i64 xa) := hca0
  have hcb : w.cell? ⟨bb, ob, none⟩ = some (.int .i64 xb) := hcb0
  subst hA1
  subst hA2
  have eA : a.headD 0 = xa := by have := head_at ha.ne; rw [hxa] at this; injection this with e; exact e.symm
  have eB : b.headD 0 = xb := by have := head_at hb.ne; rw [hxb] at this; injection this with e; exact e.symm
  rw [eA, eB] at HIN HL
  have la : (0 : Int) < (a.length : Int) := by have := ha.ne; omega
  have lb : (0 : Int) < (b.length : Int) := by have := hb.ne; omega
  clear h1 h2 ha hb hxa hxb eA eB hca0 hcb0
  go_enter Try.func34, Try.ntmps34
  go_wp2_with fail
  refine (check_any (some ⟨w.heap.size, 0, none⟩) [a, b] 2 _ _ (RDice.two H1.out H2.out hc1 hc2 (Nat.le_refl _)) (by simp) (fun d h => by have := (HD.out.die d h).ok.1; omega)).mono ?_
  rintro e w' ⟨rfl, n, rfl⟩
  rw [HZ.out]
  obtain ⟨w1, hw1⟩ : ∃ w1, (w.alloc (Obj.cells #[.slice (some ⟨ba, oa, none⟩) a.length c1, .slice (some ⟨bb, ob, none⟩) b.length c2] 36)).drewN n = w1 := ⟨_, rfl⟩
  have hB1 : Below w.heap.size w w1 := by
    rw [← hw1]
    have := (Below.refl w.heap.size w).alloc (Nat.le_refl _) (Obj.cells #[.slice (some ⟨ba, oa, none⟩) a.length c1, .slice (some ⟨bb, ob, none⟩) b.length c2] 36)
    exact ⟨this.os, this.tape, this.output, this.size, this.block⟩
  rw [hw1]
  have hs1 := hB1.size
  have hca1 := (hB1.cell (p := ⟨ba, oa, none⟩) hba).trans hca
  have hcb1 := (hB1.cell (p := ⟨bb, ob, none⟩) hbb).trans hcb
  have R1 := Lib.hid ((H1.out.below hB1).more hs1)
  have R2 := Lib.hid ((H2.out.below hB1).more hs1)
  clear hw1 hca hcb
  go_wp2_with fail
  have RD := Lib.hid (RDice.two (w := w1.drew) R1.out R2.out hc1 hc2 (Nat.le_refl _))
  have HOK := Lib.hid (fun d h => (HD.out.die d h).ok)
  have HA0 : ∀ o : Obj, (w1.drew.alloc o).cell? ⟨ba, oa, none⟩ = some (.int .i64 xa) ∧ (w1.drew.alloc o).cell? ⟨bb, ob, none⟩ = some (.int .i64 xb) := fun o =>
    ⟨(World.cell?_of_block (Below.heap_alloc w1.drew o ba (Nat.lt_of_lt_of_le hba hs1))).trans hca1, (World.cell?_of_block (Below.heap_alloc w1.drew o bb (Nat.lt_of_lt_of_le hbb hs1))).trans hcb1⟩
  have HA := Lib.hid HA0
  clear HA0
  have ltA : ba < w1.heap.size := Nat.lt_of_lt_of_le hba hs1
  have ltB : bb < w1.heap.size := Nat.lt_of_lt_of_le hbb hs1
  have la2 : 0 < a.length := by omega
  have lb2 : 0 < b.length := by omega
  have la3 : (0 : Int) < (a.length : Int) := by omega
  have lb3 : (0 : Int) < (b.length : Int) := by omega
  go_region_held3 (fun w' => w'.cell? ⟨ba, oa, none⟩ = some (.int .i64 xa) ∧ w'.cell? ⟨bb, ob, none⟩ = some (.int .i64 xb))
    (first
      | exact ⟨hca1, hcb1⟩
      | exact HA.out _
      | exact k2
      | exact k3)
    (first
      | (go_at_call 58; refine (waysOf_any (some ⟨w1.heap.size, 0, none⟩) [a, b] 2 _ (RD.out.more (by simp)) (by simp) HOK.out).mono ?_; rintro e w2 ⟨M, rfl, hMb, hm2, hB2⟩; have k2 : w2.cell? ⟨ba, oa, none⟩ = some (.int .i64 xa) ∧ w2.cell? ⟨bb, ob, none⟩ = some (.int .i64 xb) := ⟨(hB2.cell (p := ⟨ba, oa, none⟩) (by simp; omega)).trans (HA.out _).1, (hB2.cell (p := ⟨bb, ob, none⟩) (by simp; omega)).trans (HA.out _).2⟩)
      | (go_at_call 72; refine (pairs_any M 262144 a.length b.length xa xb (waysF [a, b]) (nz (waysF [a, b])) (keys2 (waysF [a, b])) _ hm2 (by omega) HIN.out).mono ?_; rintro e w3 ⟨fv, rfl, ho, hg3⟩; have hMs : w1.heap.size + 1 ≤ M := (by simpa using hMb); have k3 : w3.cell? ⟨ba, oa, none⟩ = some (.int .i64 xa) ∧ w3.cell? ⟨bb, ob, none⟩ = some (.int .i64 xb) := ⟨(World.cell?_of_block (hg3.block ba (by have := hB2.size; simp at this; omega) (fun e => by injection e with e; omega))).trans k2.1, (World.cell?_of_block (hg3.block bb (by have := hB2.size; simp at this; omega) (fun e => by injection e with e; omega))).trans k2.2⟩))
  go_wp2_with fail
  go_ret2
  have hB12 : Below w.heap.size w w2 := (hB1.drew.alloc hs1 _).trans (hB2.mono (by simp; omega))
  exact ⟨fv, rfl, by rw [HL.out]; exact ho, hB12.grown hg3 hB12.size (fun j hj => by cases hj; omega)⟩

end Go.Proofs.Ytkkholagmjcgiaa
