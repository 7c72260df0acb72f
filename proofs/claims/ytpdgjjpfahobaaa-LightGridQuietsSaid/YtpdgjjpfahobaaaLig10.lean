/- Fewest of package light, at graphs and sets. -/
import Derived.Test.YtpdgjjpfahobaaaLig9
import Derived.Laws.StructEq
namespace Go.Proofs.Ytpdgjjpfahobaaa
open Go.RowKit Go.Shelf Lamp

theorem eqF (a c : Bool) (b d : Int) (w : World) : (Op.equalIn 10000 99 (.agg #[.bool a, .int .i64 b]) (.agg #[.bool c, .int .i64 d])).run Try.prog w = .ok (a == c && b == d) w := by
  have u3 := Try.underlying3
  have a3 := Try.isAgg3
  have z3 := Try.sizeOf3
  have u4 := Try.underlying4
  have a4 := Try.isAgg4
  have z4 := Try.sizeOf4
  have hp : Try.prog.stoodInHeld 99 = false := by kernel_rfl
  have hu := Try.underlying99
  have ht2 : Try.prog.underlying 99 = some (.struct (Try.prog.fieldsOf 99)) := by kernel_rfl
  rw [show (10000 : Nat) = 9999 + 1 from rfl, run_equalIn_agg w _ _ _ _ ht2 hp]
  clear ht2
  simp only [Program.fieldsOf, hu, Op.eqFields]
  clear hu
  go_simp
  by_cases h1 : a = c <;> by_cases h2 : b = d <;> simp [h1, h2]

theorem quiet_lt {w : World} {A : Option Addr} {n : Nat} {l : List (Int × Int)} (h : Gr w A n l) (own : Bool) : ∀ q ∈ quietL (grL n l own), q < 65536 := by
  have hlen := grL_len h.most l own
  have hlt : ∀ x ∈ grL n l own, x < 65536 := fun x hx => h.lt own x (List.mem_of_mem_take hx)
  have hI := Inv.all_ (grL n l own) (by rw [hlen]; exact h.most) hlt n (by rw [hlen]; exact Nat.le_refl _)
  intro q hq
  have hq' : q ∈ (redAll (grL n l own) n).2 := by unfold quietL at hq; rwa [hlen] at hq
  exact Nat.lt_of_lt_of_le (hI.quiet q hq').2.1 (pow_split h.most)
theorem quiet_len {n : Nat} (hn : n ≤ 16) (l : List (Int × Int)) (own : Bool) : (quietL (grL n l own)).length ≤ n := by
  unfold quietL; rw [grL_len hn]; exact redAll_len _ _
theorem solveL_lt {w : World} {A : Option Addr} {n : Nat} {l : List (Int × Int)} (_h : Gr w A n l) (own : Bool) (t : Nat) : (solveL (grL n l own) t).2 < 65536 ∧ ((solveL (grL n l own) t).1 = false → (solveL (grL n l own) t).2 = 0) := by
  unfold solveL
  simp only
  split
  · exact ⟨Nat.mod_lt _ (by decide), fun h => by cases h⟩
  · exact ⟨by decide, fun _ => rfl⟩

/-- What Fewest returns. -/
def fewL (sw : List Nat) (t : Nat) : Nat × Bool := if (solveL sw t).1 then (fewestL (solveL sw t).2 (quietL sw), true) else (0, false)

set_option maxHeartbeats 1000000 in
theorem Fewest_ok (A : Option Addr) (n t : Nat) (l : List (Int × Int)) (c : Nat) (own : Bool) (w : World) (h : Gr w A n l) (ht : t < 2 ^ n) :
    Calls Try.prog 29 #[.int .i64 n, .slice A l.length c, .bool own, .int .i64 t] w fun e w' => e = .returned (.tuple #[.int .i64 ((fewL (grL n l own) t).1 : Nat), .bool (fewL (grL n l own) t).2, .int .i64 0]) ∧ Below w.heap.size w w' := by
  have H := Lib.hid h
  have HC := Lib.hid (h.check (xs := [t]) (by simpa using ht))
  have ht16 : t < 65536 := Nat.lt_of_lt_of_le ht (pow_split h.most)
  have HK := Lib.hid (check1 A n t l c w h.reads h.len)
  have HSL := solveL_lt h own t
  obtain ⟨b, x, hbx⟩ : ∃ b x, solveL (grL n l own) t = (b, x) := ⟨_, _, rfl⟩
  rw [hbx] at HSL
  have HBX := Lib.hid hbx
  have HXL := Lib.hid HSL.1
  have HX0 := Lib.hid HSL.2
  have HF := Lib.hid (show fewL (grL n l own) t = if b then (fewestL x (quietL (grL n l own)), true) else (0, false) by unfold fewL; rw [hbx])
  have HQ := Lib.hid (quiet_lt h own)
  have HQL := Lib.hid (show (quietL (grL n l own)).length ≤ 16 from Nat.le_trans (quiet_len h.most l own) h.most)
  clear h ht hbx HSL
  cases b
  · have HZ := Lib.hid (HX0.out rfl)
    go_enter Try.func29, Try.ntmps29
    go_wp2_with fail
    refine HK.out.mono ?_
    rintro e w1 ⟨rfl, hb1⟩
    have HB1 := Lib.hid hb1
    rw [show checkS n l [(t : Int)] = 0 from HC.out]
    clear hb1
    go_wp2_with fail
    refine ((H.out.up HB1.out).graphOf c own).mono ?_
    rintro e w2 ⟨rfl, hb2⟩
    have HB2 := Lib.hid (HB1.out.trans (hb2.mono HB1.out.size))
    clear hb2
    go_wp2_with fail
    refine (H.out.solve own ht16 HBX.out).mono ?_
    rintro e w3 ⟨v, rfl, _, hb3⟩
    have HB3 := Lib.hid (HB2.out.trans (hb3.mono HB2.out.size))
    rw [HZ.out]
    clear hb3
    have heq := fun W => eqF false false (((0 : Nat) : Int)) 0 W
    go_wp2_with fail
    go_ret3
    exact ⟨by rw [HF.out]; rfl, HB3.out.alloc HB3.out.size _⟩
  · go_enter Try.func29, Try.ntmps29
    go_wp2_with fail
    refine HK.out.mono ?_
    rintro e w1 ⟨rfl, hb1⟩
    have HB1 := Lib.hid hb1
    rw [show checkS n l [(t : Int)] = 0 from HC.out]
    clear hb1
    go_wp2_with fail
    refine ((H.out.up HB1.out).graphOf c own).mono ?_
    rintro e w2 ⟨rfl, hb2⟩
    have HB2 := Lib.hid (HB1.out.trans (hb2.mono HB1.out.size))
    clear hb2
    go_wp2_with fail
    refine (H.out.solve own ht16 HBX.out).mono ?_
    rintro e w3 ⟨v, rfl, ho, hb3⟩
    have HB3 := Lib.hid (HB2.out.trans (hb3.mono HB2.out.size))
    obtain ⟨V, cv, hv, hri⟩ := ho.reads
    rw [natV_len] at hv
    subst hv
    have HRI := Lib.hid hri
    clear hb3 ho hri
    have heq := fun W => eqF true false (x : Int) 0 W
    go_wp2_with fail
    refine (fewest_any V x _ cv (quietL (grL n l own)) _ rfl ((HRI.out.keep (fun b o hb => (Below.refl w3.heap.size w3).alloc (Nat.le_refl _) _ |>.cell (p := ⟨b, o, none⟩) hb)).more (by simp)) HQL.out HXL.out HQ.out).mono ?_
    rintro e w4 ⟨rfl, hb4⟩
    go_wp2_with fail
    go_ret3
    exact ⟨by rw [HF.out]; rfl, (HB3.out.alloc HB3.out.size _).trans (hb4.mono (by have := HB3.out.size; simp; omega))⟩

end Go.Proofs.Ytpdgjjpfahobaaa
