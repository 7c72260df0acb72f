/- The functions Orders and Fair of package dice at more than four dice, and at dice that share a side: the errors. · The functions Min and Max of package slices at rows of int64, and the function Fair of package dice. -/
import Derived.Test.YtkkholagmjcgiaaBad
import Derived.Test.YtkkholagmjcgiaaOrders
import Derived.Test.YtkkholagmjcgiaaRisesL
import Derived.Test.YtkkholagmjcgiaaBeats2
namespace Go.Proofs.Ytkkholagmjcgiaa
open Go.RowKit Go.Shelf

set_option maxRecDepth 100000 in
set_option maxHeartbeats 2000000 in
theorem Orders_err (A : Option Addr) (ds : List (List Int)) (c : Nat) (w : World) (hr : RDice w w.heap.size A ds) (hd : AreDice ds) (k : Int) (hk : 4 < ds.length ∧ k = 2 ∨ ds.length ≤ 4 ∧ commonL ds = true ∧ k = 10) :
    Calls Try.prog 30 #[.slice A ds.length c] w fun e w' => e = .returned (.tuple #[.slice none 0 0, .int .i64 k]) ∧ Below w.heap.size w w' := by
  obtain ⟨wa, hwa⟩ : ∃ wa, w.alloc (Obj.cells #[Value.slice A ds.length c] 22) = wa := ⟨_, rfl⟩
  have hsa : wa.heap.size = w.heap.size + 1 := by rw [← hwa]; simp
  have HBa := Lib.hid (show Below w.heap.size w wa from by rw [← hwa]; exact (Below.refl _ w).alloc (Nat.le_refl _) _)
  have HBX := Lib.hid (show Box wa w.heap.size 22 #[Value.slice A ds.length c] from by rw [← hwa]; exact Box.new _ _ _)
  have HR := Lib.hid ((hr.below HBa.out).more (show w.heap.size ≤ wa.heap.size by omega))
  have HC := Lib.hid (check_any A ds c wa.heap.size wa HR.out (by have := hd.len; omega) (fun d h => by have := (hd.die d h).ok.1; omega))
  have HZ := Lib.hid (checkL_zero hd)
  have HCS := Lib.hid (fun n => haveCommonSide_any A ds c (wa.drewN n) (HR.out.drewN n) hd.len (fun d h => (hd.die d h).ok))
  have HSA := Lib.hid hsa
  have HWA := Lib.hid hwa
  have ca := HBX.out.cell 0
  simp only [List.getElem?_toArray, List.getElem?_cons_zero] at ca
  clear hr hd hsa hwa
  rcases hk with ⟨h4, rfl⟩ | ⟨h4, hco, rfl⟩
  · have h4i : (4 : Int) < (ds.length : Int) := by omega
    go_enter Try.func30, Try.ntmps30
    go_wp2_with fail
    rw [HWA.out]
    refine HC.out.mono ?_
    rintro e w' ⟨rfl, n, rfl⟩
    rw [HZ.out]
    go_wp2_with fail
    refine bodyPost_ret (v := .tuple #[.slice none 0 0, .int .i64 2]) (by simp [results, Try.results30, go_sem]) rfl ⟨rfl, ?_⟩
    exact Below.drewN_ HBa.out n
  · have h4i : ¬ (4 : Int) < (ds.length : Int) := by omega
    have HCO := Lib.hid hco
    clear hco
    go_enter Try.func30, Try.ntmps30
    go_wp2_with fail
    rw [HWA.out]
    refine HC.out.mono ?_
    rintro e w' ⟨rfl, n, rfl⟩
    rw [HZ.out]
    go_wp2_with fail
    refine (HCS.out n).mono ?_
    rintro e wc ⟨rfl, hbc⟩
    rw [HCO.out]
    have HBC := Lib.hid hbc
    clear hbc
    go_wp2_with fail
    refine bodyPost_ret (v := .tuple #[.slice none 0 0, .int .i64 10]) (by simp [results, Try.results30, go_sem]) rfl ⟨rfl, ?_⟩
    exact (Below.drewN_ HBa.out n).trans (HBC.out.mono (by have := HBa.out.size; simpa using this))

set_option maxRecDepth 100000 in
set_option maxHeartbeats 1000000 in
theorem Fair_err (A : Option Addr) (ds : List (List Int)) (c : Nat) (w : World) (hr : RDice w w.heap.size A ds) (hd : AreDice ds) (k : Int) (hk : 4 < ds.length ∧ k = 2 ∨ ds.length ≤ 4 ∧ commonL ds = true ∧ k = 10) :
    Calls Try.prog 31 #[.slice A ds.length c] w fun e w' => e = .returned (.tuple #[.bool false, .int .i64 k]) ∧ Below w.heap.size w w' := by
  have HC := Lib.hid (Orders_err A ds c w hr hd k hk)
  have hbad : k ≠ 0 := by rcases hk with ⟨_, rfl⟩ | ⟨_, _, rfl⟩ <;> decide
  have hne : (k == 0) = false := by rw [beq_eq_false_iff_ne]; exact hbad
  have hne2 : (k != 0) = true := by simp [bne, hne]
  clear hr hd hk hbad
  go_enter Try.func31, Try.ntmps31
  go_wp2_with fail
  refine HC.out.mono ?_
  rintro e w' ⟨rfl, hb⟩
  have HB := Lib.hid hb
  clear hb
  go_wp2_with fail
  refine bodyPost_ret (v := .tuple #[.bool false, .int .i64 k]) (by simp [results, Try.results31, go_sem]) rfl ⟨rfl, HB.out⟩

end Go.Proofs.Ytkkholagmjcgiaa

namespace Go.Proofs.Ytkkholagmjcgiaa
open Go.RowKit

/-- The least and the greatest of a list. -/
def GotMin (w : World) (zs : List Int) (e : Ending) (w' : World) : Prop := ∃ S : Int, e = .returned (.int .i64 S) ∧ (S ∈ zs ∧ ∀ z ∈ zs, S ≤ z) ∧ w = w'
def GotMax (w : World) (zs : List Int) (e : Ending) (w' : World) : Prop := ∃ S : Int, e = .returned (.int .i64 S) ∧ (S ∈ zs ∧ ∀ z ∈ zs, z ≤ S) ∧ w = w'

set_option maxRecDepth 100000 in
set_option maxHeartbeats 2000000 in
theorem Min_any (A : Option Addr) (zs : List Int) (c : Nat) (w : World) (hr : ∀ (j : Nat) (z : Int), zs[j]? = some z → ∃ g, A = some ⟨g, 0, none⟩ ∧ w.cell? ⟨g, j, none⟩ = some (.int .i64 z)) (h1 : 1 ≤ zs.length) (hl : zs.length ≤ 1000) :
    Calls Try.prog 69 #[.slice A zs.length c] w (GotMin w zs) := by
  have HR := Lib.hid hr
  obtain ⟨z0, hz0⟩ : ∃ z, zs[0]? = some z := ⟨_, List.getElem?_eq_getElem (by omega)⟩
  obtain ⟨g0, rfl, hc0⟩ := hr 0 z0 hz0
  have HZ0 := Lib.hid hz0
  obtain ⟨n, hn⟩ : ∃ n, zs.length = n + 1 := ⟨zs.length - 1, by omega⟩
  have HN := Lib.hid hn
  have hd0 : decide ((zs.length : Int) < 1) = false := decide_eq_false (by omega)
  have hp0 : 0 < zs.length := by omega
  have hp1 : (0 : Int) < (zs.length : Int) := by omega
  clear hr hz0 hn
  go_enter Try.func69, Try.ntmps69
  go_wp2_with fail
  clear hd0 hc0
  go_loopg [3, 4] n (fun g m i wx => ∃ (k : Nat) (S : Int), k + g = n ∧ i = .int .i64 ((k : Int) + 1) ∧ m = .int .i64 S ∧ Hid (S ∈ zs ∧ ∀ z ∈ zs.take (k + 1), S ≤ z) ∧ w = wx)
  case atStart =>
    refine ⟨0, z0, by omega, rfl, rfl, Lib.hid ⟨List.mem_of_getElem? HZ0.out, fun z hz => ?_⟩, rfl⟩
    rw [take_snoc (k := 0) HZ0.out] at hz
    have : z = z0 := by simpa using hz
    omega
  case round =>
    obtain ⟨k, S, hk, rfl, rfl, HS1, rfl⟩ := hrel
    have HS := HS1
    clear HS1
    have HN1 := HN.out
    cases gk with
    | zero =>
      obtain rfl : k = n := by omega
      go_wp2_with fail
      go_ret
      refine ⟨S, rfl, ⟨HS.out.1, fun z hz => HS.out.2 z ?_⟩, rfl⟩
      rw [List.take_of_length_le (by omega)]
      exact hz
    | succ g =>
      obtain ⟨z, hz⟩ : ∃ z, zs[k + 1]? = some z := ⟨_, List.getElem?_eq_getElem (by omega)⟩
      obtain ⟨_, hg, hcz⟩ := HR.out (k + 1) z hz
      cases hg
      have HZ := Lib.hid hz
      have hkl1 : (k : Int) + 1 < (zs.length : Int) := by omega
      have hk0 : (0 : Int) ≤ (k : Int) + 1 := by omega
      have hkt : ((k : Int) + 1).toNat = k + 1 := by omega
      have HST := Lib.hid (take_snoc hz)
      clear hz HN1
      go_wp2_with fail
      go_roundg g
      case measure => omega
      case rel =>
        refine ⟨k + 1, min S z, by omega, by go_num, rfl, Lib.hid ⟨?_, fun y hy => ?_⟩, rfl⟩
        · rcases Int.le_total S z with h | h
          · rw [Int.min_eq_left h]; exact HS.out.1
          · rw [Int.min_eq_right h]; exact List.mem_of_getElem? HZ.out
        · rw [HST.out] at hy
          rcases List.mem_append.1 hy with h | h
          · have := HS.out.2 y h
            omega
          · have := List.mem_singleton.1 h
            omega

set_option maxRecDepth 100000 in
set_option maxHeartbeats 2000000 in
theorem Max_any (A : Option Addr) (zs : List Int) (c : Nat) (w : World) (hr : ∀ (j : Nat) (z : Int), zs[j]? = some z → ∃ g, A = some ⟨g, 0, none⟩ ∧ w.cell? ⟨g, j, none⟩ = some (.int .i64 z)) (h1 : 1 ≤ zs.length) (hl : zs.length ≤ 1000) :
    Calls Try.prog 70 #[.slice A zs.length c] w (GotMax w zs) := by
  have HR := Lib.hid hr
  obtain ⟨z0, hz0⟩ : ∃ z, zs[0]? = some z := ⟨_, List.getElem?_eq_getElem (by omega)⟩
  obtain ⟨g0, rfl, hc0⟩ := hr 0 z0 hz0
  have HZ0 := Lib.hid hz0
  obtain ⟨n, hn⟩ : ∃ n, zs.length = n + 1 := ⟨zs.length - 1, by omega⟩
  have HN := Lib.hid hn
  have hd0 : decide ((zs.length : Int) < 1) = false := decide_eq_false (by omega)
  have hp0 : 0 < zs.length := by omega
  have hp1 : (0 : Int) < (zs.length : Int) := by omega
  clear hr hz0 hn
  go_enter Try.func70, Try.ntmps70
  go_wp2_with fail
  clear hd0 hc0
  go_loopg [3, 4] n (fun g m i wx => ∃ (k : Nat) (S : Int), k + g = n ∧ i = .int .i64 ((k : Int) + 1) ∧ m = .int .i64 S ∧ Hid (S ∈ zs ∧ ∀ z ∈ zs.take (k + 1), z ≤ S) ∧ w = wx)
  case atStart =>
    refine ⟨0, z0, by omega, rfl, rfl, Lib.hid ⟨List.mem_of_getElem? HZ0.out, fun z hz => ?_⟩, rfl⟩
    rw [take_snoc (k := 0) HZ0.out] at hz
    have : z = z0 := by simpa using hz
    omega
  case round =>
    obtain ⟨k, S, hk, rfl, rfl, HS1, rfl⟩ := hrel
    have HS := HS1
    clear HS1
    have HN1 := HN.out
    cases gk with
    | zero =>
      obtain rfl : k = n := by omega
      go_wp2_with fail
      go_ret
      refine ⟨S, rfl, ⟨HS.out.1, fun z hz => HS.out.2 z ?_⟩, rfl⟩
      rw [List.take_of_length_le (by omega)]
      exact hz
    | succ g =>
      obtain ⟨z, hz⟩ : ∃ z, zs[k + 1]? = some z := ⟨_, List.getElem?_eq_getElem (by omega)⟩
      obtain ⟨_, hg, hcz⟩ := HR.out (k + 1) z hz
      cases hg
      have HZ := Lib.hid hz
      have hkl1 : (k : Int) + 1 < (zs.length : Int) := by omega
      have hk0 : (0 : Int) ≤ (k : Int) + 1 := by omega
      have hkt : ((k : Int) + 1).toNat = k + 1 := by omega
      have HST := Lib.hid (take_snoc hz)
      clear hz HN1
      go_wp2_with fail
      go_roundg g
      case measure => omega
      case rel =>
        refine ⟨k + 1, max S z, by omega, by go_num, rfl, Lib.hid ⟨?_, fun y hy => ?_⟩, rfl⟩
        · rcases Int.le_total z S with h | h
          · rw [Int.max_eq_left h]; exact HS.out.1
          · rw [Int.max_eq_right h]; exact List.mem_of_getElem? HZ.out
        · rw [HST.out] at hy
          rcases List.mem_append.1 hy with h | h
          · have := HS.out.2 y h
            omega
          · have := List.mem_singleton.1 h
            omega

/-- Whether all numbers of a list are the same. -/
def fairB (zs : List Int) : Bool := zs.all fun z => zs.all fun y => decide (z = y)
theorem fair_iff {zs : List Int} {S T : Int} (hS : S ∈ zs ∧ ∀ z ∈ zs, S ≤ z) (hT : T ∈ zs ∧ ∀ z ∈ zs, z ≤ T) : decide (S = T) = fairB zs := by
  rw [Bool.eq_iff_iff, decide_eq_true_eq]
  unfold fairB
  simp only [List.all_eq_true, decide_eq_true_eq]
  refine ⟨fun h z hz y hy => ?_, fun h => h S hS.1 T hT.1⟩
  have a1 := hS.2 z hz
  have a2 := hT.2 z hz
  have a3 := hS.2 y hy
  have a4 := hT.2 y hy
  omega

set_option maxRecDepth 100000 in
set_option maxHeartbeats 2000000 in
theorem Fair_ok (A : Option Addr) (ds : List (List Int)) (c : Nat) (w : World) (hr : RDice w w.heap.size A ds) (hd : AreDice ds) (h4 : ds.length ≤ 4) (hco : commonL ds = false) (h1 : 1 ≤ (ordersL ds.length).length) :
    Calls Try.prog 31 #[.slice A ds.length c] w fun e w' => e = .returned (.tuple #[.bool (fairB (numsL ds (ordersL ds.length))), .int .i64 0]) ∧ Below w.heap.size w w' := by
  have HO := Lib.hid (Orders_ok A ds c w hr hd h4 hco)
  have hOl : (numsL ds (ordersL ds.length)).length ≤ 24 := by unfold numsL; rw [List.length_map]; exact orders_len hd.pos h4
  have hO1 : 1 ≤ (numsL ds (ordersL ds.length)).length := by unfold numsL; rw [List.length_map]; exact h1
  obtain ⟨O, hO⟩ : ∃ O, numsL ds (ordersL ds.length) = O := ⟨_, rfl⟩
  rw [hO] at HO hOl hO1 ⊢
  clear hr hd hco hO h1
  go_enter Try.func31, Try.ntmps31
  go_wp2_with fail
  refine HO.out.mono ?_
  rintro e w1 ⟨v, rfl, ho, hb⟩
  obtain ⟨Ao, co, rfl, hro⟩ := ho.reads
  have HB := Lib.hid hb
  have HRO := Lib.hid (hro w1 (Below.refl _ _))
  clear ho hb hro
  go_wp2_with fail
  refine (Min_any Ao O co w1 HRO.out hO1 (by omega)).mono ?_
  rintro e w2 ⟨S, rfl, hS, rfl⟩
  have HS := Lib.hid hS
  clear hS
  go_wp2_with fail
  refine (Max_any Ao O co w1 HRO.out hO1 (by omega)).mono ?_
  rintro e w2 ⟨T, rfl, hT, rfl⟩
  have HF := Lib.hid (show (S == T) = fairB O by rw [← fair_iff HS.out hT]; rfl)
  clear hT
  go_wp2_with fail
  refine bodyPost_ret (v := .tuple #[.bool (fairB O), .int .i64 0]) (by rw [← HF.out]; simp [results, Try.results31, go_sem]) rfl ⟨rfl, HB.out⟩

end Go.Proofs.Ytkkholagmjcgiaa
