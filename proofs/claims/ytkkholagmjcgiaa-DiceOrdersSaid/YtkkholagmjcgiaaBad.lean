/- Of lists that are no dice the functions of package dice return the error of Check, and zero values besides. -/
import Derived.Test.YtkkholagmjcgiaaOwn
import Derived.Test.YtkkholagmjcgiaaRing
namespace Go.Proofs.Ytkkholagmjcgiaa
open Go.RowKit Go.Shelf

set_option maxRecDepth 100000 in
set_option maxHeartbeats 1000000 in
theorem Results_bad (A : Option Addr) (ds : List (List Int)) (c : Nat) (w : World) (hr : RDice w w.heap.size A ds) (hl : ds.length ≤ 1000) (hd : ∀ d ∈ ds, d.length ≤ 1000) (hbad : checkL ds ≠ 0) :
    Calls Try.prog 23 #[.slice A ds.length c] w fun e w' => e = .returned (.tuple #[.int .i64 0, .int .i64 (checkL ds)]) ∧ Below w.heap.size w w' := by
  have HC := Lib.hid (fun (W : World) (hb : Below w.heap.size w W) => check_any A ds c w.heap.size W (hr.below hb) (by omega) (fun d h => by have := hd d h; omega))
  obtain ⟨k, hk⟩ : ∃ k, checkL ds = k := ⟨_, rfl⟩
  rw [hk] at hbad HC ⊢
  have hne : (k == 0) = false := by rw [beq_eq_false_iff_ne]; exact hbad
  have hne2 : (k != 0) = true := by simp [bne, hne]
  clear hr hd hk hbad
  go_enter Try.func23, Try.ntmps23
  go_wp2_with fail
  refine (HC.out _ (by first | exact Below.refl _ _ | exact (Below.refl _ _).alloc (Nat.le_refl _) _)).mono ?_
  rintro e w' ⟨rfl, n, rfl⟩
  go_wp2_with fail
  refine bodyPost_ret (v := .tuple #[.int .i64 0, .int .i64 k]) (by simp [results, Try.results23, go_sem]) rfl ⟨rfl, ?_⟩
  first
    | exact Below.drewN_ (Below.refl _ w) n
    | exact Below.drewN_ ((Below.refl _ w).alloc (Nat.le_refl _) _) n

set_option maxRecDepth 100000 in
set_option maxHeartbeats 1000000 in
theorem Sums_bad (A : Option Addr) (ds : List (List Int)) (c : Nat) (w : World) (hr : RDice w w.heap.size A ds) (hl : ds.length ≤ 1000) (hd : ∀ d ∈ ds, d.length ≤ 1000) (hbad : checkL ds ≠ 0) :
    Calls Try.prog 24 #[.slice A ds.length c] w fun e w' => e = .returned (.tuple #[.slice none 0 0, .int .i64 (checkL ds)]) ∧ Below w.heap.size w w' := by
  have HC := Lib.hid (fun (W : World) (hb : Below w.heap.size w W) => check_any A ds c w.heap.size W (hr.below hb) (by omega) (fun d h => by have := hd d h; omega))
  obtain ⟨k, hk⟩ : ∃ k, checkL ds = k := ⟨_, rfl⟩
  rw [hk] at hbad HC ⊢
  have hne : (k == 0) = false := by rw [beq_eq_false_iff_ne]; exact hbad
  have hne2 : (k != 0) = true := by simp [bne, hne]
  clear hr hd hk hbad
  go_enter Try.func24, Try.ntmps24
  go_wp2_with fail
  refine (HC.out _ (by first | exact Below.refl _ _ | exact (Below.refl _ _).alloc (Nat.le_refl _) _)).mono ?_
  rintro e w' ⟨rfl, n, rfl⟩
  go_wp2_with fail
  refine bodyPost_ret (v := .tuple #[.slice none 0 0, .int .i64 k]) (by simp [results, Try.results24, go_sem]) rfl ⟨rfl, ?_⟩
  first
    | exact Below.drewN_ (Below.refl _ w) n
    | exact Below.drewN_ ((Below.refl _ w).alloc (Nat.le_refl _) _) n

set_option maxRecDepth 100000 in
set_option maxHeartbeats 1000000 in
theorem Ways_bad (A : Option Addr) (ds : List (List Int)) (c : Nat) (w : World) (hr : RDice w w.heap.size A ds) (hl : ds.length ≤ 1000) (hd : ∀ d ∈ ds, d.length ≤ 1000) (hbad : checkL ds ≠ 0) :
    Calls Try.prog 25 #[.slice A ds.length c, .int .i64 3] w fun e w' => e = .returned (.tuple #[.int .i64 0, .int .i64 (checkL ds)]) ∧ Below w.heap.size w w' := by
  have HC := Lib.hid (fun (W : World) (hb : Below w.heap.size w W) => check_any A ds c w.heap.size W (hr.below hb) (by omega) (fun d h => by have := hd d h; omega))
  obtain ⟨k, hk⟩ : ∃ k, checkL ds = k := ⟨_, rfl⟩
  rw [hk] at hbad HC ⊢
  have hne : (k == 0) = false := by rw [beq_eq_false_iff_ne]; exact hbad
  have hne2 : (k != 0) = true := by simp [bne, hne]
  clear hr hd hk hbad
  go_enter Try.func25, Try.ntmps25
  go_wp2_with fail
  refine (HC.out _ (by first | exact Below.refl _ _ | exact (Below.refl _ _).alloc (Nat.le_refl _) _)).mono ?_
  rintro e w' ⟨rfl, n, rfl⟩
  go_wp2_with fail
  refine bodyPost_ret (v := .tuple #[.int .i64 0, .int .i64 k]) (by simp [results, Try.results25, go_sem]) rfl ⟨rfl, ?_⟩
  first
    | exact Below.drewN_ (Below.refl _ w) n
    | exact Below.drewN_ ((Below.refl _ w).alloc (Nat.le_refl _) _) n

set_option maxRecDepth 100000 in
set_option maxHeartbeats 1000000 in
theorem Beats_bad (A : Option Addr) (ds : List (List Int)) (c : Nat) (w : World) (hr : RDice w w.heap.size A ds) (hl : ds.length ≤ 1000) (hd : ∀ d ∈ ds, d.length ≤ 1000) (hbad : checkL ds ≠ 0) :
    Calls Try.prog 27 #[.slice A ds.length c] w fun e w' => e = .returned (.tuple #[.slice none 0 0, .int .i64 (checkL ds)]) ∧ Below w.heap.size w w' := by
  have HC := Lib.hid (fun (W : World) (hb : Below w.heap.size w W) => check_any A ds c w.heap.size W (hr.below hb) (by omega) (fun d h => by have := hd d h; omega))
  obtain ⟨k, hk⟩ : ∃ k, checkL ds = k := ⟨_, rfl⟩
  rw [hk] at hbad HC ⊢
  have hne : (k == 0) = false := by rw [beq_eq_false_iff_ne]; exact hbad
  have hne2 : (k != 0) = true := by simp [bne, hne]
  clear hr hd hk hbad
  go_enter Try.func27, Try.ntmps27
  go_wp2_with fail
  refine (HC.out _ (by first | exact Below.refl _ _ | exact (Below.refl _ _).alloc (Nat.le_refl _) _)).mono ?_
  rintro e w' ⟨rfl, n, rfl⟩
  go_wp2_with fail
  refine bodyPost_ret (v := .tuple #[.slice none 0 0, .int .i64 k]) (by simp [results, Try.results27, go_sem]) rfl ⟨rfl, ?_⟩
  first
    | exact Below.drewN_ (Below.refl _ w) n
    | exact Below.drewN_ ((Below.refl _ w).alloc (Nat.le_refl _) _) n

set_option maxRecDepth 100000 in
set_option maxHeartbeats 1000000 in
theorem Ring_bad (A : Option Addr) (ds : List (List Int)) (c : Nat) (w : World) (hr : RDice w w.heap.size A ds) (hl : ds.length ≤ 1000) (hd : ∀ d ∈ ds, d.length ≤ 1000) (hbad : checkL ds ≠ 0) :
    Calls Try.prog 28 #[.slice A ds.length c] w fun e w' => e = .returned (.tuple #[.slice none 0 0, .bool false, .int .i64 (checkL ds)]) ∧ Below w.heap.size w w' := by
  have HC := Lib.hid (fun (W : World) (hb : Below w.heap.size w W) => check_any A ds c w.heap.size W (hr.below hb) (by omega) (fun d h => by have := hd d h; omega))
  obtain ⟨k, hk⟩ : ∃ k, checkL ds = k := ⟨_, rfl⟩
  rw [hk] at hbad HC ⊢
  have hne : (k == 0) = false := by rw [beq_eq_false_iff_ne]; exact hbad
  have hne2 : (k != 0) = true := by simp [bne, hne]
  clear hr hd hk hbad
  go_enter Try.func28, Try.ntmps28
  go_wp2_with fail
  refine (HC.out _ (by first | exact Below.refl _ _ | exact (Below.refl _ _).alloc (Nat.le_refl _) _)).mono ?_
  rintro e w' ⟨rfl, n, rfl⟩
  go_wp2_with fail
  refine bodyPost_ret (v := .tuple #[.slice none 0 0, .bool false, .int .i64 k]) (by simp [results, Try.results28, go_sem]) rfl ⟨rfl, ?_⟩
  first
    | exact Below.drewN_ (Below.refl _ w) n
    | exact Below.drewN_ ((Below.refl _ w).alloc (Nat.le_refl _) _) n

set_option maxRecDepth 100000 in
set_option maxHeartbeats 1000000 in
theorem Rank_bad (A : Option Addr) (ds : List (List Int)) (c : Nat) (w : World) (hr : RDice w w.heap.size A ds) (hl : ds.length ≤ 1000) (hd : ∀ d ∈ ds, d.length ≤ 1000) (hbad : checkL ds ≠ 0) :
    Calls Try.prog 29 #[.slice A ds.length c] w fun e w' => e = .returned (.tuple #[.slice none 0 0, .bool false, .int .i64 (checkL ds)]) ∧ Below w.heap.size w w' := by
  have HC := Lib.hid (fun (W : World) (hb : Below w.heap.size w W) => check_any A ds c w.heap.size W (hr.below hb) (by omega) (fun d h => by have := hd d h; omega))
  obtain ⟨k, hk⟩ : ∃ k, checkL ds = k := ⟨_, rfl⟩
  rw [hk] at hbad HC ⊢
  have hne : (k == 0) = false := by rw [beq_eq_false_iff_ne]; exact hbad
  have hne2 : (k != 0) = true := by simp [bne, hne]
  clear hr hd hk hbad
  go_enter Try.func29, Try.ntmps29
  go_wp2_with fail
  refine (HC.out _ (by first | exact Below.refl _ _ | exact (Below.refl _ _).alloc (Nat.le_refl _) _)).mono ?_
  rintro e w' ⟨rfl, n, rfl⟩
  go_wp2_with fail
  refine bodyPost_ret (v := .tuple #[.slice none 0 0, .bool false, .int .i64 k]) (by simp [results, Try.results29, go_sem]) rfl ⟨rfl, ?_⟩
  first
    | exact Below.drewN_ (Below.refl _ w) n
    | exact Below.drewN_ ((Below.refl _ w).alloc (Nat.le_refl _) _) n

set_option maxRecDepth 100000 in
set_option maxHeartbeats 1000000 in
theorem Orders_bad (A : Option Addr) (ds : List (List Int)) (c : Nat) (w : World) (hr : RDice w w.heap.size A ds) (hl : ds.length ≤ 1000) (hd : ∀ d ∈ ds, d.length ≤ 1000) (hbad : checkL ds ≠ 0) :
    Calls Try.prog 30 #[.slice A ds.length c] w fun e w' => e = .returned (.tuple #[.slice none 0 0, .int .i64 (checkL ds)]) ∧ Below w.heap.size w w' := by
  have HC := Lib.hid (fun (W : World) (hb : Below w.heap.size w W) => check_any A ds c w.heap.size W (hr.below hb) (by omega) (fun d h => by have := hd d h; omega))
  obtain ⟨k, hk⟩ : ∃ k, checkL ds = k := ⟨_, rfl⟩
  rw [hk] at hbad HC ⊢
  have hne : (k == 0) = false := by rw [beq_eq_false_iff_ne]; exact hbad
  have hne2 : (k != 0) = true := by simp [bne, hne]
  clear hr hd hk hbad
  go_enter Try.func30, Try.ntmps30
  go_wp2_with fail
  refine (HC.out _ (by first | exact Below.refl _ _ | exact (Below.refl _ _).alloc (Nat.le_refl _) _)).mono ?_
  rintro e w' ⟨rfl, n, rfl⟩
  go_wp2_with fail
  refine bodyPost_ret (v := .tuple #[.slice none 0 0, .int .i64 k]) (by simp [results, Try.results30, go_sem]) rfl ⟨rfl, ?_⟩
  first
    | exact Below.drewN_ (Below.refl _ w) n
    | exact Below.drewN_ ((Below.refl _ w).alloc (Nat.le_refl _) _) n

set_option maxRecDepth 100000 in
set_option maxHeartbeats 1000000 in
theorem Fair_bad (A : Option Addr) (ds : List (List Int)) (c : Nat) (w : World) (hr : RDice w w.heap.size A ds) (hl : ds.length ≤ 1000) (hd : ∀ d ∈ ds, d.length ≤ 1000) (hbad : checkL ds ≠ 0) :
    Calls Try.prog 31 #[.slice A ds.length c] w fun e w' => e = .returned (.tuple #[.bool false, .int .i64 (checkL ds)]) ∧ Below w.heap.size w w' := by
  have HC := Lib.hid (Orders_bad A ds c w hr hl hd hbad)
  obtain ⟨k, hk⟩ : ∃ k, checkL ds = k := ⟨_, rfl⟩
  rw [hk] at hbad HC ⊢
  have hne : (k == 0) = false := by rw [beq_eq_false_iff_ne]; exact hbad
  have hne2 : (k != 0) = true := by simp [bne, hne]
  clear hr hd hk hbad
  go_enter Try.func31, Try.ntmps31
  go_wp2_with fail
  refine HC.out.mono ?_
  rintro e w' ⟨rfl, hb⟩
  have HB := Lib.hid hb
  clear hb
  go_wp2_with fail
  refine bodyPost_ret (v := .tuple #[.bool false, .int .i64 k]) (by simp [results, Try.results31, go_sem]) rfl ⟨rfl, HB.out⟩

set_option maxRecDepth 100000 in
set_option maxHeartbeats 1000000 in
theorem Same_bad1 (A A2 : Option Addr) (ds : List (List Int)) (c n2 c2 : Nat) (w : World) (hr : RDice w w.heap.size A ds) (hl : ds.length ≤ 1000) (hd : ∀ d ∈ ds, d.length ≤ 1000) (hbad : checkL ds ≠ 0) :
    Calls Try.prog 26 #[.slice A ds.length c, .slice A2 n2 c2] w fun e w' => e = .returned (.tuple #[.bool false, .int .i64 (checkL ds)]) ∧ Below w.heap.size w w' := by
  have HC := Lib.hid (fun (W : World) (hb : Below w.heap.size w W) => check_any A ds c w.heap.size W (hr.below hb) (by omega) (fun d h => by have := hd d h; omega))
  obtain ⟨k, hk⟩ : ∃ k, checkL ds = k := ⟨_, rfl⟩
  rw [hk] at hbad HC ⊢
  have hne : (k == 0) = false := by rw [beq_eq_false_iff_ne]; exact hbad
  have hne2 : (k != 0) = true := by simp [bne, hne]
  clear hr hd hk hbad
  go_enter Try.func26, Try.ntmps26
  go_wp2_with fail
  refine (HC.out _ (by first | exact Below.refl _ _ | exact (Below.refl _ _).alloc (Nat.le_refl _) _)).mono ?_
  rintro e w' ⟨rfl, n, rfl⟩
  go_wp2_with fail
  refine bodyPost_ret (v := .tuple #[.bool false, .int .i64 k]) (by simp [results, Try.results26, go_sem]) rfl ⟨rfl, Below.drewN_ (Below.refl _ w) n⟩

set_option maxRecDepth 100000 in
set_option maxHeartbeats 1000000 in
theorem Same_bad2 (A A2 : Option Addr) (ds0 ds : List (List Int)) (c c2 : Nat) (w : World) (h0 : RDice w w.heap.size A ds0) (hok : AreDice ds0) (hr : RDice w w.heap.size A2 ds) (hl : ds.length ≤ 1000) (hd : ∀ d ∈ ds, d.length ≤ 1000) (hbad : checkL ds ≠ 0) :
    Calls Try.prog 26 #[.slice A ds0.length c, .slice A2 ds.length c2] w fun e w' => e = .returned (.tuple #[.bool false, .int .i64 (checkL ds)]) ∧ Below w.heap.size w w' := by
  have HC0 := Lib.hid (check_any A ds0 c w.heap.size w h0 (by have := hok.len; omega) (fun d h => by have := (hok.die d h).ok.1; omega))
  have HZ := Lib.hid (checkL_zero hok)
  have HC := Lib.hid (fun (W : World) (hb : Below w.heap.size w W) => check_any A2 ds c2 w.heap.size W (hr.below hb) (by omega) (fun d h => by have := hd d h; omega))
  obtain ⟨k, hk⟩ : ∃ k, checkL ds = k := ⟨_, rfl⟩
  rw [hk] at hbad HC ⊢
  have hne : (k == 0) = false := by rw [beq_eq_false_iff_ne]; exact hbad
  have hne2 : (k != 0) = true := by simp [bne, hne]
  clear hr hd hk hbad h0 hok
  go_enter Try.func26, Try.ntmps26
  go_wp2_with fail
  refine HC0.out.mono ?_
  rintro e w' ⟨rfl, n, rfl⟩
  rw [HZ.out]
  go_wp2_with fail
  refine (HC.out _ (Below.drewN_ (Below.refl _ w) n)).mono ?_
  rintro e w' ⟨rfl, n2, rfl⟩
  go_wp2_with fail
  refine bodyPost_ret (v := .tuple #[.bool false, .int .i64 k]) (by simp [results, Try.results26, go_sem]) rfl ⟨rfl, Below.drewN_ (Below.refl _ w) (n + n2)⟩

end Go.Proofs.Ytkkholagmjcgiaa
