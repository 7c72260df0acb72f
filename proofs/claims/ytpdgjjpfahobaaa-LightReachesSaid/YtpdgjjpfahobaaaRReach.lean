/- The reference's Reachable and Hardest; the program's Hardest. -/
import Derived.Test.YtpdgjjpfahobaaaRFewest
import Derived.Test.YtpdgjjpfahobaaaHard2
namespace Go.Proofs.Ytpdgjjpfahobaaa
open Go.RowKit Lamp

/-- How many of the first k targets can be reached. -/
def cntK (f : Nat → Int) (k : Nat) : Nat := ((List.range k).filter fun t => decide (0 ≤ f t)).length
theorem cntK_succ (f : Nat → Int) (k : Nat) : cntK f (k + 1) = if 0 ≤ f k then cntK f k + 1 else cntK f k := by
  unfold cntK
  rw [List.range_succ, List.filter_append, List.length_append]
  by_cases h : 0 ≤ f k
  · simp [h]
  · simp [h]
theorem cntK_le (f : Nat → Int) (k : Nat) : cntK f k ≤ k := by
  induction k with
  | zero => exact Nat.le_refl _
  | succ k ih => rw [cntK_succ]; split <;> omega

set_option maxRecDepth 100000 in
theorem RReachable_any {w : World} {g P : Nat} {s : List Nat} (hb : Box w g 3 (zC (fcells s P P))) (hP : P ≤ 65536) :
    Calls Try.prog 41 #[.slice (some ⟨g, 0, none⟩) P P] w fun e w' => e = .returned (.int .i64 (cntK (fun t => fT s t P) P : Nat)) ∧ w = w' := by
  have HB := Lib.hid hb
  clear hb
  go_enter Try.func41, Try.ntmps41
  go_wp2_with fail
  go_loop [3, 4] (fun t i => ∃ k : Nat, i = .int .i64 k ∧ k ≤ P ∧ t = .int .i64 (cntK (fun t => fT s t P) k : Nat)) (fun _ i => P - (intOf i).toNat)
  case atStart => exact ⟨0, rfl, by omega, rfl⟩
  case round =>
    obtain ⟨k, rfl, hk, rfl⟩ := hrel
    have hc := cntK_succ (fun t => fT s t P) k
    have hle := cntK_le (fun t => fT s t P) k
    obtain ⟨c, hce⟩ : ∃ c, cntK (fun t => fT s t P) k = c := ⟨_, rfl⟩
    rw [hce] at hc hle ⊢
    by_cases hlt : k < P
    · have hck := HB.out.cell k
      rw [zC_at _ _ (by rw [fcells_len]; exact hlt), fcells_at _ _ _ _ hlt] at hck
      have hlt' : (k : Int) < (P : Int) := by omega
      obtain ⟨z, hz⟩ : ∃ z, fT s k P = z := ⟨_, rfl⟩
      rw [hz] at hck hc
      by_cases h0 : 0 ≤ z
      · have HC := Lib.hid (show cntK (fun t => fT s t P) (k + 1) = c + 1 by rw [hc, if_pos h0])
        clear hc hce hz
        go_wp2_with fail
        go_round
        case rel => exact ⟨k + 1, by go_num, by omega, val_int (by rw [HC.out]; omega)⟩
        case measure => simp [intOf]; omega
      · have HC := Lib.hid (show cntK (fun t => fT s t P) (k + 1) = c by rw [hc, if_neg h0])
        clear hc hce hz
        go_wp2_with fail
        go_round
        case rel => exact ⟨k + 1, by go_num, by omega, val_int (by rw [HC.out])⟩
        case measure => simp [intOf]; omega
    · obtain rfl : k = P := by omega
      clear hc
      go_wp2_with fail
      go_ret
      exact ⟨ret_int (by rw [← hce]), rfl⟩

/-- The hardest of the first k targets, as the reference finds it. -/
def bestH (f : Nat → Int) : Nat → Nat
  | 0 => 0
  | k + 1 => if 0 ≤ f k ∧ popc (f (bestH f k)).toNat < popc (f k).toNat then k else bestH f k
theorem bestH_lt (f : Nat → Int) {P : Nat} (hP : 0 < P) : ∀ k, k ≤ P → bestH f k < P
  | 0, _ => hP
  | k + 1, h => by
    rw [bestH]
    split
    · omega
    · exact bestH_lt f hP k (by omega)
theorem bestH_ok (f : Nat → Int) (h0 : 0 ≤ f 0) : ∀ k, 0 ≤ f (bestH f k)
  | 0 => h0
  | k + 1 => by
    rw [bestH]
    split
    · rename_i h; exact h.1
    · exact bestH_ok f h0 k
theorem bestH_best (f : Nat → Int) : ∀ k t, t < k → 0 ≤ f t → popc (f t).toNat < popc (f (bestH f k)).toNat ∨ (popc (f t).toNat = popc (f (bestH f k)).toNat ∧ bestH f k ≤ t)
  | 0, t, ht, _ => by omega
  | k + 1, t, ht, hf => by
    rw [bestH]
    split
    · rename_i h
      by_cases e : t = k
      · subst e; exact .inr ⟨rfl, Nat.le_refl _⟩
      · have := bestH_best f k t (by omega) hf; omega
    · rename_i h
      by_cases e : t = k
      · subst e
        have h1 : ¬ popc (f (bestH f t)).toNat < popc (f t).toNat := fun h2 => h ⟨hf, h2⟩
        have h3 : bestH f t ≤ t := by
          have : ∀ j, bestH f j ≤ j := fun j => by
            induction j with
            | zero => exact Nat.le_refl _
            | succ j ih => rw [bestH]; split <;> omega
          exact this t
        omega
      · exact bestH_best f k t (by omega) hf

set_option maxRecDepth 100000 in
set_option maxHeartbeats 4000000 in
theorem RHardest_any {w : World} {g P : Nat} {s : List Nat} (hb : Box w g 3 (zC (fcells s P P))) (hP : P ≤ 65536) (hP0 : 0 < P) (hv : ∀ t, t < P → fT s t P = -1 ∨ ∃ y : Nat, fT s t P = y ∧ y < 65536) (h0 : 0 ≤ fT s 0 P) :
    Calls Try.prog 40 #[.slice (some ⟨g, 0, none⟩) P P] w fun e w' => e = .returned (.tuple #[.int .i64 (bestH (fun t => fT s t P) P : Nat), .int .i64 (popc (fT s (bestH (fun t => fT s t P) P) P).toNat : Nat)]) ∧ ∃ n, w' = w.drewN n := by
  have HB := Lib.hid hb
  have HV := Lib.hid hv
  have HOK := Lib.hid (fun k => bestH_ok (fun t => fT s t P) h0 k)
  have HLT := Lib.hid (fun k hk => bestH_lt (fun t => fT s t P) hP0 k hk)
  clear hb hv h0
  go_enter Try.func40, Try.ntmps40
  go_wp2_with fail
  go_loopw [4, 5] (fun t i wr => ∃ k b : Nat, i = .int .i64 k ∧ k ≤ P ∧ t = .int .i64 (b : Nat) ∧ Hid (bestH (fun t => fT s t P) k = b) ∧ Hid (∃ n, w.drewN n = wr)) (fun _ i _ => P - (intOf i).toNat)
  case atStart => exact ⟨0, 0, rfl, by omega, rfl, Lib.hid rfl, Lib.hid ⟨0, rfl⟩⟩
  case round =>
    obtain ⟨k, b, rfl, hk, rfl, HE1, HW1⟩ := hrel
    have HE := HE1
    obtain ⟨n0, hn0⟩ := HW1.out
    clear HE1 HW1
    subst hn0
    have hbP : b < P := by rw [← HE.out]; exact HLT.out k hk
    have hb0 := HOK.out k
    rw [HE.out] at hb0
    obtain ⟨y, hy, hy16⟩ := (HV.out b hbP).resolve_left (fun e => by have h9 : 0 ≤ fT s b P := hb0; omega)
    have hcb := HB.out.cell b
    rw [zC_at _ _ (by rw [fcells_len]; exact hbP), fcells_at _ _ _ _ hbP, hy] at hcb
    have hbP' : (b : Int) < (P : Int) := by omega
    obtain ⟨py, hpy⟩ : ∃ q, popc y = q := ⟨_, rfl⟩
    have HSY := Lib.hid (fun W => RSize_of (x := y) (y : Int) W rfl hy16 hpy)
    have HBY := Lib.hid (show popc (fT s b P).toNat = py by rw [hy, ← hpy]; rfl)
    clear hb0
    by_cases hlt : k < P
    · have hck := HB.out.cell k
      rw [zC_at _ _ (by rw [fcells_len]; exact hlt), fcells_at _ _ _ _ hlt] at hck
      have hlt' : (k : Int) < (P : Int) := by omega
      have hcase := HV.out k hlt
      have HS := Lib.hid (show bestH (fun t => fT s t P) (k + 1) = if 0 ≤ fT s k P ∧ py < popc (fT s k P).toNat then k else b by rw [bestH, HE.out, HBY.out])
      obtain ⟨z, hz⟩ : ∃ z, fT s k P = z := ⟨_, rfl⟩
      rw [hz] at hck hcase HS
      clear hz hy hpy
      rcases hcase with rfl | ⟨f, rfl, hf16⟩
      · have hz1 : decide ((0 : Int) ≤ -1) = false := by decide
        have HN := Lib.hid (show bestH (fun t => fT s t P) (k + 1) = b by rw [HS.out, if_neg (by omega)])
        go_wp2_with fail
        go_quiet (fail)
        go_wp2_with fail
        clear hck hcb
        go_roundw
        case rel => exact ⟨k + 1, b, by go_num, by omega, rfl, HN, Lib.hid ⟨n0 + nq, by simp⟩⟩
        case measure => simp [intOf]; omega
      · have hz1 : decide ((0 : Int) ≤ (f : Int)) = true := by simp
        obtain ⟨pf, hpf⟩ : ∃ q, popc f = q := ⟨_, rfl⟩
        have HSF := Lib.hid (fun W => RSize_of (x := f) (f : Int) W rfl hf16 hpf)
        rw [show ((f : Int)).toNat = f from rfl, hpf] at HS
        clear hpf
        by_cases hsz : py < pf
        · have hsz' : (py : Int) < (pf : Int) := by omega
          have HN := Lib.hid (show bestH (fun t => fT s t P) (k + 1) = k by rw [HS.out, if_pos ⟨by omega, hsz⟩])
          clear hsz
          go_wp2_with fail
          go_quiet ((go_at_call 49; first | (with_reducible exact quiet_d0 ((HSF.out _).mono fun _ _ h => ⟨h.1, 0, h.2.symm⟩)) | (with_reducible exact quiet_d0 ((HSY.out _).mono fun _ _ h => ⟨h.1, 0, h.2.symm⟩)) | (with_reducible exact quiet_w _ (HSF.out _) rfl) | (with_reducible exact quiet_w _ (HSY.out _) rfl)))
          go_wp2_with fail
          clear hck hcb
          go_roundw
          case rel => exact ⟨k + 1, k, by go_num, by omega, rfl, HN, Lib.hid ⟨n0 + nq, by simp⟩⟩
          case measure => simp [intOf]; omega
        · have hsz' : ¬ (py : Int) < (pf : Int) := by omega
          have HN := Lib.hid (show bestH (fun t => fT s t P) (k + 1) = b by rw [HS.out, if_neg (fun h => hsz h.2)])
          clear hsz
          go_wp2_with fail
          go_quiet ((go_at_call 49; first | (with_reducible exact quiet_d0 ((HSF.out _).mono fun _ _ h => ⟨h.1, 0, h.2.symm⟩)) | (with_reducible exact quiet_d0 ((HSY.out _).mono fun _ _ h => ⟨h.1, 0, h.2.symm⟩)) | (with_reducible exact quiet_w _ (HSF.out _) rfl) | (with_reducible exact quiet_w _ (HSY.out _) rfl)))
          go_wp2_with fail
          clear hck hcb
          go_roundw
          case rel => exact ⟨k + 1, b, by go_num, by omega, rfl, HN, Lib.hid ⟨n0 + nq, by simp⟩⟩
          case measure => simp [intOf]; omega
    · obtain rfl : k = P := by omega
      clear hy hpy
      go_wp2_with (go_at_call 49; refine (HSY.out _).mono ?_; rintro e w' ⟨rfl, rfl⟩)
      go_ret2
      refine ⟨?_, n0, rfl⟩
      rw [HE.out, HBY.out]
      rfl

set_option maxHeartbeats 1000000 in
theorem Hardest_ok (A : Option Addr) (n : Nat) (l : List (Int × Int)) (c : Nat) (own : Bool) (w : World) (h : Gr w A n l) :
    Calls Try.prog 26 #[.int .i64 n, .slice A l.length c, .bool own] w fun e w' => ∃ b, e = .returned (.tuple #[.int .i64 (b : Nat), .int .i64 (dist (grL n l own) b : Nat), .int .i64 0]) ∧ HardestOf (grL n l own) b ∧ Below w.heap.size w w' := by
  have H := Lib.hid h
  have HC := Lib.hid (h.check (xs := []) (by simp))
  have HK := Lib.hid (check0 A n l c w h.reads h.len)
  have HSP := Lib.hid (show ∀ x ∈ grL n l own, x < 2 ^ n from fun x hx => by
    obtain ⟨i, hi, rfl⟩ := List.getElem_of_mem hx
    have := grL_lt h.most h.good own i
    simpa [List.getD_eq_getElem?_getD, hi] using this)
  have HSY := Lib.hid (grL_sym h.most h.good own)
  clear h
  go_enter Try.func26, Try.ntmps26
  go_wp2_with fail
  refine HK.out.mono ?_
  rintro e w1 ⟨rfl, hb1⟩
  have HB1 := Lib.hid hb1
  rw [show checkS n l [] = 0 from HC.out]
  clear hb1
  go_wp2_with fail
  refine ((H.out.up HB1.out).graphOf c own).mono ?_
  rintro e w2 ⟨rfl, hb2⟩
  have HB2 := Lib.hid (HB1.out.trans (hb2.mono HB1.out.size))
  clear hb2
  go_wp2_with fail
  refine (hardest_any n (2 ^ n) (graphL n l own) w2 (graphL_len n l own) H.out.most (H.out.lt own) rfl HSP.out HSY.out).mono ?_
  rintro e w3 ⟨b, rfl, hh, hb3⟩
  have HB3 := Lib.hid (HB2.out.trans (hb3.mono HB2.out.size))
  have HH := Lib.hid hh
  clear hb3 hh
  go_wp2_with fail
  go_ret3
  exact ⟨b, rfl, HH.out, HB3.out⟩

/-- The reference's hardest target is the program's. -/
theorem bestH_hardest {n : Nat} (hn : n ≤ 16) {s : List Nat} (hl : s.length = n) (hs : ∀ x ∈ s, x < 2 ^ n) (hy : Sym s) {P : Nat} (hP : 2 ^ n = P) :
    (∀ t, t < P → fT s t P = -1 ∨ ∃ y : Nat, fT s t P = y ∧ y < 65536) ∧ 0 ≤ fT s 0 P ∧ HardestOf s (bestH (fun t => fT s t P) P) ∧ popc (fT s (bestH (fun t => fT s t P) P) P).toNat = dist s (bestH (fun t => fT s t P) P) := by
  have hp16 := pow_split hn
  have hp0 := Nat.two_pow_pos n
  subst hP
  have hf := fun t (ht : t < 2 ^ n) => fT_few hl hn hs hy ht
  have hd : ∀ t, Rch s t → 0 ≤ fT s t (2 ^ n) ∧ popc (fT s t (2 ^ n)).toNat = dist s t := fun t h => by
    obtain ⟨h1, h2⟩ := h
    rw [hl] at h1
    rcases hf t h1 with ⟨e, _⟩ | ⟨_, e⟩
    · rw [e] at h2; cases h2
    · rw [e]; exact ⟨by omega, rfl⟩
  have hr : ∀ t, t < 2 ^ n → 0 ≤ fT s t (2 ^ n) → Rch s t := fun t ht h => by
    rcases hf t ht with ⟨_, e⟩ | ⟨e, _⟩
    · rw [e] at h; omega
    · exact ⟨by rw [hl]; exact ht, e⟩
  have h0 := (hd 0 (dist_zero hl hn hs hy).1).1
  have hb := bestH_ok (fun t => fT s t (2 ^ n)) h0 (2 ^ n)
  have hbl := bestH_lt (fun t => fT s t (2 ^ n)) hp0 (2 ^ n) (Nat.le_refl _)
  have hbr := hr _ hbl hb
  refine ⟨fun t ht => ?_, h0, ⟨hbr, fun t ht => ?_⟩, (hd _ hbr).2⟩
  · rcases fT_is s t (2 ^ n) with h | ⟨f, h1, h2, _⟩
    · exact .inl h.1
    · exact .inr ⟨f, h1, by omega⟩
  · have h1 := bestH_best (fun t => fT s t (2 ^ n)) (2 ^ n) t (by have := ht.1; rwa [hl] at this) (hd t ht).1
    rw [(hd t ht).2, (hd _ hbr).2] at h1
    exact h1
end Go.Proofs.Ytpdgjjpfahobaaa
