/- The reference's Alike (package peg): it goes through all sets; its answer is that of the program's basis. -/
import Derived.Test.YthbhengcinkepaaRRules2
namespace Go.Proofs.Ythbhengcinkepaa
open Go.RowKit Lamp

theorem ip_sizes (x p q : Nat) : ip x (p ^^^ q) = decide ((popc (x &&& p) + popc (x &&& q)) % 2 = 1) := by
  rw [ip_xor, ← par_and x p, ← par_and x q, ← popc_par, ← popc_par]
  rw [Bool.eq_iff_iff]
  have h1 := Nat.mod_two_eq_zero_or_one (popc (x &&& p))
  have h2 := Nat.mod_two_eq_zero_or_one (popc (x &&& q))
  generalize popc (x &&& p) = u at *
  generalize popc (x &&& q) = v at *
  rcases h1 with h1 | h1 <;> rcases h2 with h2 | h2 <;> simp [h1, h2] <;> omega
theorem popc_le (x : Nat) : popc x ≤ 16 := popK_le x 16
theorem alike_sets {n : Nat} {l : List Tri} (hc : checkT n l = 0) (d : Nat) : alikeB n l d = true ↔ ∀ x, 1 ≤ x → x < 2 ^ n → isRule (eqsL l) x = true → ip x d = false := by
  obtain ⟨hn1, hn16, hl, hg⟩ := checkT_zero hc
  rw [alikeB_ip, ← rulesL_alike (by omega : n ≤ 16) (eqsL_lt (goodT_ok hg)) d]
  constructor
  · intro h x _ hx hr
    exact h x hx hr
  · intro h x hx hr
    rcases Nat.eq_zero_or_pos x with rfl | h0
    · rw [ip_comm, ip_zero]
    · exact h x h0 hx hr

set_option maxRecDepth 100000 in
set_option maxHeartbeats 8000000 in
theorem RAlike2_any (A : Option Addr) (c n p q : Nat) (l : List Tri) (w : World) (hr : RTri w w.heap.size A l) (hc : checkT n l = 0) (hp : p < 2 ^ n) (hq : q < 2 ^ n) :
    Calls Try.prog 34 #[.int .i64 n, .slice A l.length c, .int .i64 p, .int .i64 q] w fun e w' => e = .returned (.bool (alikeB n l (p ^^^ q))) ∧ Below w.heap.size w w' := by
  obtain ⟨hn1, hn16, hl, hg⟩ := checkT_zero hc
  have hp16 := pow_split (by omega : n ≤ 16)
  have hp0 := Nat.two_pow_pos n
  have hpi : ((2 ^ n : Nat) : Int) = (2 : Int) ^ n := by simp
  have HEND := Lib.hid (alike_sets hc (p ^^^ q))
  have HIP := Lib.hid (fun x => ip_sizes x p q)
  have HR0 := Lib.hid hr
  have HRU := Lib.hid (fun (w1 : World) (x : Nat) (h : RTri w1 w1.heap.size A l) (hx : x < 65536) => RRule_any A c n x l w1 h (by omega) (by omega) (goodT_ok hg) hx)
  obtain ⟨b, hb⟩ : ∃ b, alikeB n l (p ^^^ q) = b := ⟨_, rfl⟩
  rw [hb] at HEND ⊢
  obtain ⟨T, hT⟩ : ∃ T, isRule (eqsL l) = T := ⟨_, rfl⟩
  rw [hT] at HEND HRU
  obtain ⟨d, hd⟩ : ∃ d, p ^^^ q = d := ⟨_, rfl⟩
  rw [hd] at HEND HIP
  have hp' : p < 65536 := by omega
  have hq' : q < 65536 := by omega
  obtain ⟨P, hP⟩ : ∃ P, 2 ^ n = P := ⟨_, rfl⟩
  have hP2 : (2 : Int) ^ n = (P : Int) := by rw [← hpi, hP]
  have hwP : IntKind.i64.wrap (P : Int) = (P : Int) := IntWalk.i64_in _ (by omega)
  have hwP2 : wrap64 (P : Int) = (P : Int) := w64 (by omega)
  rw [hP] at hp16 hp0 HEND
  clear hr hc hg hP hpi hb hT hd hp hq
  go_enter Try.func34, Try.ntmps34
  go_wp2_with fail
  go_loopw [9] (fun i wr => ∃ k : Nat, i = .int .i64 ((k : Int) + 1) ∧ k + 1 ≤ P ∧ Hid (∀ x, 1 ≤ x → x ≤ k → T x = true → ip x d = false) ∧ Hid (Below w.heap.size w wr)) (fun i _ => P - (intOf i).toNat)
  case atStart => exact ⟨0, rfl, by omega, Lib.hid (fun x h1 h2 => by omega), Lib.hid (Below.refl _ _)⟩
  case round =>
    obtain ⟨k, rfl, hk, HI1, HB1⟩ := hrel
    have HI := HI1
    have HB := HB1
    clear HI1 HB1
    by_cases hlt : k + 1 < P
    · obtain ⟨x, hx⟩ : ∃ x, k + 1 = x := ⟨_, rfl⟩
      have hxi : (k : Int) + 1 = (x : Int) := by omega
      have hx16 : x < 65536 := by omega
      have hlt' : (x : Int) < (P : Int) := by omega
      have hand1 := i64_and x p (by omega) (by omega)
      have hand2 := i64_and x q (by omega) (by omega)
      have HX := Lib.hid (HIP.out x)
      have HXX := Lib.hid hx
      have hx1 : x &&& p < 65536 := Nat.lt_of_le_of_lt Nat.and_le_left hx16
      have hx2 : x &&& q < 65536 := Nat.lt_of_le_of_lt Nat.and_le_left hx16
      have hs1 := popc_le (x &&& p)
      have hs2 := popc_le (x &&& q)
      obtain ⟨y, hy⟩ : ∃ y, x &&& p = y := ⟨_, rfl⟩
      obtain ⟨z, hz⟩ : ∃ z, x &&& q = z := ⟨_, rfl⟩
      rw [hy] at hand1 HX hx1 hs1
      rw [hz] at hand2 HX hx2 hs2
      obtain ⟨u, hu⟩ : ∃ u, popc y = u := ⟨_, rfl⟩
      obtain ⟨v, hv⟩ : ∃ v, popc z = v := ⟨_, rfl⟩
      rw [hu] at HX hs1
      rw [hv] at HX hs2
      have HU := Lib.hid hu
      have HV := Lib.hid hv
      have HRX := Lib.hid (HRU.out wr x (HR0.out.up HB.out) hx16)
      rw [hxi]
      clear hy hz hu hv hx
      cases hTx : T x with
      | false =>
        have HN := Lib.hid (show ∀ y, 1 ≤ y → y ≤ k + 1 → T y = true → ip y d = false from fun y h1 h2 h3 => by
          by_cases e : y = k + 1
          · rw [e, HXX.out, hTx] at h3; cases h3
          · exact HI.out y h1 (by omega) h3)
        rw [hTx] at HRX
        clear hTx
        go_wp2_with (go_at_call 44; refine HRX.out.mono ?_; rintro e wq ⟨rfl, hbq⟩; have HBQ := Lib.hid (HB.out.trans (hbq.mono HB.out.size)); clear hbq)
        go_roundw
        case rel => exact ⟨k + 1, by have := HXX.out; go_num, by have := HXX.out; omega, HN, HBQ⟩
        case measure => have := HXX.out; simp [intOf]; omega
      | true =>
        by_cases hodd : (u + v) % 2 = 1
        · have HF := Lib.hid (show b = false by
            apply Bool.eq_false_iff.2
            intro h
            have h2 := HEND.out.1 h x (by have := HXX.out; omega) (by omega) hTx
            rw [HX.out, decide_eq_true hodd] at h2
            cases h2)
          rw [hTx] at HRX
          clear hTx
          go_wp2_with (first
            | (go_at_call 44; refine HRX.out.mono ?_; rintro e wq ⟨rfl, hbq⟩; have HBQ := Lib.hid (HB.out.trans (hbq.mono HB.out.size)); clear hbq)
            | (go_at_call 27; with_reducible refine (RSize2_of (y : Int) _ rfl hx1 HU.out).mono ?_; rintro e w' ⟨rfl, rfl⟩)
            | (go_at_call 27; with_reducible refine (RSize2_of (z : Int) _ rfl hx2 HV.out).mono ?_; rintro e w' ⟨rfl, rfl⟩))
          go_ret
          exact ⟨ret_bool HF.out.symm, HBQ.out⟩
        · have HN := Lib.hid (show ∀ y, 1 ≤ y → y ≤ k + 1 → T y = true → ip y d = false from fun y h1 h2 h3 => by
            by_cases e : y = k + 1
            · rw [e, HXX.out, HX.out]; exact decide_eq_false hodd
            · exact HI.out y h1 (by omega) h3)
          rw [hTx] at HRX
          clear hTx
          go_wp2_with (first
            | (go_at_call 44; refine HRX.out.mono ?_; rintro e wq ⟨rfl, hbq⟩; have HBQ := Lib.hid (HB.out.trans (hbq.mono HB.out.size)); clear hbq)
            | (go_at_call 27; with_reducible refine (RSize2_of (y : Int) _ rfl hx1 HU.out).mono ?_; rintro e w' ⟨rfl, rfl⟩)
            | (go_at_call 27; with_reducible refine (RSize2_of (z : Int) _ rfl hx2 HV.out).mono ?_; rintro e w' ⟨rfl, rfl⟩))
          go_roundw
          case rel => exact ⟨k + 1, by have := HXX.out; go_num, by have := HXX.out; omega, HN, HBQ⟩
          case measure => have := HXX.out; simp [intOf]; omega
    · have hkP : k = P - 1 := by omega
      subst hkP
      have hge : ¬ ((P - 1 : Nat) : Int) + 1 < (P : Int) := by omega
      have HF := Lib.hid (show b = true from HEND.out.2 fun x h1 h2 h3 => HI.out x h1 (by omega) h3)
      go_wp2_with fail
      go_ret
      exact ⟨ret_bool HF.out.symm, HB.out⟩
end Go.Proofs.Ythbhengcinkepaa
