/- The function HasRing of the reference: does a die lead to itself in the closure of the table? -/
import Derived.Test.YtkkholagmjcgiaaRIsRank
import Derived.Test.YtkkholagmjcgiaaRingsL
namespace Go.Proofs.Ytkkholagmjcgiaa
open Go.RowKit

theorem keepB {w W : World} {B : Nat} {p q : Addr} {u v : Value} (h1 : w.cell? p = some u) (h2 : w.cell? q = some v) (hp : p.block < B) (hq : q.block < B) (hb : Below B w W) :
    W.cell? p = some u ∧ W.cell? q = some v ∧ Below B w W := ⟨(hb.cell hp).trans h1, (hb.cell hq).trans h2, hb⟩

/-- The table as one row, as far as it is filled. -/
def fillTo (f : Nat → Nat → Bool) (n i : Nat) : Nat → Bool := fun p => decide (p < i) && f (p / n) (p % n)
/-- The closure's round k, when it has come to the place (i, j). -/
def warTo (f : Nat → Nat → Bool) (n k i j : Nat) : Nat → Bool := fun p => if p < i * n + j then war f (k + 1) (p / n) (p % n) else war f k (p / n) (p % n)

theorem fill_step (f : Nat → Nat → Bool) (n i j : Nat) : fillTo f n (i + 1) j = (fun y => if y = i then f (i / n) (i % n) else fillTo f n i y) j := by
  show _ = if j = i then _ else _
  unfold fillTo
  by_cases e : j = i
  · subst e
    simp
  · rw [if_neg e]
    congr 1
    exact decide_eq_decide.2 (by omega)

theorem fill_all (f : Nat → Nat → Bool) (n N p : Nat) (hp : p < N) : fillTo f n N p = warTo f n 0 0 0 p := by
  unfold fillTo warTo
  rw [if_neg (by omega), decide_eq_true hp]
  rfl
theorem at_div {n i j : Nat} (hj : j < n) : (i * n + j) / n = i ∧ (i * n + j) % n = j := by
  have h0 : 0 < n := by omega
  rw [Nat.mul_comm]
  refine ⟨?_, ?_⟩
  · rw [Nat.mul_add_div h0, Nat.div_eq_of_lt hj, Nat.add_zero]
  · rw [Nat.mul_add_mod, Nat.mod_eq_of_lt hj]
theorem at_of {n p i j : Nat} (h1 : p / n = i) (h2 : p % n = j) : p = i * n + j := by
  have := Nat.div_add_mod p n
  rw [h1, h2, Nat.mul_comm] at this
  exact this.symm
theorem warTo_at {f : Nat → Nat → Bool} {n k i j : Nat} (hj : j < n) : warTo f n k i j (i * n + j) = war f k i j := by
  unfold warTo
  rw [if_neg (by omega), (at_div hj).1, (at_div hj).2]
theorem warTo_row {f : Nat → Nat → Bool} {n k i j : Nat} (hk : k < n) : warTo f n k i j (i * n + k) = war f k i k := by
  unfold warTo
  rw [(at_div hk).1, (at_div hk).2, war_row]
  simp
theorem warTo_col {f : Nat → Nat → Bool} {n k i j : Nat} (hj : j < n) : warTo f n k i j (k * n + j) = war f k k j := by
  unfold warTo
  rw [(at_div hj).1, (at_div hj).2, war_col]
  simp
theorem warTo_step {f : Nat → Nat → Bool} {n k i j : Nat} (hj : j < n) (p : Nat) : warTo f n k i (j + 1) p = if p = i * n + j then war f (k + 1) i j else warTo f n k i j p := by
  by_cases e : p = i * n + j
  · rw [if_pos e, e]
    unfold warTo
    rw [if_pos (by omega), (at_div hj).1, (at_div hj).2]
  · rw [if_neg e]
    unfold warTo
    by_cases h : p < i * n + j
    · rw [if_pos h, if_pos (by omega)]
    · rw [if_neg h, if_neg (by omega)]
theorem warTo_next (f : Nat → Nat → Bool) (n k i : Nat) : warTo f n k i n = warTo f n k (i + 1) 0 := by
  funext p
  unfold warTo
  have e : (i + 1) * n + 0 = i * n + n := by rw [Nat.add_mul, Nat.one_mul]; rfl
  rw [e]
theorem warTo_round {f : Nat → Nat → Bool} {n k p : Nat} (hp : p < n * n) : warTo f n k n 0 p = warTo f n (k + 1) 0 0 p := by
  unfold warTo
  rw [if_pos (by omega), if_neg (by omega)]
theorem warTo_diag {f : Nat → Nat → Bool} {n i : Nat} (hi : i < n) : warTo f n n 0 0 (i * n + i) = war f n i i := by
  unfold warTo
  rw [if_neg (by omega), (at_div hi).1, (at_div hi).2]

set_option maxRecDepth 100000 in
set_option maxHeartbeats 4000000 in
theorem RHasRing_any (A : Option Addr) (ds : List (List Int)) (c : Nat) (w : World) (hd : RDice w w.heap.size A ds) (h6 : ds.length ≤ 6) (h8 : ∀ d ∈ ds, d.length ≤ 8) :
    Calls Try.prog 42 #[.slice A ds.length c] w fun e w' => e = .returned (.bool (loops (bt ds) ds.length)) ∧ Below w.heap.size w w' := by
  have HD := Lib.hid hd
  have H8 := Lib.hid h8
  obtain ⟨n, hn⟩ : ∃ n, ds.length = n := ⟨_, rfl⟩
  obtain ⟨N, hN⟩ : ∃ N, n * n = N := ⟨_, rfl⟩
  have hN36 : N ≤ 36 := by rw [← hN]; exact Nat.mul_le_mul (by omega : n ≤ 6) (by omega : n ≤ 6)
  have HN := Lib.hid hn
  have HNN := Lib.hid hN
  have hmk := make_row N (by omega)
  have hNN : (n : Int) * (n : Int) = (N : Int) := by rw [← hN]; exact (Int.natCast_mul n n).symm
  rw [hn] at h6 ⊢
  clear hd h8 hn hN
  go_enter Try.func42, Try.ntmps42
  go_wp2_with fail
  clear hmk
  obtain ⟨w0, hw0⟩ : ∃ w0, w.alloc (Obj.cells (rowCells N fun _ => false) 4) = w0 := ⟨_, rfl⟩
  have HT0 := Lib.hid (show Box w0 w.heap.size 4 (rowCells N (fillTo (bt ds) n 0)) from by
    rw [← hw0, rowB N (fillTo (bt ds) n 0) (fun _ => false) fun j _ => by simp [fillTo]]
    exact Box.new w _ _)
  have HB0 := Lib.hid (show Below w.heap.size w w0 from by rw [← hw0]; exact (Below.refl _ w).alloc (Nat.le_refl _) _)
  rw [hw0]
  clear hw0
  go_loopg [5] N (fun g i wx => ∃ k : Nat, k + g = N ∧ i = .int .i64 k ∧ Hid (Box wx w.heap.size 4 (rowCells N (fillTo (bt ds) n k))) ∧ Hid (Below w.heap.size w wx))
  case atStart => exact ⟨0, by omega, rfl, HT0, HB0⟩
  case round =>
    obtain ⟨i, hi, rfl, HT1, HB1⟩ := hrel
    have HT := HT1
    have HB := HB1
    clear HT1 HB1 HT0 HB0
    cases gk with
    | zero =>
      obtain rfl : i = N := by omega
      obtain ⟨f, hf⟩ : ∃ f, bt ds = f := ⟨_, rfl⟩
      have HF := Lib.hid hf
      have HT2 := Lib.hid (show Box wr w.heap.size 4 (rowCells i (warTo f n 0 0 0)) by
        rw [rowB i (warTo f n 0 0 0) (fillTo (bt ds) n i) fun j hj => by rw [fill_all (bt ds) n i j hj, HF.out]]
        exact HT.out)
      clear HT hf
      go_wp2_with fail
      go_loopg [6] n (fun g z wx => ∃ k : Nat, k + g = n ∧ z = .int .i64 k ∧ Hid (Box wx w.heap.size 4 (rowCells i (warTo f n k 0 0))) ∧ Hid (Below w.heap.size w wx))
      case atStart => exact ⟨0, by omega, rfl, HT2, HB⟩
      case round =>
        obtain ⟨k, hk, rfl, HT3, HB3⟩ := hrel
        have HT4 := HT3
        have HB4 := HB3
        clear HT3 HB3 HT2 HB
        cases gk with
        | zero =>
          obtain rfl : k = n := by omega
          go_wp2_with fail
          go_loopg [9] k (fun g z wx => ∃ j : Nat, j + g = k ∧ z = .int .i64 j ∧ Hid (wx = wr) ∧ Hid (∀ x, x < j → war f k x x = false))
          case atStart => exact ⟨0, by omega, rfl, Lib.hid rfl, Lib.hid fun x hx => absurd hx (Nat.not_lt_zero _)⟩
          case round =>
            obtain ⟨j, hj, rfl, HWR, HNO⟩ := hrel
            have HWR := HWR.out
            subst HWR
            cases gk with
            | zero =>
              obtain rfl : j = k := by omega
              go_wp2_with fail
              go_ret
              refine ⟨ret_bool ?_, HB4.out⟩
              rw [HF.out]
              refine (Bool.eq_false_iff.2 fun h => ?_).symm
              unfold loops at h
              obtain ⟨x, hx, h⟩ := List.any_eq_true.1 h
              rw [HNO.out x (List.mem_range.1 hx)] at h
              cases h
            | succ g3 =>
              have hjn : j < k := by omega
              have hjn1 : (j : Int) < (k : Int) := by omega
              obtain ⟨P, hP⟩ : ∃ P, j * k = P := ⟨_, rfl⟩
              have hPi : P + k ≤ i := by rw [← hP, ← HNN.out, ← Nat.succ_mul]; exact Nat.mul_le_mul_right k hjn
              obtain ⟨u1, hu1⟩ : ∃ u, war f k j j = u := ⟨_, rfl⟩
              have HU := Lib.hid hu1
              have hc1 : wr.cell? ⟨w.heap.size, P + j, none⟩ = some (.bool u1) := by rw [HT4.out.cell (P + j), rowCells_at (by omega), ← hP, warTo_diag hjn, hu1]
              have hb1 : (P : Int) + (k : Int) ≤ (i : Int) := by omega
              have hPI : (j : Int) * (k : Int) = (P : Int) := by rw [← hP]; exact (Int.natCast_mul j k).symm
              clear hu1 hP
              cases u1
              · go_wp2_with fail
                go_roundg g3
                case measure => omega
                case rel =>
                  refine ⟨j + 1, by omega, by go_num, Lib.hid rfl, Lib.hid fun x hx => ?_⟩
                  by_cases e : x = j
                  · rw [e]; exact HU.out
                  · exact HNO.out x (by omega)
              · go_wp2_with fail
                go_ret
                refine ⟨ret_bool ?_, HB4.out⟩
                rw [HF.out]
                unfold loops
                exact (List.any_eq_true (p := fun i => war f k i i).2 ⟨j, List.mem_range.2 hjn, HU.out⟩).symm
        | succ g1 =>
          have hkn : k < n := by omega
          have hkn1 : (k : Int) < (n : Int) := by omega
          go_wp2_with fail
          go_loopg [7] n (fun g z wx => ∃ a : Nat, a + g = n ∧ z = .int .i64 a ∧ Hid (Box wx w.heap.size 4 (rowCells i (warTo f n k a 0))) ∧ Hid (Below w.heap.size w wx))
          case atStart => exact ⟨0, by omega, rfl, HT4, HB4⟩
          case round =>
            obtain ⟨a, ha, rfl, HT5, HB5⟩ := hrel
            have HT6 := HT5
            have HB6 := HB5
            clear HT5 HB5 HT4 HB4
            cases gk with
            | zero =>
              obtain rfl : a = n := by omega
              have HTN := Lib.hid (show Box wr w.heap.size 4 (rowCells i (warTo f a (k + 1) 0 0)) by
                rw [rowB i (warTo f a (k + 1) 0 0) (warTo f a k a 0) fun j hj => (warTo_round (by rw [HNN.out]; exact hj)).symm]
                exact HT6.out)
              go_wp2_with fail
              go_roundg g1
              case measure => omega
              case rel => exact ⟨k + 1, by omega, by go_num, HTN, HB6⟩
            | succ g2 =>
              have han : a < n := by omega
              have han1 : (a : Int) < (n : Int) := by omega
              go_wp2_with fail
              go_loopg [8] n (fun g z wx => ∃ j : Nat, j + g = n ∧ z = .int .i64 j ∧ Hid (Box wx w.heap.size 4 (rowCells i (warTo f n k a j))) ∧ Hid (Below w.heap.size w wx))
              case atStart => exact ⟨0, by omega, rfl, HT6, HB6⟩
              case round =>
                obtain ⟨j, hj, rfl, HT7, HB7⟩ := hrel
                have HT8 := HT7
                have HB8 := HB7
                clear HT7 HB7 HT6 HB6
                cases gk with
                | zero =>
                  obtain rfl : j = n := by omega
                  have HTN := HT8
                  rw [warTo_next] at HTN
                  go_wp2_with fail
                  go_roundg g2
                  case measure => omega
                  case rel => exact ⟨a + 1, by omega, by go_num, HTN, HB8⟩
                | succ g3 =>
                  have hjn : j < n := by omega
                  have hjn1 : (j : Int) < (n : Int) := by omega
                  obtain ⟨P, hP⟩ : ∃ P, a * n = P := ⟨_, rfl⟩
                  obtain ⟨Q, hQ⟩ : ∃ Q, k * n = Q := ⟨_, rfl⟩
                  have hPi : P + n ≤ i := by rw [← hP, ← HNN.out, ← Nat.succ_mul]; exact Nat.mul_le_mul_right n han
                  have hQi : Q + n ≤ i := by rw [← hQ, ← HNN.out, ← Nat.succ_mul]; exact Nat.mul_le_mul_right n hkn
                  obtain ⟨u1, hu1⟩ : ∃ u, war f k a j = u := ⟨_, rfl⟩
                  obtain ⟨u2, hu2⟩ : ∃ u, war f k a k = u := ⟨_, rfl⟩
                  obtain ⟨u3, hu3⟩ : ∃ u, war f k k j = u := ⟨_, rfl⟩
                  have HW := Lib.hid (show war f (k + 1) a j = (u1 || (u2 && u3)) by rw [← hu1, ← hu2, ← hu3]; rfl)
                  have hc1 : wr.cell? ⟨w.heap.size, P + j, none⟩ = some (.bool u1) := by rw [HT8.out.cell (P + j), rowCells_at (by omega), ← hP, warTo_at hjn, hu1]
                  have hc2 : wr.cell? ⟨w.heap.size, P + k, none⟩ = some (.bool u2) := by rw [HT8.out.cell (P + k), rowCells_at (by omega), ← hP, warTo_row hkn, hu2]
                  have hc3 : wr.cell? ⟨w.heap.size, Q + j, none⟩ = some (.bool u3) := by rw [HT8.out.cell (Q + j), rowCells_at (by omega), ← hQ, warTo_col hjn, hu3]
                  have hfr := HT8.out.free (P + j)
                  have hlt := HT8.out.lt
                  have HP := Lib.hid hP
                  have hb1 : (P : Int) + (n : Int) ≤ (i : Int) := by omega
                  have hb2 : (Q : Int) + (n : Int) ≤ (i : Int) := by omega
                  have hPI : (a : Int) * (n : Int) = (P : Int) := by rw [← hP]; exact (Int.natCast_mul a n).symm
                  have hQI : (k : Int) * (n : Int) = (Q : Int) := by rw [← hQ]; exact (Int.natCast_mul k n).symm
                  clear hu1 hu2 hu3 hP hQ
                  cases u1 <;> cases u2 <;> cases u3
                  all_goals
                    go_wp2_with fail
                    go_roundg g3
                    case measure => omega
                    case rel =>
                      refine ⟨j + 1, by omega, by go_num, Lib.hid ?_, Lib.hid (HB8.out.setCell (p := ⟨w.heap.size, P + j, none⟩) (Nat.le_refl _) _)⟩
                      have h2 := HT8.out.put (P + j) (.bool (war f (k + 1) a j))
                      rw [rowB_set i _ (P + j) _ (by omega)] at h2
                      rw [rowB i (warTo f n k a (j + 1)) (fun y => if y = P + j then war f (k + 1) a j else warTo f n k a j y) fun y _ => by rw [warTo_step hjn, HP.out]]
                      rw [HW.out] at h2 ⊢
                      exact h2
    | succ g =>
      have hil : i < N := by omega
      have hn0 : 0 < n := by
        rcases Nat.eq_zero_or_pos n with h | h
        · exfalso
          have := HNN.out
          rw [h] at this
          omega
        · exact h
      obtain ⟨p, hp⟩ : ∃ p, i / n = p := ⟨_, rfl⟩
      obtain ⟨q, hq⟩ : ∃ q, i % n = q := ⟨_, rfl⟩
      have hpn : p < n := by rw [← hp]; exact Nat.div_lt_of_lt_mul (by rw [HNN.out]; exact hil)
      have hqn : q < n := by rw [← hq]; exact Nat.mod_lt _ hn0
      obtain ⟨b, o, a1, c1, d1, hA, hb, hx1, hc1, hcl1, hr1⟩ := (HD.out.below HB.out).at_ (k := p) (by rw [HN.out]; exact hpn)
      subst hA
      obtain ⟨_, _, a2, c2, d2, hA, _, hx2, hc2, hcl2, hr2⟩ := (HD.out.below HB.out).at_ (k := q) (by rw [HN.out]; exact hqn)
      cases hA
      have hl1 : d1.length ≤ 8 := H8.out d1 (List.mem_of_getElem? hx1)
      have hl2 : d2.length ≤ 8 := H8.out d2 (List.mem_of_getElem? hx2)
      have hws := HB.out.size
      have hlt := HT.out.lt
      have hfr := HT.out.free i
      obtain ⟨u, hcu⟩ : ∃ u, wr.cell? ⟨w.heap.size, i, none⟩ = some u := ⟨_, (HT.out.cell i).trans (rowCells_at hil)⟩
      have HCA := Lib.hid (fun (W : World) (hb : Below w.heap.size wr W) => RBeats_any a1 a2 d1 d2 c1 c2 w.heap.size W (hr1.below hb) (hr2.below hb) (by omega) (by omega))
      rw [beats_at hx1 hx2] at HCA
      have HC1 := Lib.hid hc1
      have HC2 := Lib.hid hc2
      have HU := Lib.hid hcu
      have HF := Lib.hid hfr
      have hpn1 : (p : Int) < (n : Int) := by omega
      have hqn1 : (q : Int) < (n : Int) := by omega
      have hil1 : (i : Int) < (N : Int) := by omega
      have hi0 : (0 : Int) ≤ (i : Int) := by omega
      have hn2 : (1 : Int) ≤ (n : Int) := by omega
      have hn6 : (n : Int) ≤ 6 := by omega
      have hi6 : (i : Int) ≤ 36 := by omega
      have hnz : ((n : Int) = 0) = False := eq_false (by omega)
      have hnz2 : (n = 0) = False := eq_false (by omega)
      have hn1 : ((n : Int) == 0) = false := by rw [beq_eq_false_iff_ne]; omega
      have HP := Lib.hid hp
      have HQ := Lib.hid hq
      have hp1 : Int.tdiv (i : Int) (n : Int) = (p : Int) := by rw [← hp]; exact (Int.ofNat_tdiv i n).symm
      have hq1 : Int.tmod (i : Int) (n : Int) = (q : Int) := by rw [← hq]; exact (Int.ofNat_tmod i n).symm
      have hwp : IntKind.i64.wrap (p : Int) = (p : Int) := IntWalk.i64_in _ (by omega)
      have hwq : IntKind.i64.wrap (q : Int) = (q : Int) := IntWalk.i64_in _ (by omega)
      clear hx1 hx2 hr1 hr2 hp hq
      obtain ⟨vb, hvb⟩ : ∃ vb, bt ds p q = vb := ⟨_, rfl⟩
      rw [hvb] at HCA
      have HV := Lib.hid hvb
      clear hvb
      go_upto_region 6 with fail
      go_region_held3 (fun w' => w'.cell? ⟨b, o + p, none⟩ = some (.slice a1 d1.length c1) ∧ w'.cell? ⟨b, o + q, none⟩ = some (.slice a2 d2.length c2) ∧ Below w.heap.size wr w') ((refine keepB HC1.out HC2.out hb hb ?_; first | exact Below.refl _ _ | exact (Below.refl _ _).drew | exact Below.drewN_ (Below.refl _ _) _ | exact (Below.refl _ _).setCell (p := ⟨w.heap.size, i, none⟩) (Nat.le_refl _) _ | exact (Below.drewN_ (Below.refl _ _) _).setCell (p := ⟨w.heap.size, i, none⟩) (Nat.le_refl _) _))
        ((go_at_call 41; refine (HCA.out _ ?_).mono ?_; (first | exact Below.refl _ _ | exact (Below.refl _ _).drew); rintro e w' ⟨rfl, m, rfl⟩))
      all_goals
        clear hnz hnz2 hn1 hp1 hq1 hwp hwq
        go_wp2_with fail
        go_roundg g
        case measure => omega
        case rel =>
          refine ⟨i + 1, by omega, by go_num, Lib.hid ?_, Lib.hid ((Below.drewN_ HB.out _).setCell (p := ⟨w.heap.size, i, none⟩) (Nat.le_refl _) _)⟩
          have h2 := fun z => (HT.out.drewN z).put i (.bool vb)
          rw [rowB_set N _ i vb hil] at h2
          rw [rowB N (fillTo (bt ds) n (i + 1)) _ fun j _ => fill_step (bt ds) n i j]
          rw [HP.out, HQ.out, HV.out]
          exact h2 _

end Go.Proofs.Ytkkholagmjcgiaa
