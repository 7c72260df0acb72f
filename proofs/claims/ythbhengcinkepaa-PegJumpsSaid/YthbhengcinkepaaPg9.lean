/- The jumps that can be made in a position, as an iterator. -/
import Derived.Test.YthbhengcinkepaaPg7
import Derived.Test.YthbhengcinkepaaSeqT
import Derived.Test.YthbhengcinkepaaBfsL
namespace Go.Proofs.Ythbhengcinkepaa
open Go.RowKit Go.Shelf Lamp

attribute [local go_sem] Oper.semAt_some

/-- The yielded value is that jump. -/
def IsJump (x : Tri) (v : Array Value) (_ : World) : Prop := v = #[.agg #[.int .i64 x.1, .int .i64 x.2.1, .int .i64 x.2.2]]

theorem possible_any (A : Option Addr) (m c : Nat) (p : Int) (w : World) :
    Calls Try.prog 58 #[.slice A m c, .int .i64 p] w fun e w' => e = .returned (.func (.func 98) #[] #[.pointer (some ⟨w.heap.size, 0, none⟩), .pointer (some ⟨w.heap.size + 1, 0, none⟩)]) ∧ w' = (w.alloc (Obj.cells #[.slice A m c] 102)).alloc (Obj.cells #[.int .i64 p] 3) := by
  go_enter Try.func58, Try.ntmps58
  go_wp2_with fail
  go_ret
  exact ⟨rfl, rfl⟩

theorem filter_snoc {L : List Tri} {P : Tri → Bool} {k : Nat} {x : Tri} (h : L[k]? = some x) : (L.take (k + 1)).filter P = if P x = true then (L.take k).filter P ++ [x] else (L.take k).filter P := by
  have h2 := List.getElem?_eq_some_iff.1 h
  rw [List.take_succ_eq_append_getElem h2.1, h2.2, List.filter_append]
  by_cases hp : P x = true
  · simp [hp]
  · simp [hp]
theorem filter_pre {L : List Tri} {P : Tri → Bool} {k : Nat} {x : Tri} (h : L[k]? = some x) (hp : P x = true) : (L.take k).filter P ++ [x] <+: L.filter P := by
  have h1 := filter_snoc (P := P) h
  rw [if_pos hp] at h1
  rw [← h1]
  exact (List.take_prefix _ _).filter _

set_option maxRecDepth 100000 in
set_option maxHeartbeats 4000000 in
theorem possible_seq (Bs Bp _B0 n p c : Nat) (A : Option Addr) (L : List Tri) (D : Nat → Prop) (W1 : World) (hn : n ≤ 16) (hp : p < 65536) (hok : LinesOk n L) (hl : L.length ≤ 1000000) (hbs : Box W1 Bs 102 #[.slice A L.length c]) (hbp : Box W1 Bp 3 #[.int .i64 p]) (hr : RTri W1 W1.heap.size A L) (hA : ∀ b o, A = some ⟨b, o, none⟩ → D b) (_hDs : D Bs) (hDp : D Bp) :
    SeqT IsJump Try.prog 98 #[.pointer (some ⟨Bs, 0, none⟩), .pointer (some ⟨Bp, 0, none⟩)] D (L.filter fun j => canJ j p) W1 := by
  intro l J S hJ0 hJe hJ hS hY
  have HBS := Lib.hid hbs
  have HBP := Lib.hid hbp
  have HR := Lib.hid hr
  have HJ0 := Lib.hid hJ0
  have HJT := Lib.hid hJ
  have HST := Lib.hid hS
  have HY := Lib.hid hY
  have HK := Lib.hid hok
  have HAD := Lib.hid hA
  have hc0 := hbs.cell 0
  have hlt1 := hbs.lt
  have hlt2 := hbp.lt
  simp only [List.getElem?_toArray, List.getElem?_cons_zero] at hc0
  clear hbs hbp hr hJ0 hJ hJe hS hY hok hA
  refine (callsIn_wide (n := 3)).1 ?_
  refine callsIn_of_wp Try.func98 rfl trivial ?_ rfl
  simp only [Try.ntmps98, List.size_toArray, List.length_cons, List.length_nil, Nat.reduceAdd, Nat.reduceSub, Array.replicate_succ, Array.replicate_zero, List.push_toArray, List.append_toArray, List.nil_append, List.cons_append]
  gi_wp2
  clear hc0
  gi_loopw [8] (fun q wr => ∃ k : Nat, q = .int .i64 k ∧ k ≤ L.length ∧ Hid (J (fun _ => False) ((L.take k).filter fun j => canJ j p) wr) ∧ Hid (Turn (fun b => ¬ D b) W1 wr)) (fun q _ => L.length - (intOf q).toNat)
  case atStart => exact ⟨0, rfl, by omega, HJ0, Lib.hid (Turn.refl _ _)⟩
  case round =>
    clear HJ0
    obtain ⟨k, rfl, hk, HJ1, HT1⟩ := hrel
    have HJK := HJ1
    have HT := HT1
    clear HJ1 HT1
    by_cases hlt : k < L.length
    · obtain ⟨b, o, x, y, z, hA, hb, hx, hc1, hc2, hc3⟩ := HR.out.at_ hlt
      subst hA
      have hDb := HAD.out b o rfl
      have hc1 := (HT.out.cell (p := ⟨b, o + k * 3, none⟩) hb (fun h => h hDb)).trans hc1
      have hc2 := (HT.out.cell (p := ⟨b, o + k * 3 + 1, none⟩) hb (fun h => h hDb)).trans hc2
      have hc3 := (HT.out.cell (p := ⟨b, o + k * 3 + 2, none⟩) hb (fun h => h hDb)).trans hc3
      obtain ⟨a1, a2, a3, he, ha1, ha2, ha3⟩ := (HK.out _ (List.mem_of_getElem? hx)).nat hn
      cases he
      have hcp := (HBP.out.turn HT.out (fun h => h hDp)).cell 0
      simp only [List.getElem?_toArray, List.getElem?_cons_zero] at hcp
      have hszk := HT.out.size
      have hlw : wr.heap.size < (wr.alloc (Obj.cells #[Value.int IntKind.i64 a1, Value.int IntKind.i64 a2, Value.int IntKind.i64 a3] 105)).heap.size := by simp
      have HBO := Lib.hid (Box.new wr 105 #[Value.int IntKind.i64 a1, Value.int IntKind.i64 a2, Value.int IntKind.i64 a3])
      have HTA := Lib.hid ((Turn.refl (fun _ => False) wr).alloc (Obj.cells #[Value.int IntKind.i64 a1, Value.int IntKind.i64 a2, Value.int IntKind.i64 a3] 105))
      have HFS := Lib.hid (filter_snoc (P := fun j => canJ j p) hx)
      have HFP := Lib.hid (filter_pre (P := fun j => canJ j p) hx)
      have hcp2 := (World.cell?_alloc_lt wr (Obj.cells #[Value.int IntKind.i64 a1, Value.int IntKind.i64 a2, Value.int IntKind.i64 a3] 105) ⟨Bp, 0, none⟩ (by show Bp < _; omega)).trans hcp
      clear hx
      cases hcan : canJ ((a1 : Int), (a2 : Int), (a3 : Int)) p
      · have HC := Lib.hid hcan
        clear hcan
        gi_wp2
        refine ⟨trivial, (callsIn_wide.2 (isPossible_of _ ha1 ha2 ha3 hp HC.out)).mono ?_⟩
        rintro e w2 ⟨rfl, hb2⟩
        have HT2 := Lib.hid (HTA.out.below hb2 (by omega))
        clear hb2 hc1 hc2 hc3 hcp hcp2
        gi_wp2
        refine ⟨(fun _ h => by cases h), ?_⟩
        gi_wp2
        go_roundw
        case rel =>
          refine ⟨k + 1, by go_num, by omega, ?_, Lib.hid (HT.out.trans HT2.out fun i _ h => h.elim)⟩
          rw [HFS.out, HC.out, if_neg (by simp)]
          exact Lib.hid (HJT.out _ _ _ _ HJK.out HT2.out)
        case measure => simp [intOf]; omega
      · have HC := Lib.hid hcan
        clear hcan
        gi_wp2
        refine ⟨trivial, (callsIn_wide.2 (isPossible_of _ ha1 ha2 ha3 hp HC.out)).mono ?_⟩
        rintro e w2 ⟨rfl, hb2⟩
        have HT2 := Lib.hid (HTA.out.below hb2 (by omega))
        have hbx2 := HBO.out.below hb2 hlw
        have x0 := hbx2.cell 0
        have x1 := hbx2.cell 1
        have x2 := hbx2.cell 2
        simp only [List.getElem?_toArray, List.getElem?_cons_zero, List.getElem?_cons_succ] at x0 x1 x2
        have HJ2 := Lib.hid (HJT.out _ _ _ _ HJK.out HT2.out)
        clear hb2 hc1 hc2 hc3 hcp hcp2 hbx2
        obtain ⟨fn, tmps, assign, body, hy, hR⟩ := HY.out (fun _ => False) _ ((a1 : Int), (a2 : Int), (a3 : Int)) _ w2 HJ2.out rfl (HFP.out HC.out) (fun _ h => h.elim)
        have hR := RoundIn.anyDepthE (m' := 2) hR
        gi_wp2
        refine hR.mono ?_
        clear hR hy
        rintro e W3 ⟨(⟨rfl, hJ3⟩ | ⟨rfl, hS3⟩), hT3⟩
        · have HJ3 := Lib.hid hJ3
          have HT3 := Lib.hid (show Turn (fun b => ¬ D b) W1 W3 from ((HT.out.trans HT2.out fun i _ h => h.elim).trans hT3 fun i _ h hd => h (.inl hd)))
          clear hJ3 hT3 x0 x1 x2
          gi_wp2
          go_roundw
          case rel => exact ⟨k + 1, by go_num, by omega, by rw [HFS.out, HC.out, if_pos rfl]; exact HJ3, HT3⟩
          case measure => simp [intOf]; omega
        · have HS3 := Lib.hid hS3
          clear hS3 hT3 x0 x1 x2
          gi_wp2
          go_returns
          exact ⟨rfl, _, .inr HS3.out⟩
    · obtain rfl : k = L.length := by omega
      gi_wp2
      go_end0
      refine ⟨rfl, (fun _ => False), .inl ?_⟩
      have h1 := HJK.out
      rwa [List.take_length] at h1
end Go.Proofs.Ythbhengcinkepaa
