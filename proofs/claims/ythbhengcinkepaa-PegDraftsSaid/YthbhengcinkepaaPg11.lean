/- All jumps of the lines of a board, as the program makes them. -/
import Derived.Test.YthbhengcinkepaaPg10
namespace Go.Proofs.Ythbhengcinkepaa
open Go.RowKit Lamp

theorem OwnT.base {t : TypeId} {w : World} {base : Nat} {v : Value} {l : List Tri} (h : OwnT t w base v l) : ∀ (A : Option Addr) (n c b o : Nat), v = .slice A n c → A = some ⟨b, o, none⟩ → base ≤ b ∧ b < w.heap.size := by
  intro A n c b o hv hA
  rcases h.2 with ⟨e, _⟩ | ⟨g, cap, cur, e, hb, _⟩
  · rw [e, hA] at hv
    cases hv
  · rw [e, hA] at hv
    cases hv
    exact h.blk b (by rw [e]; simp [Value.ownBlock]) |>.imp_right And.left

set_option maxRecDepth 100000 in
set_option maxHeartbeats 4000000 in
theorem jumpsOf_any (A : Option Addr) (c : Nat) (l : List Tri) (w : World) (hr : RTri w w.heap.size A l) (hl : l.length ≤ 40) :
    Calls Try.prog 59 #[.slice A l.length c] w fun e w' => ∃ A2 c2, e = .returned (.slice A2 (jumpsL l).length c2) ∧ RTri w' w'.heap.size A2 (jumpsL l) ∧ (∀ b o, A2 = some ⟨b, o, none⟩ → w.heap.size ≤ b ∧ b < w'.heap.size) ∧ Below w.heap.size w w' := by
  have HR := Lib.hid hr
  have HJ := Lib.hid (show jumpsL l = (bothL l).mergeSort fun x y => !ltT y x from rfl)
  have HJL := Lib.hid (jumpsL_len l)
  have HBL := Lib.hid (bothL_len l)
  clear hr
  go_enter Try.func59, Try.ntmps59
  go_wp2_with fail
  go_loopw [3, 10] (fun sv q wr => ∃ (k : Nat) (v : Value), v = sv ∧ q = .int .i64 k ∧ k ≤ l.length ∧ Hid (OwnT 105 wr w.heap.size v (bothL (l.take k))) ∧ Hid (Below w.heap.size w wr)) (fun _ q _ => l.length - (intOf q).toNat)
  case atStart => exact ⟨0, _, rfl, rfl, by omega, Lib.hid (OwnT.nil_ _ _ _), Lib.hid (Below.refl _ _)⟩
  case round =>
    obtain ⟨k, v, rfl, rfl, hk, HO1, HB1⟩ := hrel
    have HO := HO1
    have HB := HB1
    clear HO1 HB1
    have hbs := HB.out.size
    by_cases hlt : k < l.length
    · obtain ⟨b, o, x, y, z, hA, hbb, hx, hc1, hc2, hc3⟩ := (HR.out.below HB.out).at_ hlt
      subst hA
      have HT := Lib.hid (bothL_take l k _ hx)
      clear hx
      go_upto_region 5 with fail
      go_wp2_with fail
      refine (both_any x y z _).mono ?_
      rintro e w3' ⟨rfl, hb3⟩
      have hT3 := ((Turn.refl (fun _ => False) wr).alloc (Obj.cells #[Value.int IntKind.i64 x, Value.int IntKind.i64 y, Value.int IntKind.i64 z] 30)).below hb3 (by simp)
      have HB3 := Lib.hid (show Below w.heap.size w w3' from HB.out.trans (hT3.toBelow HB.out.size (fun _ _ h => h)))
      have HO3 := Lib.hid (HO.out.turn hT3 (fun _ _ h => h))
      clear hb3 hc1 hc2 hc3 hT3
      obtain ⟨W3, hW3⟩ : ∃ W3, w3' = W3 := ⟨_, rfl⟩
      rw [hW3] at HB3 HO3 ⊢
      clear hW3
      obtain ⟨M, hM⟩ : ∃ M, bothL (l.take k) = M := ⟨_, rfl⟩
      have hml : M.length = 2 * k := by rw [← hM, bothL_len, List.length_take]; omega
      rw [hM] at HO3 HT
      have HML := Lib.hid hml
      clear hM hml HO HB hbs
      go_wp2_with fail
      go_loopw [3, 16] (fun sv q wx => ∃ (j : Nat) (v2 : Value), v2 = sv ∧ q = .int .i64 j ∧ j ≤ 2 ∧ Hid (OwnT 105 wx w.heap.size v2 (M ++ [(x, y, z), (z, y, x)].take j)) ∧ Hid (Below w.heap.size w wx)) (fun _ q _ => 2 - (intOf q).toNat)
      case atStart => exact ⟨0, _, rfl, rfl, by omega, by rw [List.take_zero, List.append_nil]; exact HO3, HB3⟩
      case round =>
        clear HO3 HB3
        obtain ⟨j, v2, rfl, rfl, hj, HP1, HX1⟩ := hrel
        have HP := HP1
        have HX := HX1
        clear HP1 HX1
        have hxs := HX.out.size
        match j, hj with
        | 0, _ =>
          rw [List.take_zero, List.append_nil] at HP
          have hix := both_0 x y z z y x
          have HBX := Lib.hid ((Box.new (wr.alloc (Obj.cells #[Value.int IntKind.i64 x, Value.int IntKind.i64 y, Value.int IntKind.i64 z] 105)) 105 #[Value.int IntKind.i64 x, Value.int IntKind.i64 y, Value.int IntKind.i64 z]))
          have HPA := Lib.hid ((HP.out.alloc (Obj.cells #[Value.int IntKind.i64 x, Value.int IntKind.i64 y, Value.int IntKind.i64 z] 105)).alloc (Obj.cells #[Value.int IntKind.i64 x, Value.int IntKind.i64 y, Value.int IntKind.i64 z] 105))
          have hsz : (wr.alloc (Obj.cells #[Value.int IntKind.i64 x, Value.int IntKind.i64 y, Value.int IntKind.i64 z] 105)).heap.size = wr.heap.size + 1 := by simp
          rw [hsz] at HBX
          go_wp2_with (at_builtin; refine wpList_addJ _ rfl _ _ rfl HPA.out rfl (wr.heap.size + 1) 1 x y z rfl HBX.out (by have := HML.out; omega) (by simp; omega) ?_; intro v9 w9 hown9 hg9)
          have hblk := HP.out.blk
          have HP9 := Lib.hid hown9
          have HX9 := Lib.hid (show Below w.heap.size w w9 from ((HX.out.alloc HX.out.size _).alloc (by simp; omega) _).grown hg9 (by simp; omega) (fun j hj => (hblk j hj).1))
          clear hown9 hg9 hblk hix hsz
          go_roundw
          case rel => exact ⟨1, v9, rfl, by first | rfl | go_num, by omega, HP9, HX9⟩
          case measure => simp [intOf]
        | 1, _ =>
          have hix := both_1 x y z z y x
          have HBX := Lib.hid ((Box.new (wr.alloc (Obj.cells #[Value.int IntKind.i64 z, Value.int IntKind.i64 y, Value.int IntKind.i64 x] 105)) 105 #[Value.int IntKind.i64 z, Value.int IntKind.i64 y, Value.int IntKind.i64 x]))
          have HPA := Lib.hid ((HP.out.alloc (Obj.cells #[Value.int IntKind.i64 z, Value.int IntKind.i64 y, Value.int IntKind.i64 x] 105)).alloc (Obj.cells #[Value.int IntKind.i64 z, Value.int IntKind.i64 y, Value.int IntKind.i64 x] 105))
          have hsz : (wr.alloc (Obj.cells #[Value.int IntKind.i64 z, Value.int IntKind.i64 y, Value.int IntKind.i64 x] 105)).heap.size = wr.heap.size + 1 := by simp
          rw [hsz] at HBX
          go_wp2_with (at_builtin; refine wpList_addJ _ rfl _ _ rfl HPA.out rfl (wr.heap.size + 1) 1 z y x rfl HBX.out (by have := HML.out; simp; omega) (by simp; omega) ?_; intro v9 w9 hown9 hg9)
          have hblk := HP.out.blk
          have HP9 := Lib.hid (show OwnT 105 w9 w.heap.size v9 (M ++ [(x, y, z), (z, y, x)].take 2) by
            have e : M ++ [(x, y, z), (z, y, x)].take 2 = (M ++ [(x, y, z), (z, y, x)].take 1) ++ [(z, y, x)] := by simp
            rw [e]; exact hown9)
          have HX9 := Lib.hid (show Below w.heap.size w w9 from ((HX.out.alloc HX.out.size _).alloc (by simp; omega) _).grown hg9 (by simp; omega) (fun j hj => (hblk j hj).1))
          clear hown9 hg9 hblk hix hsz
          go_roundw
          case rel => exact ⟨2, v9, rfl, by first | rfl | go_num, by omega, HP9, HX9⟩
          case measure => simp [intOf]
        | 2, _ =>
          go_wp2_with fail
          go_roundw
          case rel => exact ⟨k + 1, v2, rfl, by go_num, by omega, by rw [HT.out]; exact HP, HX⟩
          case measure => simp [intOf]; omega
        | j + 3, hj => omega
    · obtain rfl : k = l.length := by omega
      have hown := HO.out
      rw [List.take_length] at hown
      have HS := Lib.hid (SortFunc_any w.heap.size v (bothL l) wr hown (by have := HBL.out; omega))
      have HBS := Lib.hid hown.base
      clear hown
      go_wp2_with fail
      refine HS.out.mono ?_
      rintro e w9 ⟨rfl, ⟨A2, c2, rfl, hrt⟩, hb9⟩
      have HRT := Lib.hid hrt
      have hsz9 := hb9.size
      have HSZ9 := Lib.hid hsz9
      clear hsz9
      have HB9 := Lib.hid (HB.out.trans hb9)
      have hlen : (bothL l).length = (jumpsL l).length := by rw [HJL.out, HBL.out]
      rw [hlen]
      have HLE := Lib.hid hlen
      clear hrt hb9 HO hlen
      go_wp2_with fail
      go_ret
      exact ⟨A2, c2, rfl, by rw [HJ.out]; exact HRT.out, fun b o e => by have h1 := HBS.out A2 _ c2 b o rfl e; have h2 := HSZ9.out; omega, HB9.out⟩
end Go.Proofs.Ythbhengcinkepaa
