/- The search for the hardest target: it presses lamps one by one, so that each target comes first by the fewest lamps. -/
import Derived.Test.YtpdgjjpfahobaaaHard1
import Derived.Test.YtpdgjjpfahobaaaReachL
import Derived.Test.YtpdgjjpfahobaaaLig10
import Derived.WalkMore
import Derived.Deep.LoopGhost
namespace Go.Proofs.Ytpdgjjpfahobaaa
open Go.RowKit Go.Shelf Lamp

/-- What the targets so far need. -/
def ndL (s T : List Nat) (P : Nat) : List Nat := (List.range P).map fun t => if t ∈ T then dist s t else 0
theorem ndL_len (s T : List Nat) (P : Nat) : (ndL s T P).length = P := by simp [ndL]
theorem ndL_at {s T : List Nat} {P t : Nat} (h : t < P) : (ndL s T P).getD t 0 = if t ∈ T then dist s t else 0 := by
  simp [ndL, List.getD_eq_getElem?_getD, h]
theorem ndL_add {s T : List Nat} {P x : Nat} : (ndL s T P).set x (dist s x) = ndL s (T ++ [x]) P := by
  unfold ndL
  apply List.ext_getElem?
  intro i
  rw [List.getElem?_set]
  by_cases hi : i < P
  · by_cases hk : x = i
    · subst hk
      simp [hi]
    · rw [if_neg hk]
      simp only [List.getElem?_map, List.getElem?_range hi, Option.map_some, List.mem_append, List.mem_singleton]
      have : ¬ i = x := fun h => hk h.symm
      simp [this]
  · by_cases hk : x = i
    · subst hk; simp [hi]
    · simp [hi, hk]
theorem ndL_zero {s : List Nat} {P : Nat} (h : dist s 0 = 0) : List.replicate P 0 = ndL s [0] P := by
  unfold ndL
  apply List.ext_getElem?
  intro i
  by_cases hi : i < P
  · simp only [List.getElem?_replicate, hi, if_true, List.getElem?_map, List.getElem?_range hi, Option.map_some, List.mem_singleton]
    congr 1
    split
    · rename_i e; rw [e, h]
    · rfl
  · simp [hi]

/-- The search at the head of a round. -/
def HeadS (s T : List Nat) (k : Nat) : Prop := (T.Nodup ∧ (∀ t ∈ T, Rch s t) ∧ 0 ∈ T) ∧ (k < T.length → Bfs s T k 0) ∧ (k = T.length → ∀ t, Rch s t → t ∈ T)

theorem minK_mem {ND T : List Nat} (h : 1 ≤ T.length) : ∀ k, k < T.length → minK ND T k ∈ T
  | 0, _ => getD_mem (by omega)
  | k + 1, hk => by
    rw [minK]
    split
    · exact getD_mem hk
    · exact minK_mem h k (by omega)
theorem hardLt_not {na nb a b : Nat} : hardLt na nb a b = false ↔ na < nb ∨ (na = nb ∧ b ≤ a) := by
  unfold hardLt
  rw [← Bool.not_eq_true]
  simp only [Bool.or_eq_true, Bool.and_eq_true, decide_eq_true_eq]
  omega
theorem minK_best {ND T : List Nat} : ∀ k, k < T.length → ∀ j, j ≤ k → hardLt (ND.getD (T.getD j 0) 0) (ND.getD (minK ND T k) 0) (T.getD j 0) (minK ND T k) = false
  | 0, _, j, hj => by
    obtain rfl : j = 0 := by omega
    rw [hardLt_not, minK]; omega
  | k + 1, hk, j, hj => by
    rw [minK]
    split
    · rename_i h
      by_cases e : j = k + 1
      · rw [e, hardLt_not]; omega
      · have h1 := minK_best (ND := ND) (T := T) k (by omega) j (by omega)
        rw [hardLt_not] at h1 ⊢
        unfold hardLt at h
        simp only [Bool.or_eq_true, Bool.and_eq_true, decide_eq_true_eq] at h
        omega
    · rename_i h
      by_cases e : j = k + 1
      · rw [e]; simpa using h
      · exact minK_best (ND := ND) (T := T) k (by omega) j (by omega)
/-- The hardest target: no other one needs more lamps, nor as many and is less. -/
def HardestOf (s : List Nat) (b : Nat) : Prop := Rch s b ∧ ∀ t, Rch s t → dist s t < dist s b ∨ (dist s t = dist s b ∧ b ≤ t)
theorem HardestOf.one {s : List Nat} {a b : Nat} (ha : HardestOf s a) (hb : HardestOf s b) : a = b := by
  have h1 := ha.2 b hb.1
  have h2 := hb.2 a ha.1
  omega
theorem minK_hardest {s T : List Nat} {P : Nat} (hP : 2 ^ s.length = P) (h1 : 1 ≤ T.length) (hr : ∀ t ∈ T, Rch s t) (hall : ∀ t, Rch s t → t ∈ T) : HardestOf s (minK (ndL s T P) T (T.length - 1)) ∧ (ndL s T P).getD (minK (ndL s T P) T (T.length - 1)) 0 = dist s (minK (ndL s T P) T (T.length - 1)) := by
  have hm := minK_mem (ND := ndL s T P) h1 (T.length - 1) (by omega)
  have hlt : ∀ t ∈ T, t < P := fun t ht => by have := (hr t ht).1; rwa [hP] at this
  have hg : ∀ t ∈ T, (ndL s T P).getD t 0 = dist s t := fun t ht => by rw [ndL_at (hlt t ht), if_pos ht]
  refine ⟨⟨hr _ hm, fun t ht => ?_⟩, hg _ hm⟩
  have htT := hall t ht
  obtain ⟨j, hj, hje⟩ := List.getElem_of_mem htT
  have hjg : T.getD j 0 = t := by rw [← hje]; simp [List.getD_eq_getElem?_getD, hj]
  have h := minK_best (ND := ndL s T P) (T := T) (T.length - 1) (by omega) j (by omega)
  rw [hjg, hardLt_not, hg t htT, hg _ hm] at h
  exact h

set_option maxRecDepth 100000 in
set_option maxHeartbeats 16000000 in
theorem hardest_any (n P : Nat) (sw : List Nat) (w : World) (hl : sw.length = 16) (hn : n ≤ 16) (hs : ∀ x ∈ sw, x < 65536) (hP : 2 ^ n = P) (hsP : ∀ x ∈ sw.take n, x < 2 ^ n) (hy : Sym (sw.take n)) :
    Calls Try.prog 68 #[.agg (gCells n sw)] w fun e w' => ∃ b, e = .returned (.tuple #[.int .i64 (b : Nat), .int .i64 (dist (sw.take n) b : Nat)]) ∧ HardestOf (sw.take n) b ∧ Below w.heap.size w w' := by
  have hT : (sw.take n).length = n := by rw [List.length_take, hl]; omega
  obtain ⟨s, hse⟩ : ∃ s, sw.take n = s := ⟨_, rfl⟩
  rw [hse] at hT hsP hy ⊢
  have hp16 := pow_split hn
  have hp0 := Nat.two_pow_pos n
  have hpi : ((2 ^ n : Nat) : Int) = (2 : Int) ^ n := by simp
  have hP2 : (2 : Int) ^ n = (P : Int) := by rw [← hpi, hP]
  have hwP : IntKind.i64.wrap (P : Int) = (P : Int) := IntWalk.i64_in _ (by rw [hP] at hp16; omega)
  obtain ⟨R, hR⟩ : ∃ R, 2 ^ (n - (quietL s).length) = R := ⟨_, rfl⟩
  have HST := Lib.hid (Bfs.start hT hn hsP hy)
  have HADD := Lib.hid (fun (T : List Nat) (i m : Nat) (h : Bfs s T i m) (hm : m < n) => Bfs.add hT hn hsP hy h hm)
  have HNX := Lib.hid (fun (T : List Nat) (i : Nat) (h : Bfs s T i n) => Bfs.next hT hn hsP h hy)
  have HLA := Lib.hid (fun (T : List Nat) (i : Nat) (h : Bfs s T i n) => Bfs.last hT hn hsP h hy)
  have HEN := Lib.hid (fun (T : List Nat) (i m : Nat) (h : Bfs s T i m) => Bfs.enough hT hn hsP hy h)
  have HMO := Lib.hid (fun (T : List Nat) (i m : Nat) (h : Bfs s T i m) => Bfs.most hT hn hsP hy h)
  have hD0 := (dist_zero hT hn hsP hy).2
  have HPOS := Lib.hid (fun t (h : Rch s t) (h0 : t ≠ 0) => dist_pos hT hn hsP h h0)
  have HD16 := Lib.hid (fun t (_ : t < 1) => popc_0)
  have hRP : R ≤ P := by rw [← hR, ← hP]; exact Nat.pow_le_pow_right (by decide) (by omega)
  rw [hR] at HEN HMO
  have HZ := Lib.hid (ndL_zero (s := s) (P := P) hD0)
  have HRL := Lib.hid (fun t (h : Rch s t) => show t < P by have := h.1; rw [hT, hP] at this; exact this)
  have HRE := Lib.hid hR
  have HSE := Lib.hid hse
  have HL := Lib.hid hl
  have HS := Lib.hid hs
  have HTL := Lib.hid hT
  have HPP := Lib.hid hP
  have HS65 := Lib.hid (show ∀ x ∈ s, x < 65536 from fun x hx => Nat.lt_of_lt_of_le (hsP x hx) hp16)
  have hn' : (n : Int) ≤ 16 := by omega
  rw [hP] at hp16 hp0
  obtain ⟨i0, hi, hz0, hz1, hz2⟩ := info_parts Try.info3
  clear hl hs hT hsP hy hse hpi hP hR hD0 HD16
  go_enter Try.func68, Try.ntmps68
  go_wp2_with fail
  go_step3
  go_wp2_with (refine wpList_load_row rfl 93 _ rfl w.heap.size rfl 93 (gCells n sw) (0, 0) _ (Box.new w _ _) Try.underlying93 rfl (by rw [gCells_size, HL.out]; kernel_rfl) ?_)
  refine (reachable_any n sw _ HL.out hn HS.out).mono ?_
  rintro e w1 ⟨rfl, hb1⟩
  rw [HSE.out, HRE.out]
  have HG1 := Lib.hid ((Box.new w 93 (gCells n sw)).below hb1 (by simp))
  have HB1 := Lib.hid (show Below w.heap.size w w1 from ((Below.refl _ _).alloc (Nat.le_refl _) _).trans (hb1.mono (by simp)))
  have hg0 : w.heap.size < w1.heap.size := HG1.out.lt
  clear hb1
  go_upto_region 3 with fail
  obtain ⟨W2, hW2⟩ : ∃ W2, w1.alloc (Obj.cells #[Value.int IntKind.i64 0] 3) = W2 := ⟨_, rfl⟩
  have HG2 := Lib.hid (show Box W2 w.heap.size 93 (gCells n sw) by rw [← hW2]; exact HG1.out.alloc _)
  have HB2 := Lib.hid (show Below w.heap.size w W2 by rw [← hW2]; exact HB1.out.alloc HB1.out.size _)
  have HO2 := Lib.hid (show OwnB W2 (w.heap.size + 1) (.slice (some ⟨w1.heap.size, 0, none⟩) 1 1) (natV [0]) by
    rw [← hW2]
    exact ⟨rfl, .inr ⟨w1.heap.size, 1, #[Value.int IntKind.i64 0], rfl, by omega, Box.new w1 3 _, Nat.le_refl _, by unfold maxLen; omega, rfl, rfl⟩⟩)
  obtain ⟨gn, hgn⟩ : ∃ g, w1.heap.size + 1 = g := ⟨_, rfl⟩
  have hsz2 : W2.heap.size = gn := by rw [← hW2, ← hgn]; simp
  rw [hW2]
  clear hW2 HG1 HB1
  have hg := HG2.out.cell 0
  rw [gCells_0] at hg
  have hmk := make_ic P (by omega) W2
  go_wp2_with fail
  go_step3
  go_wp2_with fail
  clear hmk hg
  go_loopw [5, 7] (fun tv i wr => ∃ (T : List Nat) (k : Nat) (v : Value), v = tv ∧ i = .int .i64 k ∧ k ≤ T.length ∧ T.length ≤ P ∧ Hid (HeadS s T k) ∧ Hid (OwnB wr (w.heap.size + 1) v (natV T)) ∧ Hid (v.ownBlock ≠ some gn) ∧ Hid (Box wr gn 3 (iC (ndL s T P))) ∧ Hid (Box wr (gn + 1) 28 #[.slice (some ⟨gn, 0, none⟩) P P]) ∧ Hid (Box wr w.heap.size 93 (gCells n sw)) ∧ Hid (Below w.heap.size w wr)) (fun _ i _ => P + 1 - (intOf i).toNat)
  case atStart =>
    refine ⟨[0], 0, _, rfl, rfl, by simp, by simp; omega, Lib.hid ⟨⟨by simp, HST.out.rch, by simp⟩, fun _ => HST.out, fun h => by simp at h⟩, Lib.hid ((HO2.out.alloc _).alloc _), Lib.hid (by simp [Value.ownBlock]; omega), Lib.hid ?_, Lib.hid ?_, Lib.hid ((HG2.out.alloc _).alloc _), Lib.hid ?_⟩
    · rw [← HZ.out]
      have h := (Box.new W2 3 (iC (List.replicate P 0))).alloc (Obj.cells #[Value.slice (some { block := gn, off := 0 }) P P] 28)
      rw [hsz2] at h
      exact h
    · have h := Box.new (W2.alloc (Obj.cells (iC (List.replicate P 0)) 3)) 28 #[Value.slice (some { block := gn, off := 0 }) P P]
      simp only [World.size_alloc, hsz2] at h
      exact h
    · exact (HB2.out.alloc HB2.out.size _).alloc (by have := HB2.out.size; simp; omega) _
  case round =>
    obtain ⟨T, k, v, rfl, rfl, hk, hTP, HH1, HO1, HV1, HN1, HC1, HG1, HB1⟩ := hrel
    have HH := HH1
    have HO := HO1
    have HV := HV1
    have HN := HN1
    have HC := HC1
    have HG := HG1
    have HB := HB1
    clear HH1 HO1 HV1 HN1 HC1 HG1 HB1 HG2 HB2 HO2
    by_cases hkT : k < T.length
    · have HBF := Lib.hid (HH.out.2.1 hkT)
      obtain ⟨A, cv, hv, hri⟩ := HO.out.reads
      rw [natV_len] at hv
      have hk' : (k : Int) < (T.length : Int) := by omega
      have hg := HG.out.cell 0
      rw [gCells_0] at hg
      obtain ⟨wo, rfl⟩ : ∃ wo : World, wo = wr := ⟨_, rfl⟩
      subst hv
      go_wp2_with fail
      clear hg hk' hri
      go_loopw [5, 29] (fun tv i wr => ∃ (T : List Nat) (m : Nat) (v : Value), v = tv ∧ i = .int .i64 m ∧ m ≤ n ∧ k < T.length ∧ T.length ≤ P ∧ Hid (Bfs s T k m) ∧ Hid (OwnB wr (w.heap.size + 1) v (natV T)) ∧ Hid (v.ownBlock ≠ some gn) ∧ Hid (Box wr gn 3 (iC (ndL s T P))) ∧ Hid (Box wr (gn + 1) 28 #[.slice (some ⟨gn, 0, none⟩) P P]) ∧ Hid (Box wr w.heap.size 93 (gCells n sw)) ∧ Hid (Below w.heap.size w wr)) (fun _ i _ => n - (intOf i).toNat)
      case atStart => exact ⟨T, 0, _, rfl, rfl, by omega, hkT, hTP, HBF, HO, HV, HN, HC, HG, HB⟩
      case round =>
        obtain ⟨T', m, v, rfl, rfl, hm, hkT', hTP', HF1, HO1, HV1, HN1, HC1, HG1, HB1⟩ := hrel
        have HF := HF1
        have HO2 := HO1
        have HV2 := HV1
        have HN2 := HN1
        have HC2 := HC1
        have HG2 := HG1
        have HB2 := HB1
        clear HF1 HO1 HV1 HN1 HC1 HG1 HB1 HO HV HN HC HG HB HBF HH hk hTP hkT
        by_cases hmn : m < n
        · obtain ⟨A', cv', hv', hri'⟩ := HO2.out.reads
          rw [natV_len] at hv'
          obtain ⟨b, o, z, hA, hb, hz, hcz⟩ := hri'.at_ (k := k) (by rw [natV_len]; exact hkT')
          subst hA
          obtain ⟨x, hzx, hx⟩ : ∃ x : Nat, z = (x : Int) ∧ T'.getD k 0 = x := ⟨_, (natV_at hz).1, rfl⟩
          subst hzx
          obtain ⟨y, hyy⟩ : ∃ y, s.getD m 0 = y := ⟨_, rfl⟩
          have hcy := gBox_at HG2.out (i := m) (by rw [HL.out]; omega)
          rw [show sw.getD m 0 = y by rw [← hyy, ← HSE.out, take_getD hmn]] at hcy
          have hxr := HF.out.rch _ (getD_mem hkT')
          rw [hx] at hxr
          have hxP := HRL.out x hxr
          have hx16 : x < 65536 := by omega
          have hy16 : y < 65536 := by rw [← hyy]; exact getD_lt HS65.out (by decide) m
          have hxy := i64_xor x y (by omega) (by omega)
          obtain ⟨nx, hnx⟩ : ∃ q, x ^^^ y = q := ⟨_, rfl⟩
          rw [hnx] at hxy
          have hsum : T'.getD k 0 ^^^ s.getD m 0 = nx := by rw [hx, hyy, hnx]
          have hmn' : (m : Int) < (n : Int) := by omega
          have hkT2 : (k : Int) < (T'.length : Int) := by omega
          have hcp := HC2.out.cell 0
          simp only [List.getElem?_toArray, List.getElem?_cons_zero] at hcp
          by_cases hin : nx ∈ T'
          · have hnr := HF.out.rch nx hin
            have hnP := HRL.out nx hnr
            have HS1 := Lib.hid (HF.out.skip (m := m) (by rw [hsum]; exact hin))
            have hcn := HN2.out.cell nx
            rw [iC_at _ _ (by rw [ndL_len]; exact hnP), ndL_at hnP, if_pos hin] at hcn
            have hnP' : (nx : Int) < (P : Int) := by omega
            clear hsum hxr hz hnx hyy hx
            subst hv'
            by_cases h0 : nx = 0
            · have h0' : ((nx : Int) == 0) = true := by rw [h0]; rfl
              clear h0 hcn hnP'
              go_wp2_with fail
              clear hcz hcy hcp hri'
              go_roundw
              case rel => exact ⟨T', m + 1, _, rfl, by go_num, by omega, hkT', hTP', HS1, HO2, HV2, HN2, HC2, HG2, HB2⟩
              case measure => simp [intOf]; omega
            · have h0' : ((nx : Int) == 0) = false := by rw [beq_eq_false_iff_ne]; omega
              have hd := HPOS.out nx hnr h0
              obtain ⟨dn, hdn⟩ : ∃ q, dist s nx = q := ⟨_, rfl⟩
              rw [hdn] at hd hcn
              have hd' : (0 : Int) < (dn : Int) := by omega
              clear h0 hdn hd
              go_wp2_with fail
              clear hcz hcy hcp hcn hri'
              go_roundw
              case rel => exact ⟨T', m + 1, _, rfl, by go_num, by omega, hkT', hTP', HS1, HO2, HV2, HN2, HC2, HG2, HB2⟩
              case measure => simp [intOf]; omega
          · obtain ⟨a1, a2, a3⟩ := HADD.out T' k m HF.out hmn (by rw [hsum]; exact hin)
            rw [hsum] at a1 a2 a3
            rw [hx] at a2
            have hnP := HRL.out nx a3
            have HA1 := Lib.hid a1
            have h0 : nx ≠ 0 := fun e => hin (by rw [e]; exact HF.out.zero)
            have h0' : ((nx : Int) == 0) = false := by rw [beq_eq_false_iff_ne]; omega
            have hcn := HN2.out.cell nx
            rw [iC_at _ _ (by rw [ndL_len]; exact hnP), ndL_at hnP, if_neg hin] at hcn
            have hfn := HN2.out.free nx
            have hxT : x ∈ T' := by rw [← hx]; exact getD_mem hkT'
            have hcx := HN2.out.cell x
            rw [iC_at _ _ (by rw [ndL_len]; exact hxP), ndL_at hxP, if_pos hxT] at hcx
            obtain ⟨dx, hdx⟩ : ∃ q, dist s x = q := ⟨_, rfl⟩
            rw [hdx] at hcx a2
            have HDN := Lib.hid a2
            have hTm := HMO.out _ _ _ a1
            rw [List.length_append] at hTm
            have hTm1 : T'.length + 1 ≤ R := hTm
            have hdx16 : dx ≤ 65536 := by rw [← hdx]; unfold dist; have := popK_le (fewL s x).1 16; unfold popc; omega
            have hnP' : (nx : Int) < (P : Int) := by omega
            have hxP' : (x : Int) < (P : Int) := by omega
            have hwd : IntKind.i64.wrap ((dx : Int) + 1) = (dx : Int) + 1 := IntWalk.i64_in _ (by omega)
            have HPUT := Lib.hid (ndL_add (s := s) (T := T') (P := P) (x := nx))
            have hne : nx ≠ x := fun e => hin (by rw [e]; exact hxT)
            clear hsum hxr hz hnx hyy hx hdx a1 a2 a3 hTm h0 hin hxT
            subst hv'
            have hgne : b ≠ gn := fun e => HV2.out (by simp [Value.ownBlock, e])
            go_upto_region 12 with fail
            go_region
            clear hcz hcy hcp hcn hfn hcx
            obtain ⟨W3, hW3⟩ : ∃ W3, (wr.setCell ⟨gn, nx, none⟩ (Value.int IntKind.i64 ((dx : Int) + 1))).drew = W3 := ⟨_, rfl⟩
            have HN3 := Lib.hid (show Box W3 gn 3 (iC (ndL s (T' ++ [nx]) P)) by
              rw [← hW3, ← HPUT.out, HDN.out]
              exact (iC_put HN2.out nx (dx + 1) _ (by omega)).drewN 1)
            have HO3 := Lib.hid (show OwnB W3 (w.heap.size + 1) (.slice (some ⟨b, o, none⟩) T'.length cv') (natV T') by
              rw [← hW3]
              have h1 := HO2.out
              refine ⟨h1.1, ?_⟩
              rcases h1.2 with h2 | ⟨g', cap, cur, e, h3, h4, h5⟩
              · exact .inl h2
              · have e2 := e
                rw [natV_len] at e2
                cases e2
                exact .inr ⟨b, cv', cur, by rw [natV_len], h3, ((show Box wr b 3 cur from h4).far (p := ⟨gn, nx, none⟩) hgne _).drewN 1, h5⟩)
            have HC3 := Lib.hid (show Box W3 (gn + 1) 28 #[.slice (some ⟨gn, 0, none⟩) P P] by rw [← hW3]; exact (HC2.out.far (p := ⟨gn, nx, none⟩) (by show gn + 1 ≠ gn; omega) _).drewN 1)
            have HG3 := Lib.hid (show Box W3 w.heap.size 93 (gCells n sw) by rw [← hW3]; exact (HG2.out.far (p := ⟨gn, nx, none⟩) (by show w.heap.size ≠ gn; omega) _).drewN 1)
            have HB3 := Lib.hid (show Below w.heap.size w W3 by rw [← hW3]; exact below_drewN (HB2.out.setCell (p := ⟨gn, nx, none⟩) (by show w.heap.size ≤ gn; omega) _) 1)
            rw [hW3]
            clear hW3 HN2 HO2 HC2 HG2 HB2
            have ho := HO3.out
            unfold OwnB at ho
            rw [natV_len] at ho
            have HO4 := Lib.hid ho
            have HNW := Lib.hid (World.news_of_block (w := W3.alloc (Obj.cells #[Value.int .i64 (nx : Int)] 3)) (cs := #[Value.int .i64 (nx : Int)]) (t := 3) (fr := (0, 0)) (heap_alloc_new W3 _))
            have HK1 := Lib.hid (show T'.length + 1 ≤ maxLen by unfold maxLen; omega)
            have HK2 := Lib.hid (show (T'.length + 1) * 8 ≤ 140737488355328 by omega)
            have HSZ := Lib.hid (show w.heap.size + 1 ≤ (W3.alloc (Obj.cells #[Value.int .i64 (nx : Int)] 3)).heap.size by have := HC3.out.lt; simp; omega)
            have hWb := HC3.out.lt
            clear ho
            go_upto_region 13 with fail
            go_upto_region 14 with (at_builtin; refine wpList_append_own_at _ rfl _ _ 28 rfl (w.heap.size + 1) 3 i0 (.int .i64 0) 1 8 Try.underlying28 hi hz0 hz1 hz2 rfl (by decide) _ _ _ rfl (World.ownsRow.alloc HO4.out _) ⟨W3.heap.size, 0, none⟩ 1 1 [.int .i64 (nx : Int)] rfl rfl HNW.out (by simp [Value.oneCell']) HK1.out HK2.out HSZ.out ?_; intro v9 w9 hown9 hg9 _ hob9)
            have hs9 := hg9.size
            have hsa : (W3.alloc (Obj.cells #[Value.int .i64 (nx : Int)] 3)).heap.size = W3.heap.size + 1 := by simp
            have hblk := HO3.out.blk
            have HP9 := Lib.hid (show OwnB w9 (w.heap.size + 1) v9 (natV (T' ++ [nx])) by
              unfold OwnB
              rw [natV_len, List.length_append, natV, List.map_append, List.map_append]
              exact hown9)
            have HV9 := Lib.hid (show v9.ownBlock ≠ some gn from fun e => by
              rcases (show v9.ownBlock = some b ∨ v9.ownBlock = some (W3.alloc (Obj.cells #[Value.int .i64 (nx : Int)] 3)).heap.size from hob9) with h9 | h9
              · rw [h9] at e
                injection e with e
                exact hgne e
              · rw [h9, hsa] at e
                injection e with e
                omega)
            have hbn : ∀ g', (some g' : Option Nat) = (Value.slice (some ⟨b, o, none⟩) T'.length cv').ownBlock → g' = b := fun g' e => by
              simpa [Value.ownBlock] using e
            have hbl : w.heap.size + 1 ≤ b ∧ b < W3.heap.size ∧ ∃ cur, Box W3 b 3 cur := hblk b (by simp [Value.ownBlock])
            have HN9 := Lib.hid (show Box w9 gn 3 (iC (ndL s (T' ++ [nx]) P)) from (HN3.out.alloc _).grown hg9 (fun e => hgne (hbn _ e).symm))
            have HC9 := Lib.hid (show Box w9 (gn + 1) 28 #[.slice (some ⟨gn, 0, none⟩) P P] from (HC3.out.alloc _).grown hg9 (fun e => by
              obtain ⟨_, _, cur, hcur⟩ := hbl
              have h7 := hbn _ e
              rw [← h7] at hcur
              exact HC3.out.ne hcur (by decide) rfl))
            have HG9 := Lib.hid (show Box w9 w.heap.size 93 (gCells n sw) from (HG3.out.alloc _).grown hg9 (fun e => by
              have h7 := hbn _ e
              omega))
            have HB9 := Lib.hid (show Below w.heap.size w w9 from (HB3.out.alloc HB3.out.size _).grown hg9 (by rw [hsa]; have := HB3.out.size; omega) (fun j hj => by have := (hblk j hj).1; omega))
            obtain ⟨A9, c9, hv9, _⟩ := HP9.out.reads
            rw [natV_len] at hv9
            have hlen9 : (T' ++ [nx]).length = T'.length + 1 := by simp
            obtain ⟨TF, hTF⟩ : ∃ q, T' ++ [nx] = q := ⟨_, rfl⟩
            rw [hTF] at HP9 HN9 hv9 hlen9 HA1
            rw [hlen9] at hv9
            have hlF : TF.length = T'.length + 1 := hlen9
            clear hown9 hg9 hob9 hblk hbl hbn hs9 hsa hTF HNW HK1 HK2 HSZ HO4
            by_cases hbrk : T'.length + 1 = R
            · have HALLF := Lib.hid (HEN.out TF k (m + 1) HA1.out (by rw [hlF, hbrk, ← HRE.out]))
              have HRCF := Lib.hid HA1.out.rch
              have HZF := Lib.hid HA1.out.zero
              have hbrk' : ((T'.length : Int) + 1 == (R : Int)) = true := by simp; omega
              have HOF := HP9
              have HNF := HN9
              have HCF := HC9
              have HBF2 := HB9
              obtain ⟨WF, rfl⟩ : ∃ q : World, q = w9 := ⟨_, rfl⟩
              rw [← hlF] at hv9
              subst hv9
              obtain ⟨AG, cG, hvG, hriF⟩ := HOF.out.reads
              rw [natV_len] at hvG
              have hT1F : 1 ≤ TF.length := by
                have := List.length_pos_of_mem HZF.out
                omega
              have hTPF : ∀ t ∈ TF, t < P := fun t ht => HRL.out t (HRCF.out t ht)
              have HMH := Lib.hid (minK_hardest (s := s) (T := TF) (P := P) (by rw [HTL.out]; exact HPP.out) hT1F HRCF.out HALLF.out)
              have HRIF := Lib.hid hriF
              have HTPF := Lib.hid hTPF
              clear hriF hTPF
              cases hvG
              go_wp2_with fail
              refine (MinFunc_any A9 TF R c9 (gn + 1) gn P (ndL s TF P) WF (by omega) HRIF.out hT1F (by omega) HTPF.out HCF.out HNF.out (ndL_len _ _ _) hp0).mono ?_
              rintro e w8 ⟨rfl, hb8⟩
              obtain ⟨bb, hbb⟩ : ∃ q, minK (ndL s TF P) TF (TF.length - 1) = q := ⟨_, rfl⟩
              rw [hbb] at HMH ⊢
              have HB8 := Lib.hid (HBF2.out.trans (hb8.mono HBF2.out.size))
              have hc8 := (HCF.out.below hb8 HCF.out.lt).cell 0
              simp only [List.getElem?_toArray, List.getElem?_cons_zero] at hc8
              have hbP := HRL.out bb HMH.out.1.1
              have hn8 := (HNF.out.below hb8 HNF.out.lt).cell bb
              rw [iC_at _ _ (by rw [ndL_len]; exact hbP), HMH.out.2] at hn8
              have hbP' : (bb : Int) < (P : Int) := by omega
              clear hb8 hbb
              go_wp2_with fail
              go_quiet (fail)
              go_wp2_with fail
              try rw [Exit.noGoto_ret]
              go_ret2
              exact ⟨bb, rfl, HMH.out.1, below_drewN HB8.out _⟩
            · have hbrk' : ((T'.length : Int) + 1 == (R : Int)) = false := by rw [beq_eq_false_iff_ne]; omega
              subst hv9
              go_wp2_with fail
              go_roundw
              case rel => exact ⟨TF, m + 1, _, rfl, by go_num, by omega, by omega, by omega, HA1, HP9, HV9, HN9, HC9, HG9, HB9⟩
              case measure => simp [intOf]; omega
        · obtain rfl : m = n := by omega
          have HHN := Lib.hid (show HeadS s T' (k + 1) from ⟨⟨HF.out.nodup, HF.out.rch, HF.out.zero⟩, fun h => HNX.out T' k HF.out h, fun h => HLA.out T' k HF.out h⟩)
          go_wp2_with fail
          go_roundw
          case rel => exact ⟨T', k + 1, v, rfl, by go_num, by omega, hTP', HHN, HO2, HV2, HN2, HC2, HG2, HB2⟩
          case measure => simp [intOf]; omega
    · obtain rfl : k = T.length := by omega
      have HALLF := Lib.hid (HH.out.2.2 rfl)
      have HRCF := Lib.hid HH.out.1.2.1
      have HZF := Lib.hid HH.out.1.2.2
      have HOF := HO
      have HNF := HN
      have HCF := HC
      have HBF2 := HB
      obtain ⟨TF, hTF⟩ : ∃ q, T = q := ⟨_, rfl⟩
      subst hTF
      obtain ⟨WF, rfl⟩ : ∃ q : World, q = wr := ⟨_, rfl⟩
      obtain ⟨AF, cF, hvF, hriF⟩ := HOF.out.reads
      rw [natV_len] at hvF
      subst hvF
      clear hriF
      go_upto_region 16 with fail
      obtain ⟨AG, cG, hvG, hriF⟩ := HOF.out.reads
      rw [natV_len] at hvG
      have hT1F : 1 ≤ T.length := by
        have := List.length_pos_of_mem HZF.out
        omega
      have hTPF : ∀ t ∈ T, t < P := fun t ht => HRL.out t (HRCF.out t ht)
      have HMH := Lib.hid (minK_hardest (s := s) (T := T) (P := P) (by rw [HTL.out]; exact HPP.out) hT1F HRCF.out HALLF.out)
      have HRIF := Lib.hid hriF
      have HTPF := Lib.hid hTPF
      clear hriF hTPF
      cases hvG
      go_wp2_with fail
      refine (MinFunc_any AF T T.length cF (gn + 1) gn P (ndL s T P) WF rfl HRIF.out hT1F (by omega) HTPF.out HCF.out HNF.out (ndL_len _ _ _) hp0).mono ?_
      rintro e w8 ⟨rfl, hb8⟩
      obtain ⟨bb, hbb⟩ : ∃ q, minK (ndL s T P) T (T.length - 1) = q := ⟨_, rfl⟩
      rw [hbb] at HMH ⊢
      have HB8 := Lib.hid (HBF2.out.trans (hb8.mono HBF2.out.size))
      have hc8 := (HCF.out.below hb8 HCF.out.lt).cell 0
      simp only [List.getElem?_toArray, List.getElem?_cons_zero] at hc8
      have hbP := HRL.out bb HMH.out.1.1
      have hn8 := (HNF.out.below hb8 HNF.out.lt).cell bb
      rw [iC_at _ _ (by rw [ndL_len]; exact hbP), HMH.out.2] at hn8
      have hbP' : (bb : Int) < (P : Int) := by omega
      clear hb8 hbb
      go_wp2_with fail
      go_quiet (fail)
      go_wp2_with fail
      try rw [Exit.noGoto_ret]
      go_ret2
      exact ⟨bb, rfl, HMH.out.1, below_drewN HB8.out _⟩
end Go.Proofs.Ytpdgjjpfahobaaa
