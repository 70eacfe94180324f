/- ThreadNothing, walked, at this seat's numbers. -/
import Derived.Test.YtfipflghnhfcjaaThU
namespace Go.Proofs.Ytfipflghnhfcjaa
open Go Go.RowKit Go.Shelf
set_option linter.unusedSimpArgs false
set_option linter.unusedVariables false
attribute [local go_sem] Oper.semAt_some

def rv (b : Bool) : Int := if b then 5 else 0
def cntT (bs : List Bool) : Nat := (nz (bs.map rv)).length
theorem take_nextB {bs : List Bool} {i : Nat} (h : i < bs.length) : bs.take (i + 1) = bs.take i ++ [bs.getD i false] := by
  rw [List.take_add_one, List.getElem?_eq_getElem h]
  simp [List.getD, h]
theorem nz_rv (bs : List Bool) : ∀ r ∈ nz (bs.map rv), r = 5 := fun r hr => by
  unfold nz at hr
  obtain ⟨h1, h2⟩ := List.mem_filter.1 hr
  obtain ⟨b, _, rfl⟩ := List.mem_map.1 h1
  cases b
  · simp [rv] at h2
  · rfl
def NothA (B t : Nat) (bs : List Bool) (wb : World) (v4 v21 : Value) (wr : World) : Prop :=
  ∃ i : Nat, i ≤ bs.length ∧ v4 = .int .i64 (cntT (bs.take i) : Int) ∧ v21 = .int .i64 (i : Int) ∧ ThIn B (fun _ => False) t 2 30 (fun _ => 0) ((bs.take i).map rv) wb wr
def NothB (B t D : Nat) (bs : List Bool) (wb : World) (v10 : Value) (wr : World) : Prop :=
  ∃ j : Nat, j ≤ bs.length ∧ v10 = .int .i64 ((j : Int) - 1) ∧ ThIn B (fun k => k = D) t 2 30 (fun _ => 0) ((bs.take j).map rv) wb wr ∧ wr.heap[D]? = some (.deferred (some []))

set_option maxRecDepth 100000 in
set_option maxHeartbeats 8000000 in
theorem nothing_true (a0 : Option Addr) (bs : List Bool) (cap : Nat) (w : World) (_ : bs.length ≤ 9223372036854775807) (hZ : BoolsAt w a0 bs) :
    Calls Try.prog 8 #[.slice a0 bs.length cap] w fun e w' => e = .returned (.bool true) ∧ Below w.heap.size w w' := by
  have HZ := Lib.hid hZ
  clear hZ
  obtain ⟨M, hM6⟩ : ∃ M : Nat, 8 ≤ M := ⟨8, Nat.le_refl _⟩
  refine calls_of_wp_marks Try.func8 rfl M ?_
  simp only [Try.ntmps8, List.size_toArray, List.length_cons, List.length_nil, Nat.reduceAdd, Nat.reduceSub, Array.replicate_succ, Array.replicate_zero, List.push_toArray, List.append_toArray, List.nil_append, List.cons_append]
  gi_wp2_with fail
  refine ⟨trivial, fun h => (by cases h), ?_⟩
  have hR := Blk.new w #[.bool false] 4
  have hBb := (Below.refl w.heap.size w).alloc (Nat.le_refl _) (.cells #[.bool false] 4)
  have hsb : w.heap.size + 1 ≤ (w.alloc (.cells #[.bool false] 4)).heap.size := by simp
  generalize w.alloc (.cells #[.bool false] 4) = wb at *
  refine (callsIn_wide.2 (thfit_true wb)).mono ?_
  rintro e w1 ⟨rfl, hB⟩
  have hR1 : w1.cell? ⟨w.heap.size, 0, none⟩ = some (.bool false) := (hB.cell (p := ⟨w.heap.size, 0, none⟩) hR.lt).trans (hR.cell 0)
  have hZ1 : w1.frozen? ⟨w.heap.size, 0, none⟩ = false := (hB.frozen (p := ⟨w.heap.size, 0, none⟩) hR.lt).trans (hR.free 0)
  by_cases hbig : 30 < (bs.length : Int)
  · gi_wp2_with fail
    refine ⟨.bool true, ?_, rfl, (hBb.trans (hB.mono (by omega))).setCell (p := ⟨w.heap.size, 0, none⟩) (Nat.le_refl _) (.bool true)⟩
    have hc := World.cell?_setCell_same w1 ⟨w.heap.size, 0, none⟩ (.bool true) hR1
    simp [results, Try.f8, go_sem, hc]
  clear hR1 hZ1
  gi_wp2_with fail
  refine ⟨trivial, fun h => (by cases h), ?_⟩
  refine (callsIn_wide.2 (thIn_new (B := wb.heap.size) (F := fun _ => False) (wb := wb) (wr := w1) 2 30 (by decide) (by decide) (fun _ h => h.elim) hB (Nat.le_refl _))).mono ?_
  rintro e w2 ⟨t, rfl, h2, _⟩
  clear hB
  gi_wp2_with fail
  gi_loopw [4, 21] (fun v4 v21 wr => NothA wb.heap.size t bs wb v4 v21 wr) (fun _ v21 _ => bs.length - (intOf v21).toNat)
  case atStart => exact ⟨0, Nat.zero_le _, rfl, rfl, h2⟩
  case round =>
    clear h2
    obtain ⟨i, hi, rfl, rfl, h1⟩ := hrel
    have hi0 : (0 : Int) ≤ (i : Int) := by omega
    by_cases hlt : i < bs.length
    · have hi1 : (i : Int) < (bs.length : Int) := by omega
      obtain ⟨bk, off, rfl, hbk, hc0⟩ := HZ.out i hlt
      have hc := ((hBb.trans (h1.below.mono (by omega))).cell (p := ⟨bk, off + i, none⟩) hbk).trans hc0
      have htk := take_nextB hlt
      have hc30 : cntT (bs.take i) ≤ 30 := by
        have := List.length_filter_le (fun r => r != 0) ((bs.take i).map rv)
        rw [List.length_map, List.length_take] at this
        unfold cntT nz
        omega
      have hln : (((bs.take i).map rv).length : Int) < 30 := by rw [List.length_map, List.length_take]; omega
      generalize bs.getD i false = q at *
      have hcnt : cntT (bs.take (i + 1)) = cntT (bs.take i) + (if q then 1 else 0) := by
        unfold cntT
        rw [htk, List.map_append]
        unfold nz
        rw [List.filter_append, List.length_append]
        cases q <;> simp [rv]
      have hst : (bs.take (i + 1)).map rv = (bs.take i).map rv ++ [rv q] := by rw [htk, List.map_append]; rfl
      generalize cntT (bs.take i) = c at *
      clear hc0 htk
      cases q
      · have cP := h1.push hln 0
        rw [show (bs.take i).map rv ++ [(0 : Int)] = (bs.take (i + 1)).map rv from hst.symm] at cP
        have hcnt2 : cntT (bs.take (i + 1)) = c := hcnt
        have HC := Lib.hid hcnt2
        clear h1 hln hst hcnt hcnt2
        gi_wp2_with fail
        refine ⟨trivial, fun h => (by cases h), ?_⟩
        refine (callsIn_wide.2 cP).mono ?_
        rintro e w4 ⟨rfl, h4, _⟩
        clear cP hc
        gi_wp2_with fail
        go_roundw
        case rel => exact ⟨i + 1, hlt, by rw [HC.out], by go_num, h4⟩
        case measure => simp [intOf]; omega
      · have cP := h1.push hln 5
        rw [show (bs.take i).map rv ++ [(5 : Int)] = (bs.take (i + 1)).map rv from hst.symm] at cP
        have hcnt2 : cntT (bs.take (i + 1)) = c + 1 := hcnt
        have HC := Lib.hid hcnt2
        clear h1 hln hst hcnt hcnt2
        gi_wp2_with fail
        refine ⟨trivial, fun h => (by cases h), ?_⟩
        refine (callsIn_wide.2 cP).mono ?_
        rintro e w4 ⟨rfl, h4, _⟩
        clear cP hc
        gi_wp2_with fail
        go_roundw
        case rel => exact ⟨i + 1, hlt, by rw [HC.out]; go_num, by go_num, h4⟩
        case measure => simp [intOf]; omega
    · obtain rfl : i = bs.length := by omega
      have hi1 : ¬ (bs.length : Int) < (bs.length : Int) := by omega
      have htk : bs.take bs.length = bs := List.take_of_length_le (Nat.le_refl _)
      rw [htk] at h1
      simp only [htk]
      obtain ⟨T0, rfl, hA, hF⟩ := h1.ex
      have hbl1 := h1.below
      have hsz1 := h1.below.size
      have hAlt := hA.lt
      have hroots : rootsOf (fun _ => 0) (2 : Int).toNat (bs.map rv) = nz (bs.map rv) := by
        unfold rootsOf regRoots
        rw [segR_none (fun _ => rfl)]
        rfl
      have hA7 := (hA.below ((Below.refl _ wr).alloc (Nat.le_refl _) (.cells #[.int .i64 0] 3))).below ((Below.refl _ _).alloc (Nat.le_refl _) (.cells #[.pointer (some ⟨T0.t, 0, none⟩)] 38))
      have hk7 := (Blk.new wr #[.int .i64 0] 3).alloc (.cells #[.pointer (some ⟨T0.t, 0, none⟩)] 38)
      have hbox7 := Blk.new (wr.alloc (.cells #[.int .i64 0] 3)) #[.pointer (some ⟨T0.t, 0, none⟩)] 38
      have hbl7 := (hbl1.alloc hsz1 (.cells #[.int .i64 0] 3)).alloc (by simp; omega) (.cells #[.pointer (some ⟨T0.t, 0, none⟩)] 38)
      have hs7 : ((wr.alloc (.cells #[.int .i64 0] 3)).alloc (.cells #[.pointer (some ⟨T0.t, 0, none⟩)] 38)).heap.size = wr.heap.size + 2 := by simp
      rw [World.size_alloc] at hbox7
      have HA7 := Lib.hid hA7
      have HK7 := Lib.hid hk7
      have HB7 := Lib.hid hbox7
      have HL7 := Lib.hid hbl7
      have HS7 := Lib.hid hs7
      have HRT := Lib.hid hroots
      clear hA7 hk7 hbox7 hbl7 hs7 hroots hA h1 hi hlt htk
      gi_wp2_with fail
      refine ⟨trivial, fun h => (by cases h), ?_⟩
      refine (callsIn_wide.2 (rootsfn_any T0.t _)).mono ?_
      rintro e w' ⟨rfl, rfl⟩
      gi_wp2_with fail
      have hA7 := HA7.out
      have hk7 := HK7.out
      have hbox7 := HB7.out
      have hbl7 := HL7.out
      have hs7 := HS7.out
      clear HA7 HK7 HB7 HL7 HS7
      generalize (wr.alloc (.cells #[.int .i64 0] 3)).alloc (.cells #[.pointer (some ⟨T0.t, 0, none⟩)] 38) = V7 at *
      have hT7 : ∀ k, T0.has k → k < V7.heap.size := fun k hk => by have := hAlt k hk; omega
      have hkT : ¬ T0.has wr.heap.size := fun h => by have := hAlt _ h; omega
      have hrT : ¬ T0.has w.heap.size := fun h => by have := (hF _ h).1; omega
      refine wpIn_rangeFunc_ownF rfl (by omega) (gf := 42) (lb := #[.pointer (some ⟨wr.heap.size + 1, 0, none⟩)]) rfl trivial (enters_of Try.func42 (by kernel_rfl) rfl)
        (roots_stops (M - 1) (wr.heap.size + 1) V7 hA7 (hbox7.cell 0)) KpTh.trans (fun W l o o' hl ho hc _ => KpTh.putObj hT7 (by omega) W l o o' hl ho hc) (Below.refl _ _) (fun _ => rfl)
        (fun (pre : List Int) V => ThAt V T0 2 30 (fun _ => 0) (bs.map rv) ∧ Blk V wr.heap.size #[.int .i64 (pre.length : Int)] 3 ∧ Below wb.heap.size wb V ∧ V7.heap.size ≤ V.heap.size)
        (fun c (pre : List Int) V => ∃ q x, pre = q ++ [x] ∧ x ≠ 5)
        (fun s V V' row hs hg hr => ⟨hs.1.kept hg (fun r e => (hr r e).2), hs.2.1.keptT hg (fun r e => (hr r e).2), (ownFrom_below (β := Unit) (Nat.le_refl _) (by omega)) () V V' row hs.2.2.1 hg hr, Nat.le_trans hs.2.2.2 hg.size⟩)
        (fun c s V V' row hs hg hr => hs)
        ⟨hA7, hk7, hbl7, Nat.le_refl _⟩ ?a1 ?assign ?body ?done ?stop
      case assign =>
        intro l0 x W K hK
        gi_wp2
        exact hK
      case body =>
        rintro l0 pre x V ⟨hA, hk, hbl, hVs⟩ hpl
        have ck := hk.cell 0
        have zk := hk.free 0
        have hkl := hk.lt
        simp only [List.getElem?_toArray, List.getElem?_cons_zero] at ck
        have hRW : V.cell? ⟨w.heap.size, 0, none⟩ = some (.bool false) := (hbl.cell (p := ⟨w.heap.size, 0, none⟩) hR.lt).trans (hR.cell 0)
        have hZW : V.frozen? ⟨w.heap.size, 0, none⟩ = false := (hbl.frozen (p := ⟨w.heap.size, 0, none⟩) hR.lt).trans (hR.free 0)
        have hpl2 : (pre.length : Int) ≤ 100000 := by omega
        by_cases hx : x = 5
        · subst hx
          have hT : Turn (fun k => k = wr.heap.size) V (V.setCell ⟨wr.heap.size, 0, none⟩ (.int .i64 ((pre.length : Int) + 1))) := (Turn.refl _ V).set _ _ (.inr rfl)
          have hgo : KeepsOthers V (V.setCell ⟨wr.heap.size, 0, none⟩ (.int .i64 ((pre.length : Int) + 1))) ∧ KpTh T0 (wr.heap.size + 1) V7.heap.size V (V.setCell ⟨wr.heap.size, 0, none⟩ (.int .i64 ((pre.length : Int) + 1))) ∧
              ThAt (V.setCell ⟨wr.heap.size, 0, none⟩ (.int .i64 ((pre.length : Int) + 1))) T0 2 30 (fun _ => 0) (bs.map rv) ∧ Blk (V.setCell ⟨wr.heap.size, 0, none⟩ (.int .i64 ((pre.length : Int) + 1))) wr.heap.size #[.int .i64 ((pre ++ [(5 : Int)]).length : Int)] 3 ∧
              Below wb.heap.size wb (V.setCell ⟨wr.heap.size, 0, none⟩ (.int .i64 ((pre.length : Int) + 1))) ∧ V7.heap.size ≤ (V.setCell ⟨wr.heap.size, 0, none⟩ (.int .i64 ((pre.length : Int) + 1))).heap.size := by
            refine ⟨KeepsOthers.setCell _ _ _, ?_, hA.turn hT (fun k hk e => hkT ((show k = wr.heap.size from e) ▸ hk)), ?_, hbl.trans (hT.below wb.heap.size (by have := hbl.size; omega) (fun k hk e => by have e2 : k = wr.heap.size := e; omega)), by simpa using hVs⟩
            · exact KpTh.ofTurn hA (by omega) hT (fun k hk e => hkT ((show k = wr.heap.size from e) ▸ hk)) (by omega) (fun k hk e => by have e2 : k = wr.heap.size := e; omega)
            · refine (hk.setAt 0 _).is ?_
              have e : (((pre ++ [(5 : Int)]).length : Nat) : Int) = (pre.length : Int) + 1 := by simp
              rw [e]; simp
          have HG := Lib.hid hgo
          clear hgo hT hA hk hbl
          gi_wp2_with fail
          exact HG.out
        · have hx2 : (x != 5) = true := by simpa using hx
          clear hA hk
          gi_wp2_with fail
          exact ⟨KeepsOthers.setCell _ _ _, pre, x, rfl, hx⟩
      case stop =>
        rintro D c pre V hD ⟨k, hk, hpre⟩ ⟨q, x, e1, e2⟩ hK
        exfalso
        apply e2
        apply nz_rv bs
        rw [← HRT.out]
        refine List.mem_of_mem_take (i := k + 1) ?_
        rw [← hpre, e1]
        simp
      case done =>
        rintro D xs V hD rfl ⟨hA, hk, hbl, hVs⟩ hK
        rw [HRT.out] at hk
        have ck := hk.cell 0
        simp only [List.getElem?_toArray, List.getElem?_cons_zero] at ck
        have ck2 : V.cell? ⟨wr.heap.size, 0, none⟩ = some (.int .i64 (cntT bs : Int)) := ck
        have hN : ThIn wb.heap.size (fun k => k = D) T0.t 2 30 (fun _ => 0) (bs.map rv) wb V := ⟨⟨T0, rfl, hA, fun k hk => ⟨(hF k hk).1, fun e => by have := hT7 k hk; have e2 : k = D := e; omega⟩⟩, fun k e => by
          have e2 : k = D := e
          rw [e2]; exact (Array.getElem?_eq_some_iff.mp hK).1, hbl, Nat.le_refl _⟩
        have cD := hN.depth
        rw [List.length_map] at cD
        have hl30 : (bs.length : Int) ≤ 30 := by omega
        generalize cntT bs = c at *
        have hDw : w.heap.size < D := by omega
        clear ck hk hA hA7 hk7 hbox7 hbl7 hs7
        gi_wp2_with fail
        refine ⟨trivial, fun h => (by cases h), ?_⟩
        refine (callsIn_wide.2 cD).mono ?_
        rintro e V1 ⟨rfl, rfl⟩
        clear cD ck2
        gi_wp2_with fail
        gi_loopw [10] (fun v10 wx => NothB wb.heap.size T0.t D bs wb v10 wx) (fun v10 _ => (intOf v10 + 1).toNat)
        case atStart => exact ⟨bs.length, Nat.le_refl _, rfl, by rw [List.take_of_length_le (Nat.le_refl _)]; exact hN, hK⟩
        case round =>
          clear hN hK
          obtain ⟨j, hj, rfl, hN, hK⟩ := hrel
          rcases Nat.eq_zero_or_pos j with rfl | hj0
          · have e01 : (((0 : Nat)) : Int) - 1 = -1 := rfl
            simp only [e01]
            have cD := hN.depth
            have hbl9 := hN.below
            have e0 : (((((bs.take 0).map rv).length : Nat)) : Int) = 0 := by simp
            rw [e0] at cD
            have hRW := (hbl9.cell (p := ⟨w.heap.size, 0, none⟩) hR.lt).trans (hR.cell 0)
            have hZW := (hbl9.frozen (p := ⟨w.heap.size, 0, none⟩) hR.lt).trans (hR.free 0)
            simp only [List.getElem?_toArray, List.getElem?_cons_zero] at hRW
            gi_wp2_with fail
            refine ⟨trivial, fun h => (by cases h), ?_⟩
            refine (callsIn_wide.2 cD).mono ?_
            rintro e V1 ⟨rfl, rfl⟩
            clear cD hN
            gi_wp2_with fail
            have hK9 := (KeepsOthers.setCell wr ⟨w.heap.size, 0, none⟩ (.bool true)).same D _ hK rfl
            have hR9 : (wr.setCell ⟨w.heap.size, 0, none⟩ (.bool true)).cell? ⟨w.heap.size, 0, none⟩ = some (.bool true) := World.cell?_setCell_same _ _ _ hRW
            have hB9 := (hBb.trans (hbl9.mono (by omega))).setCell (p := ⟨w.heap.size, 0, none⟩) (Nat.le_refl _) (.bool true)
            generalize wr.setCell ⟨w.heap.size, 0, none⟩ (.bool true) = V9 at *
            refine ⟨by simp, .inl ⟨D, _, rfl, run_takeDeferred hK9, ?_⟩⟩
            have hRF : (V9.putObj D (.deferred none)).cell? ⟨w.heap.size, 0, none⟩ = some (.bool true) := (World.cell?_of_block (w := V9) (World.putObj_heap_other (by simp; omega))).trans hR9
            have hBF := take_endT hK9 (by omega) hB9
            generalize V9.putObj D (.deferred none) = V2 at *
            refine ⟨.bool true, ?_, rfl, hBF⟩
            simp [results, Try.f8, go_sem, hRF]
          · obtain ⟨i, rfl⟩ : ∃ i, j = i + 1 := ⟨j - 1, by omega⟩
            have hi : i < bs.length := by omega
            have hi1 : (i : Int) < (bs.length : Int) := by omega
            have hi0 : (0 : Int) ≤ (i : Int) := by omega
            obtain ⟨bk, off, rfl, hbk, hc0⟩ := HZ.out i hi
            rw [take_nextB hi, List.map_append] at hN
            generalize bs.getD i false = q at *
            have ekj : (((i + 1 : Nat)) : Int) - 1 = (i : Int) := by omega
            simp only [ekj]
            have cP := ThIn.pop (r := rv q) hN
            have hKD : ∀ w', Keep (fun k => k = D) wr w' → w'.heap[D]? = some (.deferred (some [])) := fun w' hk => (hk.block D rfl).trans hK
            clear hN hK ekj hj0
            cases q
            · have cP2 : Calls Try.prog 20 #[.pointer (some ⟨T0.t, 0, none⟩)] wr fun e w' => e = .returned (.tuple #[.int .i64 0, .int .i64 0]) ∧ ThIn wb.heap.size (fun k => k = D) T0.t 2 30 (fun _ => 0) ((bs.take i).map rv) wb w' ∧ Keep (fun k => k = D) wr w' := cP
              clear cP
              gi_wp2_with fail
              refine ⟨trivial, fun h => (by cases h), ?_⟩
              refine (callsIn_wide.2 cP2).mono ?_
              rintro e w4 ⟨rfl, h4, hk4⟩
              have hc := ((hBb.trans (h4.below.mono (by omega))).cell (p := ⟨bk, off + i, none⟩) hbk).trans hc0
              have HD := Lib.hid (hKD _ hk4)
              clear cP2 hc0 hk4 hKD
              gi_wp2_with fail
              go_roundw
              case rel => exact ⟨i, by omega, rfl, h4, HD.out⟩
              case measure => first | (simp [intOf]; done) | (simp [intOf]; omega)
            · have cP2 : Calls Try.prog 20 #[.pointer (some ⟨T0.t, 0, none⟩)] wr fun e w' => e = .returned (.tuple #[.int .i64 5, .int .i64 0]) ∧ ThIn wb.heap.size (fun k => k = D) T0.t 2 30 (fun _ => 0) ((bs.take i).map rv) wb w' ∧ Keep (fun k => k = D) wr w' := cP
              clear cP
              gi_wp2_with fail
              refine ⟨trivial, fun h => (by cases h), ?_⟩
              refine (callsIn_wide.2 cP2).mono ?_
              rintro e w4 ⟨rfl, h4, hk4⟩
              have hc := ((hBb.trans (h4.below.mono (by omega))).cell (p := ⟨bk, off + i, none⟩) hbk).trans hc0
              have HD := Lib.hid (hKD _ hk4)
              clear cP2 hc0 hk4 hKD
              gi_wp2_with fail
              go_roundw
              case rel => exact ⟨i, by omega, rfl, h4, HD.out⟩
              case measure => first | (simp [intOf]; done) | (simp [intOf]; omega)
end Go.Proofs.Ytfipflghnhfcjaa
