/- ThreadRoots, walked, at this seat's numbers. -/
import Derived.Test.YtfipflghnhfcjaaThU
namespace Go.Proofs.Ytfipflghnhfcjaa
open Go Go.RowKit Go.Shelf
set_option linter.unusedSimpArgs false
set_option linter.unusedVariables false
attribute [local go_sem] Oper.semAt_some

theorem u8_natO {a : Int} (h : (Lit.int .u8 a).wf = true) : ∃ n : Nat, a = (n : Int) ∧ n < 256 := by
  have h2 : 0 ≤ a ∧ a ≤ 255 := by
    simp [Lit.wf, IntKind.min, IntKind.max, IntKind.signed, IntKind.bits] at h
    omega
  exact ⟨a.toNat, by omega, by omega⟩
/-- However a range ends, it goes on alike. -/
theorem wpIn_endsO {F : Fence} {n : Nat} {P : Program} {c : Code} {Q : Exit → Act → World → Prop} {a : Act} {w : World} (id : Nat) (R : Nat → World → Prop)
    (h : c.wpIn F n P (fun e a' w' => (e = .normal ∨ e = .exit id) ∧ ∃ D, a' = { a with defers := { target := .collected D, args := #[] } :: a.defers } ∧ R D w') a w)
    (hq : ∀ a' w', Q .normal a' w' → Q (.exit id) a' w') (hk : ∀ D w', R D w' → Q .normal { a with defers := { target := .collected D, args := #[] } :: a.defers } w') : c.wpIn F n P Q a w :=
  wpIn_mono h fun e a' w' ⟨he, D, ha, hR⟩ => by
    subst ha
    rcases he with rfl | rfl
    · exact hk D w' hR
    · exact hq _ _ (hk D w' hR)
theorem rootsOf_ne {f : Nat → Int} {n : Nat} {st : List Int} : ∀ r ∈ rootsOf f n st, r ≠ 0 := fun r hr => by
  unfold rootsOf regRoots at hr
  rcases List.mem_append.1 hr with h | h
  · obtain ⟨p, hp, rfl⟩ := List.mem_map.1 h
    have := segR_mem hp
    rw [this.2.2.1]; exact this.2.2.2
  · have := (List.mem_filter.1 h).2
    simpa using this
theorem rootsOf_length (f : Nat → Int) (n : Nat) (st : List Int) : (rootsOf f n st).length ≤ n + st.length := by
  unfold rootsOf regRoots
  rw [List.length_append, List.length_map]
  have h1 := segR_length f 0 n
  have h2 := List.length_filter_le (fun r => r != 0) st
  omega
def RootA (B t len : Nat) (wb : World) (v23 : Value) (wr : World) : Prop :=
  ∃ (i : Nat) (f : Nat → Int) (st : List Int), i ≤ len ∧ v23 = .int .i64 (i : Int) ∧ st.length ≤ 4 ∧ ThIn B (fun _ => False) t 4 4 f st wb wr
/-- Between two roots told. -/
def RootI (T : ThB) (f : Nat → Int) (st : List Int) (wb : World) (kb z len : Nat) (V : World) : Prop :=
  ThAt V T 4 4 f st ∧ Blk V kb #[.int .i64 (len : Int)] 3 ∧ Below wb.heap.size wb V ∧ z ≤ V.heap.size

set_option maxRecDepth 100000 in
set_option maxHeartbeats 8000000 in
theorem roots_true (a0 : Option Addr) (len cap : Nat) (Q : Nat → Nat → Int) (lv : Nat) (hlv : lv < 256) (nn : Int) (w : World) (_ : len ≤ 9223372036854775807) (hZ : TripAt w a0 len Q) :
    Calls Try.prog 5 #[.slice a0 len cap, .int .u8 (lv : Int), .int .i64 nn] w fun e w' => e = .returned (.bool true) ∧ Below w.heap.size w w' := by
  have HZ := Lib.hid hZ
  clear hZ
  obtain ⟨M, hM6⟩ : ∃ M : Nat, 8 ≤ M := ⟨8, Nat.le_refl _⟩
  obtain ⟨m, hm⟩ : ∃ m, m = lv % 9 := ⟨_, rfl⟩
  have hmt : (lv : Int).tmod 9 = (m : Int) := by rw [Int.tmod_eq_emod_of_nonneg (by omega)]; omega
  have hm8 : m ≤ 8 := by omega
  clear hm
  obtain ⟨q, hq, hqe⟩ := i64_and_mask nn 255 (by decide)
  replace hqe : bits .and .i64 nn 255 = (q : Int) := hqe
  refine calls_of_wp_marks Try.func5 rfl M ?_
  simp only [Try.ntmps5, List.size_toArray, List.length_cons, List.length_nil, Nat.reduceAdd, Nat.reduceSub, Array.replicate_succ, Array.replicate_zero, List.push_toArray, List.append_toArray, List.nil_append, List.cons_append]
  gi_wp2_with fail
  refine ⟨trivial, fun h => (by cases h), ?_⟩
  have hL0 := (Blk.new w #[.int .u8 (lv : Int)] 5).alloc (.cells #[.bool false] 4)
  have hR := Blk.new (w.alloc (.cells #[.int .u8 (lv : Int)] 5)) #[.bool false] 4
  simp only [World.size_alloc] at hR
  have hBb := ((Below.refl w.heap.size w).alloc (Nat.le_refl _) (.cells #[.int .u8 (lv : Int)] 5)).alloc (by simp) (.cells #[.bool false] 4)
  have hsb : w.heap.size + 2 ≤ ((w.alloc (.cells #[.int .u8 (lv : Int)] 5)).alloc (.cells #[.bool false] 4)).heap.size := by simp
  generalize (w.alloc (.cells #[.int .u8 (lv : Int)] 5)).alloc (.cells #[.bool false] 4) = wb at *
  refine (callsIn_wide.2 (thfit_true wb)).mono ?_
  rintro e w1 ⟨rfl, hB⟩
  have hR1 : w1.cell? ⟨w.heap.size + 1, 0, none⟩ = some (.bool false) := (hB.cell (p := ⟨w.heap.size + 1, 0, none⟩) hR.lt).trans (hR.cell 0)
  have hZ1 : w1.frozen? ⟨w.heap.size + 1, 0, none⟩ = false := (hB.frozen (p := ⟨w.heap.size + 1, 0, none⟩) hR.lt).trans (hR.free 0)
  by_cases hbig : 40 < (len : Int)
  · gi_wp2_with fail
    refine ⟨.bool true, ?_, rfl, (hBb.trans (hB.mono (by omega))).setCell (p := ⟨w.heap.size + 1, 0, none⟩) (by show w.heap.size ≤ w.heap.size + 1; omega) (.bool true)⟩
    have hc := World.cell?_setCell_same w1 ⟨w.heap.size + 1, 0, none⟩ (.bool true) hR1
    simp [results, Try.f5, go_sem, hc]
  clear hR1 hZ1
  gi_wp2_with fail
  refine ⟨trivial, fun h => (by cases h), ?_⟩
  refine (callsIn_wide.2 (thIn_new (B := wb.heap.size) (F := fun _ => False) (wb := wb) (wr := w1) 4 4 (by decide) (by decide) (fun _ h => h.elim) hB (Nat.le_refl _))).mono ?_
  rintro e w2 ⟨t, rfl, h2, _⟩
  clear hB
  gi_wp2_with fail
  gi_loopw [23] (fun v23 wr => RootA wb.heap.size t len wb v23 wr) (fun v23 _ => len - (intOf v23).toNat)
  case atStart => exact ⟨0, _, [], Nat.zero_le _, rfl, by simp, h2⟩
  case round =>
    clear h2
    obtain ⟨i, f, st, hi, rfl, hst, h1⟩ := hrel
    have hi0 : (0 : Int) ≤ (i : Int) := by omega
    by_cases hlt : i < len
    · have hi1 : (i : Int) < (len : Int) := by omega
      obtain ⟨bk, off, rfl, hbk, hcs⟩ := HZ.out i hlt
      have hc0 := (((hBb.trans (h1.below.mono (by omega))).cell (p := ⟨bk, off + i * 3, none⟩) hbk).trans (hcs 0 (by decide)).1)
      have hc1 := (((hBb.trans (h1.below.mono (by omega))).cell (p := ⟨bk, off + i * 3 + 1, none⟩) hbk).trans (hcs 1 (by decide)).1)
      have hc2 := (((hBb.trans (h1.below.mono (by omega))).cell (p := ⟨bk, off + i * 3 + 2, none⟩) hbk).trans (hcs 2 (by decide)).1)
      generalize Q i 0 = kd at *
      generalize Q i 1 = id at *
      generalize Q i 2 = rd at *
      obtain ⟨a, ha, hae⟩ := i64_and_mask kd 1 (by decide)
      replace hae : bits .and .i64 kd 1 = (a : Int) := hae
      obtain ⟨b, hb, hbe⟩ := i64_and_mask id 3 (by decide)
      replace hbe : bits .and .i64 id 3 = (b : Int) := hbe
      have h3 := h1.alloc (.cells #[.int .i64 kd, .int .i64 id, .int .i64 rd] 42)
      clear h1 hcs
      by_cases ha0 : a = 0
      · subst ha0
        have hae2 : bits .and .i64 kd 1 = 0 := hae
        have cS := h3.setReg b (b : Int) rfl (by omega) rd
        clear hae h3
        gi_wp2_with fail
        refine ⟨trivial, fun h => (by cases h), ?_⟩
        refine (callsIn_wide.2 cS).mono ?_
        rintro e w4 ⟨rfl, h4, _⟩
        clear cS hc0 hc1 hc2
        gi_wp2_with fail
        go_roundw
        case rel => exact ⟨i + 1, _, st, hlt, by go_num, hst, h4⟩
        case measure => simp [intOf]; omega
      · have ha1 : a = 1 := by omega
        subst ha1
        have hae2 : bits .and .i64 kd 1 = 1 := hae
        clear hae
        by_cases hroom : st.length < 4
        · have cP := h3.push (by omega) rd
          clear h3
          gi_wp2_with fail
          refine ⟨trivial, fun h => (by cases h), ?_⟩
          refine (callsIn_wide.2 cP).mono ?_
          rintro e w4 ⟨rfl, h4, _⟩
          clear cP hc0 hc1 hc2
          gi_wp2_with fail
          go_roundw
          case rel => exact ⟨i + 1, f, st ++ [rd], hlt, by go_num, by rw [List.length_append]; simp; omega, h4⟩
          case measure => simp [intOf]; omega
        · have cP := h3.pushNo (by omega) rd
          gi_wp2_with fail
          refine ⟨trivial, fun h => (by cases h), ?_⟩
          refine (callsIn_wide.2 cP).mono ?_
          rintro e w4 ⟨rfl, hB4⟩
          have h4 := h3.ask hB4
          clear cP hc0 hc1 hc2 h3 hB4
          gi_wp2_with fail
          go_roundw
          case rel => exact ⟨i + 1, f, st, hlt, by go_num, hst, h4⟩
          case measure => simp [intOf]; omega
    · have hi1 : ¬ (i : Int) < (len : Int) := by omega
      obtain ⟨T0, rfl, hA, hF⟩ := h1.ex
      have hbl1 := h1.below
      have hsz1 := h1.below.size
      have hAlt := hA.lt
      have hA7 := (hA.below ((Below.refl _ wr).alloc (Nat.le_refl _) (.cells #[.int .i64 0] 3))).below ((Below.refl _ _).alloc (Nat.le_refl _) (.cells #[.pointer (some ⟨T0.t, 0, none⟩)] 38))
      have hk7 := (Blk.new wr #[.int .i64 0] 3).alloc (.cells #[.pointer (some ⟨T0.t, 0, none⟩)] 38)
      have hbox7 := Blk.new (wr.alloc (.cells #[.int .i64 0] 3)) #[.pointer (some ⟨T0.t, 0, none⟩)] 38
      have hbl7 := (hbl1.alloc hsz1 (.cells #[.int .i64 0] 3)).alloc (by simp; omega) (.cells #[.pointer (some ⟨T0.t, 0, none⟩)] 38)
      have hs7 : ((wr.alloc (.cells #[.int .i64 0] 3)).alloc (.cells #[.pointer (some ⟨T0.t, 0, none⟩)] 38)).heap.size = wr.heap.size + 2 := by simp
      rw [World.size_alloc] at hbox7
      have HA7 := Lib.hid hA7
      have HK7 := Lib.hid hk7
      have HB7 := Lib.hid hbox7
      have HL7 := Lib.hid hbl7
      have HS7 := Lib.hid hs7
      clear hA7 hk7 hbox7 hbl7 hs7 hA h1 hi hlt
      gi_wp2_with fail
      refine ⟨trivial, fun h => (by cases h), ?_⟩
      refine (callsIn_wide.2 (rootsfn_any T0.t _)).mono ?_
      rintro e w' ⟨rfl, rfl⟩
      gi_wp2_with fail
      have hA7 := HA7.out
      have hk7 := HK7.out
      have hbox7 := HB7.out
      have hbl7 := HL7.out
      have hs7 := HS7.out
      clear HA7 HK7 HB7 HL7 HS7
      generalize (wr.alloc (.cells #[.int .i64 0] 3)).alloc (.cells #[.pointer (some ⟨T0.t, 0, none⟩)] 38) = V7 at *
      have hT7 : ∀ k, T0.has k → k < V7.heap.size := fun k hk => by have := hAlt k hk; omega
      have hkT : ¬ T0.has wr.heap.size := fun h => by have := hAlt _ h; omega
      have hwl9 : IntKind.i64.wrap (m : Int) = (m : Int) := IntWalk.i64_in _ (by omega)
      refine wpIn_endsO 2 (fun D V => ∃ kk : Nat, kk ≤ 8 ∧ Blk V wr.heap.size #[.int .i64 (kk : Int)] 3 ∧ Below wb.heap.size wb V ∧ V7.heap.size ≤ V.heap.size ∧ V7.heap.size ≤ D ∧ V.heap[D]? = some (.deferred (some []))) ?rng (fun _ _ h => h) ?tail
      case rng =>
        refine wpIn_rangeFunc_ownF rfl (by omega) (gf := 42) (lb := #[.pointer (some ⟨wr.heap.size + 1, 0, none⟩)]) rfl trivial (enters_of Try.func42 (by kernel_rfl) rfl)
          (roots_stops (M - 1) (wr.heap.size + 1) V7 hA7 (hbox7.cell 0)) KpTh.trans (fun W l o o' hl ho hc _ => KpTh.putObj hT7 (by omega) W l o o' hl ho hc) (Below.refl _ _) (fun _ => rfl)
          (fun (pre : List Int) V => RootI T0 f st wb wr.heap.size V7.heap.size pre.length V)
          (fun c (pre : List Int) V => (c = .exit 2 ∧ pre.length ≤ 8 ∧ RootI T0 f st wb wr.heap.size V7.heap.size pre.length V) ∨ ∃ q, pre = q ++ [0])
          (fun s V V' row hs hg hr => ⟨hs.1.kept hg (fun r e => (hr r e).2), hs.2.1.keptT hg (fun r e => (hr r e).2), (ownFrom_below (β := Unit) (Nat.le_refl _) (by omega)) () V V' row hs.2.2.1 hg hr, Nat.le_trans hs.2.2.2 hg.size⟩)
          (fun c s V V' row hs hg hr => hs.imp (fun hs => ⟨hs.1, hs.2.1, hs.2.2.1.kept hg (fun r e => (hr r e).2), hs.2.2.2.1.keptT hg (fun r e => (hr r e).2), (ownFrom_below (β := Unit) (Nat.le_refl _) (by omega)) () V V' row hs.2.2.2.2.1 hg hr, Nat.le_trans hs.2.2.2.2.2 hg.size⟩) (fun h => h))
          ⟨hA7, hk7, hbl7, Nat.le_refl _⟩ ?a1 ?assign ?body ?done ?stop
        case assign =>
          intro l0 x W K hK
          gi_wp2
          exact hK
        case body =>
          rintro l0 pre x V ⟨hA, hk, hbl, hVs⟩ hpl
          have ck := hk.cell 0
          have zk := hk.free 0
          have hkl := hk.lt
          simp only [List.getElem?_toArray, List.getElem?_cons_zero] at ck
          have hLV : V.cell? ⟨w.heap.size, 0, none⟩ = some (.int .u8 (lv : Int)) := (hbl.cell (p := ⟨w.heap.size, 0, none⟩) hL0.lt).trans (hL0.cell 0)
          have hRW : V.cell? ⟨w.heap.size + 1, 0, none⟩ = some (.bool false) := (hbl.cell (p := ⟨w.heap.size + 1, 0, none⟩) hR.lt).trans (hR.cell 0)
          have hZW : V.frozen? ⟨w.heap.size + 1, 0, none⟩ = false := (hbl.frozen (p := ⟨w.heap.size + 1, 0, none⟩) hR.lt).trans (hR.free 0)
          have hpl2 : (pre.length : Int) ≤ 100000 := by omega
          by_cases hx : x = 0
          · subst hx
            clear hA hk
            gi_wp2_with fail
            exact ⟨KeepsOthers.setCell _ _ _, .inr ⟨pre, rfl⟩⟩
          · have hx2 : (x == 0) = false := by simpa using hx
            have hT : Turn (fun k => k = wr.heap.size) V (V.setCell ⟨wr.heap.size, 0, none⟩ (.int .i64 ((pre.length : Int) + 1))) := (Turn.refl _ V).set _ _ (.inr rfl)
            have hgo : RootI T0 f st wb wr.heap.size V7.heap.size (pre ++ [x]).length (V.setCell ⟨wr.heap.size, 0, none⟩ (.int .i64 ((pre.length : Int) + 1))) := by
              refine ⟨hA.turn hT (fun k hk e => hkT ((show k = wr.heap.size from e) ▸ hk)), ?_, hbl.trans (hT.below wb.heap.size (by have := hbl.size; omega) (fun k hk e => by have e2 : k = wr.heap.size := e; omega)), by simpa using hVs⟩
              refine (hk.setAt 0 _).is ?_
              have e : (((pre ++ [x]).length : Nat) : Int) = (pre.length : Int) + 1 := by simp
              rw [e]; simp
            have hkp : KpTh T0 (wr.heap.size + 1) V7.heap.size V (V.setCell ⟨wr.heap.size, 0, none⟩ (.int .i64 ((pre.length : Int) + 1))) := KpTh.ofTurn hA (by omega) hT (fun k hk e => hkT ((show k = wr.heap.size from e) ▸ hk)) (by omega) (fun k hk e => by have e2 : k = wr.heap.size := e; omega)
            have hLV5 : (V.setCell ⟨wr.heap.size, 0, none⟩ (.int .i64 ((pre.length : Int) + 1))).cell? ⟨w.heap.size, 0, none⟩ = some (.int .u8 (lv : Int)) := cell_setBlock hLV (by show w.heap.size ≠ wr.heap.size; omega)
            have ck5 : (V.setCell ⟨wr.heap.size, 0, none⟩ (.int .i64 ((pre.length : Int) + 1))).cell? ⟨wr.heap.size, 0, none⟩ = some (.int .i64 ((pre.length : Int) + 1)) := World.cell?_setCell_same V _ _ ck
            have HG := Lib.hid hgo
            have HKP := Lib.hid hkp
            clear hgo hkp hT hA hk hbl
            by_cases hbr : (pre.length : Int) + 1 = (m : Int)
            · have hl8 : (pre ++ [x]).length ≤ 8 := by rw [List.length_append]; simp; omega
              have hbr2 : ((pre.length : Int) + 1 == (m : Int)) = true := by simpa using hbr
              have HBR := Lib.hid hbr
              clear hbr
              gi_wp2_with fail
              exact ⟨KeepsOthers.setCell _ _ _, .inl ⟨rfl, hl8, HG.out⟩⟩
            · have hbr2 : ((pre.length : Int) + 1 == (m : Int)) = false := by simpa using hbr
              clear hbr
              gi_wp2_with fail
              exact ⟨KeepsOthers.setCell _ _ _, HKP.out, HG.out⟩
        case done =>
          rintro D xs V hD rfl ⟨hA, hk, hbl, hVs⟩ hK
          refine ⟨.inl rfl, D, rfl, _, ?_, hk, hbl, hVs, hD, hK⟩
          have := rootsOf_length f (4 : Int).toNat st
          have e : (4 : Int).toNat = 4 := rfl
          omega
        case stop =>
          rintro D c pre V hD ⟨k, hk, hpre⟩ (⟨rfl, hl8, hA, hkb, hbl, hVs⟩ | ⟨q, e1⟩) hK
          · refine wpIn_exit ?_
            exact ⟨.inr rfl, D, rfl, _, hl8, hkb, hbl, hVs, hD, hK⟩
          · exfalso
            have : (0 : Int) ∈ rootsOf f (4 : Int).toNat st := by
              refine List.mem_of_mem_take (i := k + 1) ?_
              rw [← hpre, e1]; simp
            exact rootsOf_ne _ this rfl
      case tail =>
        rintro D V ⟨kk, hkk, hk, hbl, hVs, hD, hK⟩
        clear hA7 hk7 hbox7 hbl7 hT7 hkT hF hAlt hwl9 hmt
        have hwq : IntKind.i64.wrap (-(q : Int)) = -(q : Int) := IntWalk.i64_in _ (by omega)
        have hDl : D < V.heap.size := (Array.getElem?_eq_some_iff.mp hK).1
        generalize wr.heap.size = kb at *
        gi_wp2_with fail
        refine ⟨trivial, fun h => (by cases h), ?_⟩
        refine (callsIn_wide.2 (thIn_new (B := wb.heap.size) (F := fun _ => False) (wb := wb) (wr := V) (-(q : Int)) (-(q : Int)) (by omega) (by omega) (fun _ h => h.elim) hbl (Nat.le_refl _))).mono ?_
        rintro e V2 ⟨u, rfl, h2, hB2⟩
        have hk2 := (hk.turn (Turn.ofBelow hB2) (by have := hk.lt; omega)).alloc (.cells #[.pointer (some ⟨u, 0, none⟩)] 38)
        have hK2 : (V2.alloc (.cells #[.pointer (some ⟨u, 0, none⟩)] 38)).heap[D]? = some (.deferred (some [])) := (Below.heap_alloc _ _ _ (by have := hB2.size; omega)).trans ((hB2.block D hDl).trans hK)
        have h3 := h2.alloc (.cells #[.pointer (some ⟨u, 0, none⟩)] 38)
        have hbox3 := Blk.new V2 #[.pointer (some ⟨u, 0, none⟩)] 38
        have hs3 : (V2.alloc (.cells #[.pointer (some ⟨u, 0, none⟩)] 38)).heap.size = V2.heap.size + 1 := by simp
        have hB2s := hB2.size
        have H3 := Lib.hid h3
        have HK2 := Lib.hid hK2
        have Hk2 := Lib.hid hk2
        have HX3 := Lib.hid hbox3
        have HS3 := Lib.hid hs3
        clear h2 h3 hK2 hk2 hbox3 hs3 hB2 hk hK hbl hqe hwq
        gi_wp2_with fail
        refine ⟨trivial, fun h => (by cases h), ?_⟩
        refine (callsIn_wide.2 (rootsfn_any u _)).mono ?_
        rintro e w' ⟨rfl, rfl⟩
        gi_wp2_with fail
        have h3 := H3.out
        have hK2 := HK2.out
        have hk2 := Hk2.out
        have hbox3 := HX3.out
        have hs3 := HS3.out
        clear H3 HK2 Hk2 HX3 HS3
        generalize V2.alloc (.cells #[.pointer (some ⟨u, 0, none⟩)] 38) = V9 at *
        obtain ⟨T1, rfl, hA1, hF1⟩ := h3.ex
        have hT9 : ∀ k, T1.has k → k < V9.heap.size := hA1.lt
        have hbl9 := h3.below
        have hq0 : rootsOf (fun _ => (0 : Int)) (-(q : Int)).toNat [] = [] := by
          unfold rootsOf regRoots
          rw [segR_none (fun _ => rfl)]
          rfl
        refine wpIn_rangeFunc_ownF rfl (by omega) (gf := 42) (lb := #[.pointer (some ⟨V2.heap.size, 0, none⟩)]) rfl trivial (enters_of Try.func42 (by kernel_rfl) rfl)
          (roots_stops (M - 1) V2.heap.size V9 hA1 (hbox3.cell 0)) KpTh.trans (fun W l o o' hl ho hc _ => KpTh.putObj hT9 (by omega) W l o o' hl ho hc) (Below.refl _ _) (fun _ => rfl)
          (fun (pre : List Int) W => Below V9.heap.size V9 W)
          (fun c (pre : List Int) W => True)
          (ownFrom_below (Nat.le_refl _) (Nat.le_refl _))
          (fun c s V V' row hs hg hr => hs)
          (Below.refl _ _) ?b1 ?assign2 ?body2 ?done2 ?stop2
        case assign2 =>
          intro l0 x W K hK
          gi_wp2
          exact hK
        case body2 =>
          rintro l0 pre x W hBW hpl
          have hblW := hbl9.trans (hBW.mono (by have := hbl9.size; omega))
          have hRW : W.cell? ⟨w.heap.size + 1, 0, none⟩ = some (.bool false) := (hblW.cell (p := ⟨w.heap.size + 1, 0, none⟩) hR.lt).trans (hR.cell 0)
          have hZW : W.frozen? ⟨w.heap.size + 1, 0, none⟩ = false := (hblW.frozen (p := ⟨w.heap.size + 1, 0, none⟩) hR.lt).trans (hR.free 0)
          gi_wp2_with fail
          exact ⟨KeepsOthers.setCell _ _ _, trivial⟩
        case done2 =>
          rintro D2 xs W hD2 hxs hBW hKD
          have hN := h3.ask hBW
          have hkW := hk2.turn (Turn.ofBelow hBW) (by have := hk2.lt; omega)
          have hKD1 := (hBW.block D (by omega)).trans hK2
          have ck := hkW.cell 0
          simp only [List.getElem?_toArray, List.getElem?_cons_zero] at ck
          have hkbl := hkW.lt
          have hDl2 : D2 < W.heap.size := (Array.getElem?_eq_some_iff.mp hKD).1
          have hkI : (kk : Int) ≤ 8 := by omega
          have hMM : Marks w.heap.size (D2 + 1) [{ target := .collected D2, args := #[] }, { target := .collected D, args := #[] }] W := ⟨D2, rfl, by omega, by omega, hKD, D, rfl, by omega, by omega, hKD1, trivial⟩
          clear hk2 hbox3 hA1 hF1 hKD hKD1 h3 hK2 hxs hq0 hT9 hkW
          gi_wp2_with fail
          refine ⟨trivial, fun h => (by cases h), ?_⟩
          refine (callsIn_wide.2 (hN.regNo 0 (by omega))).mono ?_
          rintro e W1 ⟨rfl, hB1⟩
          have hN1 := hN.ask hB1
          have ck1 := (hB1.cell (p := ⟨kb, 0, none⟩) hkbl).trans ck
          have hs1 := hB1.size
          clear hN ck
          gi_wp2_with fail
          refine ⟨trivial, fun h => (by cases h), ?_⟩
          refine (callsIn_wide.2 (hN1.setRegNo 0 (by omega) 1)).mono ?_
          rintro e W2 ⟨rfl, rfl⟩
          clear ck1
          gi_wp2_with fail
          refine ⟨trivial, fun h => (by cases h), ?_⟩
          refine (callsIn_wide.2 (hN1.pushNo (by simp) 1)).mono ?_
          rintro e W3 ⟨rfl, hB3⟩
          have hN3 := hN1.ask hB3
          have hs33 := hB3.size
          clear hN1
          gi_wp2_with fail
          refine ⟨trivial, fun h => (by cases h), ?_⟩
          refine (callsIn_wide.2 (hN3.full true (decide_eq_true (by simp)))).mono ?_
          rintro e W4 ⟨rfl, hW4⟩
          have hN4 : ThIn wb.heap.size (fun _ => False) T1.t (-(q : Int)) (-(q : Int)) (fun _ => 0) [] wb W4 := hW4 ▸ hN3.drew
          have hB4 : Below W3.heap.size W3 W4 := hW4 ▸ (Below.refl _ W3).drew
          have hs44 := hB4.size
          clear hN3 hW4
          gi_wp2_with fail
          refine ⟨trivial, fun h => (by cases h), ?_⟩
          refine (callsIn_wide.2 hN4.depth).mono ?_
          rintro e W5 ⟨rfl, rfl⟩
          have hbw := hN4.below
          clear hN4
          have hRW : W4.cell? ⟨w.heap.size + 1, 0, none⟩ = some (.bool false) := (hbw.cell (p := ⟨w.heap.size + 1, 0, none⟩) hR.lt).trans (hR.cell 0)
          have hZW : W4.frozen? ⟨w.heap.size + 1, 0, none⟩ = false := (hbw.frozen (p := ⟨w.heap.size + 1, 0, none⟩) hR.lt).trans (hR.free 0)
          have hBW9 := (hBb.trans (hbw.mono (by omega))).setCell (p := ⟨w.heap.size + 1, 0, none⟩) (by show w.heap.size ≤ w.heap.size + 1; omega) (.bool true)
          have hR9 : (W4.setCell ⟨w.heap.size + 1, 0, none⟩ (.bool true)).cell? ⟨w.heap.size + 1, 0, none⟩ = some (.bool true) := World.cell?_setCell_same _ _ _ hRW
          have hs9 : D2 + 1 ≤ (W4.setCell ⟨w.heap.size + 1, 0, none⟩ (.bool true)).heap.size := by simp; omega
          have hBl3 : Below W.heap.size W W4 := (hB1.trans (hB3.mono hs1)).trans (hB4.mono (by omega))
          have hM9 : Marks w.heap.size (D2 + 1) [{ target := .collected D2, args := #[] }, { target := .collected D, args := #[] }] (W4.setCell ⟨w.heap.size + 1, 0, none⟩ (.bool true)) := hMM.keep fun i0 h0 h1 h2 => (Below.heap_setCell _ _ _ _ (fun e => by
            have e2 : i0 = w.heap.size + 1 := e
            have h4 := (Array.getElem?_eq_some_iff.1 h2).1
            have h5 : W.heap[w.heap.size + 1]? = some (.cells #[.bool false] 4 (0, 0)) := (hBW.block _ (by have := hbl9.size; have := hR.lt; omega)).trans ((hbl9.block _ hR.lt).trans hR)
            rw [e2, h5] at h2
            cases h2)).trans ((hBl3.block i0 (Array.getElem?_eq_some_iff.1 h2).1).trans h2)
          have hRl : w.heap.size + 1 < (W4.setCell ⟨w.heap.size + 1, 0, none⟩ (.bool true)).heap.size := by simp; omega
          clear hMM hBl3 hB1 hB3 hbw hBW
          gi_wp2_with fail
          generalize W4.setCell ⟨w.heap.size + 1, 0, none⟩ (.bool true) = V8 at *
          refine leavesP_marks hM9 (by omega) fun w' hb _ hcs => ?_
          have hRF := hcs ⟨w.heap.size + 1, 0, none⟩ _ hRl hR9
          refine ⟨.bool true, ?_, rfl, hBW9.trans hb⟩
          simp [results, Try.f5, go_sem, hRF]
        case stop2 =>
          rintro D2 c pre W hD2 ⟨k, hk, hpre⟩ _ hKD
          rw [hq0] at hk
          exact absurd hk (Nat.not_lt_zero _)
theorem roots_frame (a0 : Option Addr) (len cap : Nat) (Q : Nat → Nat → Int) (lv : Int) (h : (Lit.int .u8 lv).wf = true) (nn : Int) (_ : (Lit.int .i64 nn).wf = true) (w : World) (hl : len ≤ 9223372036854775807) (hZ : TripAt w a0 len Q) :
    Calls Try.prog 5 #[.slice a0 len cap, .int .u8 lv, .int .i64 nn] w fun e w' => e = .returned (.bool true) ∧ Below w.heap.size w w' := by
  obtain ⟨n, rfl, hn⟩ := u8_natO h
  exact roots_true a0 len cap Q n hn nn w hl hZ
end Go.Proofs.Ytfipflghnhfcjaa
