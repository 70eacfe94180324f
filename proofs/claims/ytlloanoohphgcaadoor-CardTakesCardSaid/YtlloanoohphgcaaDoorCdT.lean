/- CardTakes, walked, at this seat's numbers. -/
import Derived.Test.YtlloanoohphgcaaDoorCdL
namespace Go.Proofs.YtlloanoohphgcaaDoor
open Go Go.RowKit Go.Shelf Go.MuLone Go.RwLone
set_option linter.unusedSimpArgs false
set_option linter.unusedVariables false
attribute [local go_sem] Oper.semAt_some

/-- However a range ends, it goes on alike. -/
theorem wpIn_endsC {F : Fence} {n : Nat} {P : Program} {c : Code} {Q : Exit → Act → World → Prop} {a : Act} {w : World} (id : Nat) (R : Nat → World → Prop)
    (h : c.wpIn F n P (fun e a' w' => (e = .normal ∨ e = .exit id) ∧ ∃ D, a' = { a with defers := { target := .collected D, args := #[] } :: a.defers } ∧ R D w') a w)
    (hq : ∀ a' w', Q .normal a' w' → Q (.exit id) a' w') (hk : ∀ D w', R D w' → Q .normal { a with defers := { target := .collected D, args := #[] } :: a.defers } w') : c.wpIn F n P Q a w :=
  wpIn_mono h fun e a' w' ⟨he, D, ha, hR⟩ => by
    subst ha
    rcases he with rfl | rfl
    · exact hk D w' hR
    · exact hq _ _ (hk D w' hR)
/-- Between two pages that get dirty. -/
def DyRel (B : Nat) (X : ArB) (C : CdB) (bt : Nat) (wb : World) (len : Nat) (v : Value) (wr : World) : Prop :=
  ∃ (i : Nat) (lo : Option Nat) (S : Nat → Bool), i ≤ len ∧ v = .int .i64 (i : Int) ∧ CardIn B X (C.with lo) (.new 8) S wb wr ∧ Blk wr bt #[.pointer (some ⟨C.t, 0, none⟩)] 78

set_option maxRecDepth 100000 in
set_option maxHeartbeats 8000000 in
theorem takes_true (a0 : Option Addr) (ys : List Int) (cap : Nat) (lv : Nat) (hlv : lv < 256) (w : World) (_ : ys.length ≤ 9223372036854775807) (hZ : U8sAt w a0 ys) (hTab : TabAt w) :
    Calls Tryd.prog 10 #[.slice a0 ys.length cap, .int .u8 (lv : Int)] w fun e w' => e = .returned (.bool true) ∧ Below w.heap.size w w' := by
  have HZ := Lib.hid hZ
  clear hZ
  obtain ⟨M, hM6⟩ : ∃ M : Nat, 8 ≤ M := ⟨8, Nat.le_refl _⟩
  refine calls_of_wp_marks Tryd.func10 rfl M ?_
  simp only [Tryd.ntmps10, List.size_toArray, List.length_cons, List.length_nil, Nat.reduceAdd, Nat.reduceSub, Array.replicate_succ, Array.replicate_zero, List.push_toArray, List.append_toArray, List.nil_append, List.cons_append]
  gi_wp2_with fail
  refine ⟨trivial, fun h => (by cases h), ?_⟩
  have hL0 := (Blk.new w #[.int .u8 (lv : Int)] 5).alloc (.cells #[.bool false] 4)
  have hR := Blk.new (w.alloc (.cells #[.int .u8 (lv : Int)] 5)) #[.bool false] 4
  simp only [World.size_alloc] at hR
  have hBb := ((Below.refl w.heap.size w).alloc (Nat.le_refl _) (.cells #[.int .u8 (lv : Int)] 5)).alloc (by simp) (.cells #[.bool false] 4)
  have hDb : TabAt ((w.alloc (.cells #[.int .u8 (lv : Int)] 5)).alloc (.cells #[.bool false] 4)) := fun j hj => cell_allocKeep (cell_allocKeep (hTab j hj) _) _
  have hsb : ((w.alloc (.cells #[.int .u8 (lv : Int)] 5)).alloc (.cells #[.bool false] 4)).heap.size = w.heap.size + 2 := by simp
  have hgd := hTab.lt
  generalize (w.alloc (.cells #[.int .u8 (lv : Int)] 5)).alloc (.cells #[.bool false] 4) = wb at *
  refine (callsIn_wide.2 (cdfit_true wb)).mono ?_
  rintro e w1 ⟨rfl, hB⟩
  have hR1 : w1.cell? ⟨w.heap.size + 1, 0, none⟩ = some (.bool false) := (hB.cell (p := ⟨w.heap.size + 1, 0, none⟩) hR.lt).trans (hR.cell 0)
  have hZ1 : w1.frozen? ⟨w.heap.size + 1, 0, none⟩ = false := (hB.frozen (p := ⟨w.heap.size + 1, 0, none⟩) hR.lt).trans (hR.free 0)
  by_cases hbig : 60 < (ys.length : Int)
  · gi_wp2_with fail
    refine ⟨.bool true, ?_, rfl, (hBb.trans (hB.mono (by omega))).setCell (p := ⟨w.heap.size + 1, 0, none⟩) (by show w.heap.size ≤ w.heap.size + 1; omega) (.bool true)⟩
    have hc := World.cell?_setCell_same w1 ⟨w.heap.size + 1, 0, none⟩ (.bool true) hR1
    simp [results, Tryd.f10, go_sem, hc]
  clear hR1 hZ1
  gi_wp2_with fail
  refine ⟨trivial, fun h => (by cases h), ?_⟩
  refine (callsIn_wide.2 (ar_new 8 8 (by decide) w1)).mono ?_
  rintro e w2 ⟨X, rfl, hA, hX, hB2⟩
  gi_wp2_with fail
  refine ⟨trivial, fun h => (by cases h), ?_⟩
  have hs1 := hB.size
  refine (callsIn_wide.2 (cdNew (B := wb.heap.size) (wb := wb) hA (fun k hk => by have := hX k hk; omega) (hB.trans (hB2.mono hs1)) (Nat.le_refl _))).mono ?_
  rintro e w3 ⟨C, rfl, h3, _, _⟩
  clear hA hX hB hB2
  have h4 := h3.alloc (.cells #[.pointer (some ⟨C.t, 0, none⟩)] 78)
  have hb4 := Blk.new w3 #[.pointer (some ⟨C.t, 0, none⟩)] 78
  clear h3
  gi_wp2_with fail
  generalize w3.alloc (.cells #[.pointer (some ⟨C.t, 0, none⟩)] 78) = w4 at *
  generalize w3.heap.size = bt at *
  gi_loopw [22] (fun v22 wr => DyRel wb.heap.size X C bt wb ys.length v22 wr) (fun v22 _ => ys.length - (intOf v22).toNat)
  case atStart => exact ⟨0, C.lo, _, Nat.zero_le _, rfl, h4, hb4⟩
  case round =>
    clear h4 hb4
    obtain ⟨i, lo, S, hi, rfl, h1, hb⟩ := hrel
    have hc := hb.cell 0
    simp only [List.getElem?_toArray, List.getElem?_cons_zero] at hc
    have hi0 : (0 : Int) ≤ (i : Int) := by omega
    by_cases hlt : i < ys.length
    · have hi1 : (i : Int) < (ys.length : Int) := by omega
      obtain ⟨bk, off, rfl, hbk, hc0, hwy⟩ := HZ.out i hlt
      replace hc0 := ((hBb.trans (h1.below.mono (by omega))).cell (p := ⟨bk, off + i, none⟩) hbk).trans hc0
      obtain ⟨n, hn, hn256⟩ := u8_natC hwy
      rw [hn] at hc0
      have cD := h1.dirty ((n : Int) + 1) true (decide_eq_true ⟨by omega, by show (n : Int) + 1 ≤ 32 * ((8 : Nat) : Int); omega⟩)
      have hfar := h1.far hb (by decide) (by decide) (by decide)
      have hn0 : (0 : Int) ≤ (n : Int) := by omega
      have hn1 : (n : Int) ≤ 255 := by omega
      generalize dirtyS (ArS.new 8).P S ((n : Int) + 1) = S2 at *
      clear hn hwy
      gi_wp2_with fail
      refine ⟨trivial, fun h => (by cases h), ?_⟩
      refine (callsIn_wide.2 cD).mono ?_
      rintro e w5 ⟨rfl, lo5, h5, k5⟩
      have hb5 := hb.turn k5 hfar
      clear cD hc0 hc hb k5 hfar h1
      gi_wp2_with fail
      go_roundw
      case rel => exact ⟨i + 1, _, S2, by omega, by go_num, h5, hb5⟩
      case measure => simp [intOf]; omega
    · obtain rfl : i = ys.length := by omega
      obtain ⟨C2, hC2, ht2⟩ : ∃ C2, C2 = C.with lo ∧ C2.t = C.t := ⟨_, rfl, rfl⟩
      rw [← hC2] at h1
      rw [← ht2] at hb hc
      have c0 := h1.cd.c0
      clear ht2 hC2
      obtain ⟨n, hn⟩ : ∃ n, card S = n := ⟨_, rfl⟩
      have hn8 : n ≤ 4096 := by rw [← hn]; exact cnt_le S 4096 0
      have hbl := hb.lt

      obtain ⟨l9, hl9⟩ : ∃ l9, l9 = lv % 9 := ⟨_, rfl⟩
      have hl9t : (lv : Int).tmod 9 = (l9 : Int) := by rw [Int.tmod_eq_emod_of_nonneg (by omega)]; omega
      have hl98 : (l9 : Int) ≤ 8 := by omega
      have hl90 : (0 : Int) ≤ (l9 : Int) := by omega
      clear hl9
      have hlt0 : ∀ k, X.has k → k < wr.heap.size := h1.ar.lt
      have hcl0 : ∀ k, C2.has k → k < wr.heap.size := h1.cd.lt
      have hco := h1.own
      have HN := Lib.hid hn
      clear hn
      gi_wp2_with fail
      refine ⟨trivial, fun h => (by cases h), ?_⟩
      refine (callsIn_wide.2 (h1.count n HN.out)).mono ?_
      rintro e w5 ⟨rfl, h5, hB5⟩
      have hb5 := hb.below hB5
      have hc5 := hb5.cell 0
      simp only [List.getElem?_toArray, List.getElem?_cons_zero] at hc5
      have hsz5 := hB5.size
      have hT6 : TkAt wb.heap.size X C2 (.new 8) S wb bt w5.heap.size (w5.heap.size + 1) 0 (-1) ((w5.alloc (.cells #[.int .i64 0] 3)).alloc (.cells #[.int .i64 (-1)] 3)) :=
        ⟨(h5.alloc _).alloc _, (hb5.alloc _).alloc _, (Blk.new w5 _ _).alloc _, by
          have := Blk.new (w5.alloc (.cells #[.int .i64 0] 3)) #[.int .i64 (-1)] 3
          simp only [World.size_alloc] at this
          exact this⟩
      have hT7 := hT6.ask ((Below.refl _ ((w5.alloc (.cells #[.int .i64 0] 3)).alloc (.cells #[.int .i64 (-1)] 3))).alloc (Nat.le_refl _) (.cells #[.pointer (some ⟨C2.t, 0, none⟩)] 78))
      have hbox7 : (((w5.alloc (.cells #[.int .i64 0] 3)).alloc (.cells #[.int .i64 (-1)] 3)).alloc (.cells #[.pointer (some ⟨C2.t, 0, none⟩)] 78)).cell? ⟨((w5.alloc (.cells #[.int .i64 0] 3)).alloc (.cells #[.int .i64 (-1)] 3)).heap.size, 0, none⟩ = some (.pointer (some ⟨C2.t, 0, none⟩)) := (Blk.new ((w5.alloc (.cells #[.int .i64 0] 3)).alloc (.cells #[.int .i64 (-1)] 3)) _ _).cell 0
      have hs6 : ((w5.alloc (.cells #[.int .i64 0] 3)).alloc (.cells #[.int .i64 (-1)] 3)).heap.size = w5.heap.size + 2 := by simp
      have hs7 : w5.heap.size + 3 ≤ (((w5.alloc (.cells #[.int .i64 0] 3)).alloc (.cells #[.int .i64 (-1)] 3)).alloc (.cells #[.pointer (some ⟨C2.t, 0, none⟩)] 78)).heap.size := by simp
      have hsB := h5.size
      rw [hs6] at hbox7
      have hbl5 := hb5.lt
      have HT7 := Lib.hid hT7
      have HBX := Lib.hid hbox7
      clear h1 hb hc c0 h5 hb5 hT6 hs6 hB5 hT7 hbox7
      gi_wp2_with fail
      refine ⟨trivial, fun h => (by cases h), ?_⟩
      refine (callsIn_wide.2 (takefn_any C2.t _)).mono ?_
      rintro e w' ⟨rfl, rfl⟩
      clear hc5
      gi_wp2_with fail
      have hT7 := HT7.out
      have hbox7 := HBX.out
      clear HT7 HBX
      generalize (((w5.alloc (.cells #[.int .i64 0] 3)).alloc (.cells #[.int .i64 (-1)] 3)).alloc (.cells #[.pointer (some ⟨C2.t, 0, none⟩)] 78)) = V7 at *
      have hXlt7 : ∀ k, X.has k → k < V7.heap.size := fun k hk => by have := hlt0 k hk; omega
      have hClt7 : ∀ k, C2.has k → k < V7.heap.size := fun k hk => by have := hcl0 k hk; omega
      have hXltb : ∀ k, X.has k → k < w5.heap.size := fun k hk => by have := hlt0 k hk; omega
      have hCltb : ∀ k, C2.has k → k < w5.heap.size := fun k hk => by have := hcl0 k hk; omega
      have hB7 : wb.heap.size ≤ V7.heap.size := by omega
      have hhi7 : 0 ≤ V7.heap.size := Nat.zero_le _
      generalize w5.heap.size = bk at *
      generalize hbl : bk + 1 = bl at *
      replace hbox7 : V7.cell? ⟨bl + 1, 0, none⟩ = some (.pointer (some ⟨C2.t, 0, none⟩)) := by rw [← hbl]; exact hbox7
      have hD7 : TabAt V7 := fun j hj => (hT7.card.below.cell (p := ⟨1, j, none⟩) (by show (1 : Nat) < _; omega)).trans (hDb j hj)
      have hBn7 : ¬ C2.has (bl + 1) := fun h => by have := hCltb _ h; omega
      have htn7 : ¬ C2.has 1 := fun h => by have := hco _ h; omega
      have hc7 : card (leftS S ([] : List (Fin 4096))) + ([] : List (Fin 4096)).length = n := by rw [leftS_nil, List.length_nil, Nat.add_zero]; exact HN.out
      have hM7 : Marks wb.heap.size 0 [] V7 := trivial
      have hT7' : TkAt wb.heap.size X C2 (.new 8) (leftS S ([] : List (Fin 4096))) wb bt bk bl (0 + ([] : List (Fin 4096)).length) (lastW (-1) []) V7 := by rw [leftS_nil]; exact hT7
      have HBL := Lib.hid hbl
      have hwl9 : IntKind.i64.wrap (l9 : Int) = (l9 : Int) := IntWalk.i64_in _ (by omega)
      refine wpIn_endsC 2 (fun D V => ∃ (S2 : Nat → Bool) (kk : Nat) (lv2 : Int), TkAt wb.heap.size X C2 (.new 8) S2 wb bt bk bl kk lv2 V ∧ card S2 + kk = n ∧ (∀ i, S2 i = true → lv2 < (i : Int)) ∧ Marks wb.heap.size (D + 1) [{ target := .collected D, args := #[] }] V ∧ D + 1 ≤ V.heap.size ∧ V7.heap.size ≤ D) ?rng (fun _ _ h => h) ?tail
      case rng =>
        refine wpIn_rangeE rfl (by omega) (gf := 71) (lb := #[.pointer (some ⟨(bl + 1), 0, none⟩)]) rfl trivial (enters_of Tryd.func71 (by kernel_rfl) rfl)
          (take_seq (M - 1) (by omega) (xa := X.a) (bl + 1) V7 hT7.card.cd hD7 hbox7 hBn7 htn7) KpTk.trans (fun x V l o hl => KpTk.putObj (n0 := V7.heap.size) hClt7 (by omega) (by omega) V l o hl)
          (fun x A D ⟨S1, _, _, _, _, hT⟩ => ⟨hT.size, fun k hk hlt => hT.block k hlt (by rintro (e | e); have := hClt7 k (.inr (.inl e)); omega; have := hClt7 k (.inr (.inr e)); omega)⟩) (Below.refl _ _) (fun _ => rfl)
          (fun (st : List (Fin 4096) × (Nat → Prop)) V => TkAt wb.heap.size X C2 (.new 8) (leftS S st.1) wb bt bk bl (0 + st.1.length) (lastW (-1) st.1) V ∧ card (leftS S st.1) + st.1.length = n ∧ Marks wb.heap.size 0 [] V ∧ V7.heap.size ≤ V.heap.size)
          (fun (st : (List (Fin 4096) × (Nat → Prop)) × Fin 4096) V => TkAt wb.heap.size X C2 (.new 8) (leftS S (st.1.1 ++ [st.2])) wb bt bk bl (0 + st.1.1.length) (lastW (-1) st.1.1) V ∧ card (leftS S (st.1.1 ++ [st.2])) + (st.1.1.length + 1) = n ∧ Marks wb.heap.size 0 [] V ∧ V7.heap.size ≤ V.heap.size)
          (fun c (st : List (Fin 4096) × (Nat → Prop)) V => (c = .exit 2 ∧ TkAt wb.heap.size X C2 (.new 8) (leftS S st.1) wb bt bk bl (0 + st.1.length) (lastW (-1) st.1) V ∧ card (leftS S st.1) + st.1.length = n ∧ Marks wb.heap.size 0 [] V ∧ V7.heap.size ≤ V.heap.size) ∨ ∃ (q : List (Fin 4096)) (x : Fin 4096), st.1 = q ++ [x] ∧ ((x.val : Nat) : Int) ≤ lastW (-1) q)
          (fun st V V' row hs hg hr => ⟨hs.1.grow V7.heap.size hXlt7 hClt7 hB7 hg hr, hs.2.1, hs.2.2.1.keep fun k _ h1 h2 => (hg.block k (by have := hs.2.2.2; have := hhi7; omega) (fun e => by have := (hr k e.symm).1; have := hhi7; omega)).trans h2, Nat.le_trans hs.2.2.2 hg.size⟩)
          (fun st V V' row hs hg hr => ⟨hs.1.grow V7.heap.size hXlt7 hClt7 hB7 hg hr, hs.2.1, hs.2.2.1.keep fun k _ h1 h2 => (hg.block k (by have := hs.2.2.2; have := hhi7; omega) (fun e => by have := (hr k e.symm).1; have := hhi7; omega)).trans h2, Nat.le_trans hs.2.2.2 hg.size⟩)
          (fun c st V V' row hs hg hr => hs.imp (fun h => ⟨h.1, h.2.1.grow V7.heap.size hXlt7 hClt7 hB7 hg hr, h.2.2.1, h.2.2.2.1.keep fun k _ h1 h2 => (hg.block k (by have := h.2.2.2.2; have := hhi7; omega) (fun e => by have := (hr k e.symm).1; have := hhi7; omega)).trans h2, Nat.le_trans h.2.2.2.2 hg.size⟩) (fun h => h))
          (fun pre O x A D hi ha => by
            obtain ⟨h1, h2, h3, h4⟩ := hi
            obtain ⟨S1, k1, k2, k3, k4, k5⟩ := ha
            have e := h1.card.cd.set.uniq k1
            subst e
            have hT := h1.drop k4 k5
            rw [← leftS_next] at hT
            refine ⟨hT, ?_, h3.keep fun k _ g1 g2 => (k1.others k5).same k _ g2 rfl, Nat.le_trans h4 k5.size⟩
            show card (leftS S (pre ++ [x])) + (pre.length + 1) = n
            have hc : card (leftS S pre) = card (dropN1 (leftS S pre) x.val) + 1 := card_drop (leftS S pre) x.val x.isLt k2
            have h2' : card (leftS S pre) + pre.length = n := h2
            rw [leftS_next]
            rw [hc] at h2'
            rw [← h2', Nat.add_assoc, Nat.add_comm 1 pre.length])
          ⟨hT7', hc7, hM7, Nat.le_refl _⟩ ?aA ?assignA ?bodyA ?doneA ?stopA
        case assignA =>
          intro l0 x V K hK
          gi_wp2
          exact hK
        case bodyA =>
          rintro l0 pre O x V ⟨hT, hcd, hMk, hVs⟩ hpl
          obtain ⟨ll, hll⟩ : ∃ ll, lastW (-1) pre = ll := ⟨_, rfl⟩
          obtain ⟨k, hk⟩ : ∃ k, 0 + pre.length = k := ⟨_, rfl⟩
          have HLL := Lib.hid hll
          have HK := Lib.hid hk
          rw [hll, hk] at hT
          clear hll hk
          have ck := hT.kb.cell 0
          have cl := hT.lb.cell 0
          have ct := hT.tb.cell 0
          have zk := hT.kb.free 0
          have zl := hT.lb.free 0
          simp only [List.getElem?_toArray, List.getElem?_cons_zero] at ck cl ct
          have hLV : V.cell? ⟨w.heap.size, 0, none⟩ = some (.int .u8 (lv : Int)) := (hT.card.below.cell (p := ⟨w.heap.size, 0, none⟩) hL0.lt).trans (hL0.cell 0)
          have hRW : V.cell? ⟨w.heap.size + 1, 0, none⟩ = some (.bool false) := (hT.card.below.cell (p := ⟨w.heap.size + 1, 0, none⟩) hR.lt).trans (hR.cell 0)
          have hZW : V.frozen? ⟨w.heap.size + 1, 0, none⟩ = false := (hT.card.below.frozen (p := ⟨w.heap.size + 1, 0, none⟩) hR.lt).trans (hR.free 0)
          have hk0 : (0 : Int) ≤ (k : Int) := by omega
          have hk1 : (k : Int) ≤ 100000 := by have := HK.out; have h8 : (ArS.new 8).P = 8 := rfl; omega
          by_cases hle : ((x.val : Nat) : Int) ≤ ll
          · have HLE := Lib.hid hle
            have hle2 : ¬ ll < ((x.val : Nat) : Int) := by omega
            gi_wp2_with fail
            refine ⟨trivial, ?_⟩
            gi_wp2_with fail
            exact ⟨O, Owned.ofTurn ((Turn.refl (fun k => k = w.heap.size + 1) V).set _ _ (.inr rfl)) (fun k e => by have e2 : k = w.heap.size + 1 := e; omega), .inr ⟨pre, x, rfl, by rw [HLL.out]; exact HLE.out⟩⟩
          · have hle2 : ll < ((x.val : Nat) : Int) := by omega
            have cI := hT.card.is_ ((x.val : Nat) : Int) false (by rw [Int.toNat_natCast, leftS_next]; simp [dropN1])
            gi_wp2_with fail
            refine ⟨trivial, fun h => (by cases h), ?_⟩
            refine ((callsIn_wide.2 cI).inRound l0).mono ?_
            rintro e V4 ⟨rfl, hB4⟩
            have hT4 := hT.ask hB4
            clear cI
            have hbkl : bk ≠ bl := by omega
            have hT5 := (hT4.setL (fun h => by have := hXltb _ h; omega) (by omega) hbkl ((x.val : Nat) : Int)).setK (fun h => by have := hXltb _ h; omega) (by omega) (fun e => hbkl e.symm) (k + 1)
            have hTt : Turn (fun k => k = bl ∨ k = bk ∨ V.heap.size ≤ k) V ((V4.setCell ⟨bl, 0, none⟩ (.int .i64 ((x.val : Nat) : Int))).setCell ⟨bk, 0, none⟩ (.int .i64 ((k + 1 : Nat) : Int))) := (((Turn.ofBelow hB4).mono fun k _ e => .inr (.inr e)).set _ _ (.inr (.inl rfl))).set _ _ (.inr (.inr (.inl rfl)))
            have hnew : ∀ k, k < V.heap.size → k ≠ bl → k ≠ bk → ¬ (k = bl ∨ k = bk ∨ V.heap.size ≤ k) := fun k h1 h2 h3 e => by rcases e with e | e | e; exact h2 e; exact h3 e; omega
            have go_on : ∃ O', Owned V7.heap.size O O' V ((V4.setCell ⟨bl, 0, none⟩ (.int .i64 ((x.val : Nat) : Int))).setCell ⟨bk, 0, none⟩ (.int .i64 ((k + 1 : Nat) : Int))) ∧ KpTk C2 (bl + 1) 8 x.val V ((V4.setCell ⟨bl, 0, none⟩ (.int .i64 ((x.val : Nat) : Int))).setCell ⟨bk, 0, none⟩ (.int .i64 ((k + 1 : Nat) : Int))) ∧ TkAt wb.heap.size X C2 (.new 8) (leftS S (pre ++ [x])) wb bt bk bl (0 + (pre ++ [x]).length) (lastW (-1) (pre ++ [x])) ((V4.setCell ⟨bl, 0, none⟩ (.int .i64 ((x.val : Nat) : Int))).setCell ⟨bk, 0, none⟩ (.int .i64 ((k + 1 : Nat) : Int))) ∧ card (leftS S (pre ++ [x])) + (pre ++ [x]).length = n ∧ Marks wb.heap.size 0 [] ((V4.setCell ⟨bl, 0, none⟩ (.int .i64 ((x.val : Nat) : Int))).setCell ⟨bk, 0, none⟩ (.int .i64 ((k + 1 : Nat) : Int))) ∧ V7.heap.size ≤ ((V4.setCell ⟨bl, 0, none⟩ (.int .i64 ((x.val : Nat) : Int))).setCell ⟨bk, 0, none⟩ (.int .i64 ((k + 1 : Nat) : Int))).heap.size := by
              have hCV := hT.card.cd.lt
              have hct := hCV _ (.inl rfl)
              have hCt7 := hClt7 _ (.inl rfl)
              refine ⟨O, ⟨hTt.size, fun k h1 h2 _ => hTt.block k h2 (hnew k h2 (by omega) (by omega)), fun _ h => .inl h⟩, ⟨⟨fun S0 h0 => ⟨S0, h0.turn hTt (hnew _ (h0.lt.1) (fun e => by have := hCltb _ (.inr (.inl rfl)); omega) (fun e => by have := hCltb _ (.inr (.inl rfl)); omega)) (fun l hl => hnew _ (h0.lt.2 l hl) (fun e => by have := hCltb _ (.inr (.inr hl)); omega) (fun e => by have := hCltb _ (.inr (.inr hl)); omega)), fun _ _ => rfl⟩, hTt.block _ (by omega) (hnew _ (by omega) (by omega) (by omega)), hTt.block _ (by omega) (hnew _ (by omega) (by omega) (by omega))⟩, hTt.block _ hct (hnew _ hct (fun e => by have := hCltb _ (.inl rfl); omega) (fun e => by have := hCltb _ (.inl rfl); omega))⟩, ?_, by rw [List.length_append]; exact hcd, trivial, Nat.le_trans hVs hTt.size⟩
              rw [lastW_next, List.length_append, show 0 + (pre.length + [x].length) = k + 1 by have := HK.out; simp; omega]
              exact hT5
            have HGo := Lib.hid go_on
            have hLV5 : ((V4.setCell ⟨bl, 0, none⟩ (.int .i64 ((x.val : Nat) : Int))).setCell ⟨bk, 0, none⟩ (.int .i64 ((k + 1 : Nat) : Int))).cell? ⟨w.heap.size, 0, none⟩ = some (.int .u8 (lv : Int)) := (hT5.card.below.cell (p := ⟨w.heap.size, 0, none⟩) hL0.lt).trans (hL0.cell 0)
            have ck4 := hT4.kb.cell 0
            have zk4 := hT4.kb.free 0
            have cl4 := hT4.lb.cell 0
            have zl4 := hT4.lb.free 0
            have ck5 := hT5.kb.cell 0
            simp only [List.getElem?_toArray, List.getElem?_cons_zero] at ck4 cl4 ck5
            have ck45 : (V4.setCell ⟨bl, 0, none⟩ (.int .i64 ((x.val : Nat) : Int))).cell? ⟨bk, 0, none⟩ = some (.int .i64 (k : Int)) := cell_setBlock ck4 (by show bk ≠ bl; exact hbkl)
            have hkn : (((k + 1 : Nat)) : Int) = (k : Int) + 1 := by omega
            simp only [hkn] at HGo hLV5 ck5
            clear hT5 hTt go_on hT hT4 ck cl ct zk zl hLV hRW hZW hkn
            obtain ⟨be, hbe⟩ : ∃ be, ((k : Int) + 1 == (l9 : Int)) = be := ⟨_, rfl⟩
            obtain ⟨O', g1, g2, g3, g4, g5, g6⟩ := HGo.out
            cases be <;> gi_wp2_with fail
            · exact ⟨O', g1, g2, g3, g4, g5, g6⟩
            · exact ⟨O', g1, .inl ⟨rfl, g3, g4, g5, g6⟩⟩
        case doneA =>
          rintro D xs O V hD hxs ⟨hT, hcd, _, hVs⟩ hK
          have hm := hT7.card.cd.set.2.1
          have hld := left_done hm hxs
          exact ⟨.inl rfl, D, rfl, leftS S xs, 0 + xs.length, lastW (-1) xs, hT, (by rw [Nat.zero_add]; exact hcd), (fun i hi => by rw [hld] at hi; cases hi), ⟨D, rfl, by omega, by omega, hK, trivial⟩, (Array.getElem?_eq_some_iff.mp hK).1, hD⟩
        case stopA =>
          rintro D c pre O V hD ⟨i, j, hj, hpre⟩ (⟨rfl, hT, hcd, _, hVs⟩ | ⟨q, x, e1, e2⟩) hK
          · refine wpIn_exit ?_
            have hlast : lastW (-1) pre = (j : Int) := by
              rw [elems_next hj] at hpre
              rcases List.eq_nil_or_concat pre with rfl | ⟨r, y, rfl⟩
              · simp at hpre
              · rw [List.concat_eq_append] at hpre ⊢
                rw [List.map_append] at hpre
                obtain ⟨_, h5⟩ := List.append_inj' hpre rfl
                have h6 : y.val = j := by simpa using h5
                rw [lastW_next, h6]
            exact ⟨.inr rfl, D, rfl, leftS S pre, 0 + pre.length, lastW (-1) pre, hT, (by rw [Nat.zero_add]; exact hcd), (fun i hi => by rw [hlast]; have := left_stop hpre i hi; omega), ⟨D, rfl, by omega, by omega, hK, trivial⟩, (Array.getElem?_eq_some_iff.mp hK).1, hD⟩
          · exfalso
            have e3 : pre = q ++ [x] := e1
            rw [e3] at hpre
            have h1 := lastW_ok (lv := -1) (fun i _ => by omega) hpre
            omega
      case tail =>
        rintro D V ⟨S2, kk, lv2, hT, hcd, hS2, hM, hDs, hD7'⟩
        have hsb2 : w.heap.size + 2 ≤ wb.heap.size := by omega
        clear hsb
        obtain ⟨m, hm⟩ : ∃ m, card S2 = m := ⟨_, rfl⟩
        rw [hm] at hcd
        have hmI : (n : Int) - (kk : Int) = (m : Int) := by omega
        have hwm : IntKind.i64.wrap ((n : Int) - (kk : Int)) = (m : Int) := by rw [hmI]; exact IntWalk.i64_in _ (by omega)
        have hmm : ((m : Int) != (m : Int)) = false := by simp
        have ct := hT.tb.cell 0
        have ck := hT.kb.cell 0
        simp only [List.getElem?_toArray, List.getElem?_cons_zero] at ct ck
        have c0 := hT.card.cd.c0
        have cC := hT.card.drew.count m hm
        have HM := Lib.hid hm
        have HT := Lib.hid hT
        have hbtl := hT.tb.lt
        have hbkl2 := hT.kb.lt
        have hCt := hT.card.cd.lt _ (.inl rfl)
        clear hm hmI hT
        gi_wp2_with fail
        refine wpIn_wide.2 ?_
        go_region_held3 (fun W' => W'.cell? ⟨bt, 0, none⟩ = some (.pointer (some ⟨C2.t, 0, none⟩)) ∧ W'.cell? ⟨C2.t, 0, none⟩ = some (.pointer (some ⟨C2.b, 0, none⟩)) ∧ W'.cell? ⟨bk, 0, none⟩ = some (.int .i64 (kk : Int)))
          (first | exact hk6 | exact ⟨ct, c0, ck⟩)
          (first
            | (go_at_call 46; refine cC.mono ?_; rintro e w6 ⟨rfl, h6, hB6⟩; have hk6 : w6.cell? ⟨bt, 0, none⟩ = some (.pointer (some ⟨C2.t, 0, none⟩)) ∧ w6.cell? ⟨C2.t, 0, none⟩ = some (.pointer (some ⟨C2.b, 0, none⟩)) ∧ w6.cell? ⟨bk, 0, none⟩ = some (.int .i64 (kk : Int)) := ⟨(hB6.cell (p := ⟨bt, 0, none⟩) hbtl).trans ct, (hB6.cell (p := ⟨C2.t, 0, none⟩) hCt).trans c0, (hB6.cell (p := ⟨bk, 0, none⟩) hbkl2).trans ck⟩))
        have hT6 := (HT.out.ask (Below.refl _ V).drew).ask hB6
        have hM6 : Marks wb.heap.size (D + 1) [{ target := .collected D, args := #[] }] w6 := hM.keep fun k _ h1 h2 => (hB6.block k (by show k < V.heap.size; omega)).trans h2
        have hDs6 : D + 1 ≤ w6.heap.size := by have := hB6.size; simp at this; omega
        have ct6 := hk6.1
        have HSB : Hid (∀ i, S2 i = true → i < (ArS.new 8).P) := Lib.hid HT.out.card.cd.set.2.1
        have hkk : kk ≤ 4096 := by omega
        have hT7 := hT6.ask ((Below.refl _ w6).alloc (Nat.le_refl _) (.cells #[.pointer (some ⟨C2.t, 0, none⟩)] 78))
        have hbox7 : (w6.alloc (.cells #[.pointer (some ⟨C2.t, 0, none⟩)] 78)).cell? ⟨w6.heap.size, 0, none⟩ = some (.pointer (some ⟨C2.t, 0, none⟩)) := (Blk.new w6 _ _).cell 0
        have hM7 : Marks wb.heap.size (D + 1) [{ target := .collected D, args := #[] }] (w6.alloc (.cells #[.pointer (some ⟨C2.t, 0, none⟩)] 78)) := hM6.keep fun k _ h1 h2 => (Below.heap_alloc _ _ _ (by omega)).trans h2
        have hs9 : w6.heap.size + 1 ≤ (w6.alloc (.cells #[.pointer (some ⟨C2.t, 0, none⟩)] 78)).heap.size := by simp
        have HT7 := Lib.hid hT7
        have HBX := Lib.hid hbox7
        have HM7 := Lib.hid hM7
        clear hT7 hbox7 hM7 hT6 hM6 h6 hk6 hB6 cC ct ck c0 hM hXlt7 hClt7 hB7 hhi7 hD7 hBn7 hc7 hT7' HT hwm
        gi_wp2_with fail
        refine ⟨trivial, fun h => (by cases h), ?_⟩
        refine (callsIn_wide.2 (takefn_any C2.t _)).mono ?_
        rintro e w' ⟨rfl, rfl⟩
        clear ct6
        gi_wp2_with fail
        have hT7 := HT7.out
        have hbox7 := HBX.out
        have hM7 := HM7.out
        clear HT7 HBX HM7
        generalize (w6.alloc (.cells #[.pointer (some ⟨C2.t, 0, none⟩)] 78)) = V9 at *
        generalize w6.heap.size = q6 at *
        have hXlt7 : ∀ k, X.has k → k < V9.heap.size := fun k hk => by have := hXltb k hk; omega
        have hClt7 : ∀ k, C2.has k → k < V9.heap.size := fun k hk => by have := hCltb k hk; omega
        have hB7 : wb.heap.size ≤ V9.heap.size := by omega
        have hhi7 : D + 1 ≤ V9.heap.size := by omega
        have hD7 : TabAt V9 := fun j hj => (hT7.card.below.cell (p := ⟨1, j, none⟩) (by show (1 : Nat) < _; omega)).trans (hDb j hj)
        have hBn7 : ¬ C2.has q6 := fun h => by have := hCltb _ h; omega
        have hc7 : card (leftS S2 ([] : List (Fin 4096))) + ([] : List (Fin 4096)).length = m := by rw [leftS_nil, List.length_nil, Nat.add_zero]; exact HM.out
        have hT7' : TkAt wb.heap.size X C2 (.new 8) (leftS S2 ([] : List (Fin 4096))) wb bt bk bl (kk + ([] : List (Fin 4096)).length) (lastW lv2 []) V9 := by rw [leftS_nil]; exact hT7
        refine wpIn_rangeE rfl (by omega) (gf := 71) (lb := #[.pointer (some ⟨q6, 0, none⟩)]) rfl trivial (enters_of Tryd.func71 (by kernel_rfl) rfl)
          (take_seq (M - 1) (by omega) (xa := X.a) q6 V9 hT7.card.cd hD7 hbox7 hBn7 htn7) KpTk.trans (fun x V l o hl => KpTk.putObj (n0 := V9.heap.size) hClt7 (by omega) (by omega) V l o hl)
          (fun x A D ⟨S1, _, _, _, _, hT⟩ => ⟨hT.size, fun k hk hlt => hT.block k hlt (by rintro (e | e); have := hClt7 k (.inr (.inl e)); omega; have := hClt7 k (.inr (.inr e)); omega)⟩) (Below.refl _ _) (fun _ => rfl)
          (fun (st : List (Fin 4096) × (Nat → Prop)) V => TkAt wb.heap.size X C2 (.new 8) (leftS S2 st.1) wb bt bk bl (kk + st.1.length) (lastW lv2 st.1) V ∧ card (leftS S2 st.1) + st.1.length = m ∧ Marks wb.heap.size (D + 1) [{ target := .collected D, args := #[] }] V ∧ V9.heap.size ≤ V.heap.size)
          (fun (st : (List (Fin 4096) × (Nat → Prop)) × Fin 4096) V => TkAt wb.heap.size X C2 (.new 8) (leftS S2 (st.1.1 ++ [st.2])) wb bt bk bl (kk + st.1.1.length) (lastW lv2 st.1.1) V ∧ card (leftS S2 (st.1.1 ++ [st.2])) + (st.1.1.length + 1) = m ∧ Marks wb.heap.size (D + 1) [{ target := .collected D, args := #[] }] V ∧ V9.heap.size ≤ V.heap.size)
          (fun c (st : List (Fin 4096) × (Nat → Prop)) V => ∃ (q : List (Fin 4096)) (x : Fin 4096), st.1 = q ++ [x] ∧ ((x.val : Nat) : Int) ≤ lastW lv2 q)
          (fun st V V' row hs hg hr => ⟨hs.1.grow V9.heap.size hXlt7 hClt7 hB7 hg hr, hs.2.1, hs.2.2.1.keep fun k _ h1 h2 => (hg.block k (by have := hs.2.2.2; have := hhi7; omega) (fun e => by have := (hr k e.symm).1; have := hhi7; omega)).trans h2, Nat.le_trans hs.2.2.2 hg.size⟩)
          (fun st V V' row hs hg hr => ⟨hs.1.grow V9.heap.size hXlt7 hClt7 hB7 hg hr, hs.2.1, hs.2.2.1.keep fun k _ h1 h2 => (hg.block k (by have := hs.2.2.2; have := hhi7; omega) (fun e => by have := (hr k e.symm).1; have := hhi7; omega)).trans h2, Nat.le_trans hs.2.2.2 hg.size⟩)
          (fun c st V V' row hs hg hr => hs)
          (fun pre O x A D hi ha => by
            obtain ⟨h1, h2, h3, h4⟩ := hi
            obtain ⟨S1, k1, k2, k3, k4, k5⟩ := ha
            have e := h1.card.cd.set.uniq k1
            subst e
            have hT := h1.drop k4 k5
            rw [← leftS_next] at hT
            refine ⟨hT, ?_, h3.keep fun k _ g1 g2 => (k1.others k5).same k _ g2 rfl, Nat.le_trans h4 k5.size⟩
            show card (leftS S2 (pre ++ [x])) + (pre.length + 1) = m
            have hc : card (leftS S2 pre) = card (dropN1 (leftS S2 pre) x.val) + 1 := card_drop (leftS S2 pre) x.val x.isLt k2
            have h2' : card (leftS S2 pre) + pre.length = m := h2
            rw [leftS_next]
            rw [hc] at h2'
            rw [← h2', Nat.add_assoc, Nat.add_comm 1 pre.length])
          ⟨hT7', hc7, hM7, Nat.le_refl _⟩ ?aB ?assignB ?bodyB ?doneB ?stopB
        case assignB =>
          intro l0 x V K hK
          gi_wp2
          exact hK
        case bodyB =>
          rintro l0 pre O x V ⟨hT, hcd, hMk, hVs⟩ hpl
          obtain ⟨ll, hll⟩ : ∃ ll, lastW lv2 pre = ll := ⟨_, rfl⟩
          obtain ⟨k, hk⟩ : ∃ k, kk + pre.length = k := ⟨_, rfl⟩
          have HLL := Lib.hid hll
          have HK := Lib.hid hk
          rw [hll, hk] at hT
          clear hll hk
          have ck := hT.kb.cell 0
          have cl := hT.lb.cell 0
          have ct := hT.tb.cell 0
          have zk := hT.kb.free 0
          have zl := hT.lb.free 0
          simp only [List.getElem?_toArray, List.getElem?_cons_zero] at ck cl ct
          have hLV : V.cell? ⟨w.heap.size, 0, none⟩ = some (.int .u8 (lv : Int)) := (hT.card.below.cell (p := ⟨w.heap.size, 0, none⟩) hL0.lt).trans (hL0.cell 0)
          have hRW : V.cell? ⟨w.heap.size + 1, 0, none⟩ = some (.bool false) := (hT.card.below.cell (p := ⟨w.heap.size + 1, 0, none⟩) hR.lt).trans (hR.cell 0)
          have hZW : V.frozen? ⟨w.heap.size + 1, 0, none⟩ = false := (hT.card.below.frozen (p := ⟨w.heap.size + 1, 0, none⟩) hR.lt).trans (hR.free 0)
          have hk0 : (0 : Int) ≤ (k : Int) := by omega
          have hk1 : (k : Int) ≤ 100000 := by have := HK.out; have h8 : (ArS.new 8).P = 8 := rfl; omega
          by_cases hle : ((x.val : Nat) : Int) ≤ ll
          · have HLE := Lib.hid hle
            have hle2 : ¬ ll < ((x.val : Nat) : Int) := by omega
            gi_wp2_with fail
            exact ⟨O, Owned.ofTurn ((Turn.refl (fun k => k = w.heap.size + 1) V).set _ _ (.inr rfl)) (fun k e => by have e2 : k = w.heap.size + 1 := e; omega), ⟨pre, x, rfl, by rw [HLL.out]; exact HLE.out⟩⟩
          · have hle2 : ll < ((x.val : Nat) : Int) := by omega
            have hB4 : Below V.heap.size V V := Below.refl _ _
            have hT4 := hT
            have hbkl : bk ≠ bl := by omega
            have hT5 := (hT4.setL (fun h => by have := hXltb _ h; omega) (by omega) hbkl ((x.val : Nat) : Int)).setK (fun h => by have := hXltb _ h; omega) (by omega) (fun e => hbkl e.symm) (k + 1)
            have hTt : Turn (fun k => k = bl ∨ k = bk ∨ V.heap.size ≤ k) V ((V.setCell ⟨bl, 0, none⟩ (.int .i64 ((x.val : Nat) : Int))).setCell ⟨bk, 0, none⟩ (.int .i64 ((k + 1 : Nat) : Int))) := (((Turn.ofBelow hB4).mono fun k _ e => .inr (.inr e)).set _ _ (.inr (.inl rfl))).set _ _ (.inr (.inr (.inl rfl)))
            have hnew : ∀ k, k < V.heap.size → k ≠ bl → k ≠ bk → ¬ (k = bl ∨ k = bk ∨ V.heap.size ≤ k) := fun k h1 h2 h3 e => by rcases e with e | e | e; exact h2 e; exact h3 e; omega
            have go_on : ∃ O', Owned V9.heap.size O O' V ((V.setCell ⟨bl, 0, none⟩ (.int .i64 ((x.val : Nat) : Int))).setCell ⟨bk, 0, none⟩ (.int .i64 ((k + 1 : Nat) : Int))) ∧ KpTk C2 q6 8 x.val V ((V.setCell ⟨bl, 0, none⟩ (.int .i64 ((x.val : Nat) : Int))).setCell ⟨bk, 0, none⟩ (.int .i64 ((k + 1 : Nat) : Int))) ∧ TkAt wb.heap.size X C2 (.new 8) (leftS S2 (pre ++ [x])) wb bt bk bl (kk + (pre ++ [x]).length) (lastW lv2 (pre ++ [x])) ((V.setCell ⟨bl, 0, none⟩ (.int .i64 ((x.val : Nat) : Int))).setCell ⟨bk, 0, none⟩ (.int .i64 ((k + 1 : Nat) : Int))) ∧ card (leftS S2 (pre ++ [x])) + (pre ++ [x]).length = m ∧ Marks wb.heap.size (D + 1) [{ target := .collected D, args := #[] }] ((V.setCell ⟨bl, 0, none⟩ (.int .i64 ((x.val : Nat) : Int))).setCell ⟨bk, 0, none⟩ (.int .i64 ((k + 1 : Nat) : Int))) ∧ V9.heap.size ≤ ((V.setCell ⟨bl, 0, none⟩ (.int .i64 ((x.val : Nat) : Int))).setCell ⟨bk, 0, none⟩ (.int .i64 ((k + 1 : Nat) : Int))).heap.size := by
              have hCV := hT.card.cd.lt
              have hct := hCV _ (.inl rfl)
              have hCt7 := hClt7 _ (.inl rfl)
              refine ⟨O, ⟨hTt.size, fun k h1 h2 _ => hTt.block k h2 (hnew k h2 (by omega) (by omega)), fun _ h => .inl h⟩, ⟨⟨fun S0 h0 => ⟨S0, h0.turn hTt (hnew _ (h0.lt.1) (fun e => by have := hCltb _ (.inr (.inl rfl)); omega) (fun e => by have := hCltb _ (.inr (.inl rfl)); omega)) (fun l hl => hnew _ (h0.lt.2 l hl) (fun e => by have := hCltb _ (.inr (.inr hl)); omega) (fun e => by have := hCltb _ (.inr (.inr hl)); omega)), fun _ _ => rfl⟩, hTt.block _ (by omega) (hnew _ (by omega) (by omega) (by omega)), hTt.block _ (by omega) (hnew _ (by omega) (by omega) (by omega))⟩, hTt.block _ hct (hnew _ hct (fun e => by have := hCltb _ (.inl rfl); omega) (fun e => by have := hCltb _ (.inl rfl); omega))⟩, ?_, by rw [List.length_append]; exact hcd, hMk.keep fun i0 h0 h1 h2 => (hTt.block i0 (Array.getElem?_eq_some_iff.1 h2).1 (hnew i0 (Array.getElem?_eq_some_iff.1 h2).1 (fun e => by have h3 := hT.lb; unfold Blk at h3; rw [e, h3] at h2; cases h2) (fun e => by have h3 := hT.kb; unfold Blk at h3; rw [e, h3] at h2; cases h2))).trans h2, Nat.le_trans hVs hTt.size⟩
              rw [lastW_next, List.length_append, show kk + (pre.length + [x].length) = k + 1 by have := HK.out; simp; omega]
              exact hT5
            have HGo := Lib.hid go_on
            have hLV5 : ((V.setCell ⟨bl, 0, none⟩ (.int .i64 ((x.val : Nat) : Int))).setCell ⟨bk, 0, none⟩ (.int .i64 ((k + 1 : Nat) : Int))).cell? ⟨w.heap.size, 0, none⟩ = some (.int .u8 (lv : Int)) := (hT5.card.below.cell (p := ⟨w.heap.size, 0, none⟩) hL0.lt).trans (hL0.cell 0)
            have ck4 := hT4.kb.cell 0
            have zk4 := hT4.kb.free 0
            have cl4 := hT4.lb.cell 0
            have zl4 := hT4.lb.free 0
            have ck5 := hT5.kb.cell 0
            simp only [List.getElem?_toArray, List.getElem?_cons_zero] at ck4 cl4 ck5
            have ck45 : (V.setCell ⟨bl, 0, none⟩ (.int .i64 ((x.val : Nat) : Int))).cell? ⟨bk, 0, none⟩ = some (.int .i64 (k : Int)) := cell_setBlock ck4 (by show bk ≠ bl; exact hbkl)
            have hkn : (((k + 1 : Nat)) : Int) = (k : Int) + 1 := by omega
            simp only [hkn] at HGo hLV5 ck5
            clear hT5 hTt go_on hT hT4 ck cl ct zk zl hLV hRW hZW hkn
            obtain ⟨O', g1, g2, g3, g4, g5, g6⟩ := HGo.out
            gi_wp2_with fail
            exact ⟨O', g1, g2, g3, g4, g5, g6⟩
        case doneB =>
          rintro D2 xs O V' hD2 hxs ⟨hT, hcd2, hMk, hVs⟩ hK
          have hld := left_done HSB.out hxs
          rw [hld] at hT
          rw [hld, card_none _ (fun _ => rfl), Nat.zero_add] at hcd2
          have hcd3 : xs.length = m := hcd2
          have hkn : kk + xs.length = n := by omega
          have hkn2 : kk + ((xs, O) : List (Fin 4096) × (Nat → Prop)).1.length = n := hkn
          rw [hkn2] at hT
          have ct := hT.tb.cell 0
          have ck := hT.kb.cell 0
          simp only [List.getElem?_toArray, List.getElem?_cons_zero] at ct ck
          have c0 := hT.card.cd.c0
          have cC := hT.card.count 0 (card_none _ (fun _ => rfl))
          have hnn : ((n : Int) == (n : Int)) = true := by simp
          have hbl9 := hT.card.below
          have hMM : Marks wb.heap.size (D2 + 1) [{ target := .collected D2, args := #[] }, { target := .collected D, args := #[] }] V' := (hMk.mono (show D + 1 ≤ D2 by omega)).push (by omega) (by omega) hK
          have hDD := (Array.getElem?_eq_some_iff.mp hK).1
          clear hT hld hkn hxs
          gi_wp2_with fail
          refine ⟨trivial, fun h => (by cases h), ?_⟩
          refine (callsIn_wide.2 cC).mono ?_
          rintro e w9 ⟨rfl, h9, hB9⟩
          have hbw := hbl9.trans (hB9.mono (by omega))
          have hRW : w9.cell? ⟨w.heap.size + 1, 0, none⟩ = some (.bool false) := (hbw.cell (p := ⟨w.heap.size + 1, 0, none⟩) hR.lt).trans (hR.cell 0)
          have hZW : w9.frozen? ⟨w.heap.size + 1, 0, none⟩ = false := (hbw.frozen (p := ⟨w.heap.size + 1, 0, none⟩) hR.lt).trans (hR.free 0)
          have hBW := (hBb.trans (hbw.mono (by omega))).setCell (p := ⟨w.heap.size + 1, 0, none⟩) (by show w.heap.size ≤ w.heap.size + 1; omega) (.bool true)
          have hR9 : (w9.setCell ⟨w.heap.size + 1, 0, none⟩ (.bool true)).cell? ⟨w.heap.size + 1, 0, none⟩ = some (.bool true) := World.cell?_setCell_same w9 _ _ hRW
          have hs9 : D2 + 1 ≤ (w9.setCell ⟨w.heap.size + 1, 0, none⟩ (.bool true)).heap.size := by have := hB9.size; simp; omega
          have hM9 : Marks wb.heap.size (D2 + 1) [{ target := .collected D2, args := #[] }, { target := .collected D, args := #[] }] (w9.setCell ⟨w.heap.size + 1, 0, none⟩ (.bool true)) := hMM.keep fun i0 h0 h1 h2 => (Below.heap_setCell _ _ _ _ (fun e => by have e2 : i0 = w.heap.size + 1 := e; omega)).trans ((hB9.block i0 (by omega)).trans h2)
          have hRl : w.heap.size + 1 < D2 + 1 := by omega
          clear cC ct ck c0 h9
          gi_wp2_with fail
          generalize w9.setCell ⟨w.heap.size + 1, 0, none⟩ (.bool true) = V8 at *
          refine leavesP_marks hM9 (by omega) fun w' hb _ hcs => ?_
          have hRF := hcs ⟨w.heap.size + 1, 0, none⟩ _ (by show w.heap.size + 1 < _; omega) hR9
          refine ⟨.bool true, ?_, rfl, hBW.trans (hb.mono (by omega))⟩
          simp [results, Tryd.f10, go_sem, hRF]
        case stopB =>
          rintro D2 c pre O V' hD2 ⟨i, j, hj, hpre⟩ ⟨q, x, e1, e2⟩ hK
          exfalso
          have e3 : pre = q ++ [x] := e1
          rw [e3] at hpre
          have h1 := lastW_ok (lv := lv2) hS2 hpre
          omega
theorem takes_frame (a0 : Option Addr) (ys : List Int) (cap : Nat) (lv : Int) (h : (Lit.int .u8 lv).wf = true) (w : World) (hl : ys.length ≤ 9223372036854775807) (hZ : U8sAt w a0 ys) (hTab : TabAt w) :
    Calls Tryd.prog 10 #[.slice a0 ys.length cap, .int .u8 lv] w fun e w' => e = .returned (.bool true) ∧ Below w.heap.size w w' := by
  obtain ⟨n, rfl, hn⟩ := u8_natC h
  exact takes_true a0 ys cap n hn w hl hZ hTab
end Go.Proofs.YtlloanoohphgcaaDoor
